import Derived.OwnWalk
import Derived.Deep.DeepCutAuto
import Derived.Test.YtgnpcenpcmdlfaaGreatDoorTie
import Derived.Test.YtgnpcenpcmdlfaaGreatDoorCards
import Derived.ProofKit
import Derived.LaidMore
import Derived.OpenShut
import Derived.Lib.LaidTab
import Derived.Test.YtgnpcenpcmdlfaaGreatDoorZkAT
import Derived.Test.YtgnpcenpcmdlfaaGreatDoorZkAF
import Derived.Test.YtgnpcenpcmdlfaaGreatDoorZkAS
import Derived.Test.YtgnpcenpcmdlfaaGreatDoorZkAH
import Derived.Test.YtgnpcenpcmdlfaaGreatDoorZkAA
import Derived.Test.YtgnpcenpcmdlfaaGreatDoorZkAM
import Derived.Test.YtgnpcenpcmdlfaaGreatDoorZkAO
import Derived.Test.YtgnpcenpcmdlfaaGreatDoorZkAJ
/-
  The tokens of a printed filter are read as that filter.
-/
namespace Go.Proofs.YtgnpcenpcmdlfaaGreatDoor
set_option linter.unusedVariables false
set_option linter.unusedSimpArgs false

def NoSo (t : TkK) : Prop := t.isBad = false ∧ t.isSort true = false ∧ t.isSort false = false
/-- The tokens K are read by A, and p is answered, if C holds of what comes next. -/
def Rd (C : TkK → Prop) (A : Ps → PR Ps → Prop) (K : List TkK) (p : List Nd) : Prop :=
  ∀ (ks : List Tk) (md : Nat) (out : List Nd) (k1 k2 : List Tk), ks = k1 ++ k2 → k1.map (·.k) = K → NoSo (hdK k2) → C (hdK k2) → md + p.length ≤ 200 → A ⟨ks, md, out⟩ (.ok ⟨k2, md + p.length, out ++ p⟩)
inductive LoopP (sg : UInt8) (kd : Int) (R : Ps → PR Ps → Prop) : Ps → Ps → Prop
  | refl (s : Ps) : LoopP sg kd R s s
  | step {s s1 s2 s3 : Ps} (h : (hdK s.ks).isSign sg = true) (h1 : makerF s = .ok s1) (h2 : R s1 (.ok s2)) (h3 : LoopP sg kd R (s2.add (leafN kd)) s3) : LoopP sg kd R s s3
theorem LoopP.loop {sg : UInt8} {kd : Int} {R : Ps → PR Ps → Prop} {s s1 : Ps} (h : LoopP sg kd R s s1) {r : PR Ps} (k : LoopR sg kd R s1 r) : LoopR sg kd R s r := by
  induction h with
  | refl => exact k
  | step h h1 h2 _ ih => exact .more h h1 h2 (ih k)
theorem LoopP.snoc {sg : UInt8} {kd : Int} {R : Ps → PR Ps → Prop} {s s1 : Ps} (h : LoopP sg kd R s s1) {s2 s3 : Ps} (hs : (hdK s1.ks).isSign sg = true) (hm : makerF s1 = .ok s2) (hr : R s2 (.ok s3)) : LoopP sg kd R s (s3.add (leafN kd)) := by
  induction h with
  | refl => exact .step hs hm hr (.refl _)
  | step h h1 h2 _ ih => exact .step h h1 h2 (ih hs hm)
def JoinO (sg : UInt8) (kd : Int) (R : Ps → PR Ps → Prop) (s : Ps) (r : PR Ps) : Prop := ∃ s1, r = .ok s1 ∧ ∃ s0, R s (.ok s0) ∧ LoopP sg kd R s0 s1
theorem rd_up {C : TkK → Prop} {R : Ps → PR Ps → Prop} {K : List TkK} {p : List Nd} (h : Rd C R K p) (sg : UInt8) (kd : Int) : Rd C (JoinO sg kd R) K p :=
  fun ks md out k1 k2 e1 e2 hn hc hm => ⟨_, rfl, _, h ks md out k1 k2 e1 e2 hn hc hm, .refl _⟩
theorem rd_close {C : TkK → Prop} {R : Ps → PR Ps → Prop} {K : List TkK} {p : List Nd} {sg : UInt8} {kd : Int} (h : Rd C (JoinO sg kd R) K p) : Rd (fun t => C t ∧ t.isSign sg = false) (JoinR sg kd R) K p := by
  intro ks md out k1 k2 e1 e2 hn hc hm
  obtain ⟨s1, q, s0, h0, hl⟩ := h ks md out k1 k2 e1 e2 hn hc.1 hm
  cases q
  exact .inr ⟨s0, h0, hl.loop (.stop hc.2)⟩
theorem rd_weak {C D : TkK → Prop} {R : Ps → PR Ps → Prop} {K : List TkK} {p : List Nd} (h : Rd C R K p) (hd : ∀ t, D t → C t) : Rd D R K p :=
  fun ks md out k1 k2 e1 e2 hn hc hm => h ks md out k1 k2 e1 e2 hn (hd _ hc) hm
theorem tkF_ok {ks : List Tk} (h : (hdK ks.tail).isBad = false) : takeF ks = .ok ks.tail := by unfold takeF; rw [if_neg (by rw [h]; simp)]
theorem maker_ok {x : Tk} {ks : List Tk} {md : Nat} {out : List Nd} (hm : md < 200) (h : (hdK ks).isBad = false) : makerF ⟨x :: ks, md, out⟩ = .ok ⟨ks, md + 1, out⟩ := by
  unfold makerF
  rw [if_pos hm, tkF_ok (by exact h)]
  rfl
/-- Tokens that begin with a good one. -/
def HdG (K : List TkK) : Prop := ∃ t L, K = t :: L ∧ t.isBad = false
theorem HdG.of {K : List TkK} (h : HdG K) {k1 k2 : List Tk} (e : k1.map (·.k) = K) : (hdK (k1 ++ k2)).isBad = false := by
  obtain ⟨t, L, rfl, ht⟩ := h
  cases k1 with
  | nil => cases e
  | cons x k1 =>
    simp only [List.map_cons, List.cons.injEq] at e
    show x.k.isBad = false
    rw [e.1]; exact ht
theorem rd_join {C1 C : TkK → Prop} {sg : UInt8} {kd : Int} {R : Ps → PR Ps → Prop} {K1 K2 : List TkK} {p1 p2 : List Nd} (h1 : Rd C1 (JoinO sg kd R) K1 p1) (hc1 : C1 (.sign sg)) (h2 : Rd C R K2 p2) (hK : HdG K2) : Rd C (JoinO sg kd R) (K1 ++ .sign sg :: K2) (p1 ++ (p2 ++ [leafN kd])) := by
  intro ks md out k1 k2 e1 e2 hn hc hm
  obtain ⟨a, b, rfl, ea, eb⟩ := List.map_eq_append_iff.1 e2
  obtain ⟨x, b, rfl, ex, eb⟩ := List.map_eq_cons_iff.1 eb
  simp only [List.length_append, List.length_singleton] at hm
  subst e1
  obtain ⟨s1, q, s0, h0, hl⟩ := h1 (a ++ x :: b ++ k2) md out a (x :: b ++ k2) (by simp) ea (by show NoSo x.k; rw [ex]; exact ⟨rfl, rfl, rfl⟩) (by show C1 x.k; rw [ex]; exact hc1) (by omega)
  cases q
  have hb := hK.of (k2 := k2) eb
  have h3 := h2 (b ++ k2) (md + p1.length + 1) (out ++ p1) b k2 rfl eb hn hc (by omega)
  refine ⟨_, ?_, s0, h0, hl.snoc (by show x.k.isSign sg = true; rw [ex]; simp [TkK.isSign]) (maker_ok (by omega) hb) h3⟩
  show Except.ok _ = Except.ok (Ps.mk _ _ _)
  simp only [List.length_append, List.length_singleton, List.append_assoc]
  rw [show md + p1.length + 1 + p2.length = md + (p1.length + (p2.length + 1)) by omega]
def Fd : Nat → Ps → PR Ps → Prop
  | 0 => fun _ _ => False
  | d + 1 => FilR d
theorem filR_eq (d : Nat) : FilR d = JoinR 124 15 (ChaR (Fd d) d) := by cases d <;> rfl
def Any (_ : TkK) : Prop := True
theorem rd_paren {C : TkK → Prop} {d : Nat} {K : List TkK} {p : List Nd} (h : Rd C (FilR d) K p) (hc : C (.sign 41)) (hK : HdG K) : Rd Any (PrimR (Fd (d + 1)) (d + 1)) (.sign 40 :: (K ++ [.sign 41])) p := by
  intro ks md out k1 k2 e1 e2 hn _ hm
  obtain ⟨x, b, rfl, ex, eb⟩ := List.map_eq_cons_iff.1 e2
  obtain ⟨a, b, rfl, ea, eb⟩ := List.map_eq_append_iff.1 eb
  obtain ⟨y, b, rfl, ey, eb⟩ := List.map_eq_cons_iff.1 eb
  obtain rfl := List.map_eq_nil_iff.1 eb
  subst e1
  have hx : (hdK (x :: (a ++ [y]) ++ k2)).isSign 40 = true := by show x.k.isSign 40 = true; rw [ex]; rfl
  refine .inl ⟨hx, .inr ⟨⟨a ++ [y] ++ k2, md, out⟩, ?_, .inr ⟨⟨y :: k2, md + p.length, out ++ p⟩, ?_, ?_⟩⟩⟩
  · show _ = enterF _ _
    unfold enterF
    rw [if_pos hx, if_neg (by omega), tkF_ok (by show (hdK (a ++ [y] ++ k2)).isBad = false; rw [List.append_assoc]; exact hK.of ea)]
    rfl
  · exact h (a ++ [y] ++ k2) md out a (y :: k2) (by simp) ea (by show NoSo y.k; rw [ey]; exact ⟨rfl, rfl, rfl⟩) (by show C y.k; rw [ey]; exact hc) hm
  · show _ = leaveF _
    unfold leaveF expectF
    rw [if_pos (by show y.k.isSign 41 = true; rw [ey]; rfl), tkF_ok (by exact hn.1)]
    rfl
theorem comma_ok {y : Tk} {ks : List Tk} {md : Nat} {out : List Nd} (ey : y.k = .sign 44) (h : (hdK ks).isBad = false) : commaF ⟨y :: ks, md, out⟩ = .ok ⟨ks, md, out⟩ := by
  unfold commaF expectF
  rw [if_pos (by show y.k.isSign 44 = true; rw [ey]; rfl), tkF_ok (by exact h)]
  rfl
theorem rd_if {C : TkK → Prop} {d : Nat} {K1 K2 K3 : List TkK} {p1 p2 p3 : List Nd} (h1 : Rd C (FilR d) K1 p1) (h2 : Rd C (FilR d) K2 p2) (h3 : Rd C (FilR d) K3 p3) (hc : C (.sign 41) ∧ C (.sign 44)) (g1 : HdG K1) (g2 : HdG K2) (g3 : HdG K3) :
    Rd Any (PrimR (Fd (d + 1)) (d + 1)) (.word 16 :: .sign 40 :: (K1 ++ (.sign 44 :: (K2 ++ (.sign 44 :: (K3 ++ [.sign 41])))))) (p1 ++ (p2 ++ (p3 ++ [leafN 16]))) := by
  intro ks md out k1 k2 e1 e2 hn _ hm
  obtain ⟨w, b, rfl, ew, eb⟩ := List.map_eq_cons_iff.1 e2
  obtain ⟨x, b, rfl, ex, eb⟩ := List.map_eq_cons_iff.1 eb
  obtain ⟨a1, b, rfl, ea1, eb⟩ := List.map_eq_append_iff.1 eb
  obtain ⟨y1, b, rfl, ey1, eb⟩ := List.map_eq_cons_iff.1 eb
  obtain ⟨a2, b, rfl, ea2, eb⟩ := List.map_eq_append_iff.1 eb
  obtain ⟨y2, b, rfl, ey2, eb⟩ := List.map_eq_cons_iff.1 eb
  obtain ⟨a3, b, rfl, ea3, eb⟩ := List.map_eq_append_iff.1 eb
  obtain ⟨y3, b, rfl, ey3, eb⟩ := List.map_eq_cons_iff.1 eb
  obtain rfl := List.map_eq_nil_iff.1 eb
  simp only [List.length_append, List.length_singleton] at hm
  subst e1
  simp only [List.cons_append, List.append_assoc, List.nil_append]
  refine .inr (.inl ⟨ew, .inr ⟨_, (maker_ok (by omega) (by show x.k.isBad = false; rw [ex]; rfl)).symm, .inr ⟨⟨k2, md + 1 + p1.length + p2.length + p3.length, out ++ p1 ++ p2 ++ p3⟩, ?_, ?_⟩⟩⟩)
  · refine .inr ⟨⟨a1 ++ y1 :: (a2 ++ y2 :: (a3 ++ y3 :: k2)), md + 1, out⟩, ?_, .inr ⟨⟨y1 :: (a2 ++ y2 :: (a3 ++ y3 :: k2)), md + 1 + p1.length, out ++ p1⟩, ?_, .inr ⟨⟨a2 ++ y2 :: (a3 ++ y3 :: k2), md + 1 + p1.length, out ++ p1⟩, ?_, .inr ⟨⟨y2 :: (a3 ++ y3 :: k2), md + 1 + p1.length + p2.length, out ++ p1 ++ p2⟩, ?_, .inr ⟨⟨a3 ++ y3 :: k2, md + 1 + p1.length + p2.length, out ++ p1 ++ p2⟩, ?_, .inr ⟨⟨y3 :: k2, md + 1 + p1.length + p2.length + p3.length, out ++ p1 ++ p2 ++ p3⟩, ?_, ?_⟩⟩⟩⟩⟩⟩
    · show _ = enterF _ _
      unfold enterF
      rw [if_pos (by show x.k.isSign 40 = true; rw [ex]; rfl), if_neg (by omega), tkF_ok (g1.of ea1)]
      rfl
    · exact h1 _ _ _ a1 _ rfl ea1 (by show NoSo y1.k; rw [ey1]; exact ⟨rfl, rfl, rfl⟩) (by show C y1.k; rw [ey1]; exact hc.2) (by omega)
    · exact (comma_ok ey1 (g2.of ea2)).symm
    · exact h2 _ _ _ a2 _ rfl ea2 (by show NoSo y2.k; rw [ey2]; exact ⟨rfl, rfl, rfl⟩) (by show C y2.k; rw [ey2]; exact hc.2) (by omega)
    · exact (comma_ok ey2 (g3.of ea3)).symm
    · exact h3 _ _ _ a3 _ rfl ea3 (by show NoSo y3.k; rw [ey3]; exact ⟨rfl, rfl, rfl⟩) (by show C y3.k; rw [ey3]; exact hc.1) (by omega)
    · show _ = leaveF _
      unfold leaveF expectF
      rw [if_pos (by show y3.k.isSign 41 = true; rw [ey3]; rfl), tkF_ok (by exact hn.1)]
      rfl
  · show Except.ok (Ps.mk _ _ _) = Except.ok (Ps.add _ _)
    unfold Ps.add
    simp only [List.length_append, List.length_singleton, List.append_assoc]
    rw [show md + (p1.length + (p2.length + (p3.length + 1))) = md + 1 + p1.length + p2.length + p3.length by omega]
/- Leaves. -/
theorem less_nil (s : ByteArray) : ¬ less s noS := by
  intro q
  unfold less at q
  rw [ByteArray.toList_eq, ByteArray.toList_eq] at q
  cases hq : s.data.toList with
  | nil => rw [hq] at q; exact absurd q (by decide)
  | cons a l => rw [hq] at q; exact absurd q (by simp [Op.bytesLess, noS])
theorem noS_of {s : ByteArray} (h : s.toList = []) : s = noS := by
  rw [ByteArray.toList_eq] at h
  cases s with
  | mk a =>
    cases a with
    | mk l => simp at h; subst h; rfl
theorem bl_noS : bl noS = [] := rfl
theorem bl_ne {s : ByteArray} (h : ¬ s.toList = []) : ¬ bl s = [] := fun q => h (bl_nil.1 q)
/-- The tokens behind a leaf's word. -/
def endK (strs : Bool) (s : ByteArray) (n : Int) : List TkK := if strs = true then (if s.toList = [] then [] else [.str s]) else (if n = 0 then [] else [.num n])
theorem lx_end {strs : Bool} {s : ByteArray} {n : Int} (hs : s.size ≤ 200) (h0 : 0 ≤ n) (h1 : n < 2 ^ 64) (h2 : strs = true → n = 0) (h3 : strs = false → s.toList = []) : Lx true (endM (bl s) n) (endK strs s n) := by
  unfold endM endK
  cases strs with
  | true =>
    rw [if_pos rfl]
    by_cases h : s.toList = []
    · rw [if_pos h, if_pos (bl_nil.2 h), if_pos (h2 rfl)]; exact .nil
    · rw [if_neg h, if_neg (bl_ne h)]; exact (lx_str hs).weak
  | false =>
    rw [if_neg (show ¬ ((false : Bool) = true) by simp), if_pos (bl_nil.2 (h3 rfl))]
    by_cases h : n = 0
    · rw [if_pos h, if_pos h]; exact .nil
    · rw [if_neg h, if_neg h]
      have := lx_num (n := n.toNat) (by omega)
      rw [Int.toNat_of_nonneg h0] at this
      exact this
theorem lx_end_hd {strs : Bool} {s : ByteArray} {n : Int} : endK strs s n = [] ∨ ∃ t, endK strs s n = [t] ∧ t.isBad = false ∧ t.isSort strs = true ∧ t.txt = (if strs = true then s else noS) ∧ t.nm = (if strs = true then 0 else n) := by
  unfold endK
  cases strs with
  | true =>
    rw [if_pos rfl]
    split
    · exact .inl rfl
    · exact .inr ⟨_, rfl, rfl, rfl, rfl, rfl⟩
  | false =>
    rw [if_neg (by simp)]
    split
    · exact .inl rfl
    · exact .inr ⟨_, rfl, rfl, rfl, rfl, rfl⟩
theorem endK_nil {strs : Bool} {s : ByteArray} {n : Int} (h : endK strs s n = []) : (if strs = true then s else noS) = noS ∧ (if strs = true then 0 else n) = 0 := by
  unfold endK at h
  cases strs with
  | true =>
    rw [if_pos rfl] at h
    split at h
    · rename_i q; exact ⟨by rw [if_pos rfl]; exact noS_of q, rfl⟩
    · cases h
  | false =>
    rw [if_neg (by simp)] at h
    split at h
    · rename_i q; exact ⟨by rw [if_neg (by simp)], by rw [if_neg (by simp)]; exact q⟩
    · cases h
theorem up_read {k : Int} {strs : Bool} {a : TkK} {e : Nd} {k1 k2 : List Tk} (ek : k1.map (·.k) = endK strs e.t e.up) (hn : NoSo (hdK k2))
    (hh : e.hi = true → ¬ endK strs e.t e.up = [] ∧ (less a.txt (if strs = true then e.t else noS) ∨ a.nm < (if strs = true then 0 else e.up))) (hl : e.hi = false → endK strs e.t e.up = []) :
    upF k strs a (k1 ++ k2) = .ok (k2, ⟨k, a.txt, e.hi, (if strs = true then e.t else noS), a.nm, (if strs = true then 0 else e.up), 0⟩) := by
  unfold upF
  rcases lx_end_hd (strs := strs) (s := e.t) (n := e.up) with h | ⟨t, h, hb, hs, ht, hm⟩
  · rw [h] at ek
    obtain rfl := List.map_eq_nil_iff.1 ek
    have hi : e.hi = false := by
      cases q : e.hi with
      | false => rfl
      | true => exact absurd h (hh q).1
    obtain ⟨z1, z2⟩ := endK_nil h
    rw [List.nil_append, if_neg (by cases strs <;> simp [hn.2.1, hn.2.2]), hi, z1, z2]
  · rw [h] at ek
    obtain ⟨x, b, rfl, ex, eb⟩ := List.map_eq_cons_iff.1 ek
    obtain rfl := List.map_eq_nil_iff.1 eb
    have hi : e.hi = true := by
      cases q : e.hi with
      | true => rfl
      | false => rw [hl q] at h; cases h
    have hx : hdK ([x] ++ k2) = t := ex
    rw [hx, if_pos hs, ht, hm, if_pos (hh hi).2, tkF_ok (by exact hn.1), hi]
    rfl
theorem range_read {k : Int} {strs : Bool} {e : Nd} {k1 k2 : List Tk} (ek : k1.map (·.k) = endK strs e.s e.lo ++ (.sign 46 :: endK strs e.t e.up)) (hn : NoSo (hdK k2))
    (hh : e.hi = true → ¬ endK strs e.t e.up = [] ∧ (less (if strs = true then e.s else noS) (if strs = true then e.t else noS) ∨ (if strs = true then 0 else e.lo) < (if strs = true then 0 else e.up))) (hl : e.hi = false → endK strs e.t e.up = []) :
    rangeF k strs (k1 ++ k2) = .ok (k2, ⟨k, (if strs = true then e.s else noS), e.hi, (if strs = true then e.t else noS), (if strs = true then 0 else e.lo), (if strs = true then 0 else e.up), 0⟩) := by
  obtain ⟨a, b, rfl, ea, eb⟩ := List.map_eq_append_iff.1 ek
  obtain ⟨y, b, rfl, ey, eb⟩ := List.map_eq_cons_iff.1 eb
  have nb : (hdK (b ++ k2)).isBad = false := by
    rcases lx_end_hd (strs := strs) (s := e.t) (n := e.up) with h | ⟨t, h, hb, _⟩
    · rw [h] at eb
      obtain rfl := List.map_eq_nil_iff.1 eb
      exact hn.1
    · exact HdG.of ⟨t, [], h, hb⟩ eb
  have hdots : ∀ a : TkK, a.txt = (if strs = true then e.s else noS) → a.nm = (if strs = true then 0 else e.lo) → dotsF k strs a (y :: (b ++ k2)) = .ok (k2, ⟨k, (if strs = true then e.s else noS), e.hi, (if strs = true then e.t else noS), (if strs = true then 0 else e.lo), (if strs = true then 0 else e.up), 0⟩) := by
    intro a h1 h2
    unfold dotsF expectF
    rw [if_pos (by show y.k.isSign 46 = true; rw [ey]; rfl), tkF_ok (by exact nb)]
    have := up_read (k := k) (a := a) eb hn (by rw [h1, h2]; exact hh) hl
    rw [h1, h2] at this
    exact this
  unfold rangeF
  rcases lx_end_hd (strs := strs) (s := e.s) (n := e.lo) with h | ⟨t, h, hb, hs, ht, hm⟩
  · rw [h] at ea
    obtain rfl := List.map_eq_nil_iff.1 ea
    obtain ⟨z1, z2⟩ := endK_nil h
    simp only [List.nil_append, List.cons_append]
    rw [if_neg (by show ¬ y.k.isSort strs = true; rw [ey]; cases strs <;> simp [TkK.isSort])]
    exact hdots .fin (by rw [z1]; rfl) (by rw [z2]; rfl)
  · rw [h] at ea
    obtain ⟨x, c, rfl, ex, ec⟩ := List.map_eq_cons_iff.1 ea
    obtain rfl := List.map_eq_nil_iff.1 ec
    simp only [List.singleton_append, List.cons_append, List.nil_append]
    have hx : hdK (x :: y :: (b ++ k2)) = t := ex
    rw [hx, if_pos hs, tkF_ok (by show y.k.isBad = false; rw [ey]; rfl)]
    exact hdots t ht hm
theorem nx_cons {b : UInt8} {l : List UInt8} (h : isLet b = false ∧ isDig b = false) : b :: l ≠ [] ∧ NxO (b :: l) := ⟨by simp, fun x hx => by simp at hx; subst hx; exact h⟩
theorem leaf_read {e : Nd} (h : GoodN e) (hn : NumN e) (ha : arity e.kind = 0) : ∃ K, 1 ≤ e.kind ∧ e.kind ≤ 13 ∧ Lx true (leafM e) (.word e.kind :: K) ∧ HdG (K ++ [.fin]) ∧ ∀ k1 k2 : List Tk, k1.map (·.k) = K → NoSo (hdK k2) → argsF e.kind (k1 ++ k2) = .ok (k2, e) := by
  obtain ⟨kd, s, hi, t, lo, up, n⟩ := e
  obtain ⟨l0, l1, u0, u1⟩ := hn
  obtain ⟨hs, ht, hh, hk⟩ := h
  simp only at hs ht hh hk l0 l1 u0 u1 ha ⊢
  have hkd : 1 ≤ kd ∧ kd ≤ 13 := by
    have : ¬ (kd = 14 ∨ kd = 15 ∨ kd = 16) := by
      intro q
      unfold arity at ha
      rcases q with rfl | rfl | rfl <;> simp at ha
    omega
  have hw := lx_word hkd.1 hkd.2
  have hno : ∀ {c : Bool} {l : List UInt8} {K : List TkK}, Lx c l K → Lx c (bl (wordA kd) ++ 32 :: l) (.word kd :: K) := fun hl => hw.seq hl.space (fun _ => nx_cons (by decide))
  rcases hk with ⟨h1, ⟨rfl, h3, rfl, rfl, rfl⟩, h7⟩ | ⟨h1, ⟨rfl, rfl, rfl⟩, h7⟩ | ⟨h1, ⟨h2, h3, rfl⟩, h7⟩ | ⟨h1, ⟨h2, rfl, h3, rfl, rfl⟩, h7, h8⟩ | ⟨h1, h2, rfl, h3, rfl, rfl, rfl⟩
  · obtain rfl := noS_of h3
    refine ⟨[.str s], hkd.1, hkd.2, ?_, ⟨_, _, rfl, rfl⟩, fun k1 k2 ek nk => ?_⟩
    · unfold leafM tailM
      simp only
      rw [if_pos h1, List.singleton_append]
      exact hno (lx_str hs).weak
    · obtain ⟨x, b, rfl, ex, eb⟩ := List.map_eq_cons_iff.1 ek
      obtain rfl := List.map_eq_nil_iff.1 eb
      unfold argsF
      rw [if_neg (by omega), if_pos (by omega), show hdK ([x] ++ k2) = .str s from ex]
      dsimp only
      rw [if_pos h7, tkF_ok (by exact nk.1)]
      rfl
  · refine ⟨endK true s 0 ++ (.sign 46 :: endK true t 0), hkd.1, hkd.2, ?_, ?_, fun k1 k2 ek nk => ?_⟩
    · unfold leafM tailM
      simp only
      rw [if_neg (by omega), if_pos (by omega)]
      simp only [List.append_assoc, List.singleton_append]
      refine hno ?_
      refine (lx_end (strs := true) hs (by omega) (by omega) (fun _ => rfl) (by simp)).seq ?_ (fun _ => nx_cons (by decide))
      exact lx_dots.seq (lx_end (strs := true) ht (by omega) (by omega) (fun _ => rfl) (by simp)) (by simp)
    · rcases lx_end_hd (strs := true) (s := s) (n := 0) with q | ⟨x, q, qb, _⟩
      · rw [q]; exact ⟨_, _, rfl, rfl⟩
      · rw [q]; exact ⟨_, _, rfl, qb⟩
    · have := range_read (k := kd) (strs := true) (e := ⟨kd, s, hi, t, 0, 0, 0⟩) ek nk (fun q => ⟨fun z => by
          have z1 := (endK_nil z).1
          simp only [if_pos] at z1
          have z2 := h7 q
          subst z1
          exact less_nil s z2, .inl (by simpa using h7 q)⟩) (fun q => by
          have := (hh q).1
          unfold endK
          rw [if_pos rfl, if_pos this])
      unfold argsF
      rw [if_neg (by omega), if_neg (by omega), if_pos (by omega), this]
      rfl
  · obtain rfl := noS_of h2
    obtain rfl := noS_of h3
    refine ⟨endK false noS lo ++ (.sign 46 :: endK false noS up), hkd.1, hkd.2, ?_, ?_, fun k1 k2 ek nk => ?_⟩
    · unfold leafM tailM
      simp only
      rw [if_neg (by omega), if_pos (by omega)]
      simp only [List.append_assoc, List.singleton_append]
      refine hno ?_
      refine (lx_end (strs := false) hs l0 l1 (by simp) (fun _ => h2)).seq ?_ (fun _ => nx_cons (by decide))
      exact lx_dots.seq (lx_end (strs := false) ht u0 u1 (by simp) (fun _ => h3)) (by simp)
    · rcases lx_end_hd (strs := false) (s := noS) (n := lo) with q | ⟨x, q, qb, _⟩
      · rw [q]; exact ⟨_, _, rfl, rfl⟩
      · rw [q]; exact ⟨_, _, rfl, qb⟩
    · have := range_read (k := kd) (strs := false) (e := ⟨kd, noS, hi, noS, lo, up, 0⟩) ek nk (fun q => ⟨fun z => by
          have z1 : up = 0 := by simpa using (endK_nil z).2
          have z2 := h7 q
          omega, .inr (by simpa using h7 q)⟩) (fun q => by
          have := (hh q).2
          unfold endK
          rw [if_neg (by simp), if_pos this])
      unfold argsF
      rw [if_neg (by omega), if_neg (by omega), if_neg (by omega), if_pos (by omega), this]
      rfl
  · obtain rfl := noS_of h2
    obtain rfl := noS_of h3
    refine ⟨[.num n], hkd.1, hkd.2, ?_, ⟨_, _, rfl, rfl⟩, fun k1 k2 ek nk => ?_⟩
    · unfold leafM tailM
      simp only
      rw [if_neg (by omega), if_neg (by omega), if_pos h1, List.singleton_append]
      have := lx_num (n := n.toNat) (by omega)
      rw [Int.toNat_of_nonneg (by omega)] at this
      exact hno this
    · obtain ⟨x, b, rfl, ex, eb⟩ := List.map_eq_cons_iff.1 ek
      obtain rfl := List.map_eq_nil_iff.1 eb
      unfold argsF
      rw [if_neg (by omega), if_neg (by omega), if_neg (by omega), if_neg (by omega), show hdK ([x] ++ k2) = .num n from ex]
      dsimp only
      rw [if_pos ⟨h7, h8⟩, tkF_ok (by exact nk.1)]
      rfl
  · obtain rfl := noS_of h2
    obtain rfl := noS_of h3
    refine ⟨[], hkd.1, hkd.2, ?_, ⟨_, _, rfl, rfl⟩, fun k1 k2 ek nk => ?_⟩
    · unfold leafM tailM
      simp only
      rw [if_neg (by omega), if_neg (by omega), if_neg (by omega), List.append_nil]
      exact hw
    · obtain rfl := List.map_eq_nil_iff.1 ek
      unfold argsF
      rw [if_pos (by omega)]
      rfl
theorem rd_leaf {e : Nd} (h : GoodN e) (hn : NumN e) (ha : arity e.kind = 0) : ∃ K, Lx true (leafM e) K ∧ HdG K ∧ ∀ F d, Rd Any (PrimR F d) K [e] := by
  obtain ⟨K, h1, h2, h3, h4, h5⟩ := leaf_read h hn ha
  refine ⟨.word e.kind :: K, h3, ⟨_, _, rfl, rfl⟩, fun F d ks md out k1 k2 e1 e2 nk _ hm => ?_⟩
  obtain ⟨x, b, rfl, ex, eb⟩ := List.map_eq_cons_iff.1 e2
  subst e1
  have hb : (hdK (b ++ k2)).isBad = false := by
    cases b with
    | nil => exact nk.1
    | cons y b =>
      obtain ⟨t, L, q, ht⟩ := h4
      rw [← eb] at q
      simp only [List.map_cons, List.cons_append, List.cons.injEq] at q
      show y.k.isBad = false
      rw [q.1]; exact ht
  refine .inr (.inr (.inl ⟨e.kind, ex, by omega, .inr ⟨_, (maker_ok (by simp at hm; omega) hb).symm, ?_⟩⟩))
  show _ = argF _ _
  unfold argF
  rw [h5 b k2 eb nk]
  rfl
end Go.Proofs.YtgnpcenpcmdlfaaGreatDoor

/-
  A good filter, printed, is read xa itself.
-/
namespace Go.Proofs.YtgnpcenpcmdlfaaGreatDoor
set_option linter.unusedVariables false
set_option linter.unusedSimpArgs false

inductive All2 {α β : Type} (Q : α → β → Prop) : List α → List β → Prop
  | nil : All2 Q [] []
  | cons {a : α} {b : β} {xa : List α} {xb : List β} (h : Q a b) (t : All2 Q xa xb) : All2 Q (a :: xa) (b :: xb)
theorem All2.append {α β : Type} {Q : α → β → Prop} {xa : List α} {xb : List β} (h : All2 Q xa xb) {cs : List α} {ds : List β} (k : All2 Q cs ds) : All2 Q (xa ++ cs) (xb ++ ds) := by
  induction h with
  | nil => exact k
  | cons h _ ih => exact .cons h ih
theorem All2.split {α β : Type} {Q : α → β → Prop} : ∀ {xa cs : List α} {xb : List β}, All2 Q (xa ++ cs) xb → ∃ b1 b2, xb = b1 ++ b2 ∧ All2 Q xa b1 ∧ All2 Q cs b2
  | [], cs, xb, h => ⟨[], xb, rfl, .nil, h⟩
  | a :: xa, cs, _, .cons h t => by
    obtain ⟨b1, b2, rfl, h1, h2⟩ := All2.split t
    exact ⟨_ :: b1, b2, rfl, .cons h h1, h2⟩
/-- A text and its shape at once. -/
noncomputable def VV (n : Nd) (os : List (PT × Shape)) : PT × Shape := (printV n (os.map (·.1)), shapeM goodB n (os.map (·.2)))
theorem vv_text {ss : List (PT × Shape)} {xs : List Nd} (h : TrV VV ss xs) : TrV printV (ss.map (·.1)) xs := by
  induction h with
  | nil => exact .nil
  | @snoc ss os xs n ho h ih =>
    rw [List.map_append] at ih ⊢
    exact .snoc n (by simpa using ho) ih
theorem vv_shape {ss : List (PT × Shape)} {xs : List Nd} (h : TrV VV ss xs) : ShT goodB (ss.map (·.2)) xs := by
  induction h with
  | nil => exact .nil
  | @snoc ss os xs n ho h ih =>
    rw [List.map_append] at ih ⊢
    exact .snoc n (by simpa using ho) ih
abbrev N62 (t : TkK) : Prop := t.isSign 62 = false
/-- How the tokens K are read, by what stands on top. -/
def Kn (st d : Nat) (K : List TkK) (p : List Nd) : Prop := (st = 3 → Rd Any (PrimR (Fd d) d) K p) ∧ (2 ≤ st → Rd Any (JoinO 62 14 (PrimR (Fd d) d)) K p) ∧ Rd N62 (JoinO 124 15 (ChaR (Fd d) d)) K p
theorem kn_cha {st d : Nat} {K : List TkK} {p : List Nd} (hs : ¬ st = 3) (h : Rd Any (JoinO 62 14 (PrimR (Fd d) d)) K p) : Kn st d K p :=
  ⟨fun q => absurd q hs, fun _ => h, rd_up (rd_weak (rd_close h) (fun t q => ⟨trivial, q⟩)) 124 15⟩
theorem kn_prim {st d : Nat} {K : List TkK} {p : List Nd} (h : Rd Any (PrimR (Fd d) d) K p) : Kn st d K p := by
  have h1 := rd_up h 62 14
  exact ⟨fun _ => h, fun _ => h1, rd_up (rd_weak (rd_close h1) (fun t q => ⟨trivial, q⟩)) 124 15⟩
theorem Kn.fil {st d : Nat} {K : List TkK} {p : List Nd} (h : Kn st d K p) : Rd (fun t => N62 t ∧ t.isSign 124 = false) (FilR d) K p := by
  rw [filR_eq]
  exact rd_close h.2.2
def QQ (x : PT × Shape) (p : List Nd) : Prop := x.2.kind = x.1.1 ∧ ∃ K, Lx true x.1.2 K ∧ HdG K ∧ ∀ d, x.2.nest ≤ d → Kn (strong x.1.1) d K p
theorem qq_opd {x : PT × Shape} {p : List Nd} (h : QQ x p) (op : Int) (i : Nat) : ∃ K, Lx true (wrapT op i x.1) K ∧ HdG K ∧ ∀ d, x.2.nest + (if wrapB op i x.1.1 = true then 1 else 0) ≤ d → Kn (if wrapB op i x.1.1 = true then 3 else strong x.1.1) d K p := by
  obtain ⟨_, K, h1, h2, h3⟩ := h
  unfold wrapT
  by_cases hw : wrapB op i x.1.1 = true
  · rw [if_pos hw, if_pos hw, if_pos hw]
    refine ⟨.sign 40 :: (K ++ [.sign 41]), ?_, ⟨_, _, rfl, rfl⟩, fun d hd => ?_⟩
    · rw [List.append_assoc]
      refine (lx_sign (by simp)).seq (K1 := [.sign 40]) ?_ (by simp)
      exact h1.seq (lx_sign (by simp)).weak (fun _ => nx_cons (by decide))
    · obtain ⟨d, rfl⟩ : ∃ c, d = c + 1 := ⟨d - 1, by omega⟩
      exact kn_prim (rd_paren (h3 d (by omega)).fil ⟨rfl, rfl⟩ h2)
  · rw [if_neg hw, if_neg hw, if_neg hw]
    exact ⟨K, h1, h2, fun d hd => h3 d (by omega)⟩
theorem leaf_good {n : Nd} (h : GoodN n) (ha : ¬ arity n.kind = 0) : n = leafN n.kind ∧ (n.kind = 14 ∨ n.kind = 15 ∨ n.kind = 16) := by
  have hk : n.kind = 14 ∨ n.kind = 15 ∨ n.kind = 16 := by
    unfold arity at ha
    by_cases h1 : n.kind = 14 ∨ n.kind = 15
    · omega
    · rw [if_neg h1] at ha
      by_cases h2 : n.kind = 16
      · omega
      · rw [if_neg h2] at ha; omega
  obtain ⟨kd, s, hi, t, lo, up, m⟩ := n
  obtain ⟨_, _, _, h4⟩ := h
  simp only at hk h4 ⊢
  rcases h4 with ⟨q, _⟩ | ⟨q, _⟩ | ⟨q, _⟩ | ⟨q, _⟩ | ⟨q, h2, h3, h5, h6, h7, h8⟩
  · omega
  · omega
  · omega
  · omega
  · rw [noS_of h2, h3, noS_of h5, h6, h7, h8]
    exact ⟨rfl, hk⟩
theorem nest2 (n : Nd) (x y : Shape) : (shapeM goodB n [x, y]).nest = max (max 0 (x.nest + if level n.kind 0 x.kind then 1 else 0)) (y.nest + if level n.kind 1 y.kind then 1 else 0) := rfl
theorem nest3 (n : Nd) (x y z : Shape) : (shapeM goodB n [x, y, z]).nest = max (max (max 0 (x.nest + if level n.kind 0 x.kind then 1 else 0)) (y.nest + if level n.kind 1 y.kind then 1 else 0)) (z.nest + if level n.kind 2 z.kind then 1 else 0) := rfl
theorem wrap_level {op : Int} (h : ¬ op = 16) (i : Nat) (k : Int) : wrapB op i k = level op i k := by unfold wrapB; rw [if_neg h]
theorem strong_le (k : Int) : 1 ≤ strong k ∧ strong k ≤ 3 := by
  unfold strong
  by_cases h1 : k = 15
  · rw [if_pos h1]; omega
  · rw [if_neg h1]
    by_cases h2 : k = 14
    · rw [if_pos h2]; omega
    · rw [if_neg h2]; omega
theorem qq_two {n : Nd} (hn : n = leafN n.kind) (hk : n.kind = 14 ∨ n.kind = 15) {x y : PT × Shape} {p q : List Nd} (hx : QQ x p) (hy : QQ y q) : QQ (VV n [x, y]) (p ++ q ++ [n]) := by
  have h16 : ¬ n.kind = 16 := by omega
  obtain ⟨K1, a1, a2, a3⟩ := qq_opd hx n.kind 0
  obtain ⟨K2, b1, b2, b3⟩ := qq_opd hy n.kind 1
  rw [wrap_level h16] at a3 b3
  have hnest : (VV n [x, y]).2.nest = max (max 0 (x.2.nest + if level n.kind 0 x.1.1 then 1 else 0)) (y.2.nest + if level n.kind 1 y.1.1 then 1 else 0) := by
    show (shapeM goodB n [x.2, y.2]).nest = _
    rw [nest2, hx.1, hy.1]
  have htxt : (VV n [x, y]).1.2 = wrapT n.kind 0 x.1 ++ (sepM n.kind ++ wrapT n.kind 1 y.1) := by
    show (printV n [x.1, y.1]).2 = _
    unfold printV
    simp [joinM, h16]
  have hsep : ∃ b, (b = 62 ∨ b = 124) ∧ (n.kind = 14 → b = 62) ∧ (n.kind = 15 → b = 124) ∧ sepM n.kind = [32, b, 32] := by
    unfold sepM
    rw [if_neg h16]
    rcases hk with h | h
    · exact ⟨62, .inl rfl, fun _ => rfl, fun q => by omega, by rw [if_neg (by omega)]⟩
    · exact ⟨124, .inr rfl, fun q => by omega, fun _ => rfl, by rw [if_pos h]⟩
  obtain ⟨b, hb, hb14, hb15, hsep⟩ := hsep
  refine ⟨rfl, K1 ++ (.sign b :: K2), ?_, ?_, fun d hd => ?_⟩
  · rw [htxt, hsep]
    refine a1.seq ?_ (fun _ => nx_cons (by decide))
    refine Lx.space ?_
    show Lx true ([b] ++ (32 :: wrapT n.kind 1 y.1)) ([.sign b] ++ K2)
    exact (lx_sign (by rcases hb with rfl | rfl <;> simp)).seq b1.space (by simp)
  · obtain ⟨t, L, rfl, ht⟩ := a2
    exact ⟨t, _, rfl, ht⟩
  · rw [hnest] at hd
    have d1 := a3 d (by omega)
    have d2 := b3 d (by omega)
    have e : p ++ q ++ [n] = p ++ (q ++ [leafN n.kind]) := by rw [← hn, List.append_assoc]
    rw [e]
    have s1 := strong_le x.1.1
    have s2 := strong_le y.1.1
    show Kn (strong n.kind) d _ _
    rcases hk with h | h
    · rw [h] at d1 d2 ⊢
      rw [hb14 h]
      have t1 : 2 ≤ (if level 14 0 x.1.1 = true then 3 else strong x.1.1) := by
        split
        · omega
        · rename_i q
          unfold level at q
          simp [strong] at q
          exact q
      have t2 : (if level 14 1 y.1.1 = true then 3 else strong y.1.1) = 3 := by
        split
        · rfl
        · rename_i q
          have z : ¬ strong y.1.1 ≤ 2 := fun z => q (by
            unfold level
            rw [show strong 14 = 2 from rfl]
            simp [z])
          omega
      exact kn_cha (by decide) (rd_join (d1.2.1 t1) trivial (d2.1 t2) b2)
    · rw [h] at d1 d2 ⊢
      rw [hb15 h]
      have t2 : 2 ≤ (if level 15 1 y.1.1 = true then 3 else strong y.1.1) := by
        split
        · omega
        · rename_i q
          unfold level at q
          simp [strong] at q
          exact q
      refine ⟨fun q => absurd q (by decide), fun q => absurd q (by decide), ?_⟩
      exact rd_join d1.2.2 rfl (rd_weak (rd_close (d2.2.1 t2)) (fun t q => ⟨trivial, q⟩)) b2
theorem qq_three {n : Nd} (hn : n = leafN n.kind) (hk : n.kind = 16) {x y z : PT × Shape} {p q r : List Nd} (hx : QQ x p) (hy : QQ y q) (hz : QQ z r) : QQ (VV n [x, y, z]) (p ++ q ++ r ++ [n]) := by
  obtain ⟨hxk, K1, a1, a2, a3⟩ := hx
  obtain ⟨hyk, K2, b1, b2, b3⟩ := hy
  obtain ⟨hzk, K3, c1, c2, c3⟩ := hz
  have hnest : (VV n [x, y, z]).2.nest = max (max (max 0 (x.2.nest + 1)) (y.2.nest + 1)) (z.2.nest + 1) := by
    show (shapeM goodB n [x.2, y.2, z.2]).nest = _
    rw [nest3, hk]
    simp [level]
  have htxt : (VV n [x, y, z]).1.2 = [105, 102] ++ ([40] ++ (x.1.2 ++ ([44] ++ (32 :: (y.1.2 ++ ([44] ++ (32 :: (z.1.2 ++ [41])))))))) := by
    show (printV n [x.1, y.1, z.1]).2 = _
    unfold printV
    simp [joinM, hk, wrapT, wrapB, sepM]
  refine ⟨rfl, .word 16 :: .sign 40 :: (K1 ++ (.sign 44 :: (K2 ++ (.sign 44 :: (K3 ++ [.sign 41]))))), ?_, ⟨_, _, rfl, rfl⟩, fun d hd => ?_⟩
  · rw [htxt]
    refine lx_if.seq (K1 := [.word 16]) ?_ (fun _ => nx_cons (by decide))
    refine (lx_sign (by simp)).seq (K1 := [.sign 40]) ?_ (by simp)
    refine a1.seq ?_ (fun _ => nx_cons (by decide))
    refine (lx_sign (by simp)).seq (K1 := [.sign 44]) (Lx.space ?_) (by simp)
    refine b1.seq ?_ (fun _ => nx_cons (by decide))
    refine (lx_sign (by simp)).seq (K1 := [.sign 44]) (Lx.space ?_) (by simp)
    exact c1.seq (lx_sign (by simp)).weak (fun _ => nx_cons (by decide))
  · rw [hnest] at hd
    obtain ⟨d, rfl⟩ : ∃ c, d = c + 1 := ⟨d - 1, by omega⟩
    have e : p ++ q ++ r ++ [n] = p ++ (q ++ (r ++ [leafN 16])) := by rw [hn, hk]; simp
    rw [e]
    exact kn_prim (rd_if (a3 d (by omega)).fil (b3 d (by omega)).fil (c3 d (by omega)).fil ⟨⟨rfl, rfl⟩, ⟨rfl, rfl⟩⟩ a2 b2 c2)
theorem qq_all {ss : List (PT × Shape)} {xs : List Nd} (h : TrV VV ss xs) (hg : ∀ e ∈ xs, GoodN e ∧ NumN e) : ∃ ps, ps.flatten = xs ∧ All2 QQ ss ps := by
  induction h with
  | nil => exact ⟨[], rfl, .nil⟩
  | @snoc ss os xs n ho h ih =>
    obtain ⟨ps, hp, hq⟩ := ih (fun e he => hg e (by simp [he]))
    obtain ⟨pa, pb, rfl, q1, q2⟩ := hq.split
    obtain ⟨g1, g2⟩ := hg n (by simp)
    refine ⟨pa ++ [pb.flatten ++ [n]], by rw [← hp]; simp, q1.append (.cons ?_ .nil)⟩
    by_cases ha : arity n.kind = 0
    · rw [ha] at ho
      obtain rfl := List.length_eq_zero_iff.1 ho
      cases q2
      obtain ⟨K, k1, k2, k3⟩ := rd_leaf g1 g2 ha
      exact ⟨rfl, K, k1, k2, fun d _ => kn_prim (k3 _ _)⟩
    · obtain ⟨l1, l2⟩ := leaf_good g1 ha
      by_cases h16 : n.kind = 16
      · have ho3 : os.length = 3 := by rw [ho, h16]; rfl
        match os, ho3, q2 with
        | [x, y, z], _, .cons hx (.cons hy (.cons hz .nil)) =>
          rename_i p q r
          have := qq_three l1 h16 hx hy hz
          simpa using this
      · have hk : n.kind = 14 ∨ n.kind = 15 := by omega
        have ho2 : os.length = 2 := by rw [ho]; rcases hk with h | h <;> rw [h] <;> rfl
        match os, ho2, q2 with
        | [x, y], _, .cons hx (.cons hy .nil) =>
          have := qq_two l1 hk hx hy
          simpa using this
/-- A good filter's text is cut into tokens that are read xa it. -/
theorem text_parse {xs : List Nd} {y : PT} (h : GoodF xs) (hn : ∀ e ∈ xs, NumN e) (ht : TextF xs y) : ∃ ks s, LexR y.2 0 ks ∧ ParR ks (.ok s) ∧ s.out = xs := by
  have hg := goodF_all h
  obtain ⟨hlen, s, hs, hv, hnest⟩ := h
  obtain ⟨ss, hl, hss⟩ := IsT.trv VV (ShT.tree goodB hs)
  match ss, hl with
  | [x], _ =>
    have e1 : y = x.1 := textF_one ht (vv_text hss)
    have e2 : s = x.2 := sh_one hs (vv_shape hss)
    obtain ⟨ps, hp, hq⟩ := qq_all hss (fun e he => ⟨hg e he, hn e he⟩)
    cases hq with
    | cons hx t =>
      cases t
      rename_i p
      have hpx : p = xs := by simpa using hp
      subst hpx
      obtain ⟨_, K, k1, k2, k3⟩ := hx
      have k4 := (k3 20 (by rw [← e2]; exact hnest)).fil
      obtain ⟨ks, hk, hm⟩ := k1 [] 0 [⟨.fin, 0 + x.1.2.length⟩] (fun _ b hb => by simp at hb) .fin
      rw [List.append_nil] at hk
      refine ⟨ks ++ [⟨.fin, 0 + x.1.2.length⟩], ⟨[⟨.fin, 0 + x.1.2.length⟩], 0 + p.length, [] ++ p⟩, by rw [e1]; exact hk, .inr ⟨k2.of hm, .inr ⟨_, k4 _ 0 [] ks _ rfl hm ⟨rfl, rfl, rfl⟩ ⟨rfl, rfl⟩ (by omega), ?_⟩⟩, by simp⟩
      rfl
end Go.Proofs.YtgnpcenpcmdlfaaGreatDoor

/-
  What has been read is a good filter.
-/
namespace Go.Proofs.YtgnpcenpcmdlfaaGreatDoor
set_option linter.unusedVariables false
set_option linter.unusedSimpArgs false

def TG (ks : List Tk) : Prop := ∀ k ∈ ks, k.k.good ∨ k.k = .fin ∨ k.k = .bad
theorem toks_tg {ks : List Tk} (h : Toks ks) : TG ks := by
  induction h with
  | last k h => intro x hx; simp at hx; subst hx; exact .inr h
  | more k h _ ih =>
    intro x hx
    rcases List.mem_cons.1 hx with rfl | hx
    · exact .inl h
    · exact ih x hx
theorem TG.tail {ks : List Tk} (h : TG ks) : TG ks.tail := fun k hk => h k (List.mem_of_mem_tail hk)
theorem TG.hd {ks : List Tk} (h : TG ks) : (hdK ks).good ∨ hdK ks = .fin ∨ hdK ks = .bad := by
  cases ks with
  | nil => exact .inr (.inl rfl)
  | cons k ks => exact h k (by simp)
theorem takeF_ok {ks ks' : List Tk} (h : takeF ks = .ok ks') : ks' = ks.tail := by
  unfold takeF at h
  split at h
  · cases h
  · cases h; rfl
theorem expectF_ok {b : UInt8} {ks ks' : List Tk} (h : expectF b ks = .ok ks') : ks' = ks.tail := by
  unfold expectF at h
  split at h
  · exact takeF_ok h
  · cases h
theorem noS_list : noS.toList = [] := by rw [ByteArray.toList_eq]; rfl
theorem good_kind {k : Int} (h : k = 1 ∨ k = 2 ∨ k = 3 ∨ k = 14 ∨ k = 15 ∨ k = 16) : GoodN (leafN k) ∧ NumN (leafN k) :=
  ⟨⟨by show noS.size ≤ 200; decide, by show noS.size ≤ 200; decide, fun _ => ⟨noS_list, rfl⟩, .inr (.inr (.inr (.inr ⟨h, noS_list, rfl, noS_list, rfl, rfl, rfl⟩)))⟩, by show (0:Int) ≤ 0; omega, by show (0:Int) < 2 ^ 64; omega, by show (0:Int) ≤ 0; omega, by show (0:Int) < 2 ^ 64; omega⟩
/-- A token of a sort: a text of at most 200 bytes and no number, or a number and no text. -/
theorem sort_good {t : TkK} (h : t.good ∨ t = .fin ∨ t = .bad) (strs : Bool) (hs : t.isSort strs = true ∨ t = .fin) : t.txt.size ≤ 200 ∧ 0 ≤ t.nm ∧ t.nm < 2 ^ 64 ∧ (strs = true → t.nm = 0) ∧ (strs = false → t.txt.toList = []) := by
  cases t with
  | str s =>
    rcases h with h | h | h
    · refine ⟨h, by show (0:Int) ≤ 0; omega, by show (0:Int) < 2 ^ 64; omega, fun _ => rfl, fun q => ?_⟩
      subst q
      rcases hs with q | q <;> cases q
    · cases h
    · cases h
  | num n =>
    rcases h with h | h | h
    · refine ⟨by show noS.size ≤ 200; decide, h.1, h.2, fun q => ?_, fun _ => noS_list⟩
      subst q
      rcases hs with q | q <;> cases q
    · cases h
    · cases h
  | fin => exact ⟨by show noS.size ≤ 200; decide, by show (0:Int) ≤ 0; omega, by show (0:Int) < 2 ^ 64; omega, fun _ => rfl, fun _ => noS_list⟩
  | word k => rcases hs with q | q <;> cases q
  | sign b => rcases hs with q | q <;> cases q
  | bad => rcases hs with q | q <;> cases q
def LeafG (kd : Int) (n : Nd) : Prop := GoodN n ∧ NumN n ∧ n.kind = kd
theorem range_good {kd : Int} {strs : Bool} (hk : (strs = true ∧ (kd = 8 ∨ kd = 9)) ∨ (strs = false ∧ kd = 10)) {a : TkK} (ha : a.good ∨ a = .fin ∨ a = .bad) (has : a.isSort strs = true ∨ a = .fin) {ks ks' : List Tk} {n : Nd} (ht : TG ks) (h : upF kd strs a ks = .ok (ks', n)) : LeafG kd n ∧ TG ks' := by
  obtain ⟨a1, a2, a3, a4, a5⟩ := sort_good ha strs has
  unfold upF at h
  split at h
  · rename_i hso
    obtain ⟨b1, b2, b3, b4, b5⟩ := sort_good ht.hd strs (.inl hso)
    split at h
    · rename_i hlt
      cases ht2 : takeF ks with
      | error e => rw [ht2] at h; cases h
      | ok k2 =>
        rw [ht2] at h
        cases h
        refine ⟨⟨⟨a1, b1, fun q => (by cases q), ?_⟩, ⟨a2, a3, b2, b3⟩, rfl⟩, by rw [takeF_ok ht2]; exact ht.tail⟩
        rcases hk with ⟨rfl, hk⟩ | ⟨rfl, hk⟩
        · refine .inr (.inl ⟨hk, ⟨a4 rfl, b4 rfl, rfl⟩, fun _ => ?_⟩)
          rcases hlt with q | q
          · exact q
          · rw [a4 rfl, b4 rfl] at q; omega
        · refine .inr (.inr (.inl ⟨hk, ⟨a5 rfl, b5 rfl, rfl⟩, fun _ => ?_⟩))
          rcases hlt with q | q
          · rw [noS_of (b5 rfl)] at q
            exact absurd q (less_nil _)
          · exact q
    · cases h
  · cases h
    refine ⟨⟨⟨a1, by show noS.size ≤ 200; decide, fun _ => ⟨noS_list, rfl⟩, ?_⟩, ⟨a2, a3, by show (0:Int) ≤ 0; omega, by show (0:Int) < 2 ^ 64; omega⟩, rfl⟩, ht⟩
    rcases hk with ⟨rfl, hk⟩ | ⟨rfl, hk⟩
    · exact .inr (.inl ⟨hk, ⟨a4 rfl, rfl, rfl⟩, fun q => (by cases q)⟩)
    · exact .inr (.inr (.inl ⟨hk, ⟨a5 rfl, noS_list, rfl⟩, fun q => (by cases q)⟩))
theorem dots_good {kd : Int} {strs : Bool} (hk : (strs = true ∧ (kd = 8 ∨ kd = 9)) ∨ (strs = false ∧ kd = 10)) {a : TkK} (ha : a.good ∨ a = .fin ∨ a = .bad) (has : a.isSort strs = true ∨ a = .fin) {ks ks' : List Tk} {n : Nd} (ht : TG ks) (h : dotsF kd strs a ks = .ok (ks', n)) : LeafG kd n ∧ TG ks' := by
  unfold dotsF at h
  cases he : expectF 46 ks with
  | error e => rw [he] at h; cases h
  | ok k2 =>
    rw [he] at h
    exact range_good hk ha has (by rw [expectF_ok he]; exact ht.tail) h
theorem rangeF_good {kd : Int} {strs : Bool} (hk : (strs = true ∧ (kd = 8 ∨ kd = 9)) ∨ (strs = false ∧ kd = 10)) {ks ks' : List Tk} {n : Nd} (ht : TG ks) (h : rangeF kd strs ks = .ok (ks', n)) : LeafG kd n ∧ TG ks' := by
  unfold rangeF at h
  split at h
  · rename_i hso
    cases he : takeF ks with
    | error e => rw [he] at h; cases h
    | ok k2 =>
      rw [he] at h
      exact dots_good hk ht.hd (.inl hso) (by rw [takeF_ok he]; exact ht.tail) h
  · exact dots_good hk (.inr (.inl rfl)) (.inr rfl) ht h
theorem args_good {kd : Int} (h1 : 1 ≤ kd) (h2 : kd ≤ 13) {ks ks' : List Tk} {n : Nd} (ht : TG ks) (h : argsF kd ks = .ok (ks', n)) : LeafG kd n ∧ TG ks' := by
  unfold argsF at h
  split at h
  · cases h
    obtain ⟨g1, g2⟩ := good_kind (k := kd) (by omega)
    exact ⟨⟨g1, g2, rfl⟩, ht⟩
  split at h
  · have hg := ht.hd
    cases hk : hdK ks with
    | str s =>
      rw [hk] at h hg
      dsimp only at h
      split at h
      · rename_i hc
        cases he : takeF ks with
        | error e => rw [he] at h; cases h
        | ok k2 =>
          rw [he] at h
          cases h
          have hs : s.size ≤ 200 := by
            rcases hg with q | q | q
            · exact q
            · cases q
            · cases q
          refine ⟨⟨⟨hs, by show noS.size ≤ 200; decide, fun _ => ⟨noS_list, rfl⟩, .inl ⟨by show kd = 4 ∨ kd = 5 ∨ kd = 6 ∨ kd = 7; omega, ⟨rfl, noS_list, rfl, rfl, rfl⟩, hc⟩⟩, ⟨by show (0:Int) ≤ 0; omega, by show (0:Int) < 2 ^ 64; omega, by show (0:Int) ≤ 0; omega, by show (0:Int) < 2 ^ 64; omega⟩, rfl⟩, by rw [takeF_ok he]; exact ht.tail⟩
      · cases h
    | _ => rw [hk] at h; cases h
  split at h
  · exact rangeF_good (.inl ⟨rfl, by omega⟩) ht h
  split at h
  · exact rangeF_good (.inr ⟨rfl, by omega⟩) ht h
  · cases hk : hdK ks with
    | num m =>
      rw [hk] at h
      dsimp only at h
      split at h
      · rename_i hc
        cases he : takeF ks with
        | error e => rw [he] at h; cases h
        | ok k2 =>
          rw [he] at h
          cases h
          refine ⟨⟨⟨by show noS.size ≤ 200; decide, by show noS.size ≤ 200; decide, fun _ => ⟨noS_list, rfl⟩, .inr (.inr (.inr (.inl ⟨by show kd = 11 ∨ kd = 12 ∨ kd = 13; omega, ⟨noS_list, rfl, noS_list, rfl, rfl⟩, hc⟩)))⟩, ⟨by show (0:Int) ≤ 0; omega, by show (0:Int) < 2 ^ 64; omega, by show (0:Int) ≤ 0; omega, by show (0:Int) < 2 ^ 64; omega⟩, rfl⟩, by rw [takeF_ok he]; exact ht.tail⟩
      · cases h
    | _ => rw [hk] at h; cases h
/- Trees. -/
theorem ShT.app {ss : List Shape} {xs : List Nd} (h : ShT goodB ss xs) {ts : List Shape} {ys : List Nd} (k : ShT goodB ts ys) : ShT goodB (ss ++ ts) (xs ++ ys) := by
  induction k with
  | nil => simpa using h
  | @snoc ts os ys n ho _ ih =>
    rw [← List.append_assoc, ← List.append_assoc]
    rw [← List.append_assoc] at ih
    exact .snoc n ho ih
structure Tre (p : List Nd) (sh : Shape) : Prop where
  tr : ShT goodB [sh] p
  ok : sh.valid = true
  nn : ∀ e ∈ p, NumN e
def Gd (Q : Shape → Prop) (R : Ps → PR Ps → Prop) : Prop := ∀ s s1, R s (.ok s1) → TG s.ks → s.made ≤ 200 → ∃ p sh, s1.out = s.out ++ p ∧ Tre p sh ∧ Q sh ∧ s1.made = s.made + p.length ∧ s1.made ≤ 200 ∧ TG s1.ks
def Qp (d : Nat) (sh : Shape) : Prop := (strong sh.kind = 3 ∧ sh.nest ≤ d) ∨ sh.nest + 1 ≤ d
def Qc (d : Nat) (sh : Shape) : Prop := (2 ≤ strong sh.kind ∧ sh.nest ≤ d) ∨ sh.nest + 1 ≤ d
def Qf (d : Nat) (sh : Shape) : Prop := sh.nest ≤ d
theorem tre_two {kd : Int} (hk : kd = 14 ∨ kd = 15) {p q : List Nd} {a b : Shape} (ha : Tre p a) (hb : Tre q b) : Tre (p ++ (q ++ [leafN kd])) (shapeM goodB (leafN kd) [a, b]) := by
  obtain ⟨g1, g2⟩ := good_kind (k := kd) (by omega)
  refine ⟨?_, ?_, ?_⟩
  · have h := ha.tr.app hb.tr
    have := ShT.snoc (G := goodB) (ss := []) (os := [a, b]) (xs := p ++ q) (leafN kd) (by show 2 = arity kd; rcases hk with rfl | rfl <;> rfl) h
    rw [List.append_assoc] at this
    exact this
  · show (goodB (leafN kd) && [a, b].all (·.valid)) = true
    rw [(goodB_iff _).2 g1]
    simp [ha.ok, hb.ok]
  · intro e he
    rcases List.mem_append.1 he with he | he
    · exact ha.nn e he
    · rcases List.mem_append.1 he with he | he
      · exact hb.nn e he
      · rw [List.mem_singleton] at he; rw [he]; exact g2
theorem tre_three {p q r : List Nd} {a b c : Shape} (ha : Tre p a) (hb : Tre q b) (hc : Tre r c) : Tre (p ++ (q ++ (r ++ [leafN 16]))) (shapeM goodB (leafN 16) [a, b, c]) := by
  obtain ⟨g1, g2⟩ := good_kind (k := 16) (by omega)
  refine ⟨?_, ?_, ?_⟩
  · have h := (ha.tr.app hb.tr).app hc.tr
    have := ShT.snoc (G := goodB) (ss := []) (os := [a, b, c]) (xs := p ++ q ++ r) (leafN 16) (by show 3 = arity 16; rfl) h
    simp only [List.append_assoc] at this
    exact this
  · show (goodB (leafN 16) && [a, b, c].all (·.valid)) = true
    rw [(goodB_iff _).2 g1]
    simp [ha.ok, hb.ok, hc.ok]
  · intro e he
    rcases List.mem_append.1 he with he | he
    · exact ha.nn e he
    · rcases List.mem_append.1 he with he | he
      · exact hb.nn e he
      · rcases List.mem_append.1 he with he | he
        · exact hc.nn e he
        · rw [List.mem_singleton] at he; rw [he]; exact g2
theorem maker_inv {s s1 : Ps} (h : makerF s = .ok s1) : s.made < 200 ∧ s1.made = s.made + 1 ∧ s1.out = s.out ∧ s1.ks = s.ks.tail := by
  unfold makerF at h
  split at h
  · rename_i hm
    cases ht : takeF s.ks with
    | error e => rw [ht] at h; cases h
    | ok k2 =>
      rw [ht] at h
      cases h
      exact ⟨hm, rfl, rfl, takeF_ok ht⟩
  · cases h
theorem to_inv {s s1 : Ps} {r : PR (List Tk)} (h : s.to r = .ok s1) (hr : ∀ k, r = .ok k → k = s.ks.tail) : s1.made = s.made ∧ s1.out = s.out ∧ s1.ks = s.ks.tail := by
  cases r with
  | error e => cases h
  | ok k => cases h; exact ⟨rfl, rfl, hr k rfl⟩
theorem enter_inv {d : Nat} {s s1 : Ps} (h : enterF d s = .ok s1) : ¬ d = 0 ∧ s1.made = s.made ∧ s1.out = s.out ∧ s1.ks = s.ks.tail := by
  unfold enterF at h
  split at h
  · split at h
    · cases h
    · rename_i hd
      exact ⟨hd, to_inv h (fun k q => takeF_ok q)⟩
  · cases h
theorem leave_inv {s s1 : Ps} (h : leaveF s = .ok s1) : s1.made = s.made ∧ s1.out = s.out ∧ s1.ks = s.ks.tail := to_inv h (fun k q => expectF_ok q)
theorem comma_inv {s s1 : Ps} (h : commaF s = .ok s1) : s1.made = s.made ∧ s1.out = s.out ∧ s1.ks = s.ks.tail := to_inv h (fun k q => expectF_ok q)
theorem bind_ok {α β γ : Type} {A : α → PR β → Prop} {B : β → PR γ → Prop} {s : α} {x : γ} (h : bindR A B s (.ok x)) : ∃ s1, A s (.ok s1) ∧ B s1 (.ok x) := by
  rcases h with ⟨e, _, q⟩ | h
  · cases q
  · exact h
theorem fn_ok {α β : Type} {f : α → PR β} {s : α} {x : β} (h : fnR f s (.ok x)) : f s = .ok x := Eq.symm h
theorem gd_loop {sg : UInt8} {kd : Int} (hk : kd = 14 ∨ kd = 15) {R : Ps → PR Ps → Prop} {Q QJ : Shape → Prop} (hR : Gd Q R) (hQ : ∀ a b, QJ a → Q b → QJ (shapeM goodB (leafN kd) [a, b])) {s : Ps} {r : PR Ps} (h : LoopR sg kd R s r) : ∀ s1, r = .ok s1 → ∀ out0 md0 p sh, s.out = out0 ++ p → Tre p sh → QJ sh → s.made = md0 + p.length → s.made ≤ 200 → TG s.ks →
    ∃ p' sh', s1.out = out0 ++ p' ∧ Tre p' sh' ∧ QJ sh' ∧ s1.made = md0 + p'.length ∧ s1.made ≤ 200 ∧ TG s1.ks := by
  induction h with
  | stop h =>
    intro s1 q out0 md0 p sh h1 h2 h3 h4 h5 h6
    cases q
    exact ⟨p, sh, h1, h2, h3, h4, h5, h6⟩
  | e1 h h1 => intro s1 q; cases q
  | e2 h h1 h2 => intro s1 q; cases q
  | @more s sa sb r h hm hr _ ih =>
    intro s1 q out0 md0 p sh h1 h2 h3 h4 h5 h6
    obtain ⟨m1, m2, m3, m4⟩ := maker_inv hm
    obtain ⟨p2, sh2, e1, e2, e3, e4, e5, e6⟩ := hR sa sb hr (by rw [m4]; exact h6.tail) (by omega)
    refine ih s1 q out0 md0 (p ++ (p2 ++ [leafN kd])) _ ?_ (tre_two hk h2 e2) (hQ _ _ h3 e3) ?_ e5 e6
    · show sb.out ++ [leafN kd] = _
      rw [e1, m3, h1]; simp
    · show sb.made = _
      simp only [List.length_append, List.length_singleton]
      omega
theorem gd_join {sg : UInt8} {kd : Int} (hk : kd = 14 ∨ kd = 15) {R : Ps → PR Ps → Prop} {Q QJ : Shape → Prop} (hR : Gd Q R) (h0 : ∀ a, Q a → QJ a) (hQ : ∀ a b, QJ a → Q b → QJ (shapeM goodB (leafN kd) [a, b])) : Gd QJ (JoinR sg kd R) := by
  intro s s1 h ht hm
  obtain ⟨s0, h1, h2⟩ := bind_ok h
  obtain ⟨p, sh, e1, e2, e3, e4, e5, e6⟩ := hR s s0 h1 ht hm
  exact gd_loop hk hR hQ h2 s1 rfl s.out s.made p sh e1 e2 (h0 _ e3) e4 e5 e6
theorem gd_prim {F : Ps → PR Ps → Prop} {d : Nat} (hF : 0 < d → Gd (Qf (d - 1)) F) : Gd (Qp d) (PrimR F d) := by
  intro s s1 h ht hm
  rcases h with ⟨_, h⟩ | ⟨_, h⟩ | ⟨k, hk, h16, h⟩ | ⟨_, _, h⟩
  · obtain ⟨sa, ha, h⟩ := bind_ok h
    obtain ⟨sb, hb, h⟩ := bind_ok h
    obtain ⟨a0, a1, a2, a3⟩ := enter_inv (fn_ok ha)
    obtain ⟨c1, c2, c3⟩ := leave_inv (fn_ok h)
    obtain ⟨p, sh, e1, e2, e3, e4, e5, e6⟩ := hF (by omega) sa sb hb (by rw [a3]; exact ht.tail) (by omega)
    have e3' : sh.nest ≤ d - 1 := e3
    exact ⟨p, sh, by rw [c2, e1, a2], e2, .inr (by omega), by omega, by omega, by rw [c3]; exact e6.tail⟩
  · obtain ⟨sm, hsm, h⟩ := bind_ok h
    obtain ⟨sx, h, hx⟩ := bind_ok h
    obtain ⟨sa, ha, h⟩ := bind_ok h
    obtain ⟨s2, h2, h⟩ := bind_ok h
    obtain ⟨s3, h3, h⟩ := bind_ok h
    obtain ⟨s4, h4, h⟩ := bind_ok h
    obtain ⟨s5, h5, h⟩ := bind_ok h
    obtain ⟨s6, h6, h⟩ := bind_ok h
    obtain ⟨m1, m2, m3, m4⟩ := maker_inv (fn_ok hsm)
    obtain ⟨a0, a1, a2, a3⟩ := enter_inv (fn_ok ha)
    have hd : 0 < d := by omega
    obtain ⟨p, sp, p1, p2, p3, p4, p5, p6⟩ := hF hd sa s2 h2 (by rw [a3, m4]; exact ht.tail.tail) (by omega)
    obtain ⟨b1, b2, b3⟩ := comma_inv (fn_ok h3)
    obtain ⟨q, sq, q1, q2, q3, q4, q5, q6⟩ := hF hd s3 s4 h4 (by rw [b3]; exact p6.tail) (by omega)
    obtain ⟨c1, c2, c3⟩ := comma_inv (fn_ok h5)
    obtain ⟨r, sr, r1, r2, r3, r4, r5, r6⟩ := hF hd s5 s6 h6 (by rw [c3]; exact q6.tail) (by omega)
    obtain ⟨d1, d2, d3⟩ := leave_inv (fn_ok h)
    have hx2 := fn_ok hx
    cases hx2
    have p3' : sp.nest ≤ d - 1 := p3
    have q3' : sq.nest ≤ d - 1 := q3
    have r3' : sr.nest ≤ d - 1 := r3
    refine ⟨p ++ (q ++ (r ++ [leafN 16])), _, ?_, tre_three p2 q2 r2, .inl ⟨rfl, ?_⟩, ?_, ?_, ?_⟩
    · show sx.out ++ [leafN 16] = _
      rw [d2, r1, c2, q1, b2, p1, a2, m3]; simp
    · rw [nest3]
      simp [level, leafN]
      omega
    · show sx.made = _
      simp only [List.length_append, List.length_singleton]
      omega
    · show sx.made ≤ 200
      omega
    · show TG sx.ks
      rw [d3]; exact r6.tail
  · obtain ⟨sm, hsm, h⟩ := bind_ok h
    obtain ⟨m1, m2, m3, m4⟩ := maker_inv (fn_ok hsm)
    have hkd : 1 ≤ k ∧ k ≤ 13 := by
      have := ht.hd
      rw [hk] at this
      rcases this with (q | q) | q | q
      · exact q
      · exact absurd q h16
      · cases q
      · cases q
    have h2 := fn_ok h
    unfold argF at h2
    cases ha : argsF k sm.ks with
    | error e => rw [ha] at h2; cases h2
    | ok x =>
      obtain ⟨ks', n⟩ := x
      rw [ha] at h2
      cases h2
      obtain ⟨⟨g1, g2, g3⟩, g4⟩ := args_good hkd.1 hkd.2 (by rw [m4]; exact ht.tail) ha
      have har : arity n.kind = 0 := by
        rw [g3]
        unfold arity
        rw [if_neg (by omega), if_neg (by omega)]
      refine ⟨[n], shapeM goodB n [], by rw [← m3], ⟨?_, ?_, ?_⟩, .inl ⟨?_, ?_⟩, ?_, ?_, g4⟩
      · exact ShT.snoc (G := goodB) (ss := []) (os := []) (xs := []) n har.symm .nil
      · show (goodB n && ([] : List Shape).all (·.valid)) = true
        rw [(goodB_iff _).2 g1]; rfl
      · intro e he; rw [List.mem_singleton] at he; rw [he]; exact g2
      · show strong n.kind = 3
        rw [g3]
        unfold strong
        rw [if_neg (by omega), if_neg (by omega)]
      · exact Nat.zero_le _
      · show sm.made = _; simp; omega
      · show sm.made ≤ 200; omega
  · cases h
theorem gd_cha {F : Ps → PR Ps → Prop} {d : Nat} (hF : 0 < d → Gd (Qf (d - 1)) F) : Gd (Qc d) (ChaR F d) := by
  refine gd_join (.inl rfl) (gd_prim hF) (fun a h => ?_) (fun a b ha hb => ?_)
  · rcases h with ⟨h1, h2⟩ | h
    · exact .inl ⟨by omega, h2⟩
    · exact .inr h
  · refine .inl ⟨by show 2 ≤ strong 14; decide, ?_⟩
    rw [nest2]
    have la : (level 14 0 a.kind = true → strong a.kind < 2) := fun q => by
      unfold level at q
      rw [show strong 14 = 2 from rfl] at q
      simpa using q
    have lb : (level 14 1 b.kind = true → strong b.kind ≤ 2) := fun q => by
      unfold level at q
      rw [show strong 14 = 2 from rfl] at q
      simpa using q
    show max (max 0 (a.nest + if level 14 0 a.kind = true then 1 else 0)) (b.nest + if level 14 1 b.kind = true then 1 else 0) ≤ d
    have e1 : a.nest + (if level 14 0 a.kind = true then 1 else 0) ≤ d := by
      split
      · rename_i q
        rcases ha with ⟨h1, h2⟩ | h
        · have := la q; omega
        · exact h
      · rcases ha with ⟨h1, h2⟩ | h
        · exact h2
        · omega
    have e2 : b.nest + (if level 14 1 b.kind = true then 1 else 0) ≤ d := by
      split
      · rename_i q
        rcases hb with ⟨h1, h2⟩ | h
        · have := lb q; omega
        · exact h
      · rcases hb with ⟨h1, h2⟩ | h
        · exact h2
        · omega
    omega
theorem gd_fil0 {F : Ps → PR Ps → Prop} {d : Nat} (hF : 0 < d → Gd (Qf (d - 1)) F) : Gd (Qf d) (JoinR 124 15 (ChaR F d)) := by
  refine gd_join (.inr rfl) (gd_cha hF) (fun a h => ?_) (fun a b ha hb => ?_)
  · rcases h with ⟨h1, h2⟩ | h
    · exact h2
    · show a.nest ≤ d; omega
  · show (shapeM goodB (leafN 15) [a, b]).nest ≤ d
    rw [nest2]
    have ha' : a.nest ≤ d := ha
    have la : level 15 0 a.kind = false := by
      unfold level
      have := strong_le a.kind
      rw [show strong 15 = 1 from rfl]
      simp
      omega
    have lb : (level 15 1 b.kind = true → strong b.kind ≤ 1) := fun q => by
      unfold level at q
      rw [show strong 15 = 1 from rfl] at q
      simpa using q
    show max (max 0 (a.nest + if level 15 0 a.kind = true then 1 else 0)) (b.nest + if level 15 1 b.kind = true then 1 else 0) ≤ d
    rw [la]
    have e2 : b.nest + (if level 15 1 b.kind = true then 1 else 0) ≤ d := by
      split
      · rename_i q
        rcases hb with ⟨h1, h2⟩ | h
        · have := lb q; omega
        · exact h
      · rcases hb with ⟨h1, h2⟩ | h
        · exact h2
        · omega
    simp only [Bool.false_eq_true, if_false]
    omega
theorem gd_fil : ∀ d, Gd (Qf d) (FilR d)
  | 0 => gd_fil0 (fun q => absurd q (Nat.lt_irrefl _))
  | d + 1 => gd_fil0 (fun _ => gd_fil d)
/-- What has been read is good. -/
theorem parsed_good {ks : List Tk} {s : Ps} (hT : Toks ks) (h : ParR ks (.ok s)) : GoodF s.out ∧ ∀ e ∈ s.out, NumN e := by
  rcases h with ⟨_, h⟩ | ⟨_, h⟩
  · cases h
  · obtain ⟨s1, h1, h2⟩ := bind_ok h
    obtain ⟨p, sh, e1, e2, e3, e4, e5, e6⟩ := gd_fil 20 _ _ h1 (toks_tg hT) (Nat.zero_le _)
    have h3 := fn_ok h2
    unfold endF at h3
    split at h3
    · cases h3
      rw [e1]
      simp only [List.nil_append]
      refine ⟨⟨?_, sh, e2.tr, e2.ok, e3⟩, e2.nn⟩
      have : s.made = 0 + p.length := e4
      omega
    · cases h3
end Go.Proofs.YtgnpcenpcmdlfaaGreatDoor

/-
  laws' eqFilterRes, markFilterRes, heldFilterRes; the answers of both, in one.
-/
namespace Go.Proofs.YtgnpcenpcmdlfaaGreatDoor
open Go.ChangeShapes Go.WideShapes Go.ChangeAt Go.RowKit Go.Deep
set_option linter.unusedVariables false
set_option linter.unusedSimpArgs false
set_option maxRecDepth 100000

theorem OwnUN.sli {w : World} {base : Nat} {u : Value} {R : List Nd} (h : OwnUN w base u R) : ∃ a n c, u = .slice a n c := by
  rcases h with ⟨rfl, _⟩ | ⟨g, cp, rfl, _⟩
  · exact ⟨_, _, _, rfl⟩
  · exact ⟨_, _, _, rfl⟩
set_option maxHeartbeats 1000000 in
theorem eqFilterRes_same (err at_ : Int) (a : Option Addr) (n c : Nat) (a' : Option Addr) (n' c' : Nat) (es : List Nd) (base base' : Nat) (w : World) (h : OwnUN w base (.slice a n c) es) (h' : OwnUN w base' (.slice a' n' c') es) :
    Calls Tryz.prog 9 #[.agg #[.int .i64 err, .int .i64 at_, .slice a n c], .agg #[.int .i64 err, .int .i64 at_, .slice a' n' c']] w fun e w' => e = .returned (.bool true) ∧ Below w.heap.size w w' := by
  obtain ⟨W, hW⟩ : ∃ W : World, W = (w.alloc (Obj.cells #[.int .i64 err, .int .i64 at_, .slice a n c] 27)).alloc (Obj.cells #[.int .i64 err, .int .i64 at_, .slice a' n' c'] 27) := ⟨_, rfl⟩
  have hb : Below w.heap.size w W := by rw [hW]; exact ((Below.refl _ _).alloc (Nat.le_refl _) _).alloc (by simp) _
  have HU : Hid (OwnUN W base (.slice a n c) es ∧ OwnUN W base' (.slice a' n' c') es) := ⟨h.below hb, h'.below hb⟩
  clear h h'
  go_enter Tryz.func9, Tryz.ntmps9
  go_wp2_with fail
  rw [← hW]
  refine (eqFilter_any (.slice a n c) (.slice a' n' c') es _ HU.out.1.ins HU.out.2.ins).mono ?_
  rintro e w1 ⟨rfl, hb1⟩
  clear hW
  go_wp2_with fail
  go_ret
  exact ⟨rfl, hb.trans (hb1.mono hb.size)⟩
set_option maxHeartbeats 1000000 in
theorem markFilterRes_own (err at_ : Int) (a : Option Addr) (n c : Nat) (base : Nat) (R : List Nd) (w : World) (h : OwnUN w base (.slice a n c) R) (hn : R.length ≤ 1048576) :
    Calls Tryz.prog 12 #[.agg #[.int .i64 err, .int .i64 at_, .slice a n c], .int .i64 1] w fun e w' =>
      ∃ R', e = .returned (.int .i64 (1 + R.length * 7)) ∧ OwnUN w' base (.slice a n c) R' ∧ R'.length = R.length ∧ markedN 1 R' R'.length ∧ w.grownBy w' (Value.slice a n c).ownBlock := by
  obtain ⟨W, hW⟩ : ∃ W : World, W = w.alloc (Obj.cells #[.int .i64 err, .int .i64 at_, .slice a n c] 27) := ⟨_, rfl⟩
  have hb : Below w.heap.size w W := by rw [hW]; exact (Below.refl _ _).alloc (Nat.le_refl _) _
  have HU : Hid (OwnUN W base (.slice a n c) R) := h.below hb
  clear h
  go_enter Tryz.func12, Tryz.ntmps12
  go_wp2_with fail
  rw [← hW]
  refine (markFilter_own base (.slice a n c) R 1 _ HU.out (by omega) (by omega) hn).mono ?_
  rintro e w1 ⟨R', rfl, hU', hl, hm, hg1⟩
  have HF : Hid (OwnUN w1 base (.slice a n c) R' ∧ R'.length = R.length ∧ markedN 1 R' R'.length ∧ w.grownBy w1 (Value.slice a n c).ownBlock) := ⟨hU', hl, hm, (grown_of_below hb _).trans hg1⟩
  clear hU' hl hm hg1 hW
  go_wp2_with fail
  go_ret
  exact ⟨R', rfl, HF.out.1, HF.out.2.1, HF.out.2.2.1, HF.out.2.2.2⟩
set_option maxHeartbeats 1000000 in
theorem heldFilterRes_own (err at_ : Int) (a : Option Addr) (n c : Nat) (base : Nat) (R : List Nd) (w : World) (h : OwnUN w base (.slice a n c) R) (hm : markedN 1 R R.length) (hn : R.length ≤ 1048576) :
    Calls Tryz.prog 13 #[.agg #[.int .i64 err, .int .i64 at_, .slice a n c], .int .i64 1] w fun e w' => e = .returned (.int .i64 (1 + R.length * 7)) ∧ Below w.heap.size w w' := by
  obtain ⟨W, hW⟩ : ∃ W : World, W = w.alloc (Obj.cells #[.int .i64 err, .int .i64 at_, .slice a n c] 27) := ⟨_, rfl⟩
  have hb : Below w.heap.size w W := by rw [hW]; exact (Below.refl _ _).alloc (Nat.le_refl _) _
  have HU : Hid (OwnUN W base (.slice a n c) R ∧ markedN 1 R R.length) := ⟨h.below hb, hm⟩
  clear h hm
  go_enter Tryz.func13, Tryz.ntmps13
  go_wp2_with fail
  rw [← hW]
  refine (heldFilter_own base (.slice a n c) R 1 _ HU.out.1 HU.out.2 (by omega) (by omega) hn).mono ?_
  rintro e w1 ⟨rfl, hb1⟩
  clear hW
  have hge : 0 ≤ 1 + (R.length : Int) * 7 := by omega
  go_wp2_with fail
  go_ret
  exact ⟨rfl, hb.trans (hb1.mono hb.size)⟩
/-- The answer to a text. -/
def AnsOf (t : List UInt8) (c a : Int) (ns : List Nd) : Prop :=
  (4000 < t.length ∧ c = 1 ∧ a = 0 ∧ ns = []) ∨ (t.length ≤ 4000 ∧ ∃ ks, LexR t 0 ks ∧ ((MEnds (⟨ks, 0, [], [], true⟩ : Ms) (.ok ns) ∧ c = 0 ∧ a = 0) ∨ ∃ p : Nat, MEnds (⟨ks, 0, [], [], true⟩ : Ms) (.error (c, p)) ∧ a = (p : Int) ∧ 1 ≤ c ∧ ns = []))
theorem AnsOf.one {t : List UInt8} {c a c' a' : Int} {ns ns' : List Nd} (h : AnsOf t c a ns) (k : AnsOf t c' a' ns') : c = c' ∧ a = a' ∧ ns = ns' := by
  rcases h with ⟨h1, rfl, rfl, rfl⟩ | ⟨h1, ks, hk, h2⟩
  · rcases k with ⟨_, rfl, rfl, rfl⟩ | ⟨k1, _⟩
    · exact ⟨rfl, rfl, rfl⟩
    · omega
  · rcases k with ⟨k1, _⟩ | ⟨k1, ks', hk', k2⟩
    · omega
    · obtain rfl := hk.one hk'
      rcases h2 with ⟨e1, rfl, rfl⟩ | ⟨p, e1, rfl, _, rfl⟩
      · rcases k2 with ⟨f1, rfl, rfl⟩ | ⟨q, f1, rfl, _, rfl⟩
        · have := e1.one f1
          cases this
          exact ⟨rfl, rfl, rfl⟩
        · have := e1.one f1
          cases this
      · rcases k2 with ⟨f1, rfl, rfl⟩ | ⟨q, f1, rfl, _, rfl⟩
        · have := e1.one f1
          cases this
        · have := e1.one f1
          cases this
          exact ⟨rfl, rfl, rfl⟩
/-- A result in memory. -/
def ResU (base : Nat) (c a : Int) (ns : List Nd) (v : Value) (w' : World) : Prop := ∃ oa on oc, v = .agg #[.int .i64 c, .int .i64 a, .slice oa on oc] ∧ OwnUN w' base (.slice oa on oc) ns
theorem SfR.ans {base : Nat} {t : List UInt8} {v : Value} {w' : World} (h : SfR base t v w') : ∃ c a ns, AnsOf t c a ns ∧ ResU base c a ns v w' := by
  obtain ⟨c, a, nv, rfl, ⟨h1, rfl, rfl, rfl⟩ | ⟨h1, ks, hk, ⟨ns, go, co, hM, rfl, rfl, rfl, hO⟩ | ⟨p, hM, rfl, hc, rfl⟩⟩⟩ := h
  · exact ⟨1, 0, [], .inl ⟨h1, rfl, rfl, rfl⟩, _, _, _, rfl, .inl ⟨rfl, rfl⟩⟩
  · exact ⟨0, 0, ns, .inr ⟨h1, ks, hk, .inl ⟨hM, rfl, rfl⟩⟩, _, _, _, rfl, .inr ⟨go, co, rfl, hO⟩⟩
  · exact ⟨c, p, [], .inr ⟨h1, ks, hk, .inr ⟨p, hM, rfl, hc, rfl⟩⟩, _, _, _, rfl, .inl ⟨rfl, rfl⟩⟩
theorem ownUN_row {w : World} {base : Nat} {v : Value} {R : List Nd} (h : w.ownsRow base 65 7 v R.length (cellsN R)) (hne : ¬ R = []) : OwnUN w base v R := by
  rcases h.2 with ⟨h0, hz⟩ | ⟨g', cap', cur, hv, _⟩
  · exfalso
    exact hne (List.length_eq_zero_iff.1 hz)
  · exact .inr ⟨g', cap', hv, by rw [hv] at h; exact h⟩
theorem goodF_ne {R : List Nd} (h : GoodF R) : ¬ R = [] := by
  obtain ⟨_, s, hs, _⟩ := h
  have h1 := (ShT.tree goodB hs).len
  intro q
  subst q
  simp at h1
theorem PfR.ans {base : Nat} {t : List UInt8} {v : Value} {w' : World} (h : PfR base t v w') : ∃ c a ns, AnsOf t c a ns ∧ ResU base c a ns v w' ∧ ns.length ≤ 200000 := by
  obtain ⟨c, a, nv, rfl, ⟨h1, rfl, rfl, rfl⟩ | ⟨h1, ks, hk, ⟨s1, hP, rfl, rfl, hO, hl⟩ | ⟨p, hP, rfl, hc, rfl⟩⟩⟩ := h
  · exact ⟨1, 0, [], .inl ⟨h1, rfl, rfl, rfl⟩, ⟨_, _, _, rfl, .inl ⟨rfl, rfl⟩⟩, by simp⟩
  · have hg := (parsed_good hk.toks hP).1
    have hU := ownUN_row hO (goodF_ne hg)
    obtain ⟨oa, on, oc, rfl⟩ := hU.sli
    exact ⟨0, 0, s1.out, .inr ⟨h1, ks, hk, .inl ⟨par_same hP, rfl, rfl⟩⟩, ⟨_, _, _, rfl, hU⟩, hl⟩
  · exact ⟨c, p, [], .inr ⟨h1, ks, hk, .inr ⟨p, par_same hP, rfl, hc, rfl⟩⟩, ⟨_, _, _, rfl, .inl ⟨rfl, rfl⟩⟩, by simp⟩
end Go.Proofs.YtgnpcenpcmdlfaaGreatDoor

/-
  laws.toByteS, laws.eqByteS.
-/
namespace Go.Proofs.YtgnpcenpcmdlfaaGreatDoor
open Go.ChangeShapes Go.WideShapes Go.ChangeAt Go.RowKit Go.Deep
set_option linter.unusedVariables false
set_option linter.unusedSimpArgs false
set_option maxRecDepth 100000

theorem OwnY.set {w : World} {base g cp : Nat} {xs : List UInt8} (h : OwnY w base g cp xs) (k : Nat) (x : UInt8) : OwnY (w.setCell ⟨g, k, none⟩ (ub x)) base g cp (xs.set k x) := by
  have := (World.ownsRow.stored h k (ub x)).1
  unfold OwnY
  rw [List.length_set, List.map_set]
  exact this
set_option maxHeartbeats 1000000 in
theorem eqByteS_same (b off cap b' off' cap' : Nat) (xs : List UInt8) (w : World) (h : BysAt w b off xs) (h' : BysAt w b' off' xs) (hb : b < w.heap.size) (hb' : b' < w.heap.size) (hlen : xs.length ≤ maxLen) :
    Calls Tryz.prog 10 #[.slice (some ⟨b, off, none⟩) xs.length cap, .slice (some ⟨b', off', none⟩) xs.length cap'] w fun e w' => e = .returned (.bool true) ∧ Below w.heap.size w w' := by
  have HE : Hid (BysAt w b off xs ∧ BysAt w b' off' xs) := ⟨h, h'⟩
  clear h h'
  unfold maxLen at hlen
  go_enter Tryz.func10, Tryz.ntmps10
  go_wp2_with fail
  go_loopw [5] (fun i wr => ∃ (k : Nat), k ≤ xs.length ∧ i = .int .i64 k ∧ Below w.heap.size w wr) (fun i _ => xs.length - (intOf i).toNat)
  case atStart => exact ⟨0, Nat.zero_le _, rfl, Below.refl _ _⟩
  case round =>
    obtain ⟨k, hk, rfl, hbr⟩ := hrel
    by_cases hlt : k < xs.length
    · obtain ⟨x, hx⟩ : ∃ x, xs[k]? = some x := ⟨_, List.getElem?_eq_getElem hlt⟩
      have c0 := (HE.out.1.below hbr hb) k x hx
      have c1 := (HE.out.2.below hbr hb') k x hx
      have z : (k : Int) < (xs.length : Int) := by omega
      clear hx
      go_upto_region 6 with fail
      go_cut [25] (fun s wx => s = .bool false ∧ Below w.heap.size w wx)
      case first =>
        go_region
        all_goals go_wp2_with fail
        all_goals go_meet
        all_goals exact ⟨by simp, hbr.drew⟩
      case rest =>
      obtain ⟨rfl, h3⟩ := hcut
      clear c0 c1
      go_wp2_with fail
      go_roundw
      case rel => exact ⟨k + 1, by omega, by go_num, h3⟩
      case measure => simp [intOf]; omega
    · have z : ¬ (k : Int) < (xs.length : Int) := by omega
      go_wp2_with fail
      go_ret
      exact ⟨rfl, hbr⟩

theorem made_zeroY (n : Nat) : (madeCells #[.int .u8 0] n).toList = (List.replicate n (0 : UInt8)).map ub := by
  apply List.ext_getElem?
  intro j
  by_cases hj : j < n
  · rw [List.getElem?_map, List.getElem?_replicate, if_pos hj]
    simp [madeCells, hj, Nat.mod_one]
  · rw [List.getElem?_map, List.getElem?_replicate, if_neg hj]
    simp [madeCells, hj]
set_option maxHeartbeats 1000000 in
theorem toByteS_core (b off cap : Nat) (xs : List UInt8) (w : World) (h : BysAt w b off xs) (hb : b < w.heap.size) (h1 : xs.length ≤ 1048576) :
    Calls Tryz.prog 7 #[.slice (some ⟨b, off, none⟩) xs.length cap] w fun e w' =>
      ∃ g, e = .returned (.slice (some ⟨g, 0, none⟩) xs.length xs.length) ∧ OwnY w' w.heap.size g xs.length xs ∧ Below w.heap.size w w' := by
  have HE : Hid (BysAt w b off xs) := h
  clear h
  obtain ⟨i, hi, hz0, hz1, hz2⟩ := info_parts Tryz.infoByte
  have HI : Hid (Tryz.prog.info? 5 = some i ∧ i.zero = some (.int .u8 0) ∧ i.size = 1 ∧ i.bytes = 1) := ⟨hi, hz0, hz1, hz2⟩
  clear hi hz0 hz1 hz2
  go_enter Tryz.func7, Tryz.ntmps7
  go_wp2_with (at_make; refine wpList_make_full _ rfl _ _ 22 rfl w.heap.size 5 i _ 1 Tryz.underlying22 HI.out.1 HI.out.2.1 HI.out.2.2.1 _ _ _ _ xs.length rfl rfl ?_ ?_ ?hb ?hm ?hs ?_)
  case hb => rw [HI.out.2.2.2]; omega
  case hm => unfold maxLen; omega
  case hs => exact Nat.le_refl _
  · rfl
  · rfl
  intro w1 hown hgrow
  rw [made_zeroY] at hown
  have hown1 : OwnY w1 w.heap.size w.heap.size xs.length (List.replicate xs.length 0) := by
    unfold OwnY; rw [List.length_replicate]; exact hown
  have HW : Hid (OwnY w1 w.heap.size w.heap.size xs.length (List.replicate xs.length 0)) := hown1
  have hb1 : Below w.heap.size w w1 := (Below.refl _ _).grown hgrow (Nat.le_refl _) (fun k hk => by cases hk)
  clear hown hown1 hgrow
  go_wp2_with fail
  go_loopw [4] (fun i wr => ∃ (k : Nat) (ys : List UInt8), k ≤ xs.length ∧ i = .int .i64 k ∧ ys.length = xs.length ∧ ys.take k = xs.take k ∧ OwnY wr w.heap.size w.heap.size xs.length ys ∧ Below w.heap.size w wr) (fun i _ => xs.length - (intOf i).toNat)
  case atStart => exact ⟨0, _, Nat.zero_le _, rfl, List.length_replicate .., rfl, HW.out, hb1⟩
  case round =>
    obtain ⟨k, ys, hk, rfl, hfl, hft, hO, hbr⟩ := hrel
    have HO : Hid (ys.length = xs.length ∧ ys.take k = xs.take k ∧ OwnY wr w.heap.size w.heap.size xs.length ys) := ⟨hfl, hft, hO⟩
    clear hfl hft hO
    by_cases hlt : k < xs.length
    · obtain ⟨x, hx⟩ : ∃ x, xs[k]? = some x := ⟨_, List.getElem?_eq_getElem hlt⟩
      obtain ⟨y, hy⟩ : ∃ y, ys[k]? = some y := ⟨_, List.getElem?_eq_getElem (by rw [HO.out.1]; exact hlt)⟩
      have c0 := (HE.out.below hbr hb) k x hx
      have d0 := HO.out.2.2.at k y hy
      rw [Nat.zero_add] at d0
      have fz : wr.frozen? ⟨w.heap.size, k, none⟩ = false := World.ownsRow.frozenAt HO.out.2.2 k
      have z : (k : Int) < (xs.length : Int) := by omega
      have HN : Hid (OwnY (wr.setCell ⟨w.heap.size, k, none⟩ (ub x)) w.heap.size w.heap.size xs.length (ys.set k x) ∧ (ys.set k x).take (k + 1) = xs.take (k + 1)) := by
        refine ⟨HO.out.2.2.set k x, ?_⟩
        have hk2 : k < ys.length := by rw [HO.out.1]; exact hlt
        rw [List.take_add_one, List.take_add_one, List.take_set_of_le (Nat.le_refl _), HO.out.2.1, hx, List.getElem?_set_self hk2]
      have hbn : Below w.heap.size w (wr.setCell ⟨w.heap.size, k, none⟩ (ub x)) := hbr.setCell (p := ⟨w.heap.size, k, none⟩) (Nat.le_refl _) _
      clear hx hy
      go_wp2_with fail
      go_roundw
      case rel => exact ⟨k + 1, ys.set k x, by omega, by go_num, by rw [List.length_set]; exact HO.out.1, HN.out.2, HN.out.1, hbn⟩
      case measure => simp [intOf]; omega
    · have z : ¬ (k : Int) < (xs.length : Int) := by omega
      have HF : Hid (ys = xs) := by
        have h2 := HO.out.2.1
        have h3 := HO.out.1
        rw [List.take_of_length_le (by omega), List.take_of_length_le (by omega)] at h2
        exact h2
      go_wp2_with fail
      go_ret
      exact ⟨w.heap.size, rfl, by rw [← HF.out]; rw [HF.out]; have := HO.out.2.2; rw [HF.out] at this; exact this, hbr⟩
end Go.Proofs.YtgnpcenpcmdlfaaGreatDoor

/-
  laws.lwBytes of equal bytes, laws.lwLetter.
-/
namespace Go.Proofs.YtgnpcenpcmdlfaaGreatDoor
open Go.ChangeShapes Go.WideShapes Go.ChangeAt Go.RowKit Go.Deep
set_option linter.unusedVariables false
set_option linter.unusedSimpArgs false
set_option maxRecDepth 100000

theorem conv_bys {w : World} {b off cap : Nat} {xs : List UInt8} (h : BysAt w b off xs) : (convert 22 9 (.slice (some ⟨b, off, none⟩) xs.length cap)).run Tryz.prog w = .ok (.string ⟨xs.toArray⟩) w := by
  refine run_convert_bytes_back (P := Tryz.prog) w 22 9 5 ⟨b, off, none⟩ cap xs Tryz.underlying22 Tryz.underlying5 Tryz.underlying9 ?_
  intro i hi
  rw [Addr.add_mid, h i xs[i] (List.getElem?_eq_getElem hi)]
theorem lwBytes_same (b off cap b' off' cap' : Nat) (xs : List UInt8) (w : World) (h : BysAt w b off xs) (h' : BysAt w b' off' xs) :
    Calls Tryz.prog 18 #[.slice (some ⟨b, off, none⟩) xs.length cap, .slice (some ⟨b', off', none⟩) xs.length cap'] w fun e w' => e = .returned (.bool true) ∧ Below w.heap.size w w' := by
  have c1 := conv_bys (cap := cap) h
  have c2 := conv_bys (cap := cap') h'
  clear h h'
  go_enter Tryz.func18, Tryz.ntmps18
  go_wp2_with fail
  go_ret
  exact ⟨by simp, Below.refl _ _⟩

end Go.Proofs.YtgnpcenpcmdlfaaGreatDoor

/-
  The walk of the law FnPrintParse.
-/
namespace Go.Proofs.YtgnpcenpcmdlfaaGreatDoor
open Go.ChangeShapes Go.WideShapes Go.ChangeAt Go.RowKit Go.Deep
set_option linter.unusedVariables false
set_option linter.unusedSimpArgs false
set_option maxRecDepth 100000

/-- What stands when the law has drawn and printed. -/
structure QwI (w0 : World) (tf b o c nf g cp nr : Nat) (ys : List Nd) (R : List UInt8) (w : World) : Prop where
  bf : BoxAt w w0.heap.size 25 1 tf [.slice (some ⟨b, o, none⟩) nf c]
  wd : WdN w b o c ys
  ok : ∀ e ∈ ys, e.ok
  tx : OwnY w w0.heap.size g cp R
  gl : Gl w
  wds : WdsAt w
  er : ErrAt w
  below : Below w0.heap.size w0 w
  lf : nf = ys.length
  lr : nr = R.length
  hB : 7 ≤ w0.heap.size
theorem QwI.up {w0 : World} {tf b o c nf g cp nr : Nat} {ys : List Nd} {R : List UInt8} {w w' : World} (h : QwI w0 tf b o c nf g cp nr ys R w) (hb : Below w.heap.size w w') : QwI w0 tf b o c nf g cp nr ys R w' :=
  ⟨h.bf.below hb, h.wd.below hb h.wd.lt, h.ok, h.tx.below hb, h.gl.on hb (Nat.le_trans h.hB h.below.size), h.wds.chg (S := fun _ => False) (Chg.of_below hb) (fun q => q), h.er.chg (S := fun _ => False) (Chg.of_below hb) (fun q => q), h.below.trans (hb.mono h.below.size), h.lf, h.lr, h.hB⟩
theorem ans_text {ys : List Nd} {R : List UInt8} (hG : GoodF ys) (hok : ∀ e ∈ ys, e.ok) (hP : PrtOf ys R) (hl : R.length ≤ 4000) : AnsOf R 0 0 ys := by
  rcases hP with ⟨q, _⟩ | ⟨_, k, hT⟩
  · exact absurd hG q
  · obtain ⟨ks, s, h1, h2, h3⟩ := text_parse hG (fun e he => num_of_ok (hok e he)) hT
    have h4 := par_same h2
    have h5 : MEnds (⟨ks, 0, [], [], true⟩ : Ms) (.ok s.out) := h4
    rw [h3] at h5
    exact .inr ⟨hl, ks, h1, .inl ⟨h5, rfl, rfl⟩⟩
set_option maxHeartbeats 16000000 in
theorem fnPrintParse_walk (v0 : Value) (n0 : Nat) (w : World) (h0 : BytesIn w v0 n0) (hGl : Gl w) (hWd : WdsAt w) (hEr : ErrAt w) (hB : 7 ≤ w.heap.size) : Calls Tryz.prog 4 #[v0] w fun e w' => e = .returned (.bool true) ∧ Below w.heap.size w w' := by
  obtain ⟨a0, cap0, hv0⟩ := h0.slice
  subst hv0
  have HI : Hid (BytesIn w (.slice a0 n0 cap0) n0 ∧ Gl w ∧ WdsAt w ∧ ErrAt w ∧ 7 ≤ w.heap.size) := ⟨h0, hGl, hWd, hEr, hB⟩
  have hr0 := h0.1
  unfold maxLen at hr0
  clear h0 hGl hWd hEr hB
  by_cases hbig : 1048576 < n0
  · have z : (1048576 : Int) < (n0 : Int) := by omega
    go_enter Tryz.func4, Tryz.ntmps4
    go_wp2_with fail
    go_ret
    exact ⟨rfl, Below.refl _ _⟩
  have z : ¬ (1048576 : Int) < (n0 : Int) := by omega
  have h10 : n0 ≤ 1048576 := by omega
  go_enter Tryz.func4, Tryz.ntmps4
  go_wp2_with fail
  refine (drawPrint_core _ n0 _ (HI.out.1.code h10)).mono ?_
  rintro e w1 ⟨b, o, c, ys, rfl, hyl, H1⟩
  have hb1 : Below w.heap.size w w1 := H1.out.2
  obtain ⟨W1, hW1⟩ : ∃ W1 : World, W1 = w1.alloc (Obj.cells #[.slice (some ⟨b, o, none⟩) ys.length c] 25) := ⟨_, rfl⟩
  obtain ⟨tf, htf⟩ : ∃ tf, tf = w1.heap.size := ⟨_, rfl⟩
  obtain ⟨nf, hnf⟩ : ∃ nf, nf = ys.length := ⟨_, rfl⟩
  rw [← hnf] at hW1 hyl ⊢
  have s1 := hb1.size
  have kW1 : Below w1.heap.size w1 W1 := by rw [hW1]; exact (Below.refl _ _).alloc (Nat.le_refl _) _
  have hB1 : BoxAt W1 w.heap.size 25 1 tf [.slice (some ⟨b, o, none⟩) nf c] := by
    rw [hW1, htf]; exact boxAt_new w1 _ s1 rfl
  have kw1 : Below w.heap.size w W1 := hb1.trans (kW1.mono s1)
  have HW1 : Hid (BoxAt W1 w.heap.size 25 1 tf [.slice (some ⟨b, o, none⟩) nf c] ∧ WdN W1 b o c ys ∧ (∀ e ∈ ys, e.ok) ∧ nf = ys.length ∧ Below w.heap.size w W1) := by
    have h9 := H1.out.1
    exact ⟨hB1, (WdN.mk h9.2.1 h9.2.2.1.2 h9.2.2.2).below kW1 h9.2.2.1.2, h9.1, hnf, kw1⟩
  have HPi : Hid (∀ W, Below w.heap.size w W → WdN W b o c ys → Calls Tryz.prog 15 #[.agg #[.slice (some ⟨b, o, none⟩) nf c]] W (PrtU ys W)) := fun W hW hwd => by
    rw [HW1.out.2.2.2.1]
    exact implPrint_win hwd HW1.out.2.2.1 (HI.out.2.1.on hW HI.out.2.2.2.2) (Nat.le_trans HI.out.2.2.2.2 hW.size)
  have HPs : Hid (∀ W, WdN W b o c ys → Calls Tryz.prog 17 #[.agg #[.slice (some ⟨b, o, none⟩) nf c]] W (PrtS ys W)) := fun W hwd => by
    rw [HW1.out.2.2.2.1]
    exact specPrint_win hwd HW1.out.2.2.1
  have HVs : Hid (∀ W, WdN W b o c ys → Calls Tryz.prog 16 #[.agg #[.slice (some ⟨b, o, none⟩) nf c]] W (FltPost ys W)) := fun W hwd => by
    rw [HW1.out.2.2.2.1]
    exact specFilter_win hwd HW1.out.2.2.1
  clear H1 hb1 hnf kW1 hB1 kw1
  go_upto_region 4 with fail
  rw [← hW1, ← htf]
  clear hW1 htf
  have t0 := HW1.out.1.cell (j := 0) rfl
  have HP1 : Hid (Calls Tryz.prog 15 #[.agg #[.slice (some ⟨b, o, none⟩) nf c]] W1 (PrtU ys W1)) := HPi.out W1 HW1.out.2.2.2.2 HW1.out.2.1
  go_wp2_with fail
  refine HP1.out.mono ?_
  clear HP1 HPi
  rintro e w2 ⟨g, cp, R, rfl, hO2, hP2, hb2⟩
  obtain ⟨nr, hnr⟩ : ∃ nr, nr = R.length := ⟨_, rfl⟩
  rw [← hnr]
  have HPR : Hid (PrtOf ys R) := hP2
  have H2 : Hid (QwI w tf b o c nf g cp nr ys R w2) := by
    have k2 := HW1.out.2.2.2.2.trans (hb2.mono HW1.out.2.2.2.2.size)
    exact ⟨HW1.out.1.below hb2, HW1.out.2.1.below hb2 HW1.out.2.1.lt, HW1.out.2.2.1, hO2.mono HW1.out.2.2.2.2.size, HI.out.2.1.on k2 HI.out.2.2.2.2, HI.out.2.2.1.chg (S := fun _ => False) (Chg.of_below k2) (fun q => q), HI.out.2.2.2.1.chg (S := fun _ => False) (Chg.of_below k2) (fun q => q), k2, HW1.out.2.2.2.1, hnr, HI.out.2.2.2.2⟩
  clear hO2 hP2 hb2 hnr t0
  have t0 := H2.out.bf.cell (j := 0) rfl
  have HV1 : Hid (Calls Tryz.prog 16 #[.agg #[.slice (some ⟨b, o, none⟩) nf c]] w2 (FltPost ys w2)) := HVs.out w2 H2.out.wd
  go_wp2_with fail
  refine HV1.out.mono ?_
  clear HV1 HVs
  rintro e w3 ⟨r, rfl, hr, hb3⟩
  have H3 : Hid (QwI w tf b o c nf g cp nr ys R w3) := H2.out.up hb3
  have HR : Hid (r = true ↔ GoodF ys) := hr
  clear hr hb3 t0 H2
  cases r
  case false =>
    have hr0 : nr = 0 := by
      rw [H3.out.lr]
      rcases HPR.out with ⟨_, q⟩ | ⟨q, _⟩
      · rw [q]; rfl
      · exact absurd (HR.out.2 q) (by simp)
    have zr : ((nr : Int) == 0) = true := by rw [beq_iff_eq]; omega
    have HX : Hid (Below w.heap.size w w3) := H3.out.below
    clear hr0
    go_wp2_with fail
    go_ret
    exact ⟨rfl, HX.out⟩
  case true =>
  have HG : Hid (GoodF ys) := HR.out.1 rfl
  clear HR
  have t0 := H3.out.bf.cell (j := 0) rfl
  have HP3 : Hid (Calls Tryz.prog 17 #[.agg #[.slice (some ⟨b, o, none⟩) nf c]] w3 (PrtS ys w3)) := HPs.out w3 H3.out.wd
  go_wp2_with fail
  refine HP3.out.mono ?_
  clear HP3
  rintro e w4 ⟨g4, c4, R4, rfl, hO4, hP4, hb4⟩
  obtain rfl : R4 = R := prtOf_one hP4 HPR.out
  have H4 : Hid (QwI w tf b o c nf g cp nr ys R4 w4) := H3.out.up hb4
  rw [← H4.out.lr]
  clear hO4 hP4 hb4 t0 H3
  have hnr : nr ≤ 400000 := by rw [H4.out.lr]; exact prtOf_len HPR.out H4.out.ok
  have t0 := H4.out.bf.cell (j := 0) rfl
  by_cases hlong : 4000 < nr
  · have zl : (4000 : Int) < (nr : Int) := by omega
    have HP5 : Hid (Calls Tryz.prog 17 #[.agg #[.slice (some ⟨b, o, none⟩) nf c]] w4 (PrtS ys w4)) := HPs.out w4 H4.out.wd
    go_wp2_with fail
    refine HP5.out.mono ?_
    clear HP5 HPs
    rintro e w5 ⟨g5, c5, R5, rfl, hO5, hP5, hb5⟩
    obtain rfl : R5 = R4 := prtOf_one hP5 HPR.out
    have H5 : Hid (QwI w tf b o c nf g cp nr ys R5 w5 ∧ BysAt w5 g5 0 R5) := ⟨H4.out.up hb5, hO5.at_⟩
    clear hO5 hP5 hb5 t0 H4
    have HLw : Hid (Calls Tryz.prog 18 #[.slice (some ⟨g, 0, none⟩) nr cp, .slice (some ⟨g5, 0, none⟩) nr c5] w5 fun e w' => e = .returned (.bool true) ∧ Below w5.heap.size w5 w') := by
      have h9 := lwBytes_same g 0 cp g5 0 c5 R5 w5 H5.out.1.tx.at H5.out.2
      rw [← H5.out.1.lr] at h9
      exact h9
    rw [← H5.out.1.lr]
    go_wp2_with fail
    refine HLw.out.mono ?_
    rintro e w6 ⟨rfl, hb6⟩
    have HX : Hid (Below w.heap.size w w6) := H5.out.1.below.trans (hb6.mono H5.out.1.below.size)
    clear hb6
    go_wp2_with fail
    go_ret
    exact ⟨rfl, HX.out⟩
  · have zl : ¬ (4000 : Int) < (nr : Int) := by omega
    have HPa : Hid (Calls Tryz.prog 8 #[.slice (some ⟨g, 0, none⟩) nr cp] w4 (fun e w' => PfP R4 w4 e w')) :=
      implParse_core H4.out.tx.at H4.out.tx.lt.2 H4.out.lr (by omega) (by rw [H4.out.lr]; exact H4.out.tx.caps.1) H4.out.tx.caps.2 (Nat.le_trans H4.out.hB H4.out.below.size) H4.out.wds H4.out.er
    go_wp2_with fail
    refine HPa.out.mono ?_
    clear HPa HPs
    rintro e w5 ⟨v5, rfl, hb5, hS5⟩
    obtain ⟨ce, ca, ns, hA, ⟨oa, on, oc, rfl, hU⟩, hnl⟩ := hS5.ans
    obtain ⟨rfl, rfl, rfl⟩ := hA.one (ans_text HG.out H4.out.ok HPR.out (by have := H4.out.lr; omega))
    have hne := goodF_ne HG.out
    obtain ⟨gu, cu, hu, hOu⟩ : ∃ gu cu, Value.slice oa on oc = .slice (some ⟨gu, 0, none⟩) ns.length cu ∧ OwnNd w5 w4.heap.size gu cu ns := by
      rcases hU with ⟨_, q⟩ | ⟨gu, cu, q, hq⟩
      · exact absurd q hne
      · exact ⟨gu, cu, q, hq⟩
    rw [hu]
    obtain ⟨W6, hW6⟩ : ∃ V : World, V = w5.alloc (Obj.cells #[.int .i64 0, .int .i64 0, .slice (some ⟨gu, 0, none⟩) ns.length cu] 27) := ⟨_, rfl⟩
    obtain ⟨tr, htr⟩ : ∃ tr, tr = w5.heap.size := ⟨_, rfl⟩
    have hlf := H4.out.lf
    rw [← hlf] at hW6 ⊢
    have hb6 : Below w5.heap.size w5 W6 := by rw [hW6]; exact (Below.refl _ _).alloc (Nat.le_refl _) _
    have H6 : Hid (QwI w tf b o c nf g cp nr ns R4 W6 ∧ BoxAt W6 w.heap.size 27 3 tr [.int .i64 0, .int .i64 0, .slice (some ⟨gu, 0, none⟩) nf cu] ∧ NdsAt W6 gu 0 ns ∧ gu < W6.heap.size) := by
      have h4 := H4.out
      have s5 := hb5.size
      have s4 := h4.below.size
      have s6 := hb6.size
      have hgu := hOu.lt
      exact ⟨(h4.up hb5).up hb6, by rw [htr, hW6]; exact boxAt_new w5 _ (by omega) rfl, hOu.at.below hb6 hgu.2, by omega⟩
    have HLf : Hid (Calls Tryz.prog 19 #[.agg #[.slice (some ⟨gu, 0, none⟩) nf cu], .agg #[.slice (some ⟨b, o, none⟩) nf c]] W6 fun e w' => e = .returned (.bool true) ∧ Below W6.heap.size W6 w') := by
      have h9 := lwFilter_same (c := cu) (c' := c) H6.out.2.2.1 H6.out.2.2.2 H6.out.1.wd.at H6.out.1.wd.lt (by omega)
      rw [← hlf] at h9
      exact h9
    clear hS5 hA hU hu hOu hb5 hb6 hlf t0 hne
    go_upto_region 10 with fail
    rw [← hW6, ← htr]
    clear hW6 htr
    have q0 := H6.out.2.1.cell (j := 0) rfl
    have q1 := H6.out.2.1.cell (j := 1) rfl
    have q2 := H6.out.2.1.cell (j := 2) rfl
    have t0 := H6.out.1.bf.cell (j := 0) rfl
    go_wp2_with fail
    refine HLf.out.mono ?_
    rintro e w7 ⟨rfl, hb7⟩
    have HX : Hid (Below w.heap.size w w7) := H6.out.1.below.trans (hb7.mono H6.out.1.below.size)
    clear hb7
    go_wp2_with fail
    go_ret
    exact ⟨rfl, HX.out⟩
end Go.Proofs.YtgnpcenpcmdlfaaGreatDoor

/-
  What the premise over the tables says: words of a filter, an error of strconv.
-/
namespace Go.Proofs.YtgnpcenpcmdlfaaGreatDoor.exParse
open Go.ChangeShapes Go.WideShapes Go.ChangeAt Go.WideMaps Go.WideElems Go.RowKit
set_option linter.unusedVariables false
set_option linter.unusedSimpArgs false
set_option maxRecDepth 100000

theorem gWords : Tryz.prog.globalNamed "loop.example/s01854/impl.nodeWords" = some 0 := by kernel_rfl
theorem tWords : (Tryz.prog.globals[0]?).map (·.type) = some 119 := by kernel_rfl
theorem gD64 : Tryz.prog.globalNamed "math/bits.deBruijn64tab" = some 6 := by kernel_rfl
theorem cStr : Tryz.prog.cellsOf 9 = 1 := by kernel_rfl
theorem var_lt {P : Program} {W : World} {n : String} {g : Nat} {cs : Array Value} (hg : P.globalNamed n = some g) (h : W.var? P n = some cs) : g < W.heap.size := by
  unfold World.var? at h
  rw [hg] at h
  simp only [Option.bind_some] at h
  by_cases hlt : g < W.heap.size
  · exact hlt
  · rw [Array.getElem?_eq_none (by omega)] at h
    simp at h
/-- A table of strings, its cells. -/
theorem strs_of_tab {H : Type} {enc : TypeId × Value → H} {P : Program} {w : World} {base : Nat} {sp : Nat → Bool} {held : Bool} {fuel : Nat} {t e : TypeId} {n : Nat} {cs : List Value} {zs : List (List UInt8)} {p : List MemPlace}
    (ht : P.underlying t = some (.array n e)) (he : P.underlying e = some .string) (hce : P.cellsOf e = 1)
    (h : DataW.trod enc P w base sp held fuel t cs = some (.agg (zs.map fun z => .lit (.string z)), p)) : ∀ (i : Nat) (z : List UInt8), zs[i]? = some z → cs[i]? = some (Value.string ⟨z.toArray⟩) := by
  obtain ⟨xs, m, rfl, hx, hl, hn, hel⟩ := DataW.trod_array ht h
  simp only [Prod.mk.injEq, DataW.agg.injEq] at hx
  intro i z hz
  have hlen : zs.length = n := by have := congrArg List.length hx.1; simpa [hn] using this
  have hi : i < n := by have := (List.getElem?_eq_some_iff.1 hz).1; omega
  have h1 := hel i hi
  rw [hce, Nat.mul_one] at h1
  obtain ⟨y, hy⟩ : ∃ y, xs[i]? = some y := ⟨_, List.getElem?_eq_getElem (by omega)⟩
  rw [hy] at h1
  obtain ⟨s, hc, rfl, _⟩ := DataW.trod_string he h1
  have h2 := congrArg (fun l => l[i]?) hx.1
  simp only [List.getElem?_map, hz, hy, Option.map_some, Option.some.injEq, DataW.lit.injEq, Lit.string.injEq] at h2
  have h3 : cs[i]? = some (.string s) := by
    have : ((cs.drop i).take 1)[0]? = some (.string s) := by rw [hc]; rfl
    simpa [List.getElem?_take, List.getElem?_drop] using this
  rw [h3, h2, Lib.mk_data]

theorem trod_ifc {H : Type} {enc : TypeId × Value → H} {P : Program} {w : World} {base : Nat} {sp : Nat → Bool} {held : Bool} {fuel : Nat} {t : TypeId} {cs : List Value} {x : DataW H × List MemPlace} {ms : Array (String × TypeId)}
    (ht : P.underlying t = some (.interface ms)) (h : DataW.trod enc P w base sp held fuel t cs = some x) : ∃ ev, cs = [ev] ∧ (ev = .nilIface ∨ ∃ te pe, ev = .iface te pe) := by
  cases fuel with
  | zero => simp [DataW.trod] at h
  | succ n =>
    unfold DataW.trod at h
    rw [ht] at h
    split at h <;> simp_all
theorem gErr : Tryz.prog.globalNamed "strconv.ErrRange" = some 3 := by kernel_rfl
theorem tErr : (Tryz.prog.globals[3]?).map (·.type) = some 156 := by kernel_rfl
theorem of_laidE {W : World} (h : laidMetH Tryz.prog [("math/bits.deBruijn32tab", Rows.laid_math_bits_deBruijn32tab), ("math/bits.deBruijn64tab", Rows.laid_math_bits_deBruijn64tab), ("internal/strconv.uint64pow10", Rows.laid_internal_strconv_uint64pow10), ("strconv.ErrRange", Rows.laid_strconv_ErrRange), ("strconv.ErrSyntax", Rows.laid_strconv_ErrSyntax), ("loop.example/s01854/impl.nodeWords", Rows.laid_loop_example_s01854_impl_nodeWords)] W) : WdsAt W ∧ ErrAt W ∧ 7 ≤ W.heap.size := by
  rw [MakeChecks.laidMetH_plain _ _ _ (by kernel_rfl)] at h
  obtain ⟨ps, ⟨g0, t0, cs0, f0, p0, q0, hg0, ht0, hv0, hd0, ⟨g1, t1, cs1, f1, p1, q1, hg1, ht1, hv1, hd1, ⟨g2, t2, cs2, f2, p2, q2, hg2, ht2, hv2, hd2, ⟨g3, t3, cs3, f3, p3, q3, hg3, ht3, hv3, hd3, ⟨g4, t4, cs4, f4, p4, q4, hg4, ht4, hv4, hd4, ⟨g5, t5, cs5, f5, p5, q5, hg5, ht5, hv5, hd5, _, _⟩, _⟩, _⟩, _⟩, _⟩, _⟩, _⟩ := h
  obtain rfl := Option.some.inj (gD64.symm.trans hg1)
  obtain rfl := Option.some.inj (gErr.symm.trans hg3)
  obtain rfl := Option.some.inj (gWords.symm.trans hg5)
  obtain rfl := Option.some.inj (tErr.symm.trans ht3)
  obtain rfl := Option.some.inj (tWords.symm.trans ht5)
  have hw : ∀ k : Nat, k ≤ 16 → W.cell? ⟨0, k, none⟩ = some (.string (nodeW k)) := fun k hk => by
    rw [World.var?_cell hg5 hv5 k]
    have hw := strs_of_tab (zs := (List.range 17).map (fun k => (nodeW k).data.toList)) Tryz.underlying119 Tryz.underlying9 cStr (h := hd5) k (nodeW k).data.toList (by rw [List.getElem?_map, List.getElem?_range (by omega)]; rfl)
    rw [Lib.mk_data] at hw
    simpa using hw
  refine ⟨hw, ?_, var_lt hg1 hv1⟩
  · obtain ⟨ev, hcs, hev⟩ := trod_ifc Tryz.underlying156 hd3
    refine ⟨ev, ?_, hev⟩
    rw [World.var?_cell hg3 hv3 0]
    have : cs3[0]? = some ev := by
      have h9 : cs3.toList[0]? = some ev := by rw [hcs]; rfl
      simpa using h9
    exact this
end Go.Proofs.YtgnpcenpcmdlfaaGreatDoor.exParse

/-
  What the premise over the tables says, for a printer too.
-/
namespace Go.Proofs.YtgnpcenpcmdlfaaGreatDoor.exParse
open Go.ChangeShapes Go.WideShapes Go.ChangeAt Go.WideMaps Go.WideElems Go.RowKit
set_option linter.unusedVariables false
set_option linter.unusedSimpArgs false
set_option maxRecDepth 100000

theorem tPows : (Tryz.prog.globals[4]?).map (·.type) = some 199 := by kernel_rfl
theorem cU64 : Tryz.prog.cellsOf 50 = 1 := by kernel_rfl
theorem cPows : Tryz.prog.cellsOf 199 = 20 := by kernel_rfl
theorem of_laidP {W : World} (h : laidMetH Tryz.prog [("math/bits.deBruijn32tab", Rows.laid_math_bits_deBruijn32tab), ("math/bits.deBruijn64tab", Rows.laid_math_bits_deBruijn64tab), ("internal/strconv.uint64pow10", Rows.laid_internal_strconv_uint64pow10), ("strconv.ErrRange", Rows.laid_strconv_ErrRange), ("strconv.ErrSyntax", Rows.laid_strconv_ErrSyntax), ("loop.example/s01854/impl.nodeWords", Rows.laid_loop_example_s01854_impl_nodeWords)] W) : Gl W ∧ WdsAt W ∧ ErrAt W ∧ 7 ≤ W.heap.size := by
  have hE := of_laidE h
  rw [MakeChecks.laidMetH_plain _ _ _ (by kernel_rfl)] at h
  obtain ⟨ps, ⟨g0, t0, cs0, f0, p0, q0, hg0, ht0, hv0, hd0, ⟨g1, t1, cs1, f1, p1, q1, hg1, ht1, hv1, hd1, ⟨g2, t2, cs2, f2, p2, q2, hg2, ht2, hv2, hd2, ⟨g3, t3, cs3, f3, p3, q3, hg3, ht3, hv3, hd3, ⟨g4, t4, cs4, f4, p4, q4, hg4, ht4, hv4, hd4, ⟨g5, t5, cs5, f5, p5, q5, hg5, ht5, hv5, hd5, _, _⟩, _⟩, _⟩, _⟩, _⟩, _⟩, _⟩ := h
  obtain rfl := Option.some.inj (pow_named.symm.trans hg2)
  obtain rfl := Option.some.inj (tPows.symm.trans ht2)
  refine ⟨⟨fun k hk => hE.1 k hk, ?_⟩, hE⟩
  have hc := Lib.cells_of_tab (zs := Lib.pow10Tab) Tryz.underlying199 Tryz.underlying50 cU64 cPows hd2
  unfold Lib.TabIs
  rw [hv2, ← hc]
end Go.Proofs.YtgnpcenpcmdlfaaGreatDoor.exParse

