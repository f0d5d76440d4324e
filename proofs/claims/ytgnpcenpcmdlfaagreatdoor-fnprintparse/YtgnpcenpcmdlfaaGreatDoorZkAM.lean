import Derived.Test.YtgnpcenpcmdlfaaGreatDoorZkAI
import Derived.Test.YtgnpcenpcmdlfaaGreatDoorZkAL
import Derived.Test.YtgnpcenpcmdlfaaGreatDoorZkAE
import Derived.Test.YtgnpcenpcmdlfaaGreatDoorZkAH
import Derived.Test.YtgnpcenpcmdlfaaGreatDoorZkAF
/-
  spec.PrintFilter.
-/
namespace Go.Proofs.YtgnpcenpcmdlfaaGreatDoor
open Go.ChangeShapes Go.WideShapes Go.ChangeAt Go.RowKit Go.Deep
set_option linter.unusedVariables false
set_option linter.unusedSimpArgs false
set_option maxRecDepth 100000

def PrtS (xs : List Nd) (w : World) (r : Ending) (w' : World) : Prop := ∃ g cp R, r = .returned (.slice (some ⟨g, 0, none⟩) R.length cp) ∧ WrB w' w.heap.size g cp R ∧ PrtOf xs R ∧ Below w.heap.size w w'
theorem prtOf_len {xs : List Nd} {R : List UInt8} (h : PrtOf xs R) (hok : ∀ e ∈ xs, e.ok) : R.length ≤ 400000 := by
  rcases h with ⟨_, rfl⟩ | ⟨hG, k, hT⟩
  · simp
  · have h1 := textF_len hT (fun e he => ⟨goodF_all hG e he, num_of_ok (hok e he)⟩)
    have h2 := hG.1
    simp only at h1
    omega
set_option maxHeartbeats 4000000 in
theorem specPrint_win {w : World} {g o cp : Nat} {xs : List Nd} (h : WdN w g o cp xs) (hok : ∀ e ∈ xs, e.ok) : Calls Tryz.prog 17 #[.agg #[.slice (some ⟨g, o, none⟩) xs.length cp]] w (PrtS xs w) := by
  have HO : Hid (WdN w g o cp xs ∧ (∀ e ∈ xs, e.ok)) := ⟨h, hok⟩
  have hgl := h.lt
  have hcp := h.caps
  obtain ⟨W0, hW0⟩ : ∃ W0 : World, W0 = w.alloc (Obj.cells #[.slice (some ⟨g, o, none⟩) xs.length cp] 25) := ⟨_, rfl⟩
  have hb0 : Below w.heap.size w W0 := by rw [hW0]; exact (Below.refl _ _).alloc (Nat.le_refl _) _
  have hz0 : w.heap.size < W0.heap.size := by rw [hW0]; simp
  have c0 : W0.cell? ⟨w.heap.size, 0, none⟩ = some (.slice (some ⟨g, o, none⟩) xs.length cp) := by rw [hW0]; simp
  have HO0 : Hid (WdN W0 g o cp xs) := h.below hb0 hgl
  clear h hok
  go_enter Tryz.func17, Tryz.ntmps17
  go_upto_region 1 with fail
  rw [← hW0]
  clear hW0
  go_wp2_with fail
  refine (specFilter_win HO0.out HO.out.2).mono ?_
  rintro e w1 ⟨r, rfl, hr, hb1⟩
  have HR : Hid (r = true ↔ GoodF xs) := hr
  have s1 := hb1.size
  have k1 : Below w.heap.size w w1 := hb0.trans (hb1.mono (by omega))
  have c1 : w1.cell? ⟨w.heap.size, 0, none⟩ = some (.slice (some ⟨g, o, none⟩) xs.length cp) := by rw [hb1.cell (p := ⟨w.heap.size, 0, none⟩) hz0]; exact c0
  have HO1 : Hid (WdN w1 g o cp xs) := HO0.out.below hb1 HO0.out.lt
  clear hr c0
  cases r
  case false =>
    have HG : Hid (PrtS xs w (.returned (.slice (some ⟨w1.heap.size, 0, none⟩) 0 0)) (w1.alloc (Obj.cells #[] 5))) := ⟨w1.heap.size, 0, [], rfl, (ownY_new w1 k1.size).wr, .inl ⟨fun q => Bool.noConfusion (HR.out.2 q), rfl⟩, k1.alloc k1.size _⟩
    go_wp2_with fail
    go_ret
    exact HG.out
  case true =>
  have hG : GoodF xs := HR.out.1 rfl
  obtain ⟨y, hy⟩ := goodF_text hG
  have HC : Hid (Calls Tryz.prog 41 #[.slice (some ⟨g, o, none⟩) xs.length cp] w1 (TxP y.2 w1)) :=
    text_all _ w1 g o cp xs y (Nat.le_refl _) hG.1 ⟨HO1.out.at, HO1.out.lt, HO1.out.caps.1, by have := HO1.out.caps.2; unfold maxLen at this; omega, by have := hG.1; omega⟩ hy (fun e he => ⟨goodF_all hG e he, num_of_ok (HO.out.2 e he)⟩)
  have HY : Hid (TextF xs y ∧ GoodF xs) := ⟨hy, hG⟩
  clear hy hG
  go_wp2_with fail
  refine HC.out.mono ?_
  rintro e w3 ⟨b, c, rfl, hOb, hb3⟩
  obtain ⟨yk, yt⟩ := y
  have s3 := hb3.size
  have HG : Hid (PrtS xs w (.returned (.slice (some ⟨b, 0, none⟩) yt.length c)) w3) := ⟨b, c, yt, rfl, hOb.mono k1.size, .inr ⟨HY.out.2, yk, HY.out.1⟩, k1.trans (hb3.mono k1.size)⟩
  clear hOb
  go_wp2_with fail
  go_ret
  exact HG.out
theorem specPrint_core {w : World} {base g cp : Nat} {xs : List Nd} (h : OwnNd w base g cp xs) (hok : ∀ e ∈ xs, e.ok) (hc : cp ≤ 281474976710656) : Calls Tryz.prog 17 #[.agg #[.slice (some ⟨g, 0, none⟩) xs.length cp]] w (PrtS xs w) := specPrint_win h.wd hok
end Go.Proofs.YtgnpcenpcmdlfaaGreatDoor

/-
  Filters parsed, without memory: tokens; the reading by descent; the reading by a row of what waits; both answer the same.
-/
namespace Go.Proofs.YtgnpcenpcmdlfaaGreatDoor
set_option linter.unusedVariables false
set_option linter.unusedSimpArgs false

inductive TkK where
  | word (k : Int)
  | num (n : Int)
  | str (s : ByteArray)
  | sign (b : UInt8)
  | fin
  | bad
structure Tk where
  k : TkK
  pos : Nat
def TkK.isBad : TkK → Bool
  | .bad => true
  | _ => false
def TkK.isFin : TkK → Bool
  | .fin => true
  | _ => false
def TkK.isSign (b : UInt8) : TkK → Bool
  | .sign c => c == b
  | _ => false
def TkK.isSort (strs : Bool) : TkK → Bool
  | .str _ => strs
  | .num _ => !strs
  | _ => false
def noS : ByteArray := ⟨#[]⟩
def TkK.txt : TkK → ByteArray
  | .str s => s
  | _ => noS
def TkK.nm : TkK → Int
  | .num n => n
  | _ => 0
abbrev PE := Int × Nat
abbrev PR (α : Type) := Except PE α
structure Ps where
  ks : List Tk
  made : Nat
  out : List Nd
def hdK : List Tk → TkK
  | [] => .fin
  | k :: _ => k.k
def hdA : List Tk → Nat
  | [] => 0
  | k :: _ => k.pos
def takeF (ks : List Tk) : PR (List Tk) := if (hdK ks.tail).isBad = true then .error (2, hdA ks.tail) else .ok ks.tail
def expectF (b : UInt8) (ks : List Tk) : PR (List Tk) := if (hdK ks).isSign b = true then takeF ks else .error (3, hdA ks)
def leafN (k : Int) : Nd := ⟨k, noS, false, noS, 0, 0, 0⟩
def patN (k : Int) (s : ByteArray) : Nd := ⟨k, s, false, noS, 0, 0, 0⟩
def cntN (k : Int) (n : Int) : Nd := ⟨k, noS, false, noS, 0, 0, n⟩
def Ps.to (s : Ps) (r : PR (List Tk)) : PR Ps := match r with
  | .error e => .error e
  | .ok ks => .ok { s with ks := ks }
def Ps.add (s : Ps) (n : Nd) : Ps := { s with out := s.out ++ [n] }
def makerF (s : Ps) : PR Ps := if s.made < 200 then Ps.to { s with made := s.made + 1 } (takeF s.ks) else .error (5, hdA s.ks)
def enterF (d : Nat) (s : Ps) : PR Ps := if (hdK s.ks).isSign 40 = true then (if d = 0 then .error (4, hdA s.ks) else s.to (takeF s.ks)) else .error (3, hdA s.ks)
def leaveF (s : Ps) : PR Ps := s.to (expectF 41 s.ks)
def commaF (s : Ps) : PR Ps := s.to (expectF 44 s.ks)
/-- The upper end of a range. -/
def upF (k : Int) (strs : Bool) (a : TkK) (ks : List Tk) : PR (List Tk × Nd) :=
  if (hdK ks).isSort strs = true then
    (if less a.txt (hdK ks).txt ∨ a.nm < (hdK ks).nm then (match takeF ks with
      | .error e => .error e
      | .ok k2 => .ok (k2, ⟨k, a.txt, true, (hdK ks).txt, a.nm, (hdK ks).nm, 0⟩)) else .error (7, hdA ks))
  else .ok (ks, ⟨k, a.txt, false, noS, a.nm, 0, 0⟩)
def dotsF (k : Int) (strs : Bool) (a : TkK) (ks : List Tk) : PR (List Tk × Nd) := match expectF 46 ks with
  | .error e => .error e
  | .ok k2 => upF k strs a k2
def rangeF (k : Int) (strs : Bool) (ks : List Tk) : PR (List Tk × Nd) :=
  if (hdK ks).isSort strs = true then (match takeF ks with
    | .error e => .error e
    | .ok k2 => dotsF k strs (hdK ks) k2) else dotsF k strs .fin ks
def argsF (k : Int) (ks : List Tk) : PR (List Tk × Nd) :=
  if k ≤ 3 then .ok (ks, leafN k)
  else if k ≤ 7 then (match hdK ks with
    | .str s => if (checkM (sb s)).1 = 0 then (match takeF ks with
        | .error e => .error e
        | .ok k2 => .ok (k2, patN k s)) else .error (6, hdA ks)
    | _ => .error (3, hdA ks))
  else if k ≤ 9 then rangeF k true ks
  else if k ≤ 10 then rangeF k false ks
  else (match hdK ks with
    | .num n => if 1 ≤ n ∧ n ≤ 1000 then (match takeF ks with
        | .error e => .error e
        | .ok k2 => .ok (k2, cntN k n)) else .error (8, hdA ks)
    | _ => .error (3, hdA ks))
def argF (k : Int) (s : Ps) : PR Ps := match argsF k s.ks with
  | .error e => .error e
  | .ok (ks, n) => .ok { s with ks := ks, out := s.out ++ [n] }
def bindR {α β γ : Type} (A : α → PR β → Prop) (B : β → PR γ → Prop) (s : α) (r : PR γ) : Prop := (∃ e, A s (.error e) ∧ r = .error e) ∨ ∃ s1, A s (.ok s1) ∧ B s1 r
def fnR {α β : Type} (f : α → PR β) (s : α) (r : PR β) : Prop := r = f s
inductive LoopR (sg : UInt8) (kd : Int) (R : Ps → PR Ps → Prop) : Ps → PR Ps → Prop
  | stop {s : Ps} (h : (hdK s.ks).isSign sg = false) : LoopR sg kd R s (.ok s)
  | e1 {s : Ps} {e : PE} (h : (hdK s.ks).isSign sg = true) (h1 : makerF s = .error e) : LoopR sg kd R s (.error e)
  | e2 {s s1 : Ps} {e : PE} (h : (hdK s.ks).isSign sg = true) (h1 : makerF s = .ok s1) (h2 : R s1 (.error e)) : LoopR sg kd R s (.error e)
  | more {s s1 s2 : Ps} {r : PR Ps} (h : (hdK s.ks).isSign sg = true) (h1 : makerF s = .ok s1) (h2 : R s1 (.ok s2)) (h3 : LoopR sg kd R (s2.add (leafN kd)) r) : LoopR sg kd R s r
def JoinR (sg : UInt8) (kd : Int) (R : Ps → PR Ps → Prop) : Ps → PR Ps → Prop := bindR R (LoopR sg kd R)
/-- An if, from its bracket on. -/
def BranR (F : Ps → PR Ps → Prop) (d : Nat) : Ps → PR Ps → Prop :=
  bindR (fnR (enterF d)) (bindR F (bindR (fnR commaF) (bindR F (bindR (fnR commaF) (bindR F (fnR leaveF))))))
def PrimR (F : Ps → PR Ps → Prop) (d : Nat) (s : Ps) (r : PR Ps) : Prop :=
  ((hdK s.ks).isSign 40 = true ∧ bindR (fnR (enterF d)) (bindR F (fnR leaveF)) s r) ∨
  (hdK s.ks = .word 16 ∧ bindR (fnR makerF) (bindR (BranR F d) (fnR fun s => .ok (s.add (leafN 16)))) s r) ∨
  (∃ k, hdK s.ks = .word k ∧ ¬ k = 16 ∧ bindR (fnR makerF) (fnR (argF k)) s r) ∨
  ((hdK s.ks).isSign 40 = false ∧ (∀ k, ¬ hdK s.ks = .word k) ∧ r = .error (3, hdA s.ks))
def ChaR (F : Ps → PR Ps → Prop) (d : Nat) : Ps → PR Ps → Prop := JoinR 62 14 (PrimR F d)
def FilR : Nat → Ps → PR Ps → Prop
  | 0 => JoinR 124 15 (ChaR (fun _ _ => False) 0)
  | d + 1 => JoinR 124 15 (ChaR (FilR d) (d + 1))
def endF (s : Ps) : PR Ps := if (hdK s.ks).isFin = true then .ok s else .error (3, hdA s.ks)
/-- The reading of tokens. -/
def ParR (ks : List Tk) (r : PR Ps) : Prop := ((hdK ks).isBad = true ∧ r = .error (2, hdA ks)) ∨ ((hdK ks).isBad = false ∧ bindR (FilR 20) (fnR endF) ⟨ks, 0, []⟩ r)

/- The reading by a row of what waits. -/
structure Ms where
  ks : List Tk
  made : Nat
  out : List Nd
  st : List (Int × Nat)
  want : Bool
def failF {α : Type} (c : Int) (ks : List Tk) : PR α := .error (if (hdK ks).isBad = true then 2 else c, hdA ks)
def drainF (all : Bool) : List (Int × Nat) → List Nd → List (Int × Nat) × List Nd
  | [], out => ([], out)
  | (k, l) :: st, out => if k = 1 ∨ (all = true ∧ k = 2) then drainF all st (out ++ [leafN (if k = 2 then 15 else 14)]) else ((k, l) :: st, out)
def openF : List (Int × Nat) → Nat
  | [] => 0
  | (k, _) :: st => openF st + if 2 < k then 1 else 0
def upM (k : Int) (strs : Bool) (a : TkK) (ks : List Tk) : PR (List Tk × Nd) :=
  if (hdK ks).isSort strs = true then
    (if less a.txt (hdK ks).txt ∨ a.nm < (hdK ks).nm then .ok (ks.tail, ⟨k, a.txt, true, (hdK ks).txt, a.nm, (hdK ks).nm, 0⟩) else failF 7 ks)
  else .ok (ks, ⟨k, a.txt, false, noS, a.nm, 0, 0⟩)
def dotsM (k : Int) (strs : Bool) (a : TkK) (ks : List Tk) : PR (List Tk × Nd) := if (hdK ks).isSign 46 = true then upM k strs a ks.tail else failF 3 ks
def rangeM (k : Int) (strs : Bool) (ks : List Tk) : PR (List Tk × Nd) := if (hdK ks).isSort strs = true then dotsM k strs (hdK ks) ks.tail else dotsM k strs .fin ks
def argsM (k : Int) (ks : List Tk) : PR (List Tk × Nd) :=
  if k ≤ 3 then .ok (ks, leafN k)
  else if k ≤ 7 then (match hdK ks with
    | .str s => if (checkM (sb s)).1 = 0 then .ok (ks.tail, patN k s) else failF 6 ks
    | _ => failF 3 ks)
  else if k ≤ 9 then rangeM k true ks
  else if k ≤ 10 then rangeM k false ks
  else (match hdK ks with
    | .num n => if 1 ≤ n ∧ n ≤ 1000 then .ok (ks.tail, cntN k n) else failF 8 ks
    | _ => failF 3 ks)
abbrev Mr := Ms ⊕ PR (List Nd)
def stepIf (m : Ms) : Mr :=
  if m.made < 200 then
    (if (hdK m.ks.tail).isSign 40 = true then
      (if openF m.st = 20 then .inr (.error (4, hdA m.ks.tail)) else .inl { m with ks := m.ks.tail.tail, made := m.made + 1, st := (4, 2) :: m.st })
    else .inr (failF 3 m.ks.tail))
  else .inr (.error (5, hdA m.ks))
def stepLeaf (k : Int) (m : Ms) : Mr :=
  if m.made < 200 then (match argsM k m.ks.tail with
    | .error e => .inr (.error e)
    | .ok (ks, n) => .inl { m with ks := ks, made := m.made + 1, out := m.out ++ [n], want := false })
  else .inr (.error (5, hdA m.ks))
def stepWant (m : Ms) : Mr := match hdK m.ks with
  | .word k => if k = 16 then stepIf m else stepLeaf k m
  | t => if t.isSign 40 = true then (if openF m.st = 20 then .inr (.error (4, hdA m.ks)) else .inl { m with ks := m.ks.tail, st := (3, 0) :: m.st }) else .inr (.error (3, hdA m.ks))
def stepOp (all : Bool) (k : Int) (m : Ms) : Mr :=
  if m.made < 200 then .inl ⟨m.ks.tail, m.made + 1, (drainF all m.st m.out).2, (k, 0) :: (drainF all m.st m.out).1, true⟩ else .inr (.error (5, hdA m.ks))
def stepClose (m : Ms) (st : List (Int × Nat)) (out : List Nd) : Mr := match st with
  | [] => if (hdK m.ks).isFin = true then .inr (.ok out) else .inr (.error (3, hdA m.ks))
  | (k, l) :: st2 =>
    if k = 4 ∧ 0 < l ∧ (hdK m.ks).isSign 44 = true then .inl ⟨m.ks.tail, m.made, out, (k, l - 1) :: st2, true⟩
    else if l = 0 ∧ (hdK m.ks).isSign 41 = true then .inl ⟨m.ks.tail, m.made, if k = 4 then out ++ [leafN 16] else out, st2, false⟩
    else .inr (.error (3, hdA m.ks))
def mStep (m : Ms) : Mr :=
  if (hdK m.ks).isBad = true then .inr (.error (2, hdA m.ks))
  else if m.want = true then stepWant m
  else if (hdK m.ks).isSign 62 = true then stepOp false 1 m
  else if (hdK m.ks).isSign 124 = true then stepOp true 2 m
  else stepClose m (drainF true m.st m.out).1 (drainF true m.st m.out).2
inductive MEnds : Ms → PR (List Nd) → Prop
  | fin {m : Ms} {r : PR (List Nd)} (h : mStep m = .inr r) : MEnds m r
  | step {m m' : Ms} {r : PR (List Nd)} (h : mStep m = .inl m') (k : MEnds m' r) : MEnds m r
theorem MEnds.one {m : Ms} {r r' : PR (List Nd)} (h : MEnds m r) (k : MEnds m r') : r = r' := by
  induction h with
  | fin h => cases k with
    | fin k => exact Sum.inr.inj (h.symm.trans k)
    | step k _ => rw [h] at k; cases k
  | step h _ ih => cases k with
    | fin k => rw [h] at k; cases k
    | step k k2 => obtain rfl := Sum.inl.inj (h.symm.trans k); exact ih k2
theorem MEnds.bad {m : Ms} (h : (hdK m.ks).isBad = true) : MEnds m (.error (2, hdA m.ks)) := .fin (by unfold mStep; rw [if_pos h])
theorem TkK.isSign_eq {t : TkK} {b : UInt8} (h : t.isSign b = true) : t = .sign b := by
  cases t <;> simp [TkK.isSign] at h
  rw [h]
theorem drainF_cons (all : Bool) (k : Int) (l : Nat) (st : List (Int × Nat)) (out : List Nd) : drainF all ((k, l) :: st) out = if k = 1 ∨ (all = true ∧ k = 2) then drainF all st (out ++ [leafN (if k = 2 then 15 else 14)]) else ((k, l) :: st, out) := by conv => lhs; unfold drainF
theorem drain_false_true : ∀ (st : List (Int × Nat)) (out : List Nd), drainF true (drainF false st out).1 (drainF false st out).2 = drainF true st out
  | [], out => rfl
  | (k, l) :: st, out => by
    rw [drainF_cons false]
    by_cases h : k = 1
    · subst h; simp only [true_or, if_true]; rw [drain_false_true st, drainF_cons true]; simp only [true_or, if_true]
    · rw [if_neg (by simp [h])]
/-- What lies on top is no chain (and no inter). -/
def TopNo (all : Bool) : List (Int × Nat) → Prop
  | [] => True
  | (k, _) :: _ => ¬ (k = 1 ∨ (all = true ∧ k = 2))
theorem TopNo.drain {all : Bool} : ∀ {st : List (Int × Nat)} {out : List Nd}, TopNo all st → drainF all st out = (st, out)
  | [], out, _ => rfl
  | (k, l) :: st, out, h => by unfold drainF; rw [if_neg h]
abbrev mOf (s : Ps) (st : List (Int × Nat)) (out : List Nd) (want : Bool) : Ms := ⟨s.ks, s.made, out, st, want⟩
/-- The descent A, as the machine does it, over a row of what waits; 'all': what may be left waiting. -/
def Sim (lazy : Option Bool) (A : Ps → PR Ps → Prop) (st : List (Int × Nat)) (s : Ps) (m : Ms) : Prop := ∀ r, A s r → match r with
  | .error e => MEnds m (.error e)
  | .ok s1 => (hdK s1.ks).isBad = false ∧ (match lazy with
      | none => ∀ R, MEnds (mOf s1 st s1.out false) R → MEnds m R
      | some all => (hdK s1.ks).isSign 62 = false ∧ (all = true → (hdK s1.ks).isSign 124 = false) ∧ ∀ R, (∀ st2 out2, drainF all st2 out2 = (st, s1.out) → MEnds (mOf s1 st2 out2 false) R) → MEnds m R)
theorem take_cases (ks : List Tk) : ((hdK ks.tail).isBad = true ∧ takeF ks = .error (2, hdA ks.tail)) ∨ ((hdK ks.tail).isBad = false ∧ takeF ks = .ok ks.tail) := by
  unfold takeF
  cases h : (hdK ks.tail).isBad
  · exact .inr ⟨rfl, by simp⟩
  · exact .inl ⟨rfl, by simp⟩
theorem failF_ok {α : Type} {c : Int} {ks : List Tk} (h : (hdK ks).isBad = false) : (failF c ks : PR α) = .error (c, hdA ks) := by unfold failF; simp [h]
theorem failF_bad {α : Type} {c : Int} {ks : List Tk} (h : (hdK ks).isBad = true) : (failF c ks : PR α) = .error (2, hdA ks) := by unfold failF; simp [h]
theorem bad_sign {t : TkK} (h : t.isBad = true) (b : UInt8) : t.isSign b = false := by cases t <;> simp [TkK.isBad] at h; rfl
theorem bad_sort {t : TkK} (h : t.isBad = true) (b : Bool) : t.isSort b = false := by cases t <;> simp [TkK.isBad] at h; rfl
/-- The arguments of a leaf, read by either: the same, but that the machine sees a bad token when it comes to it. -/
def ArgSame (A : PR (List Tk × Nd)) (B : PR (List Tk × Nd)) : Prop := match A with
  | .error e => B = .error e ∨ ∃ ks n, B = .ok (ks, n) ∧ (hdK ks).isBad = true ∧ e = (2, hdA ks)
  | .ok (ks, n) => B = .ok (ks, n) ∧ (hdK ks).isBad = false
theorem argSame_take {ks : List Tk} {n : Nd} : ArgSame (match takeF ks with
    | .error e => .error e
    | .ok k2 => .ok (k2, n)) (.ok (ks.tail, n)) := by
  rcases take_cases ks with ⟨h, q⟩ | ⟨h, q⟩
  · rw [q]; exact .inr ⟨_, _, rfl, h, rfl⟩
  · rw [q]; exact ⟨rfl, h⟩
theorem argSame_fail {ks : List Tk} (h : (hdK ks).isBad = false) (c : Int) : ArgSame (.error (c, hdA ks)) (failF c ks) := .inl (failF_ok h)
theorem up_same (k : Int) (strs : Bool) (a : TkK) (ks : List Tk) (h : (hdK ks).isBad = false) : ArgSame (upF k strs a ks) (upM k strs a ks) := by
  unfold upF upM
  split
  · split
    · exact argSame_take
    · exact argSame_fail h 7
  · exact ⟨rfl, h⟩
theorem up_bad (k : Int) (strs : Bool) (a : TkK) (ks : List Tk) (h : (hdK ks).isBad = true) : ∃ n, upM k strs a ks = .ok (ks, n) := by
  unfold upM
  rw [if_neg (by rw [bad_sort h]; simp)]
  exact ⟨_, rfl⟩
theorem dots_same (k : Int) (strs : Bool) (a : TkK) (ks : List Tk) (h : (hdK ks).isBad = false) : ArgSame (dotsF k strs a ks) (dotsM k strs a ks) := by
  unfold dotsF dotsM expectF
  by_cases hs : (hdK ks).isSign 46 = true
  · rw [if_pos hs, if_pos hs]
    rcases take_cases ks with ⟨hb, q⟩ | ⟨hb, q⟩
    · rw [q]
      obtain ⟨n, hn⟩ := up_bad k strs a ks.tail hb
      exact .inr ⟨_, _, hn, hb, rfl⟩
    · rw [q]
      exact up_same k strs a _ hb
  · rw [if_neg hs, if_neg hs]
    exact argSame_fail h 3
theorem range_same (k : Int) (strs : Bool) (ks : List Tk) (h : (hdK ks).isBad = false) : ArgSame (rangeF k strs ks) (rangeM k strs ks) := by
  unfold rangeF rangeM
  by_cases hs : (hdK ks).isSort strs = true
  · rw [if_pos hs, if_pos hs]
    rcases take_cases ks with ⟨hb, q⟩ | ⟨hb, q⟩
    · rw [q]
      refine .inl ?_
      unfold dotsM
      rw [if_neg (by rw [bad_sign hb]; simp)]
      exact failF_bad hb
    · rw [q]
      exact dots_same k strs _ _ hb
  · rw [if_neg hs, if_neg hs]
    exact dots_same k strs _ _ h
theorem args_same (k : Int) (ks : List Tk) (h : (hdK ks).isBad = false) : ArgSame (argsF k ks) (argsM k ks) := by
  unfold argsF argsM
  split
  · exact ⟨rfl, h⟩
  · split
    · split
      · split
        · exact argSame_take
        · exact argSame_fail h 6
      · exact argSame_fail h 3
    · split
      · exact range_same k true ks h
      · split
        · exact range_same k false ks h
        · split
          · split
            · exact argSame_take
            · exact argSame_fail h 8
          · exact argSame_fail h 3
/-- At a bad token there is nothing behind a word that has arguments; one without is made, and the token is seen then. -/
theorem args_bad (k : Int) (ks : List Tk) (h : (hdK ks).isBad = true) : argsM k ks = .error (2, hdA ks) ∨ ∃ n, argsM k ks = .ok (ks, n) := by
  have hd : ∀ strs a, dotsM k strs a ks = .error (2, hdA ks) := fun strs a => by
    unfold dotsM
    rw [if_neg (by rw [bad_sign h]; simp)]
    exact failF_bad h
  have hr : ∀ strs, rangeM k strs ks = .error (2, hdA ks) := fun strs => by
    unfold rangeM
    rw [if_neg (by rw [bad_sort h]; simp)]
    exact hd _ _
  obtain ⟨t, ht⟩ : ∃ t, t = hdK ks := ⟨_, rfl⟩
  unfold argsM
  rw [← ht]
  split
  · exact .inr ⟨_, rfl⟩
  · split
    · split
      · rw [← ht] at h; cases h
      · exact .inl (failF_bad h)
    · split
      · exact .inl (hr _)
      · split
        · exact .inl (hr _)
        · split
          · rw [← ht] at h; cases h
          · exact .inl (failF_bad h)
theorem mStep_want {s : Ps} {st : List (Int × Nat)} {out : List Nd} (hb : (hdK s.ks).isBad = false) : mStep (mOf s st out Bool.true) = stepWant (mOf s st out Bool.true) := by
  unfold mStep
  rw [if_neg (by show ¬ (hdK s.ks).isBad = true; rw [hb]; simp), if_pos rfl]
theorem prim_sim {F : Ps → PR Ps → Prop} {d : Nat} {st : List (Int × Nat)} (ho : openF st + d = 20)
    (HF : 0 < d → ∀ k l s, 2 < k → (hdK s.ks).isBad = false → Sim (some true) F ((k, l) :: st) s (mOf s ((k, l) :: st) s.out true)) :
    ∀ s, (hdK s.ks).isBad = false → Sim none (PrimR F d) st s (mOf s st s.out true) := by
  have enter : ∀ (s : Ps) (k : Int) (l : Nat), 2 < k → (hdK s.ks).isBad = false → (hdK s.ks).isSign 40 = true → ¬ d = 0 → ∀ (B : Ps → PR Ps → Prop) (m : Ms) (r : PR Ps), (∀ R, MEnds ⟨s.ks.tail, s.made, s.out, (k, l) :: st, true⟩ R → MEnds m R) →
      bindR (fnR (enterF d)) (bindR F B) s r → (∀ s1, (hdK s1.ks).isBad = false → (hdK s1.ks).isSign 62 = false → (hdK s1.ks).isSign 124 = false → (∀ R, (∀ st2 out2, drainF true st2 out2 = ((k, l) :: st, s1.out) → MEnds (mOf s1 st2 out2 false) R) → MEnds m R) → B s1 r → (match r with
        | .error e => MEnds m (.error e)
        | .ok s2 => (hdK s2.ks).isBad = false ∧ ∀ R, MEnds (mOf s2 st s2.out false) R → MEnds m R)) → (match r with
        | .error e => MEnds m (.error e)
        | .ok s2 => (hdK s2.ks).isBad = false ∧ ∀ R, MEnds (mOf s2 st s2.out false) R → MEnds m R) := by
    intro s k l hk hb hs hd B m r hm hr hB
    rcases hr with ⟨e, h, rfl⟩ | ⟨s1, h, hr⟩
    · have h' : Except.error e = enterF d s := h
      unfold enterF at h'
      rw [if_pos hs, if_neg hd] at h'
      rcases take_cases s.ks with ⟨hb2, q⟩ | ⟨hb2, q⟩
      · rw [q] at h'
        cases h'
        exact hm _ (MEnds.bad hb2)
      · rw [q] at h'; cases h'
    · have h' : Except.ok s1 = enterF d s := h
      unfold enterF at h'
      rw [if_pos hs, if_neg hd] at h'
      rcases take_cases s.ks with ⟨hb2, q⟩ | ⟨hb2, q⟩
      · rw [q] at h'; cases h'
      · rw [q] at h'
        cases h'
        have hF := HF (by omega) k l { s with ks := s.ks.tail } hk hb2
        rcases hr with ⟨e, h, rfl⟩ | ⟨s1, h, hr⟩
        · exact hm _ (hF _ h)
        · obtain ⟨h1, h2, h3, h4⟩ := hF _ h
          exact hB s1 h1 h2 (h3 rfl) (fun R hR => hm _ (h4 R hR)) hr
  have dead : ∀ (s : Ps), (hdK s.ks).isSign 40 = true → d = 0 → enterF d s = .error (4, hdA s.ks) := fun s hs hd => by unfold enterF; rw [if_pos hs, if_pos hd]
  have hop : d = 0 → openF st = 20 := fun h => by omega
  have hon : ¬ d = 0 → ¬ openF st = 20 := fun h => by omega
  have close : ∀ (k : Int) (l : Nat) (s1 : Ps) (st2 : List (Int × Nat)) (out2 : List Nd), (hdK s1.ks).isBad = false → (hdK s1.ks).isSign 62 = false → (hdK s1.ks).isSign 124 = false → drainF true st2 out2 = ((k, l) :: st, s1.out) → mStep (mOf s1 st2 out2 false) = stepClose (mOf s1 st2 out2 false) ((k, l) :: st) s1.out := by
    intro k l s1 st2 out2 h1 h2 h3 hd
    unfold mStep
    rw [if_neg (by show ¬ (hdK s1.ks).isBad = true; rw [h1]; simp), if_neg (by simp), if_neg (by show ¬ (hdK s1.ks).isSign 62 = true; rw [h2]; simp), if_neg (by show ¬ (hdK s1.ks).isSign 124 = true; rw [h3]; simp)]
    show stepClose _ (drainF true st2 out2).1 (drainF true st2 out2).2 = _
    rw [hd]
  intro s hb r hr
  rcases hr with ⟨hs, hr⟩ | ⟨hw, hr⟩ | ⟨k, hw, hk, hr⟩ | ⟨hs, hw, rfl⟩
  · -- in brackets
    have hstep : mStep (mOf s st s.out true) = if openF st = 20 then .inr (.error (4, hdA s.ks)) else .inl ⟨s.ks.tail, s.made, s.out, (3, 0) :: st, true⟩ := by
      rw [mStep_want hb]
      unfold stepWant
      show (match hdK s.ks with
        | .word k => _
        | t => _) = _
      rw [TkK.isSign_eq hs]
      rfl
    by_cases hd : d = 0
    · rcases hr with ⟨e, h, rfl⟩ | ⟨s1, h, hr⟩
      · have h' : Except.error e = enterF d s := h
        rw [dead s hs hd] at h'
        cases h'
        exact .fin (by rw [hstep, if_pos (hop hd)])
      · have h' : Except.ok s1 = enterF d s := h
        rw [dead s hs hd] at h'
        cases h'
    · rw [if_neg (hon hd)] at hstep
      refine enter s 3 0 (by omega) hb hs hd _ _ r (fun R hR => .step hstep hR) hr ?_
      intro s1 h1 h2 h3 h4 hB
      have hB' : r = leaveF s1 := hB
      unfold leaveF expectF at hB'
      by_cases h41 : (hdK s1.ks).isSign 41 = true
      · rw [if_pos h41] at hB'
        have hc : ∀ st2 out2, drainF true st2 out2 = ((3, 0) :: st, s1.out) → mStep (mOf s1 st2 out2 false) = .inl ⟨s1.ks.tail, s1.made, s1.out, st, false⟩ := fun st2 out2 hq => by
          rw [close 3 0 s1 st2 out2 h1 h2 h3 hq]
          unfold stepClose
          simp [h41]
        rcases take_cases s1.ks with ⟨hb2, q⟩ | ⟨hb2, q⟩
        · rw [q] at hB'
          subst hB'
          exact h4 _ (fun st2 out2 hq => .step (hc st2 out2 hq) (MEnds.bad hb2))
        · rw [q] at hB'
          subst hB'
          exact ⟨hb2, fun R hR => h4 _ (fun st2 out2 hq => .step (hc st2 out2 hq) hR)⟩
      · rw [if_neg h41] at hB'
        subst hB'
        refine h4 _ (fun st2 out2 hq => .fin ?_)
        rw [close 3 0 s1 st2 out2 h1 h2 h3 hq]
        unfold stepClose
        simp [h41]
  · -- an if
    have hstep : mStep (mOf s st s.out true) = stepIf (mOf s st s.out true) := by
      rw [mStep_want hb]
      unfold stepWant
      show (match hdK s.ks with
        | .word k => _
        | t => _) = _
      rw [hw]
      rfl
    unfold stepIf at hstep
    by_cases hm : s.made < 200
    · rw [if_pos (show (mOf s st s.out true).made < 200 from hm)] at hstep
      have hmk : makerF s = Ps.to { s with made := s.made + 1 } (takeF s.ks) := by unfold makerF; rw [if_pos hm]
      rcases hr with ⟨e, h, rfl⟩ | ⟨s1, h, hr⟩
      · have h' : Except.error e = makerF s := h
        rw [hmk] at h'
        rcases take_cases s.ks with ⟨hb2, q⟩ | ⟨hb2, q⟩
        · rw [q] at h'
          cases h'
          refine .fin ?_
          rw [hstep, if_neg (by show ¬ (hdK s.ks.tail).isSign 40 = true; rw [bad_sign hb2]; simp)]
          show Sum.inr (failF 3 s.ks.tail) = _
          rw [failF_bad hb2]
        · rw [q] at h'; cases h'
      · have h' : Except.ok s1 = makerF s := h
        rw [hmk] at h'
        rcases take_cases s.ks with ⟨hb2, q⟩ | ⟨hb2, q⟩
        · rw [q] at h'; cases h'
        rw [q] at h'
        cases h'
        have hr2 : bindR (fnR (enterF d)) (bindR F (fun s r => bindR (bindR (fnR commaF) (bindR F (bindR (fnR commaF) (bindR F (fnR leaveF))))) (fnR fun s => .ok (s.add (leafN 16))) s r)) { ks := s.ks.tail, made := s.made + 1, out := s.out } r := by
          rcases hr with ⟨e, h, rfl⟩ | ⟨s1, h, hr⟩
          · rcases h with ⟨e, h, h2⟩ | ⟨s2, h, h2⟩
            · cases h2; exact .inl ⟨_, h, rfl⟩
            · rcases h2 with ⟨e, h2, h3⟩ | ⟨s3, h2, h3⟩
              · cases h3; exact .inr ⟨_, h, .inl ⟨_, h2, rfl⟩⟩
              · exact .inr ⟨_, h, .inr ⟨_, h2, .inl ⟨_, h3, rfl⟩⟩⟩
          · rcases h with ⟨e, h, h2⟩ | ⟨s2, h, h2⟩
            · cases h2
            · rcases h2 with ⟨e, h2, h3⟩ | ⟨s3, h2, h3⟩
              · cases h3
              · exact .inr ⟨_, h, .inr ⟨_, h2, .inr ⟨_, h3, hr⟩⟩⟩
        clear hr
        by_cases hs : (hdK s.ks.tail).isSign 40 = true
        · rw [if_pos (show (hdK (mOf s st s.out true).ks.tail).isSign 40 = true from hs)] at hstep
          by_cases hd : d = 0
          · rw [if_pos (show openF (mOf s st s.out true).st = 20 from hop hd)] at hstep
            rcases hr2 with ⟨e, h, rfl⟩ | ⟨s1, h, hr⟩
            · have h' : Except.error e = enterF d _ := h
              rw [dead _ hs hd] at h'
              cases h'
              exact .fin hstep
            · have h' : Except.ok s1 = enterF d _ := h
              rw [dead _ hs hd] at h'
              cases h'
          · rw [if_neg (show ¬ openF (mOf s st s.out true).st = 20 from hon hd)] at hstep
            refine enter { ks := s.ks.tail, made := s.made + 1, out := s.out } 4 2 (by omega) hb2 hs hd _ _ r (fun R hR => .step hstep hR) hr2 ?_
            -- behind the first filter: a comma, a filter, a comma, a filter, the end
            have comma : ∀ (l : Nat) (s1 : Ps) (m : Ms) (B : Ps → PR Ps → Prop) (r : PR Ps), (hdK s1.ks).isBad = false → (hdK s1.ks).isSign 62 = false → (hdK s1.ks).isSign 124 = false → (∀ R, (∀ st2 out2, drainF true st2 out2 = ((4, l + 1) :: st, s1.out) → MEnds (mOf s1 st2 out2 false) R) → MEnds m R) →
                bindR (fnR commaF) (bindR F B) s1 r → (∀ s2, (hdK s2.ks).isBad = false → (hdK s2.ks).isSign 62 = false → (hdK s2.ks).isSign 124 = false → (∀ R, (∀ st2 out2, drainF true st2 out2 = ((4, l) :: st, s2.out) → MEnds (mOf s2 st2 out2 false) R) → MEnds m R) → B s2 r → (match r with
                  | .error e => MEnds m (.error e)
                  | .ok s2 => (hdK s2.ks).isBad = false ∧ ∀ R, MEnds (mOf s2 st (s2.out ++ [leafN 16]) false) R → MEnds m R)) → (match r with
                  | .error e => MEnds m (.error e)
                  | .ok s2 => (hdK s2.ks).isBad = false ∧ ∀ R, MEnds (mOf s2 st (s2.out ++ [leafN 16]) false) R → MEnds m R) := by
              intro l s1 m B r h1 h2 h3 h4 hB hnext
              by_cases h44 : (hdK s1.ks).isSign 44 = true
              · have hc : ∀ st2 out2, drainF true st2 out2 = ((4, l + 1) :: st, s1.out) → mStep (mOf s1 st2 out2 false) = .inl ⟨s1.ks.tail, s1.made, s1.out, (4, l) :: st, true⟩ := fun st2 out2 hq => by
                  rw [close 4 (l + 1) s1 st2 out2 h1 h2 h3 hq]
                  unfold stepClose
                  simp [h44]
                have hcf : commaF s1 = s1.to (takeF s1.ks) := by unfold commaF expectF; rw [if_pos h44]
                rcases take_cases s1.ks with ⟨hb2, q⟩ | ⟨hb2, q⟩
                · rw [q] at hcf
                  rcases hB with ⟨e, h, rfl⟩ | ⟨s2, h, hB⟩
                  · have h' : Except.error e = commaF s1 := h
                    rw [hcf] at h'
                    cases h'
                    exact h4 _ (fun st2 out2 hq => .step (hc st2 out2 hq) (MEnds.bad hb2))
                  · have h' : Except.ok s2 = commaF s1 := h
                    rw [hcf] at h'
                    cases h'
                · rw [q] at hcf
                  rcases hB with ⟨e, h, rfl⟩ | ⟨s2, h, hB⟩
                  · have h' : Except.error e = commaF s1 := h
                    rw [hcf] at h'
                    cases h'
                  · have h' : Except.ok s2 = commaF s1 := h
                    rw [hcf] at h'
                    cases h'
                    have hF := HF (by omega) 4 l { s1 with ks := s1.ks.tail } (by omega) hb2
                    rcases hB with ⟨e, h, rfl⟩ | ⟨s3, h, hB⟩
                    · exact h4 _ (fun st2 out2 hq => .step (hc st2 out2 hq) (hF _ h))
                    · obtain ⟨g1, g2, g3, g4⟩ := hF _ h
                      exact hnext s3 g1 g2 (g3 rfl) (fun R hR => h4 _ (fun st2 out2 hq => .step (hc st2 out2 hq) (g4 R hR))) hB
              · have hcf : commaF s1 = .error (3, hdA s1.ks) := by unfold commaF expectF; rw [if_neg h44]; rfl
                rcases hB with ⟨e, h, rfl⟩ | ⟨s2, h, hB⟩
                · have h' : Except.error e = commaF s1 := h
                  rw [hcf] at h'
                  cases h'
                  refine h4 _ (fun st2 out2 hq => .fin ?_)
                  rw [close 4 (l + 1) s1 st2 out2 h1 h2 h3 hq]
                  unfold stepClose
                  simp [h44]
                · have h' : Except.ok s2 = commaF s1 := h
                  rw [hcf] at h'
                  cases h'
            intro s1 h1 h2 h3 h4 hB
            obtain ⟨r9, h9⟩ : ∃ r9 : PR Ps, bindR (fnR commaF) (bindR F (bindR (fnR commaF) (bindR F (fnR leaveF)))) s1 r9 ∧ r = (match r9 with
                | .error e => .error e
                | .ok s => .ok (s.add (leafN 16))) := by
              rcases hB with ⟨e, h, rfl⟩ | ⟨s2, h, hB⟩
              · exact ⟨_, h, rfl⟩
              · exact ⟨_, h, hB⟩
            have key := comma 1 s1 (mOf s st s.out true) _ r9 h1 h2 h3 h4 h9.1 (fun s2 g1 g2 g3 g4 hB2 => comma 0 s2 (mOf s st s.out true) _ r9 g1 g2 g3 g4 hB2 (fun s3 f1 f2 f3 f4 hB3 => by
              have hB' : r9 = leaveF s3 := hB3
              unfold leaveF expectF at hB'
              by_cases h41 : (hdK s3.ks).isSign 41 = true
              · rw [if_pos h41] at hB'
                have hn44 : (hdK s3.ks).isSign 44 = false := by rw [TkK.isSign_eq h41]; rfl
                have hc : ∀ st2 out2, drainF true st2 out2 = ((4, 0) :: st, s3.out) → mStep (mOf s3 st2 out2 false) = .inl ⟨s3.ks.tail, s3.made, s3.out ++ [leafN 16], st, false⟩ := fun st2 out2 hq => by
                  rw [close 4 0 s3 st2 out2 f1 f2 f3 hq]
                  unfold stepClose
                  simp [h41]
                rcases take_cases s3.ks with ⟨hb2, q⟩ | ⟨hb2, q⟩
                · rw [q] at hB'
                  subst hB'
                  exact f4 _ (fun st2 out2 hq => .step (hc st2 out2 hq) (MEnds.bad hb2))
                · rw [q] at hB'
                  subst hB'
                  exact ⟨hb2, fun R hR => f4 _ (fun st2 out2 hq => .step (hc st2 out2 hq) hR)⟩
              · rw [if_neg h41] at hB'
                subst hB'
                refine f4 _ (fun st2 out2 hq => .fin ?_)
                rw [close 4 0 s3 st2 out2 f1 f2 f3 hq]
                unfold stepClose
                simp [h41]))
            rw [h9.2]
            cases r9 with
            | error e => exact key
            | ok s9 => exact key
        · rw [if_neg (show ¬ (hdK (mOf s st s.out true).ks.tail).isSign 40 = true from hs)] at hstep
          have hde : enterF d { ks := s.ks.tail, made := s.made + 1, out := s.out } = .error (3, hdA s.ks.tail) := by unfold enterF; rw [if_neg hs]
          rcases hr2 with ⟨e, h, rfl⟩ | ⟨s1, h, hr⟩
          · have h' : Except.error e = enterF d _ := h
            rw [hde] at h'
            cases h'
            refine .fin ?_
            rw [hstep]
            show Sum.inr (failF 3 s.ks.tail) = _
            rw [failF_ok hb2]
          · have h' : Except.ok s1 = enterF d _ := h
            rw [hde] at h'
            cases h'
    · rw [if_neg (show ¬ (mOf s st s.out true).made < 200 from hm)] at hstep
      have hmk : makerF s = .error (5, hdA s.ks) := by unfold makerF; rw [if_neg hm]
      rcases hr with ⟨e, h, rfl⟩ | ⟨s1, h, hr⟩
      · have h' : Except.error e = makerF s := h
        rw [hmk] at h'
        cases h'
        exact .fin hstep
      · have h' : Except.ok s1 = makerF s := h
        rw [hmk] at h'
        cases h'
  · -- a leaf
    have hstep : mStep (mOf s st s.out true) = stepLeaf k (mOf s st s.out true) := by
      rw [mStep_want hb]
      unfold stepWant
      show (match hdK s.ks with
        | .word k => _
        | t => _) = _
      rw [hw]
      exact if_neg hk
    unfold stepLeaf at hstep
    by_cases hm : s.made < 200
    · rw [if_pos (show (mOf s st s.out true).made < 200 from hm)] at hstep
      have hmk : makerF s = Ps.to { s with made := s.made + 1 } (takeF s.ks) := by unfold makerF; rw [if_pos hm]
      rcases hr with ⟨e, h, rfl⟩ | ⟨s1, h, hr⟩
      · have h' : Except.error e = makerF s := h
        rw [hmk] at h'
        rcases take_cases s.ks with ⟨hb2, q⟩ | ⟨hb2, q⟩
        · rw [q] at h'
          cases h'
          rcases args_bad k s.ks.tail hb2 with q2 | ⟨n, q2⟩
          · refine .fin ?_
            rw [hstep]
            show (match argsM k s.ks.tail with
              | .error e => _
              | .ok (ks, n) => _) = _
            rw [q2]
          · refine .step (m' := ⟨s.ks.tail, s.made + 1, s.out ++ [n], st, false⟩) ?_ (MEnds.bad hb2)
            rw [hstep]
            show (match argsM k s.ks.tail with
              | .error e => _
              | .ok (ks, n) => _) = _
            rw [q2]
        · rw [q] at h'; cases h'
      · have h' : Except.ok s1 = makerF s := h
        rw [hmk] at h'
        rcases take_cases s.ks with ⟨hb2, q⟩ | ⟨hb2, q⟩
        · rw [q] at h'; cases h'
        rw [q] at h'
        cases h'
        have hr' : r = argF k { ks := s.ks.tail, made := s.made + 1, out := s.out } := hr
        have hA := args_same k s.ks.tail hb2
        unfold argF at hr'
        have hst : mStep (mOf s st s.out true) = (match argsM k s.ks.tail with
          | .error e => .inr (.error e)
          | .ok (ks, n) => .inl ⟨ks, s.made + 1, s.out ++ [n], st, false⟩) := hstep
        cases hq : argsF k s.ks.tail with
        | error e =>
          rw [hq] at hA
          have hr2 : r = .error e := by rw [hr']; show (match argsF k s.ks.tail with
            | .error e => _
            | .ok (ks, n) => _) = _
                                        rw [hq]
          subst hr2
          rcases hA with q2 | ⟨ks, n, q2, hbb, rfl⟩
          · exact .fin (by rw [hst, q2])
          · exact .step (m' := ⟨ks, s.made + 1, s.out ++ [n], st, false⟩) (by rw [hst, q2]) (MEnds.bad hbb)
        | ok p =>
          obtain ⟨ks, n⟩ := p
          rw [hq] at hA
          have hr2 : r = .ok ⟨ks, s.made + 1, s.out ++ [n]⟩ := by rw [hr']; show (match argsF k s.ks.tail with
            | .error e => _
            | .ok (ks, n) => _) = _
                                                                  rw [hq]
          subst hr2
          exact ⟨hA.2, fun R hR => .step (m' := ⟨ks, s.made + 1, s.out ++ [n], st, false⟩) (by rw [hst, hA.1]) hR⟩
    · rw [if_neg (show ¬ (mOf s st s.out true).made < 200 from hm)] at hstep
      have hmk : makerF s = .error (5, hdA s.ks) := by unfold makerF; rw [if_neg hm]
      rcases hr with ⟨e, h, rfl⟩ | ⟨s1, h, hr⟩
      · have h' : Except.error e = makerF s := h
        rw [hmk] at h'
        cases h'
        exact .fin hstep
      · have h' : Except.ok s1 = makerF s := h
        rw [hmk] at h'
        cases h'
  · -- nothing that begins one
    refine .fin ?_
    rw [mStep_want hb]
    unfold stepWant
    show (match hdK s.ks with
      | .word k => _
      | t => _) = _
    obtain ⟨t, ht⟩ : ∃ t, t = hdK s.ks := ⟨_, rfl⟩
    rw [← ht] at hs hw ⊢
    cases t with
    | word k => exact absurd rfl (hw k)
    | sign c => show (if (TkK.sign c).isSign 40 = true then _ else _) = _; rw [if_neg (by rw [hs]; simp)]
    | num n => rfl
    | str s => rfl
    | fin => rfl
    | bad => rfl
theorem mStep_op {s : Ps} {st2 : List (Int × Nat)} {out2 : List Nd} (hb : (hdK s.ks).isBad = false) : ((hdK s.ks).isSign 62 = true → mStep (mOf s st2 out2 Bool.false) = stepOp false 1 (mOf s st2 out2 Bool.false)) ∧ ((hdK s.ks).isSign 62 = false → (hdK s.ks).isSign 124 = true → mStep (mOf s st2 out2 Bool.false) = stepOp true 2 (mOf s st2 out2 Bool.false)) := by
  have h0 : ¬ (hdK (mOf s st2 out2 Bool.false).ks).isBad = true := by show ¬ (hdK s.ks).isBad = true; rw [hb]; simp
  constructor
  · intro h
    unfold mStep
    rw [if_neg h0, if_neg (by simp), if_pos h]
  · intro h h2
    unfold mStep
    rw [if_neg h0, if_neg (by simp), if_neg (by show ¬ (hdK s.ks).isSign 62 = true; rw [h]; simp), if_pos h2]
/-- A loop over operands, as the machine does it. -/
theorem loop_sim (all : Bool) (sg : UInt8) (kd pk : Int) (low : Ps → Prop) {R : Ps → PR Ps → Prop} {st : List (Int × Nat)}
    (hstep : ∀ s st2 out2, (hdK s.ks).isBad = false → low s → (hdK s.ks).isSign sg = true → drainF all st2 out2 = (st, s.out) → mStep (mOf s st2 out2 Bool.false) = if s.made < 200 then .inl ⟨s.ks.tail, s.made + 1, s.out, (pk, 0) :: st, true⟩ else .inr (.error (5, hdA s.ks)))
    (hadd : ∀ s n, low s → low (s.add n))
    (HOp : ∀ s, (hdK s.ks).isBad = false → ∀ r, R s r → match r with
      | .error e => MEnds (mOf s ((pk, 0) :: st) s.out Bool.true) (.error e)
      | .ok s2 => (hdK s2.ks).isBad = false ∧ low s2 ∧ ∀ Q, (∀ st2 out2, drainF all st2 out2 = (st, s2.out ++ [leafN kd]) → MEnds (mOf s2 st2 out2 Bool.false) Q) → MEnds (mOf s ((pk, 0) :: st) s.out Bool.true) Q) :
    ∀ s r, LoopR sg kd R s r → (hdK s.ks).isBad = false → low s → match r with
      | .error e => ∀ st2 out2, drainF all st2 out2 = (st, s.out) → MEnds (mOf s st2 out2 Bool.false) (.error e)
      | .ok s1 => (hdK s1.ks).isBad = false ∧ (hdK s1.ks).isSign sg = false ∧ low s1 ∧ ∀ Q, (∀ st2 out2, drainF all st2 out2 = (st, s1.out) → MEnds (mOf s1 st2 out2 Bool.false) Q) → ∀ st2 out2, drainF all st2 out2 = (st, s.out) → MEnds (mOf s st2 out2 Bool.false) Q := by
  intro s r h
  have mk : ∀ (s : Ps), makerF s = if s.made < 200 then (if (hdK s.ks.tail).isBad = true then .error (2, hdA s.ks.tail) else .ok ⟨s.ks.tail, s.made + 1, s.out⟩) else .error (5, hdA s.ks) := fun s => by
    unfold makerF takeF
    split
    · split <;> rfl
    · rfl
  induction h with
  | stop h => intro hb hl; exact ⟨hb, h, hl, fun Q hQ st2 out2 hd => hQ st2 out2 hd⟩
  | @e1 s e h h1 =>
    intro hb hl st2 out2 hd
    have hs := hstep s st2 out2 hb hl h hd
    rw [mk] at h1
    by_cases hm : s.made < 200
    · rw [if_pos hm] at hs h1
      by_cases hbb : (hdK s.ks.tail).isBad = true
      · rw [if_pos hbb] at h1
        cases h1
        exact .step hs (MEnds.bad hbb)
      · rw [if_neg hbb] at h1; cases h1
    · rw [if_neg hm] at hs h1
      cases h1
      exact .fin hs
  | @e2 s s1 e h h1 h2 =>
    intro hb hl st2 out2 hd
    have hs := hstep s st2 out2 hb hl h hd
    rw [mk] at h1
    by_cases hm : s.made < 200
    · rw [if_pos hm] at hs h1
      by_cases hbb : (hdK s.ks.tail).isBad = true
      · rw [if_pos hbb] at h1; cases h1
      · rw [if_neg hbb] at h1
        cases h1
        exact .step hs (HOp _ (by simpa using hbb) _ h2)
    · rw [if_neg hm] at h1; cases h1
  | @more s s1 s2 r h h1 h2 h3 ih =>
    intro hb hl
    rw [mk] at h1
    by_cases hm : s.made < 200
    · rw [if_pos hm] at h1
      by_cases hbb : (hdK s.ks.tail).isBad = true
      · rw [if_pos hbb] at h1; cases h1
      · rw [if_neg hbb] at h1
        cases h1
        obtain ⟨g1, g2, g3⟩ := HOp _ (by simpa using hbb) _ h2
        have hi := ih g1 (hadd _ _ g2)
        have hs := fun st2 out2 hd => hstep s st2 out2 hb hl h hd
        simp only [if_pos hm] at hs
        cases r with
        | error e => exact fun st2 out2 hd => .step (hs st2 out2 hd) (g3 _ (fun st3 out3 hd3 => hi st3 out3 hd3))
        | ok s9 => exact ⟨hi.1, hi.2.1, hi.2.2.1, fun Q hQ st2 out2 hd => .step (hs st2 out2 hd) (g3 _ (fun st3 out3 hd3 => hi.2.2.2 Q hQ st3 out3 hd3))⟩
    · rw [if_neg hm] at h1; cases h1
theorem cha_sim {F : Ps → PR Ps → Prop} {d : Nat} {st : List (Int × Nat)} (hT : TopNo false st)
    (HP : ∀ st', (st' = st ∨ st' = (1, 0) :: st) → ∀ s, (hdK s.ks).isBad = false → Sim none (PrimR F d) st' s (mOf s st' s.out Bool.true)) :
    ∀ s, (hdK s.ks).isBad = false → Sim (some false) (ChaR F d) st s (mOf s st s.out Bool.true) := by
  have hL := loop_sim false 62 14 1 (fun _ => True) (R := PrimR F d) (st := st) (fun s st2 out2 hb _ hsg hd => by
    rw [(mStep_op hb).1 hsg]
    unfold stepOp
    show (if s.made < 200 then _ else _) = _
    simp only [hd]) (fun _ _ _ => trivial) (fun s hb r hr => by
      have h9 := HP _ (.inr rfl) s hb r hr
      cases r with
      | error e => exact h9
      | ok s2 => exact ⟨h9.1, trivial, fun Q hQ => h9.2 Q (hQ _ _ (by rw [drainF_cons, if_pos (.inl rfl)]; simp only [show ¬ ((1 : Int) = 2) by omega, if_false]; exact hT.drain))⟩)
  intro s hb r hr
  have hP := HP st (.inl rfl) s hb
  rcases hr with ⟨e, h, rfl⟩ | ⟨s1, h, hr⟩
  · exact hP _ h
  · obtain ⟨h1, h2⟩ := hP _ h
    have h9 := hL s1 r hr h1 trivial
    cases r with
    | error e => exact h2 _ (h9 st s1.out hT.drain)
    | ok s2 => exact ⟨h9.1, h9.2.1, fun q => (by cases q), fun Q hQ => h2 _ (h9.2.2.2 Q hQ st s1.out hT.drain)⟩
theorem TopNo.weak {st : List (Int × Nat)} (h : TopNo true st) : TopNo false st := by
  cases st with
  | nil => trivial
  | cons x st => obtain ⟨k, l⟩ := x; exact fun q => h (q.elim .inl (fun z => by cases z.1))
theorem join_sim {F : Ps → PR Ps → Prop} {d : Nat} {st : List (Int × Nat)} (hT : TopNo true st)
    (HP : ∀ st', openF st' = openF st → ∀ s, (hdK s.ks).isBad = false → Sim none (PrimR F d) st' s (mOf s st' s.out Bool.true)) :
    ∀ s, (hdK s.ks).isBad = false → Sim (some true) (JoinR 124 15 (ChaR F d)) st s (mOf s st s.out Bool.true) := by
  have o1 : openF ((1, 0) :: st) = openF st := by simp [openF]
  have o2 : openF ((2, 0) :: st) = openF st := by simp [openF]
  have o3 : openF ((1, 0) :: (2, 0) :: st) = openF st := by simp [openF]
  have hC1 := cha_sim hT.weak (fun st' q => HP st' (by rcases q with rfl | rfl <;> first | rfl | exact o1))
  have hC2 := cha_sim (st := (2, 0) :: st) (F := F) (d := d) (by intro q; rcases q with q | q <;> simp at q) (fun st' q => HP st' (by rcases q with rfl | rfl <;> first | exact o2 | exact o3))
  have hL := loop_sim true 124 15 2 (fun s => (hdK s.ks).isSign 62 = false) (R := ChaR F d) (st := st) (fun s st2 out2 hb hl hsg hd => by
    rw [(mStep_op hb).2 hl hsg]
    unfold stepOp
    show (if s.made < 200 then _ else _) = _
    simp only [hd]) (fun _ _ h => h) (fun s hb r hr => by
      have h9 := hC2 s hb r hr
      cases r with
      | error e => exact h9
      | ok s2 => exact ⟨h9.1, h9.2.1, fun Q hQ => h9.2.2.2 Q (fun st2 out2 hd => hQ _ _ (by
          rw [← drain_false_true, hd]
          show drainF true ((2, 0) :: st) s2.out = _
          rw [drainF_cons, if_pos (.inr ⟨rfl, rfl⟩)]
          simp only [if_true]
          exact hT.drain))⟩)
  intro s hb r hr
  have hP := hC1 s hb
  rcases hr with ⟨e, h, rfl⟩ | ⟨s1, h, hr⟩
  · exact hP _ h
  · obtain ⟨h1, h2, _, h3⟩ := hP _ h
    have h9 := hL s1 r hr h1 h2
    have hdr : ∀ st2 out2, drainF false st2 out2 = (st, s1.out) → drainF true st2 out2 = (st, s1.out) := fun st2 out2 hd => by
      rw [← drain_false_true, hd]
      exact hT.drain
    cases r with
    | error e => exact h3 _ (fun st2 out2 hd => h9 st2 out2 (hdr _ _ hd))
    | ok s2 => exact ⟨h9.1, h9.2.2.1, fun _ => h9.2.1, fun Q hQ => h3 _ (fun st2 out2 hd => h9.2.2.2 Q hQ st2 out2 (hdr _ _ hd))⟩
theorem fil_sim : ∀ (d : Nat) (st : List (Int × Nat)), openF st + d = 20 → TopNo true st → ∀ s, (hdK s.ks).isBad = false → Sim (some true) (FilR d) st s (mOf s st s.out Bool.true)
  | 0, st, ho, hT => join_sim hT (fun st' ho' => prim_sim (by omega) (fun q => by omega))
  | d + 1, st, ho, hT => join_sim hT (fun st' ho' => prim_sim (by omega) (fun _ k l s hk hb => fil_sim d ((k, l) :: st') (by
      have : openF ((k, l) :: st') = openF st' + 1 := by simp [openF, hk]
      omega) (by intro q; rcases q with q | q <;> omega) s hb))
/-- Both readings answer the same. -/
def outOf (r : PR Ps) : PR (List Nd) := match r with
  | .error e => .error e
  | .ok s => .ok s.out
theorem par_same {ks : List Tk} {r : PR Ps} (h : ParR ks r) : MEnds ⟨ks, 0, [], [], true⟩ (outOf r) := by
  rcases h with ⟨hb, rfl⟩ | ⟨hb, h⟩
  · exact MEnds.bad hb
  · have hF := fil_sim 20 [] rfl trivial ⟨ks, 0, []⟩ hb
    rcases h with ⟨e, h, rfl⟩ | ⟨s1, h, h2⟩
    · exact hF _ h
    · obtain ⟨h1, h3, h4, h5⟩ := hF _ h
      have h2' : r = endF s1 := h2
      subst h2'
      refine h5 _ (fun st2 out2 hd => .fin ?_)
      unfold mStep
      rw [if_neg (by show ¬ (hdK s1.ks).isBad = true; rw [h1]; simp), if_neg (by simp), if_neg (by show ¬ (hdK s1.ks).isSign 62 = true; rw [h3]; simp), if_neg (by show ¬ (hdK s1.ks).isSign 124 = true; rw [h4 rfl]; simp)]
      show stepClose _ (drainF true st2 out2).1 (drainF true st2 out2).2 = _
      rw [hd]
      show (if (hdK s1.ks).isFin = true then _ else _) = _
      unfold endF
      split <;> rfl
end Go.Proofs.YtgnpcenpcmdlfaaGreatDoor

/-
  A filter's text cut into tokens, without memory.
-/
namespace Go.Proofs.YtgnpcenpcmdlfaaGreatDoor
set_option linter.unusedVariables false
set_option linter.unusedSimpArgs false

def isLet (b : UInt8) : Bool := decide (97 ≤ b.toNat ∧ b.toNat ≤ 122)
def isDig (b : UInt8) : Bool := decide (48 ≤ b.toNat ∧ b.toNat ≤ 57)
def isPla (b : UInt8) : Bool := decide (32 ≤ b.toNat ∧ b.toNat ≤ 126)
def WordK (l : List UInt8) (k : Int) : Prop := (1 ≤ k ∧ k ≤ 13 ∧ bl (wordA k) = l) ∨ (k = 16 ∧ l = [105, 102])
def kwF (l : List UInt8) : Option Int :=
  if l = [112, 97, 115, 115] then some 1 else if l = [98, 108, 111, 99, 107] then some 2 else if l = [115, 116, 114, 105, 112] then some 3 else if l = [114, 111, 119] then some 4
  else if l = [102, 97, 109] then some 5 else if l = [113, 117, 97, 108] then some 6 else if l = [118, 97, 108] then some 7 else if l = [114, 111, 119, 115] then some 8
  else if l = [113, 117, 97, 108, 115] then some 9 else if l = [116, 115] then some 10 else if l = [118, 101, 114, 115, 105, 111, 110, 115] then some 11 else if l = [99, 101, 108, 108, 115] then some 12
  else if l = [115, 107, 105, 112] then some 13 else if l = [105, 102] then some 16 else none
theorem cases13 {k : Int} (h1 : 1 ≤ k) (h2 : k ≤ 13) : k = 1 ∨ k = 2 ∨ k = 3 ∨ k = 4 ∨ k = 5 ∨ k = 6 ∨ k = 7 ∨ k = 8 ∨ k = 9 ∨ k = 10 ∨ k = 11 ∨ k = 12 ∨ k = 13 := by omega
theorem kwF_word {l : List UInt8} {k : Int} (h : WordK l k) : kwF l = some k := by
  rcases h with ⟨h1, h2, rfl⟩ | ⟨rfl, rfl⟩
  · rcases cases13 h1 h2 with rfl | rfl | rfl | rfl | rfl | rfl | rfl | rfl | rfl | rfl | rfl | rfl | rfl <;> decide
  · decide
theorem ifS {p : Prop} [Decidable p] {a b : Option Int} {k : Int} (h : (if p then a else b) = some k) : (p ∧ a = some k) ∨ b = some k := by
  by_cases q : p
  · rw [if_pos q] at h; exact .inl ⟨q, h⟩
  · rw [if_neg q] at h; exact .inr h
theorem kwF_some {l : List UInt8} {k : Int} (h : kwF l = some k) : WordK l k := by
  unfold kwF at h
  rcases ifS h with ⟨rfl, h⟩ | h
  · cases h; exact .inl ⟨by omega, by omega, by decide⟩
  rcases ifS h with ⟨rfl, h⟩ | h
  · cases h; exact .inl ⟨by omega, by omega, by decide⟩
  rcases ifS h with ⟨rfl, h⟩ | h
  · cases h; exact .inl ⟨by omega, by omega, by decide⟩
  rcases ifS h with ⟨rfl, h⟩ | h
  · cases h; exact .inl ⟨by omega, by omega, by decide⟩
  rcases ifS h with ⟨rfl, h⟩ | h
  · cases h; exact .inl ⟨by omega, by omega, by decide⟩
  rcases ifS h with ⟨rfl, h⟩ | h
  · cases h; exact .inl ⟨by omega, by omega, by decide⟩
  rcases ifS h with ⟨rfl, h⟩ | h
  · cases h; exact .inl ⟨by omega, by omega, by decide⟩
  rcases ifS h with ⟨rfl, h⟩ | h
  · cases h; exact .inl ⟨by omega, by omega, by decide⟩
  rcases ifS h with ⟨rfl, h⟩ | h
  · cases h; exact .inl ⟨by omega, by omega, by decide⟩
  rcases ifS h with ⟨rfl, h⟩ | h
  · cases h; exact .inl ⟨by omega, by omega, by decide⟩
  rcases ifS h with ⟨rfl, h⟩ | h
  · cases h; exact .inl ⟨by omega, by omega, by decide⟩
  rcases ifS h with ⟨rfl, h⟩ | h
  · cases h; exact .inl ⟨by omega, by omega, by decide⟩
  rcases ifS h with ⟨rfl, h⟩ | h
  · cases h; exact .inl ⟨by omega, by omega, by decide⟩
  rcases ifS h with ⟨rfl, h⟩ | h
  · cases h; exact .inr ⟨rfl, rfl⟩
  · cases h
theorem kwF_iff (l : List UInt8) (k : Int) : kwF l = some k ↔ WordK l k := ⟨kwF_some, kwF_word⟩
theorem wordK_range {l : List UInt8} {k : Int} (h : WordK l k) : (1 ≤ k ∧ k ≤ 13) ∨ k = 16 := by
  rcases h with ⟨h1, h2, _⟩ | ⟨h, _⟩
  · exact .inl ⟨h1, h2⟩
  · exact .inr h
/-- The value of digits. -/
def decV (d : List UInt8) : Nat := d.foldl (fun n b => 10 * n + (b.toNat - 48)) 0
def numM (d : List UInt8) : Option Nat := if 1 < d.length ∧ d.head? = some 48 then none else if decV d < 2 ^ 64 then some (decV d) else none
def hexV (b : UInt8) : Option Nat := if 48 ≤ b.toNat ∧ b.toNat ≤ 57 then some (b.toNat - 48) else if 97 ≤ b.toNat ∧ b.toNat ≤ 102 then some (b.toNat - 87) else none
/-- What stands behind a quote: the content, and how many bytes it takes with the last quote. -/
def strM : List UInt8 → Option (List UInt8 × Nat)
  | [] => none
  | b :: r => if b = 34 then some ([], 1)
    else if b = 92 then (match r with
      | [] => none
      | c :: r2 => if c = 34 ∨ c = 92 then (strM r2).map (fun x => (c :: x.1, x.2 + 2))
        else if c = 120 then (match r2 with
          | h :: l :: r3 => (match hexV h, hexV l with
            | some x, some y => (strM r3).map (fun z => (UInt8.ofNat (16 * x + y) :: z.1, z.2 + 4))
            | _, _ => none)
          | _ => none)
        else none)
    else if isPla b = true then (strM r).map (fun x => (b :: x.1, x.2 + 1)) else none
def tokF (l : List UInt8) : Option (TkK × Nat) := match l with
  | [] => none
  | b :: r =>
    if isLet b = true then (kwF (l.takeWhile isLet)).map (fun k => (.word k, (l.takeWhile isLet).length))
    else if isDig b = true then (numM (l.takeWhile isDig)).map (fun n => (.num (n : Int), (l.takeWhile isDig).length))
    else if b = 34 then (match strM r with
      | some (c, n) => if c.length ≤ 200 then some (.str ⟨c.toArray⟩, n + 1) else none
      | none => none)
    else if b = 46 ∧ r.head? = some 46 then some (.sign 46, 2)
    else if b = 40 ∨ b = 41 ∨ b = 44 ∨ b = 62 ∨ b = 124 then some (.sign b, 1)
    else none
inductive LexR : List UInt8 → Nat → List Tk → Prop
  | fin {i : Nat} : LexR [] i [⟨.fin, i⟩]
  | space {l : List UInt8} {i : Nat} {ks : List Tk} (h : LexR l (i + 1) ks) : LexR (32 :: l) i ks
  | bad {b : UInt8} {l : List UInt8} {i : Nat} (hb : ¬ b = 32) (h : tokF (b :: l) = none) : LexR (b :: l) i [⟨.bad, i⟩]
  | tok {b : UInt8} {l : List UInt8} {i : Nat} {k : TkK} {n : Nat} {ks : List Tk} (hb : ¬ b = 32) (h : tokF (b :: l) = some (k, n)) (ht : LexR ((b :: l).drop n) (i + n) ks) : LexR (b :: l) i (⟨k, i⟩ :: ks)
theorem takeWhile_len {α : Type} (p : α → Bool) (l : List α) : (l.takeWhile p).length ≤ l.length := by
  induction l with
  | nil => simp
  | cons a l ih => rw [List.takeWhile_cons]; split <;> simp <;> omega
theorem strM_len : ∀ (m : Nat) (l : List UInt8), l.length ≤ m → ∀ x, strM l = some x → 1 ≤ x.2 ∧ x.2 ≤ l.length ∧ x.1.length < x.2
  | 0, l, hl, x, h => by
    obtain rfl := List.length_eq_zero_iff.1 (Nat.le_zero.1 hl)
    unfold strM at h; cases h
  | m + 1, [], hl, x, h => by unfold strM at h; cases h
  | m + 1, b :: r, hl, x, h => by
    rw [List.length_cons] at hl ⊢
    unfold strM at h
    split at h
    · cases h; exact ⟨Nat.le_refl _, by omega, by simp⟩
    split at h
    · cases r with
      | nil => cases h
      | cons c r2 =>
        rw [List.length_cons] at hl ⊢
        dsimp only at h
        split at h
        · obtain ⟨y, hy, rfl⟩ := Option.map_eq_some_iff.1 h
          have := strM_len m r2 (by omega) y hy
          simp only [List.length_cons]
          omega
        split at h
        · cases r2 with
          | nil => cases h
          | cons a r3 => cases r3 with
            | nil => cases h
            | cons e r4 =>
              dsimp only at h
              split at h
              · obtain ⟨y, hy, rfl⟩ := Option.map_eq_some_iff.1 h
                simp only [List.length_cons] at hl ⊢
                have := strM_len m r4 (by omega) y hy
                omega
              · cases h
        · cases h
    · split at h
      · obtain ⟨y, hy, rfl⟩ := Option.map_eq_some_iff.1 h
        have := strM_len m r (by omega) y hy
        simp only [List.length_cons]
        omega
      · cases h
/-- What a token may be. -/
def TkK.good : TkK → Prop
  | .word k => (1 ≤ k ∧ k ≤ 13) ∨ k = 16
  | .num n => 0 ≤ n ∧ n < 2 ^ 64
  | .str s => s.size ≤ 200
  | .sign b => b = 40 ∨ b = 41 ∨ b = 44 ∨ b = 62 ∨ b = 124 ∨ b = 46
  | _ => False
theorem tokF_some {l : List UInt8} {k : TkK} {n : Nat} (h : tokF l = some (k, n)) : 1 ≤ n ∧ n ≤ l.length ∧ k.good := by
  unfold tokF at h
  cases l with
  | nil => cases h
  | cons b r =>
    dsimp only at h
    split at h
    · rename_i hb
      obtain ⟨y, hy, hq⟩ := Option.map_eq_some_iff.1 h
      cases hq
      refine ⟨?_, takeWhile_len _ _, wordK_range (kwF_some hy)⟩
      rw [List.takeWhile_cons, if_pos hb]; simp
    split at h
    · rename_i hb
      obtain ⟨y, hy, hq⟩ := Option.map_eq_some_iff.1 h
      cases hq
      refine ⟨?_, takeWhile_len _ _, ?_⟩
      · rw [List.takeWhile_cons, if_pos hb]; simp
      · unfold numM at hy
        split at hy
        · cases hy
        · split at hy
          · cases hy
            rename_i h64
            exact ⟨by omega, by omega⟩
          · cases hy
    split at h
    · cases hs : strM r with
      | none => rw [hs] at h; cases h
      | some x =>
        rw [hs] at h
        obtain ⟨c, m⟩ := x
        dsimp only at h
        split at h
        · rename_i hc
          cases h
          have := strM_len r.length r (Nat.le_refl _) _ hs
          refine ⟨by omega, by simp only [List.length_cons]; omega, ?_⟩
          show (⟨c.toArray⟩ : ByteArray).size ≤ 200
          show c.toArray.size ≤ 200
          simpa using hc
        · cases h
    split at h
    · rename_i hd
      cases h
      refine ⟨by omega, ?_, by simp [TkK.good]⟩
      cases r with
      | nil => simp at hd
      | cons c r => simp
    split at h
    · rename_i hd
      cases h
      exact ⟨Nat.le_refl _, by simp, by rcases hd with rfl | rfl | rfl | rfl | rfl <;> simp [TkK.good]⟩
    · cases h
theorem lexR_ex : ∀ (m : Nat) (l : List UInt8) (i : Nat), l.length ≤ m → ∃ ks, LexR l i ks
  | 0, l, i, h => by
    obtain rfl := List.length_eq_zero_iff.1 (Nat.le_zero.1 h)
    exact ⟨_, .fin⟩
  | m + 1, [], i, h => ⟨_, .fin⟩
  | m + 1, b :: l, i, h => by
    by_cases hb : b = 32
    · subst hb
      obtain ⟨ks, hk⟩ := lexR_ex m l (i + 1) (by simp at h; omega)
      exact ⟨ks, .space hk⟩
    · cases ht : tokF (b :: l) with
      | none => exact ⟨_, .bad hb ht⟩
      | some x =>
        obtain ⟨k, n⟩ := x
        have hn := tokF_some ht
        obtain ⟨ks, hk⟩ := lexR_ex m ((b :: l).drop n) (i + n) (by rw [List.length_drop]; omega)
        exact ⟨_, .tok hb ht hk⟩
theorem LexR.one {l : List UInt8} {i : Nat} {ks ks' : List Tk} (h : LexR l i ks) (h' : LexR l i ks') : ks = ks' := by
  induction h generalizing ks' with
  | fin => cases h' with
    | fin => rfl
  | space h ih => cases h' with
    | space h' => exact ih h'
    | bad hb _ => exact absurd rfl hb
    | tok hb _ _ => exact absurd rfl hb
  | bad hb h => cases h' with
    | space h' => exact absurd rfl hb
    | bad _ _ => rfl
    | tok _ h' _ => rw [h] at h'; cases h'
  | tok hb h ht ih => cases h' with
    | space h' => exact absurd rfl hb
    | bad _ h' => rw [h] at h'; cases h'
    | tok _ h' ht' =>
      rw [h] at h'
      cases h'
      rw [ih ht']
/-- The tokens of a text: all but the last are tokens, the last is the end or a bad one. -/
inductive Toks : List Tk → Prop
  | last (k : Tk) (h : k.k = .fin ∨ k.k = .bad) : Toks [k]
  | more (k : Tk) (h : k.k.good) {ks : List Tk} (t : Toks ks) : Toks (k :: ks)
theorem LexR.toks {l : List UInt8} {i : Nat} {ks : List Tk} (h : LexR l i ks) : Toks ks := by
  induction h with
  | fin => exact .last _ (.inl rfl)
  | space _ ih => exact ih
  | bad _ _ => exact .last _ (.inr rfl)
  | tok _ h _ ih => exact .more _ (tokF_some h).2.2 ih
theorem LexR.len {l : List UInt8} {i : Nat} {ks : List Tk} (h : LexR l i ks) : ks.length ≤ l.length + 1 ∧ ∀ k ∈ ks, k.pos ≤ i + l.length := by
  induction h with
  | fin => exact ⟨by simp, fun k hk => by simp at hk; subst hk; simp⟩
  | space _ ih => exact ⟨by have := ih.1; simp; omega, fun k hk => by have := ih.2 k hk; simp; omega⟩
  | bad _ _ => exact ⟨by simp, fun k hk => by simp at hk; subst hk; simp⟩
  | @tok b l i k n ks hb h _ ih =>
    have hn := tokF_some h
    rw [List.length_drop] at ih
    refine ⟨by have := ih.1; simp at this ⊢; simp at hn; omega, fun q hq => ?_⟩
    rcases List.mem_cons.1 hq with rfl | hq
    · show i ≤ _; omega
    · have := ih.2 q hq; omega
theorem good_ne {k : TkK} (h : k.good) : k.isBad = false ∧ k.isFin = false := by cases k <;> first | exact ⟨rfl, rfl⟩ | exact h.elim
theorem Toks.ne {ks : List Tk} (h : Toks ks) : ks ≠ [] := by cases h <;> simp
theorem Toks.tail {k : Tk} {ks : List Tk} (h : Toks (k :: ks)) (hb : k.k.isBad = false) (hf : k.k.isFin = false) : Toks ks ∧ k.k.good := by
  cases h with
  | last _ h =>
    rcases h with h | h
    · rw [h] at hf; cases hf
    · rw [h] at hb; cases hb
  | more _ h t => exact ⟨t, h⟩
end Go.Proofs.YtgnpcenpcmdlfaaGreatDoor

/-
  Rows of structs in memory of the call's own: spec's tokens and what waits.
-/
namespace Go.Proofs.YtgnpcenpcmdlfaaGreatDoor
open Go.ChangeShapes Go.WideShapes Go.ChangeAt Go.RowKit Go.Deep
set_option linter.unusedVariables false
set_option linter.unusedSimpArgs false
set_option maxRecDepth 100000

section
variable {α : Type} {f : α → List Value} {sz : Nat}
theorem gFlat_len (hf : ∀ x, (f x).length = sz) (es : List α) : (es.flatMap f).length = es.length * sz := by
  induction es with
  | nil => simp
  | cons e es ih => rw [List.flatMap_cons, List.length_append, ih, hf, List.length_cons, Nat.add_mul]; omega
theorem gFlat_get (hf : ∀ x, (f x).length = sz) : ∀ (es : List α) (k : Nat) (e : α), es[k]? = some e → ∀ j, j < sz → (es.flatMap f)[k * sz + j]? = (f e)[j]?
  | [], k, e, h, j, hj => by simp at h
  | a :: es, 0, e, h, j, hj => by
    simp at h; subst h
    rw [List.flatMap_cons, List.getElem?_append_left (by rw [hf]; omega)]
    simp
  | a :: es, k + 1, e, h, j, hj => by
    simp at h
    rw [List.flatMap_cons, List.getElem?_append_right (by rw [hf, Nat.add_mul]; omega), hf]
    rw [show (k + 1) * sz + j - sz = k * sz + j by rw [Nat.add_mul]; omega]
    exact gFlat_get hf es k e h j hj
theorem gFlat_take (hf : ∀ x, (f x).length = sz) : ∀ (es : List α) (k : Nat), k ≤ es.length → (es.take k).flatMap f = (es.flatMap f).take (k * sz)
  | es, 0, _ => by simp
  | [], k + 1, h => by simp at h
  | a :: es, k + 1, h => by
    rw [List.take_succ_cons, List.flatMap_cons, List.flatMap_cons, gFlat_take hf es k (by simpa using h), List.take_append, hf, List.take_of_length_le (l := f a) (by rw [hf, Nat.add_mul]; omega), show (k + 1) * sz - sz = k * sz by rw [Nat.add_mul]; omega]
def OwnG (f : α → List Value) (sz ty : Nat) (w : World) (base g cap : Nat) (es : List α) : Prop := w.ownsRow base ty sz (.slice (some ⟨g, 0, none⟩) es.length cap) es.length (es.flatMap f)
variable {ty : Nat}
theorem OwnG.cell (hf : ∀ x, (f x).length = sz) {w : World} {base g cap : Nat} {es : List α} (h : OwnG f sz ty w base g cap es) {i : Nat} {e : α} (he : es[i]? = some e) (j : Nat) (hj : j < sz) : w.cell? ⟨g, i * sz + j, none⟩ = (f e)[j]? := by
  have hi : i < es.length := (List.getElem?_eq_some_iff.1 he).1
  have h1 : i * sz + j < es.length * sz := by
    have : (i + 1) * sz ≤ es.length * sz := Nat.mul_le_mul_right sz hi
    rw [Nat.add_mul] at this
    omega
  have := (World.ownsRow.cellAt h (i * sz + j) h1).trans (gFlat_get hf es i e he j hj)
  simpa using this
theorem OwnG.lt {w : World} {base g cap : Nat} {es : List α} (h : OwnG f sz ty w base g cap es) : base ≤ g ∧ g < w.heap.size := World.ownsRow.lt h g rfl
theorem OwnG.chg {S : Nat → Prop} {w w' : World} {base g cap : Nat} {es : List α} (h : OwnG f sz ty w base g cap es) (hc : Chg S w w') (hn : ¬ S g) : OwnG f sz ty w' base g cap es := own_chg h hc (fun k q => by simp [Value.ownBlock] at q; subst q; exact hn)
theorem OwnG.below {w w' : World} {base g cap : Nat} {es : List α} (h : OwnG f sz ty w base g cap es) (hb : Below w.heap.size w w') : OwnG f sz ty w' base g cap es := h.chg (Chg.of_below hb) (S := fun _ => False) (fun q => q)
theorem OwnG.mono {w : World} {base base' g cap : Nat} {es : List α} (h : OwnG f sz ty w base g cap es) (hb : base' ≤ base) : OwnG f sz ty w base' g cap es := by
  refine ⟨h.1, ?_⟩
  rcases h.2 with hn | ⟨g', cap', cur, hv, h1, rest⟩
  · exact .inl hn
  · exact .inr ⟨g', cap', cur, hv, Nat.le_trans hb h1, rest⟩
theorem OwnG.caps {w : World} {base g cap : Nat} {es : List α} (h : OwnG f sz ty w base g cap es) : es.length ≤ cap ∧ cap ≤ maxLen := by
  rcases h.2 with ⟨h0, _⟩ | ⟨g', cap', cur, hv, _, _, hn, hcap, _, _⟩
  · cases h0
  · simp only [Value.slice.injEq, Option.some.injEq, Addr.mk.injEq, and_true, true_and] at hv
    obtain ⟨rfl, rfl⟩ := hv
    exact ⟨hn, hcap⟩
theorem OwnG.take (hf : ∀ x, (f x).length = sz) {w : World} {base g cap : Nat} {es : List α} (h : OwnG f sz ty w base g cap es) {k : Nat} (hk : k ≤ es.length) : OwnG f sz ty w base g cap (es.take k) := by
  have hl : (es.take k).length = k := by rw [List.length_take]; omega
  rcases h.2 with ⟨h0, _⟩ | ⟨g', cap', cur, hv, h1, h2, h3, h4, h5, h6⟩
  · cases h0
  · simp only [Value.slice.injEq, Option.some.injEq, Addr.mk.injEq, and_true, true_and] at hv
    obtain ⟨rfl, rfl⟩ := hv
    refine ⟨gFlat_len hf _, .inr ⟨g, cap, cur, rfl, h1, h2, by omega, h4, h5, ?_⟩⟩
    rw [hl, gFlat_take hf es k hk, ← h6, List.take_take]
    congr 1
    have := Nat.mul_le_mul_right sz hk
    omega
theorem ownG_new (w : World) {base : Nat} (hb : base ≤ w.heap.size) : OwnG f sz ty (w.alloc (Obj.cells #[] ty)) base w.heap.size 0 [] :=
  World.ownsRow_made w #[] 0 hb (Nat.zero_le _) (by simp)
end
/-- A token as spec has it. -/
def tkN : TkK → Int
  | .word _ => 1
  | .num _ => 2
  | .str _ => 3
  | .sign _ => 4
  | .fin => 5
  | .bad => 6
def wordT (k : Int) : ByteArray := if k = 16 then ⟨#[105, 102]⟩ else wordA k
def tkT : TkK → ByteArray
  | .word k => wordT k
  | .str s => s
  | .sign b => if b = 46 then ⟨#[46, 46]⟩ else ⟨#[b]⟩
  | _ => ⟨#[]⟩
abbrev tkV (k : Tk) : List Value := [.int .i64 (tkN k.k), .int .u64 k.k.nm, .string (tkT k.k), .int .i64 (k.pos : Int)]
abbrev enV (e : Int × Nat) : List Value := [.int .i64 e.1, .int .i64 (e.2 : Int)]
theorem tkV_len (x : Tk) : (tkV x).length = 4 := rfl
theorem Tryz.infoTk : (Tryz.prog.info? 80).map (fun i => (i.zero, i.size, i.bytes)) = some (some (.agg #[.int .i64 0, .int .u64 0, .string ⟨#[]⟩, .int .i64 0]), 4, 40) := by kernel_rfl
abbrev OwnTk (w : World) (base g cap : Nat) (es : List (Tk)) : Prop := OwnG tkV 4 80 w base g cap es
theorem wpList_append_Tk {ops : Array Oper} {rest : List Oper} {o : Oper} {a : Act} {Q : Exit → Act → World → Prop} (w : World) (hgd : o.guard = none) (s x : Operand)
    (ho : o.op = .call { callee := .builtin .append, args := #[s, x], argTypes := #[39, 39] })
    (base g cp n b cx : Nat) (fs : List (Tk)) (e : Tk) (hs : a.eval s = .slice (some ⟨g, 0, none⟩) n cp) (hx : a.eval x = .slice (some ⟨b, 0, none⟩) 1 cx) (hn : n = fs.length) (hO : OwnTk w base g cp fs)
    (hc : ∀ j u, (tkV e)[j]? = some u → w.cell? ⟨b, j, none⟩ = some u) (hlen : fs.length ≤ 1000000) (hbase : base ≤ w.heap.size)
    (h : ∀ g' cp' w', OwnTk w' base g' cp' (fs ++ [e]) → w.grownBy w' (some g) → (g' = g ∨ g' = w.heap.size) → wpList Tryz.prog ops Q rest (a.put o.dst (.slice (some ⟨g', 0, none⟩) (n + 1) cp')) w') : wpList Tryz.prog ops Q (o :: rest) a w := by
  subst hn
  obtain ⟨i, hi, hz0, hz1, hz2⟩ := info_parts Tryz.infoTk
  refine wpList_append_own_at w hgd s x 39 ho base 80 i _ 4 40 Tryz.underlying39 hi hz0 hz1 hz2 rfl (by decide) (.slice (some ⟨g, 0, none⟩) fs.length cp) fs.length (fs.flatMap tkV) hs hO ⟨b, 0, none⟩ 1 cx (tkV e) hx (by rw [tkV_len]) (fun j u hu => by rw [Addr.add_mid, Nat.zero_add]; exact hc j u hu) (fun u hu => by simp at hu; rcases hu with rfl | rfl | rfl | rfl <;> rfl) ?_ ?_ hbase ?_
  · unfold maxLen; omega
  · omega
  · intro v' w' hO' hgr hnil hat
    rcases hO'.2 with ⟨h0, _⟩ | ⟨g', cap', cur, hv, _, _, hn, hcap, _, _⟩
    · have := (hnil.1 h0).1
      cases this
    · subst hv
      refine h g' cap' w' ?_ hgr ?_
      · unfold OwnTk OwnG
        rw [List.length_append, List.length_singleton, List.flatMap_append, List.flatMap_singleton]
        exact hO'
      · simp [Value.ownBlock] at hat
        exact hat
theorem enV_len (x : Int × Nat) : (enV x).length = 2 := rfl
theorem Tryz.infoEn : (Tryz.prog.info? 86).map (fun i => (i.zero, i.size, i.bytes)) = some (some (.agg #[.int .i64 0, .int .i64 0]), 2, 16) := by kernel_rfl
abbrev OwnEn (w : World) (base g cap : Nat) (es : List (Int × Nat)) : Prop := OwnG enV 2 86 w base g cap es
theorem wpList_append_En {ops : Array Oper} {rest : List Oper} {o : Oper} {a : Act} {Q : Exit → Act → World → Prop} (w : World) (hgd : o.guard = none) (s x : Operand)
    (ho : o.op = .call { callee := .builtin .append, args := #[s, x], argTypes := #[78, 78] })
    (base g cp n b cx : Nat) (fs : List (Int × Nat)) (e : Int × Nat) (hs : a.eval s = .slice (some ⟨g, 0, none⟩) n cp) (hx : a.eval x = .slice (some ⟨b, 0, none⟩) 1 cx) (hn : n = fs.length) (hO : OwnEn w base g cp fs)
    (hc : ∀ j u, (enV e)[j]? = some u → w.cell? ⟨b, j, none⟩ = some u) (hlen : fs.length ≤ 1000000) (hbase : base ≤ w.heap.size)
    (h : ∀ g' cp' w', OwnEn w' base g' cp' (fs ++ [e]) → w.grownBy w' (some g) → (g' = g ∨ g' = w.heap.size) → wpList Tryz.prog ops Q rest (a.put o.dst (.slice (some ⟨g', 0, none⟩) (n + 1) cp')) w') : wpList Tryz.prog ops Q (o :: rest) a w := by
  subst hn
  obtain ⟨i, hi, hz0, hz1, hz2⟩ := info_parts Tryz.infoEn
  refine wpList_append_own_at w hgd s x 78 ho base 86 i _ 2 16 Tryz.underlying78 hi hz0 hz1 hz2 rfl (by decide) (.slice (some ⟨g, 0, none⟩) fs.length cp) fs.length (fs.flatMap enV) hs hO ⟨b, 0, none⟩ 1 cx (enV e) hx (by rw [enV_len]) (fun j u hu => by rw [Addr.add_mid, Nat.zero_add]; exact hc j u hu) (fun u hu => by simp at hu; rcases hu with rfl | rfl <;> rfl) ?_ ?_ hbase ?_
  · unfold maxLen; omega
  · omega
  · intro v' w' hO' hgr hnil hat
    rcases hO'.2 with ⟨h0, _⟩ | ⟨g', cap', cur, hv, _, _, hn, hcap, _, _⟩
    · have := (hnil.1 h0).1
      cases this
    · subst hv
      refine h g' cap' w' ?_ hgr ?_
      · unfold OwnEn OwnG
        rw [List.length_append, List.length_singleton, List.flatMap_append, List.flatMap_singleton]
        exact hO'
      · simp [Value.ownBlock] at hat
        exact hat
theorem alloc_cells (w : World) (cs : List Value) (ty : Nat) : ∀ j u, cs[j]? = some u → (w.alloc (Obj.cells cs.toArray ty)).cell? ⟨w.heap.size, j, none⟩ = some u := by
  intro j u hu
  rw [World.cell?_alloc_new]
  simpa using hu
end Go.Proofs.YtgnpcenpcmdlfaaGreatDoor

/-
  spec.l5Fail, l5IsSym, l5Makes, l5Ends, l5Open.
-/
namespace Go.Proofs.YtgnpcenpcmdlfaaGreatDoor
open Go.ChangeShapes Go.WideShapes Go.ChangeAt Go.RowKit Go.Deep
set_option linter.unusedVariables false
set_option linter.unusedSimpArgs false
set_option maxRecDepth 100000

abbrev parV (g N cp : Nat) (i nd : Nat) (er : Int) (pa : Nat) : Value := .agg #[.slice (some ⟨g, 0, none⟩) N cp, .int .i64 (i : Int), .int .i64 (nd : Int), .int .i64 er, .int .i64 (pa : Int)]
theorem par_boxes {w W0 : World} (v u : List Value) {t : Nat} (h : W0 = (w.alloc (Obj.cells v.toArray t)).alloc (Obj.cells u.toArray t)) : BoxAt W0 w.heap.size t v.length w.heap.size v ∧ BoxAt W0 w.heap.size t u.length (w.heap.size + 1) u ∧ Below w.heap.size w W0 := by
  obtain ⟨X, hX⟩ : ∃ X : World, X = w.alloc (Obj.cells v.toArray t) := ⟨_, rfl⟩
  have z : X.heap.size = w.heap.size + 1 := by rw [hX]; simp
  have b1 := boxAt_new w (base := w.heap.size) (t := t) (sz := v.length) v.toArray (Nat.le_refl _) (by simp)
  have k1 : Below w.heap.size w X := by rw [hX]; exact (Below.refl _ _).alloc (Nat.le_refl _) _
  rw [← hX] at b1 h
  have k2 : Below X.heap.size X W0 := by rw [h]; exact (Below.refl _ _).alloc (Nat.le_refl _) _
  have b2 := boxAt_new X (base := w.heap.size) (t := t) (sz := u.length) u.toArray (by omega) (by simp)
  rw [← h, z] at b2
  exact ⟨b1.below k2, b2, k1.trans (k2.mono (by omega))⟩
def setP (w : World) (g : Nat) (a b c d e : Value) : World := ((((w.setCell ⟨g, 0, none⟩ a).setCell ⟨g, 1, none⟩ b).setCell ⟨g, 2, none⟩ c).setCell ⟨g, 3, none⟩ d).setCell ⟨g, 4, none⟩ e
theorem BoxAt.setP {w : World} {base t g : Nat} {vs : List Value} (h : BoxAt w base t 5 g vs) (a b c d e : Value) : BoxAt (Go.Proofs.YtgnpcenpcmdlfaaGreatDoor.setP w g a b c d e) base t 5 g [a, b, c, d, e] := by
  have h1 := ((((h.set 0 a).set 1 b).set 2 c).set 3 d).set 4 e
  have hl := h.len
  match vs, hl with
  | [_, _, _, _, _], _ => exact h1
theorem below_setP {B : Nat} {x w : World} (h : Below B x w) {k : Nat} (hk : B ≤ k) (a b c d e : Value) : Below B x (setP w k a b c d e) := below_set (below_set (below_set (below_set (below_set h hk 0 a) hk 1 b) hk 2 c) hk 3 d) hk 4 e
theorem tkN_bad {k : TkK} : tkN k = 6 ↔ k.isBad = true := by cases k <;> simp [tkN, TkK.isBad]
theorem tk_cells {w : World} {base g cp : Nat} {ks : List Tk} (h : OwnTk w base g cp ks) {i : Nat} {k : Tk} (hk : ks[i]? = some k) :
    w.cell? ⟨g, i * 4, none⟩ = some (.int .i64 (tkN k.k)) ∧ w.cell? ⟨g, i * 4 + 1, none⟩ = some (.int .u64 k.k.nm) ∧ w.cell? ⟨g, i * 4 + 2, none⟩ = some (.string (tkT k.k)) ∧ w.cell? ⟨g, i * 4 + 3, none⟩ = some (.int .i64 (k.pos : Int)) :=
  ⟨h.cell tkV_len hk 0 (by omega), h.cell tkV_len hk 1 (by omega), h.cell tkV_len hk 2 (by omega), h.cell tkV_len hk 3 (by omega)⟩
set_option maxHeartbeats 4000000 in
theorem l5Fail_core {w : World} {base g N cp : Nat} {ks : List Tk} (h : OwnTk w base g cp ks) (hN : N = ks.length) (hl : N ≤ 1000000) {i : Nat} {k : Tk} (hk : ks[i]? = some k) (nd : Nat) (er : Int) (pa : Nat) (c : Int) :
    Calls Tryz.prog 46 #[parV g N cp i nd er pa, .int .i64 c] w fun e w' => e = .returned (parV g N cp i nd (if k.k.isBad = true then 2 else c) k.pos) ∧ Below w.heap.size w w' := by
  obtain ⟨c0, c1, c2, c3⟩ := tk_cells h hk
  have hg := h.lt.2
  have hi : i < N := by rw [hN]; exact (List.getElem?_eq_some_iff.1 hk).1
  have zi : (i : Int) < (N : Int) := by omega
  clear h hk hN
  have HB : Hid (Below w.heap.size w w) := Below.refl _ _
  cases hb : k.k.isBad
  case false =>
    have z6 : (tkN k.k == 6) = false := by
      rw [beq_eq_false_iff_ne]; intro q; rw [tkN_bad.1 q] at hb; cases hb
    go_enter Tryz.func46, Tryz.ntmps46
    go_wp2_with fail
    refine bodyPost_ret (v := parV g N cp i nd c k.pos) (by simp [results, Tryz.results46, go_sem]) rfl ⟨by simp, ?_⟩
    first
      | exact ((Below.refl _ _).alloc (Nat.le_refl _) _).alloc (by simp) _
      | (repeat (first | exact Below.refl _ _ | refine Below.alloc ?_ (by simp) _))
  case true =>
    have z6 : (tkN k.k == 6) = true := by rw [beq_iff_eq]; exact tkN_bad.2 hb
    go_enter Tryz.func46, Tryz.ntmps46
    go_wp2_with fail
    refine bodyPost_ret (v := parV g N cp i nd 2 k.pos) (by simp [results, Tryz.results46, go_sem]) rfl ⟨by simp, ?_⟩
    exact ((Below.refl _ _).alloc (Nat.le_refl _) _).alloc (by simp) _
/-- The text of a sign, and of no other token. -/
theorem sym_iff (k : TkK) (hk : k.good ∨ k = .fin ∨ k = .bad) (b : UInt8) (s : ByteArray) (hs : s.toList = if b = 46 then [46, 46] else [b]) : (tkN k = 4 ∧ (tkT k).toList = s.toList) ↔ k.isSign b = true := by
  rw [hs]
  cases k with
  | sign c =>
    simp only [tkN, tkT, TkK.isSign, true_and, beq_iff_eq]
    by_cases h1 : c = 46
    · by_cases h2 : b = 46
      · simp [h1, h2]
      · rw [if_pos h1, if_neg h2, ByteArray.toList_eq]
        constructor
        · intro q; simp at q
        · intro q; exact absurd (q.symm.trans h1) h2
    · rw [if_neg h1]
      by_cases h2 : b = 46
      · rw [if_pos h2, ByteArray.toList_eq]
        constructor
        · intro q; simp at q
        · intro q; exact absurd (q.trans h2) h1
      · rw [if_neg h2, ByteArray.toList_eq]
        constructor
        · intro q; simpa using q
        · intro q; simp [q]
  | _ => simp [tkN, TkK.isSign]
set_option maxHeartbeats 4000000 in
theorem l5IsSym_core {w : World} {base g N cp : Nat} {ks : List Tk} (h : OwnTk w base g cp ks) (hN : N = ks.length) (hl : N ≤ 1000000) {i : Nat} {k : Tk} (hk : ks[i]? = some k) (hg : k.k.good ∨ k.k = .fin ∨ k.k = .bad) (nd : Nat) (er : Int) (pa : Nat) (b : UInt8) (s : ByteArray) (hs : s.toList = if b = 46 then [46, 46] else [b]) :
    Calls Tryz.prog 48 #[parV g N cp i nd er pa, .string s] w fun e w' => e = .returned (.bool (k.k.isSign b)) ∧ Below w.heap.size w w' := by
  obtain ⟨c0, c1, c2, c3⟩ := tk_cells h hk
  have hgl := h.lt.2
  have hi : i < N := by rw [hN]; exact (List.getElem?_eq_some_iff.1 hk).1
  have zi : (i : Int) < (N : Int) := by omega
  have HS : Hid ((tkN k.k = 4 ∧ (tkT k.k).toList = s.toList) ↔ k.k.isSign b = true) := sym_iff k.k hg b s hs
  obtain ⟨r, hr⟩ : ∃ r, r = k.k.isSign b := ⟨_, rfl⟩
  rw [← hr] at HS ⊢
  obtain ⟨kn, hkn⟩ : ∃ kn, kn = tkN k.k := ⟨_, rfl⟩
  obtain ⟨kt, hkt⟩ : ∃ kt, kt = tkT k.k := ⟨_, rfl⟩
  rw [← hkn] at c0 HS
  rw [← hkt] at c2 HS
  clear h hk hN hg hs hr hkn hkt c1 c3
  by_cases h4 : kn = 4
  · have z4 : (kn == 4) = true := by rw [beq_iff_eq]; exact h4
    by_cases ht : kt.toList = s.toList
    · have zt : (kt.toList == s.toList) = true := by rw [beq_iff_eq]; exact ht
      obtain rfl : r = true := HS.out.1 ⟨h4, ht⟩
      clear h4 ht
      go_enter Tryz.func48, Tryz.ntmps48
      go_wp2_with fail
      go_ret
      exact ⟨rfl, (Below.refl _ _).alloc (Nat.le_refl _) _⟩
    · have zt : (kt.toList == s.toList) = false := by rw [beq_eq_false_iff_ne]; exact ht
      obtain rfl : r = false := by cases r with
        | false => rfl
        | true => exact absurd (HS.out.2 rfl).2 ht
      clear h4 ht
      go_enter Tryz.func48, Tryz.ntmps48
      go_wp2_with fail
      go_ret
      exact ⟨rfl, (Below.refl _ _).alloc (Nat.le_refl _) _⟩
  · have z4 : (kn == 4) = false := by rw [beq_eq_false_iff_ne]; exact h4
    obtain rfl : r = false := by cases r with
      | false => rfl
      | true => exact absurd (HS.out.2 rfl).1 h4
    clear h4
    go_enter Tryz.func48, Tryz.ntmps48
    go_wp2_with fail
    go_ret
    exact ⟨rfl, (Below.refl _ _).alloc (Nat.le_refl _) _⟩
set_option maxHeartbeats 4000000 in
theorem l5Makes_core {w : World} {base g N cp : Nat} {ks : List Tk} (h : OwnTk w base g cp ks) (hN : N = ks.length) (hl : N ≤ 1000000) {i : Nat} {k : Tk} (hk : ks[i]? = some k) (hkb : k.k.isBad = false) (nd : Nat) (hnd : nd ≤ 200) (pa : Nat) :
    Calls Tryz.prog 47 #[parV g N cp i nd 0 pa] w fun e w' => Below w.heap.size w w' ∧ ((nd < 200 ∧ e = .returned (parV g N cp (i + 1) (nd + 1) 0 pa)) ∨ (¬ nd < 200 ∧ e = .returned (parV g N cp i nd 5 k.pos))) := by
  have hi : i < N := by rw [hN]; exact (List.getElem?_eq_some_iff.1 hk).1
  by_cases h2 : nd = 200
  · subst h2
    have HF : Hid (∀ wx, Below w.heap.size w wx → Calls Tryz.prog 46 #[parV g N cp i 200 0 pa, .int .i64 5] wx fun e w' => e = .returned (parV g N cp i 200 5 k.pos) ∧ Below wx.heap.size wx w') := fun wx hx => by
      have h9 := l5Fail_core (h.chg (S := fun _ => False) (Chg.of_below hx) (fun q => q)) hN hl hk 200 0 pa 5
      rw [hkb] at h9
      simpa using h9
    obtain ⟨W0, hW0⟩ : ∃ W0 : World, W0 = (w.alloc (Obj.cells #[.slice (some ⟨g, 0, none⟩) N cp, .int .i64 (i : Int), .int .i64 (200 : Int), .int .i64 0, .int .i64 (pa : Int)] 41)).alloc (Obj.cells #[.slice none 0 0, .int .i64 0, .int .i64 0, .int .i64 0, .int .i64 0] 41) := ⟨_, rfl⟩
    have HW0 : Hid (BoxAt W0 w.heap.size 41 5 w.heap.size [.slice (some ⟨g, 0, none⟩) N cp, .int .i64 (i : Int), .int .i64 (200 : Int), .int .i64 0, .int .i64 (pa : Int)] ∧ BoxAt W0 w.heap.size 41 5 (w.heap.size + 1) [.slice none 0 0, .int .i64 0, .int .i64 0, .int .i64 0, .int .i64 0] ∧ Below w.heap.size w W0) := par_boxes _ _ hW0
    clear h hk hkb hN
    have q0 := HW0.out.1.cell (j := 0) rfl
    have q1 := HW0.out.1.cell (j := 1) rfl
    have q2 := HW0.out.1.cell (j := 2) rfl
    have q3 := HW0.out.1.cell (j := 3) rfl
    have q4 := HW0.out.1.cell (j := 4) rfl
    go_enter Tryz.func47, Tryz.ntmps47
    go_upto_region 1 with fail
    rw [← hW0]
    clear hW0
    go_wp2_with fail
    refine (HF.out W0 HW0.out.2.2).mono ?_
    rintro e w1 ⟨rfl, hb1⟩
    have HW1 : Hid (BoxAt w1 w.heap.size 41 5 (w.heap.size + 1) [.slice none 0 0, .int .i64 0, .int .i64 0, .int .i64 0, .int .i64 0] ∧ Below w.heap.size w w1) := ⟨HW0.out.2.1.below hb1, HW0.out.2.2.trans (hb1.mono HW0.out.2.2.size)⟩
    clear hb1 q0 q1 q2 q3 q4
    obtain ⟨W2, hW2⟩ : ∃ W2 : World, W2 = setP w1 (w.heap.size + 1) (.slice (some ⟨g, 0, none⟩) N cp) (.int .i64 (i : Int)) (.int .i64 (200 : Int)) (.int .i64 5) (.int .i64 (k.pos : Int)) := ⟨_, rfl⟩
    have hB2 := HW1.out.1.setP (.slice (some ⟨g, 0, none⟩) N cp) (.int .i64 (i : Int)) (.int .i64 (200 : Int)) (.int .i64 5) (.int .i64 (k.pos : Int))
    have hk2 := below_setP HW1.out.2 (k := w.heap.size + 1) (by omega) (.slice (some ⟨g, 0, none⟩) N cp) (.int .i64 (i : Int)) (.int .i64 (200 : Int)) (.int .i64 5) (.int .i64 (k.pos : Int))
    rw [← hW2] at hB2 hk2
    have HB2 : Hid (Below w.heap.size w W2) := hk2
    have p0 := hB2.cell (j := 0) rfl
    have p1 := hB2.cell (j := 1) rfl
    have p2 := hB2.cell (j := 2) rfl
    have p3 := hB2.cell (j := 3) rfl
    have p4 := hB2.cell (j := 4) rfl
    have l0 := HW1.out.1.cell (j := 0) rfl
    have l1 := HW1.out.1.cell (j := 1) rfl
    have l2 := HW1.out.1.cell (j := 2) rfl
    have l3 := HW1.out.1.cell (j := 3) rfl
    have l4 := HW1.out.1.cell (j := 4) rfl
    have f0 := HW1.out.1.frozen 0
    have f1 := HW1.out.1.frozen 1
    have f2 := HW1.out.1.frozen 2
    have f3 := HW1.out.1.frozen 3
    have f4 := HW1.out.1.frozen 4
    unfold setP at hW2
    clear hB2 hk2
    go_wp2_with fail
    rw [← hW2]
    exact bodyPost_ret (v := parV g N cp i 200 5 k.pos) (by simp [results, Tryz.results47, go_sem, p0, p1, p2, p3, p4]) rfl ⟨HB2.out, .inr ⟨by omega, rfl⟩⟩
  · have z2 : ((nd : Int) == 200) = false := by rw [beq_eq_false_iff_ne]; omega
    clear h hk hkb hN
    go_enter Tryz.func47, Tryz.ntmps47
    go_wp2_with fail
    refine bodyPost_ret (v := parV g N cp (i + 1) (nd + 1) 0 pa) (by simp [results, Tryz.results47, go_sem]) rfl ⟨?_, .inl ⟨by omega, rfl⟩⟩
    exact ((Below.refl _ _).alloc (Nat.le_refl _) _).alloc (by simp) _
set_option maxHeartbeats 2000000 in
theorem l5Open_core {w : World} {base g cp : Nat} {st : List (Int × Nat)} (h : OwnEn w base g cp st.reverse) (hl : st.length ≤ 1000000) :
    Calls Tryz.prog 45 #[.slice (some ⟨g, 0, none⟩) st.length cp] w fun e w' => e = .returned (.int .i64 (openF st : Int)) ∧ w' = w := by
  have HO : Hid (OwnEn w base g cp st.reverse) := h
  have hg := h.lt.2
  have hcp := h.caps
  obtain ⟨n, hn⟩ : ∃ n, n = st.length := ⟨_, rfl⟩
  have HN : Hid (n = st.length) := hn
  rw [← hn] at hl ⊢
  clear h hn hcp
  go_enter Tryz.func45, Tryz.ntmps45
  go_wp2_with fail
  go_loopw [3, 4] (fun nv iv wr => ∃ (i m : Nat), iv = .int .i64 (i : Int) ∧ nv = .int .i64 (m : Int) ∧ i ≤ n ∧ m ≤ i ∧ m = openF (st.drop (n - i)) ∧ wr = w) (fun _ iv _ => n - (intOf iv).toNat)
  case atStart => exact ⟨0, 0, rfl, rfl, Nat.zero_le _, Nat.le_refl _, by rw [Nat.sub_zero, HN.out, List.drop_length]; rfl, rfl⟩
  case round =>
    obtain ⟨i, m, rfl, rfl, hi, hmi, hM, rfl⟩ := hrel
    have HM : Hid (m = openF (st.drop (n - i))) := hM
    clear hM
    by_cases hin : i < n
    · have zi : (i : Int) < (n : Int) := by omega
      obtain ⟨e, he⟩ : ∃ e, st[n - 1 - i]? = some e := ⟨_, List.getElem?_eq_getElem (by have := HN.out; omega)⟩
      have hr : st.reverse[i]? = some e := by rw [List.getElem?_reverse (by have := HN.out; omega), ← HN.out]; exact he
      have c0 := HO.out.cell enV_len hr 0 (by omega)
      simp at c0
      have HS : Hid (openF (st.drop (n - (i + 1))) = m + if 2 < e.1 then 1 else 0) := by
        show _ = _
        have hlt : n - 1 - i < st.length := (List.getElem?_eq_some_iff.1 he).1
        rw [show n - (i + 1) = n - 1 - i by omega, List.drop_eq_getElem_cons hlt, show st[n - 1 - i] = e from Option.some.inj ((List.getElem?_eq_getElem hlt).symm.trans he), show n - 1 - i + 1 = n - i by omega, HM.out]
        rfl
      clear he hr
      by_cases h2 : 2 < e.1
      · rw [if_pos h2] at HS
        go_wp2_with fail
        go_roundw
        case rel => exact ⟨i + 1, m + 1, by go_num, by go_num, by omega, by omega, HS.out.symm, by first | rfl | trivial⟩
        case measure => simp [intOf]; omega
      · rw [if_neg h2] at HS
        go_wp2_with fail
        go_roundw
        case rel => exact ⟨i + 1, m, by go_num, by go_num, by omega, by omega, HS.out.symm, by first | rfl | trivial⟩
        case measure => simp [intOf]; omega
    · have zi : ¬ (i : Int) < (n : Int) := by omega
      have HE : Hid (m = openF st) := by
        show _ = _
        rw [HM.out, show n - i = 0 by omega]; rfl
      go_wp2_with fail
      go_ret
      exact ⟨by rw [← HE.out]; rfl, rfl⟩
end Go.Proofs.YtgnpcenpcmdlfaaGreatDoor

