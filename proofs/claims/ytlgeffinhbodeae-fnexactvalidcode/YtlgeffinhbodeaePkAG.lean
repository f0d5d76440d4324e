import Derived.Test.YtlgeffinhbodeaePkAF
import Derived.Test.YtlgeffinhbodeaePkAB
/-
  spec.ValidFilter.
-/
namespace Go.Proofs.Ytlgeffinhbodeae
open Go.ChangeShapes Go.WideShapes Go.ChangeAt Go.RowKit Go.Deep
set_option linter.unusedVariables false
set_option linter.unusedSimpArgs false
set_option maxRecDepth 100000

open Classical in
/-- Whether a node is valid. -/
noncomputable def goodB (e : Nd) : Bool := decide (GoodN e)
theorem goodB_iff (e : Nd) : goodB e = true ↔ GoodN e := by unfold goodB; simp
/-- What ValidFilter says of nodes. -/
def GoodF (xs : List Nd) : Prop := xs.length ≤ 200 ∧ ∃ s, ShT goodB [s] xs ∧ s.valid = true ∧ s.nest ≤ 20
theorem goodF_all {xs : List Nd} (h : GoodF xs) : ∀ e ∈ xs, GoodN e := by
  obtain ⟨_, s, hs, hv, _⟩ := h
  have := ShT.valid goodB hs
  simp [hv] at this
  exact fun e he => (goodB_iff e).1 (this e he)
theorem sh_one {xs : List Nd} {s t : Shape} (h : ShT goodB [s] xs) (k : ShT goodB [t] xs) : s = t := by
  have a := ShT.fold goodB h []
  have b := ShT.fold goodB k []
  rw [a] at b
  simpa using b
def FltPost (xs : List Nd) (w : World) (r : Ending) (w' : World) : Prop := ∃ b, r = .returned (.bool b) ∧ (b = true ↔ GoodF xs) ∧ Below w.heap.size w w'
set_option maxHeartbeats 4000000 in
theorem specFilter_core {w : World} {base g cp : Nat} {xs : List Nd} (h : OwnNd w base g cp xs) (hok : ∀ e ∈ xs, e.ok) (hc : cp ≤ 281474976710656) : Calls Try.prog 146 #[.agg #[.slice (some ⟨g, 0, none⟩) xs.length cp]] w (FltPost xs w) := by
  have HO : Hid (OwnNd w base g cp xs ∧ ∀ e ∈ xs, e.ok) := ⟨h, hok⟩
  have hg := h.lt.2
  have hcp := h.caps
  obtain ⟨n, hn⟩ : ∃ n, n = xs.length := ⟨_, rfl⟩
  have HN : Hid (n = xs.length) := hn
  rw [← hn] at hcp ⊢
  unfold maxLen at hcp
  clear h hok hn
  obtain ⟨W0, hW0⟩ : ∃ W0 : World, W0 = w.alloc (Obj.cells #[.slice (some ⟨g, 0, none⟩) n cp] 228) := ⟨_, rfl⟩
  have HW0 : Hid (BoxAt W0 w.heap.size 228 1 w.heap.size [.slice (some ⟨g, 0, none⟩) n cp] ∧ Below w.heap.size w W0) := by
    rw [hW0]; exact ⟨boxAt_new w _ (Nat.le_refl _) rfl, (Below.refl _ _).alloc (Nat.le_refl _) _⟩
  have c0 := HW0.out.1.cell (j := 0) rfl
  have s0 := HW0.out.2.size
  go_enter Try.func146, Try.ntmps146
  go_upto_region 1 with fail
  rw [← hW0]
  clear hW0
  by_cases hbig : 200 < n
  · have zb : (200 : Int) < (n : Int) := by omega
    have HF : Hid (¬ GoodF xs) := fun q => by have := q.1; have := HN.out; omega
    go_wp2_with fail
    go_ret
    exact ⟨_, rfl, by simp [HF.out], HW0.out.2⟩
  have zb : ¬ (200 : Int) < (n : Int) := by omega
  go_wp2_with fail
  clear c0
  go_loopw [3] (fun iv wr => ∃ (j : Nat), iv = .int .i64 (j : Int) ∧ j ≤ n ∧ (∀ e ∈ xs.take j, GoodN e) ∧ BoxAt wr w.heap.size 228 1 w.heap.size [.slice (some ⟨g, 0, none⟩) n cp] ∧ Below w.heap.size w wr) (fun iv _ => n - (intOf iv).toNat)
  case atStart => exact ⟨0, rfl, Nat.zero_le _, by simp, HW0.out⟩
  case round =>
    obtain ⟨j, rfl, hj, hG, hB, hb⟩ := hrel
    have HJ : Hid ((∀ e ∈ xs.take j, GoodN e) ∧ BoxAt wr w.heap.size 228 1 w.heap.size [.slice (some ⟨g, 0, none⟩) n cp] ∧ Below w.heap.size w wr) := ⟨hG, hB, hb⟩
    have c0 := hB.cell (j := 0) rfl
    have sr := hb.size
    clear hG hB hb HW0
    by_cases hlt : j < n
    · have zj : (j : Int) < (n : Int) := by omega
      obtain ⟨e, he⟩ : ∃ e, xs[j]? = some e := ⟨_, List.getElem?_eq_getElem (by have := HN.out; omega)⟩
      obtain ⟨d0, d1, d2, d3, d4, d5, d6⟩ := (HO.out.1.at.below HJ.out.2.2 hg) j e he
      simp only [Nat.zero_add] at d0 d1 d2 d3 d4 d5 d6
      have ok := HO.out.2 e (List.mem_of_getElem? he)
      have HE : Hid (e.s.size ≤ maxLen ∧ e.t.size ≤ maxLen ∧ e ∈ xs ∧ xs.take (j + 1) = xs.take j ++ [e]) := ⟨ok.s, ok.t, List.mem_of_getElem? he, by rw [List.take_add_one, he]; rfl⟩
      clear ok he
      go_wp2_with fail
      refine (good_core e wr HE.out.1 HE.out.2.1).mono ?_
      rintro r w2 ⟨b, rfl, hb, hb2⟩
      have HB : Hid (b = true ↔ GoodN e) := hb
      have HJ2 : Hid (BoxAt w2 w.heap.size 228 1 w.heap.size [.slice (some ⟨g, 0, none⟩) n cp] ∧ Below w.heap.size w w2) := ⟨HJ.out.2.1.below hb2, HJ.out.2.2.trans (hb2.mono sr)⟩
      clear hb hb2 c0 d0 d1 d2 d3 d4 d5 d6
      cases b
      · have HF : Hid (¬ GoodF xs) := fun q => by
          have := HB.out.2 (goodF_all q e HE.out.2.2.1)
          cases this
        go_wp2_with fail
        go_ret
        exact ⟨_, rfl, by simp [HF.out], HJ2.out.2⟩
      · go_wp2_with fail
        go_roundw
        case rel =>
          refine ⟨j + 1, by go_num, by omega, ?_, HJ2.out.1, HJ2.out.2⟩
          intro e' he'
          rw [HE.out.2.2.2] at he'
          rcases List.mem_append.1 he' with h | h
          · exact HJ.out.1 e' h
          · simp at h; subst h; exact HB.out.1 (by first | rfl | trivial)
        case measure => simp [intOf]; omega
    · have zj : ¬ (j : Int) < (n : Int) := by omega
      have HA : Hid (∀ e ∈ xs, GoodN e) := by
        have h1 := HJ.out.1
        rw [List.take_of_length_le (by have := HN.out; omega)] at h1
        exact h1
      have hWin : Win wr g 0 cp xs := ⟨HO.out.1.at.below HJ.out.2.2 hg, by omega, by rw [← HN.out]; exact hcp.1, hc⟩
      have HT : Hid (Calls Try.prog 171 #[.slice (some ⟨g, 0, none⟩) n cp] wr fun r w' => w' = wr ∧ ((r = .returned (.bool true) ∧ IsT 1 xs) ∨ (r = .returned (.bool false) ∧ ¬ IsT 1 xs))) := by
        rw [HN.out]; exact l5Tree_core hWin
      have HNe : Hid (∀ s, ShT goodB [s] xs → Calls Try.prog 172 #[.slice (some ⟨g, 0, none⟩) n cp] wr fun r w' => r = .returned (.int .i64 (s.nest : Int)) ∧ Below wr.heap.size wr w') := fun s hs => by
        rw [HN.out]; exact nest_all goodB xs.length wr g 0 cp xs s (Nat.le_refl _) hWin hs
      clear hWin
      go_wp2_with fail
      refine HT.out.mono ?_
      rintro r w2 ⟨hw2, (⟨rfl, hT⟩ | ⟨rfl, hT⟩)⟩
      · rw [hw2]
        clear hw2
        obtain ⟨ss, hl, hs⟩ := IsT.shapes goodB hT
        obtain ⟨s, rfl⟩ : ∃ s, ss = [s] := by
          match ss, hl with
          | [s], _ => exact ⟨s, rfl⟩
        have HSh : Hid (ShT goodB [s] xs) := hs
        have HV : Hid (s.valid = true) := by
          show s.valid = true
          have h1 := ShT.valid goodB hs
          have h2 : xs.all goodB = true := List.all_eq_true.2 (fun e he => (goodB_iff e).2 (HA.out e he))
          rw [h2] at h1
          simpa using h1
        have HF : Hid (GoodF xs ↔ s.nest ≤ 20) := by
          show GoodF xs ↔ _
          constructor
          · rintro ⟨_, t, ht, _, hn⟩
            rw [sh_one hs ht]; exact hn
          · intro hn
            exact ⟨by have := HN.out; omega, s, hs, HV.out, hn⟩
        clear hT hl hs
        go_wp2_with fail
        refine (HNe.out s HSh.out).mono ?_
        rintro r w3 ⟨rfl, hb3⟩
        have HB3 : Hid (Below w.heap.size w w3) := HJ.out.2.2.trans (hb3.mono sr)
        clear hb3 c0
        go_wp2_with fail
        go_ret
        exact ⟨_, rfl, by rw [HF.out]; simp <;> omega, HB3.out⟩
      · rw [hw2]
        clear hw2
        have HF : Hid (¬ GoodF xs) := fun q => by
          obtain ⟨_, s, hs, _⟩ := q
          exact hT hs.tree
        clear hT
        go_wp2_with fail
        go_ret
        exact ⟨_, rfl, by simp [HF.out], HJ.out.2.2⟩
end Go.Proofs.Ytlgeffinhbodeae

/-
  What makes code valid, without memory.
-/
namespace Go.Proofs.Ytlgeffinhbodeae
open Go.ChangeShapes Go.WideShapes Go.ChangeAt Go.RowKit Go.Deep
set_option linter.unusedVariables false

def cntK (k : Int) : Prop := k = 11 ∨ k = 12 ∨ k = 13
def NoNd (e : Nd) : Prop := e.kind = 0 ∧ e.s.toList = [] ∧ e.hi = false ∧ e.t.toList = [] ∧ e.lo = 0 ∧ e.up = 0 ∧ e.n = 0
/-- An instruction that has no leaf. -/
def NoLeaf (x : Ix) : Prop := x.free = false ∧ NoNd x.leaf
/-- What makes instruction 'k' of 'n' valid. -/
def GoodI (x : Ix) (k n cnt conds : Int) : Prop :=
  (x.op = 1 ∧ GoodF [x.leaf] ∧ x.b = 0 ∧ ((cntK x.leaf.kind ∧ 0 ≤ x.a ∧ x.a < cnt) ∨ (¬ cntK x.leaf.kind ∧ x.a = 0))) ∨
  (x.op = 5 ∧ NoLeaf x ∧ 0 ≤ x.a ∧ x.a < conds ∧ k < x.b ∧ x.b ≤ n) ∨
  (x.op = 6 ∧ NoLeaf x ∧ x.a = 0 ∧ k < x.b ∧ x.b ≤ n) ∨
  ((x.op = 2 ∨ x.op = 3 ∨ x.op = 4) ∧ NoLeaf x ∧ x.a = 0 ∧ x.b = 0)

def more (op : Int) : Int := if op = 2 then 1 else if op = 4 then -1 else 0
def least (op : Int) : Int := if op = 3 ∨ op = 4 then 2 else 1
def ways (k : Nat) (x : Ix) : List Nat := if x.op = 5 then [k + 1, x.b.toNat] else if x.op = 6 then [x.b.toNat] else [k + 1]
/-- A place is reached with 'd' items. -/
def note (ds : List Int) (j : Nat) (d : Int) : Option (List Int) :=
  match ds[j]? with
  | some e => if e = 0 ∨ e = d then some (ds.set j d) else none
  | none => none
def notes (d : Int) : List Nat → List Int → Option (List Int)
  | [], ds => some ds
  | j :: js, ds => (note ds j d).bind (notes d js)
def stepF (ds : List Int) (k : Nat) (x : Ix) : Option (List Int) :=
  match ds[k]? with
  | some e => if e < least x.op ∨ 250 < e + more x.op then none else notes (e + more x.op) (ways k x) ds
  | none => none
/-- The numbers of items behind 'k' instructions. -/
def flowF (xs : List Ix) : Nat → Option (List Int)
  | 0 => some (1 :: List.replicate xs.length 0)
  | k + 1 => (flowF xs k).bind fun ds => (xs[k]?).bind fun x => stepF ds k x
def GoodB (l : List Ix) (cnt : Int) (conds : Nat) : Prop :=
  1 ≤ l.length ∧ l.length ≤ 4000 ∧ 0 ≤ cnt ∧ cnt ≤ 200 ∧ (∀ (k : Nat) (x : Ix), l[k]? = some x → GoodI x k l.length cnt conds) ∧ ∃ ds, flowF l l.length = some ds ∧ ds[l.length]? = some 1
theorem flow_step {xs : List Ix} {k : Nat} {ds : List Int} {x : Ix} (h : flowF xs k = some ds) (hx : xs[k]? = some x) : flowF xs (k + 1) = stepF ds k x := by
  simp [flowF, h, hx]
theorem flow_none {xs : List Ix} {k m : Nat} (h : flowF xs k = none) (hkm : k ≤ m) : flowF xs m = none := by
  induction m with
  | zero => have : k = 0 := by omega
            subst this; exact h
  | succ m ih =>
    by_cases e : k = m + 1
    · subst e; exact h
    · simp [flowF, ih (by omega)]
/-- Numbers that may stand. -/
structure FlowOk (n : Nat) (ds : List Int) : Prop where
  len : ds.length = n + 1
  ran : ∀ d ∈ ds, 0 ≤ d ∧ d ≤ 250
theorem flow0 (xs : List Ix) : FlowOk xs.length (1 :: List.replicate xs.length 0) :=
  ⟨by simp, fun d hd => by
    rcases List.mem_cons.1 hd with rfl | hd
    · omega
    · have := (List.mem_replicate.1 hd).2; omega⟩
theorem note_ok {n : Nat} {ds ds' : List Int} {j : Nat} {d : Int} (h : FlowOk n ds) (hd : 0 ≤ d ∧ d ≤ 250) (hn : note ds j d = some ds') : FlowOk n ds' ∧ ds' = ds.set j d ∧ j ≤ n := by
  unfold note at hn
  cases hj : ds[j]? with
  | none => rw [hj] at hn; cases hn
  | some e =>
    rw [hj] at hn
    have hl := (List.getElem?_eq_some_iff.1 hj).1
    simp only at hn
    split at hn
    · obtain rfl := Option.some.inj hn
      refine ⟨⟨by rw [List.length_set]; exact h.len, fun x hx => ?_⟩, rfl, by have := h.len; omega⟩
      rcases List.mem_or_eq_of_mem_set hx with q | q
      · exact h.ran x q
      · rw [q]; exact hd
    · cases hn
theorem note_some {ds : List Int} {j : Nat} {d e : Int} (hj : ds[j]? = some e) (h : e = 0 ∨ e = d) : note ds j d = some (ds.set j d) := by
  unfold note; rw [hj]; simp [h]
theorem note_bad {ds : List Int} {j : Nat} {d e : Int} (hj : ds[j]? = some e) (h : ¬ (e = 0 ∨ e = d)) : note ds j d = none := by
  unfold note; rw [hj]; simp [h]
theorem notes_ok {n : Nat} {d : Int} (hd : 0 ≤ d ∧ d ≤ 250) : ∀ (js : List Nat) {ds ds' : List Int}, FlowOk n ds → notes d js ds = some ds' → FlowOk n ds'
  | [], _, _, h, hn => by obtain rfl := Option.some.inj hn; exact h
  | j :: js, ds, ds', h, hn => by
    simp only [notes, Option.bind_eq_some_iff] at hn
    obtain ⟨d1, h1, h2⟩ := hn
    exact notes_ok hd js (note_ok h hd h1).1 h2
theorem step_ok {n k : Nat} {ds ds' : List Int} {x : Ix} (h : FlowOk n ds) (hs : stepF ds k x = some ds') : FlowOk n ds' := by
  unfold stepF at hs
  cases hj : ds[k]? with
  | none => rw [hj] at hs; cases hs
  | some e =>
    rw [hj] at hs
    simp only at hs
    split at hs
    · cases hs
    · rename_i hc
      have h1 := h.ran e (List.mem_of_getElem? hj)
      refine notes_ok ⟨?_, by omega⟩ _ h hs
      unfold least more at hc
      unfold more
      split at hc <;> split at hc <;> simp_all <;> omega
theorem flow_ok {xs : List Ix} {k : Nat} {ds : List Int} (h : flowF xs k = some ds) : FlowOk xs.length ds := by
  induction k generalizing ds with
  | zero => obtain rfl := Option.some.inj h; exact flow0 xs
  | succ k ih =>
    simp only [flowF, Option.bind_eq_some_iff] at h
    obtain ⟨d1, h1, x, hx, h2⟩ := h
    exact step_ok (ih h1) h2
/-- A bad instruction. -/
theorem goodB_ins {l : List Ix} {cnt : Int} {conds k : Nat} {x : Ix} (h : GoodB l cnt conds) (hx : l[k]? = some x) : GoodI x k l.length cnt conds := h.2.2.2.2.1 k x hx
theorem goodB_flow {l : List Ix} {cnt : Int} {conds k : Nat} (h : GoodB l cnt conds) (hk : k ≤ l.length) : flowF l k ≠ none := by
  intro q
  obtain ⟨ds, h1, _⟩ := h.2.2.2.2.2
  rw [flow_none q hk] at h1
  cases h1
end Go.Proofs.Ytlgeffinhbodeae

/-
  impl.validNode.
-/
namespace Go.Proofs.Ytlgeffinhbodeae
open Go.ChangeShapes Go.WideShapes Go.ChangeAt Go.RowKit Go.Deep
set_option linter.unusedVariables false
set_option linter.unusedSimpArgs false
set_option maxRecDepth 100000

theorem emptyL : (⟨#[]⟩ : ByteArray).toList = [] := by first | (simp; done) | (kernel_rfl; done) | (go_simp; done)
theorem lessL : Op.bytesLess [] [] = false := by first | (kernel_rfl; done) | (decide; done) | (simp [Op.bytesLess]; done)
theorem ndEq_is (k : Int) (s : ByteArray) (h : Bool) (t : ByteArray) (l u n k' : Int) (s' : ByteArray) (h' : Bool) (t' : ByteArray) (l' u' n' : Int) (B : Bool) (hB : B = decide (k = k' ∧ s.toList = s'.toList ∧ h = h' ∧ t.toList = t'.toList ∧ l = l' ∧ u = u' ∧ n = n')) (wx : World) :
    (binOp .eql 173 (.agg #[.int .i64 k, .string s, .bool h, .string t, .int .u64 l, .int .u64 u, .int .i64 n]) (.agg #[.int .i64 k', .string s', .bool h', .string t', .int .u64 l', .int .u64 u', .int .i64 n'])).run Try.prog wx = .ok (.bool B) wx := by
  rw [hB]; exact ndEq_run k s h t l u n k' s' h' t' l' u' n' wx
set_option maxHeartbeats 8000000 in
theorem validNode_core (e : Nd) (w : World) (hs : e.s.size ≤ maxLen) (ht : e.t.size ≤ maxLen) : Calls Try.prog 199 #[e.v] w (NdPost e w) := by
  obtain ⟨kind, s, hi, t, lo, up, n⟩ := e
  have HS : Hid (s.size ≤ maxLen) := hs
  unfold maxLen at hs ht
  simp only [] at hs ht
  obtain ⟨W0, hW0⟩ : ∃ W0 : World, W0 = w.alloc (Obj.cells #[.int .i64 kind, .string s, .bool hi, .string t, .int .u64 lo, .int .u64 up, .int .i64 n] 173) := ⟨_, rfl⟩
  have HW0 : Hid (BoxAt W0 w.heap.size 173 7 w.heap.size [.int .i64 kind, .string s, .bool hi, .string t, .int .u64 lo, .int .u64 up, .int .i64 n] ∧ Below w.heap.size w W0) := by
    rw [hW0]; exact ⟨boxAt_new w _ (Nat.le_refl _) rfl, (Below.refl _ _).alloc (Nat.le_refl _) _⟩
  have hbw := HW0.out.2.size
  have c0 := HW0.out.1.cell (j := 0) rfl
  have c1 := HW0.out.1.cell (j := 1) rfl
  have c2 := HW0.out.1.cell (j := 2) rfl
  have c3 := HW0.out.1.cell (j := 3) rfl
  have c4 := HW0.out.1.cell (j := 4) rfl
  have c5 := HW0.out.1.cell (j := 5) rfl
  have c6 := HW0.out.1.cell (j := 6) rfl
  go_enter Try.func199, Try.ntmps199
  go_upto_region 1 with fail
  rw [← hW0]
  clear hW0
  by_cases hgood : s.size ≤ 200 ∧ t.size ≤ 200
  case neg =>
    have HG : Hid (¬ GoodN ⟨kind, s, hi, t, lo, up, n⟩) := fun q => hgood ⟨q.1, q.2.1⟩
    by_cases h1 : s.size ≤ 200
    · have z1 : ¬ (200 : Int) < (s.size : Int) := by omega
      have h2 : ¬ t.size ≤ 200 := fun q => hgood ⟨h1, q⟩
      have z2 : (200 : Int) < (t.size : Int) := by omega
      clear hgood
      go_wp2_with fail
      go_ret
      exact ⟨_, rfl, by simp [HG.out], HW0.out.2⟩
    · have z1 : (200 : Int) < (s.size : Int) := by omega
      clear hgood
      go_wp2_with fail
      go_ret
      exact ⟨_, rfl, by simp [HG.out], HW0.out.2⟩
  have HG : Hid (s.size ≤ 200 ∧ t.size ≤ 200) := hgood
  have z1 : ¬ (200 : Int) < (s.size : Int) := by omega
  have z2 : ¬ (200 : Int) < (t.size : Int) := by omega
  clear hgood hs ht
  obtain ⟨c, hc⟩ : ∃ c, c = (checkM (sb s)).1 := ⟨_, rfl⟩
  obtain ⟨k, hk⟩ : ∃ k : Int, k = ((checkM (sb s)).2 : Int) := ⟨_, rfl⟩
  have HV : Hid (c = (checkM (sb s)).1) := hc
  have HC : Hid (∀ w, Calls Try.prog 205 #[.string s] w fun e w' => e = .returned (.agg #[.int .i64 c, .int .i64 k]) ∧ Below w.heap.size w w') := fun w => by
    rw [hc, hk]; exact implCheck_core s w HS.out
  clear hc hk
  by_cases k1 : kind = 1
  · subst k1
    obtain ⟨B, hB⟩ : ∃ B, B = decide ((1 : Int) = 1 ∧ s.toList = (⟨#[]⟩ : ByteArray).toList ∧ hi = false ∧ t.toList = (⟨#[]⟩ : ByteArray).toList ∧ lo = 0 ∧ up = 0 ∧ n = 0) := ⟨_, rfl⟩
    have hq := ndEq_is 1 s hi t lo up n 1 ⟨#[]⟩ false ⟨#[]⟩ 0 0 0 B hB
    have HB : Hid (B = true ↔ (1 : Int) = 1 ∧ s.toList = (⟨#[]⟩ : ByteArray).toList ∧ hi = false ∧ t.toList = (⟨#[]⟩ : ByteArray).toList ∧ lo = 0 ∧ up = 0 ∧ n = 0) := by rw [hB]; show decide _ = true ↔ _; simp only [decide_eq_true_eq]
    clear hB
    have HF : Hid (B = true ↔ GoodN ⟨1, s, hi, t, lo, up, n⟩) := by
      show B = true ↔ GoodN _
      have hB := HB.out
      have hG := HG.out
      have hE := emptyL
      try simp only [hE] at hB
      rw [hB]
      simp [GoodN]
      constructor
      · rintro ⟨q1, q2, q3, q4, q5, q6⟩
        simp_all
      · rintro ⟨q1, q2, q3, q4⟩
        simp_all
    go_wp2_with fail
    go_ret
    exact ⟨_, rfl, HF.out, HW0.out.2⟩
  by_cases k2 : kind = 2
  · subst k2
    obtain ⟨B, hB⟩ : ∃ B, B = decide ((2 : Int) = 2 ∧ s.toList = (⟨#[]⟩ : ByteArray).toList ∧ hi = false ∧ t.toList = (⟨#[]⟩ : ByteArray).toList ∧ lo = 0 ∧ up = 0 ∧ n = 0) := ⟨_, rfl⟩
    have hq := ndEq_is 2 s hi t lo up n 2 ⟨#[]⟩ false ⟨#[]⟩ 0 0 0 B hB
    have HB : Hid (B = true ↔ (2 : Int) = 2 ∧ s.toList = (⟨#[]⟩ : ByteArray).toList ∧ hi = false ∧ t.toList = (⟨#[]⟩ : ByteArray).toList ∧ lo = 0 ∧ up = 0 ∧ n = 0) := by rw [hB]; show decide _ = true ↔ _; simp only [decide_eq_true_eq]
    clear hB
    have HF : Hid (B = true ↔ GoodN ⟨2, s, hi, t, lo, up, n⟩) := by
      show B = true ↔ GoodN _
      have hB := HB.out
      have hG := HG.out
      have hE := emptyL
      try simp only [hE] at hB
      rw [hB]
      simp [GoodN]
      constructor
      · rintro ⟨q1, q2, q3, q4, q5, q6⟩
        simp_all
      · rintro ⟨q1, q2, q3, q4⟩
        simp_all
    go_wp2_with fail
    go_ret
    exact ⟨_, rfl, HF.out, HW0.out.2⟩
  by_cases k3 : kind = 3
  · subst k3
    obtain ⟨B, hB⟩ : ∃ B, B = decide ((3 : Int) = 3 ∧ s.toList = (⟨#[]⟩ : ByteArray).toList ∧ hi = false ∧ t.toList = (⟨#[]⟩ : ByteArray).toList ∧ lo = 0 ∧ up = 0 ∧ n = 0) := ⟨_, rfl⟩
    have hq := ndEq_is 3 s hi t lo up n 3 ⟨#[]⟩ false ⟨#[]⟩ 0 0 0 B hB
    have HB : Hid (B = true ↔ (3 : Int) = 3 ∧ s.toList = (⟨#[]⟩ : ByteArray).toList ∧ hi = false ∧ t.toList = (⟨#[]⟩ : ByteArray).toList ∧ lo = 0 ∧ up = 0 ∧ n = 0) := by rw [hB]; show decide _ = true ↔ _; simp only [decide_eq_true_eq]
    clear hB
    have HF : Hid (B = true ↔ GoodN ⟨3, s, hi, t, lo, up, n⟩) := by
      show B = true ↔ GoodN _
      have hB := HB.out
      have hG := HG.out
      have hE := emptyL
      try simp only [hE] at hB
      rw [hB]
      simp [GoodN]
      constructor
      · rintro ⟨q1, q2, q3, q4, q5, q6⟩
        simp_all
      · rintro ⟨q1, q2, q3, q4⟩
        simp_all
    go_wp2_with fail
    go_ret
    exact ⟨_, rfl, HF.out, HW0.out.2⟩
  by_cases k14 : kind = 14
  · subst k14
    obtain ⟨B, hB⟩ : ∃ B, B = decide ((14 : Int) = 14 ∧ s.toList = (⟨#[]⟩ : ByteArray).toList ∧ hi = false ∧ t.toList = (⟨#[]⟩ : ByteArray).toList ∧ lo = 0 ∧ up = 0 ∧ n = 0) := ⟨_, rfl⟩
    have hq := ndEq_is 14 s hi t lo up n 14 ⟨#[]⟩ false ⟨#[]⟩ 0 0 0 B hB
    have HB : Hid (B = true ↔ (14 : Int) = 14 ∧ s.toList = (⟨#[]⟩ : ByteArray).toList ∧ hi = false ∧ t.toList = (⟨#[]⟩ : ByteArray).toList ∧ lo = 0 ∧ up = 0 ∧ n = 0) := by rw [hB]; show decide _ = true ↔ _; simp only [decide_eq_true_eq]
    clear hB
    have HF : Hid (B = true ↔ GoodN ⟨14, s, hi, t, lo, up, n⟩) := by
      show B = true ↔ GoodN _
      have hB := HB.out
      have hG := HG.out
      have hE := emptyL
      try simp only [hE] at hB
      rw [hB]
      simp [GoodN]
      constructor
      · rintro ⟨q1, q2, q3, q4, q5, q6⟩
        simp_all
      · rintro ⟨q1, q2, q3, q4⟩
        simp_all
    go_wp2_with fail
    go_ret
    exact ⟨_, rfl, HF.out, HW0.out.2⟩
  by_cases k15 : kind = 15
  · subst k15
    obtain ⟨B, hB⟩ : ∃ B, B = decide ((15 : Int) = 15 ∧ s.toList = (⟨#[]⟩ : ByteArray).toList ∧ hi = false ∧ t.toList = (⟨#[]⟩ : ByteArray).toList ∧ lo = 0 ∧ up = 0 ∧ n = 0) := ⟨_, rfl⟩
    have hq := ndEq_is 15 s hi t lo up n 15 ⟨#[]⟩ false ⟨#[]⟩ 0 0 0 B hB
    have HB : Hid (B = true ↔ (15 : Int) = 15 ∧ s.toList = (⟨#[]⟩ : ByteArray).toList ∧ hi = false ∧ t.toList = (⟨#[]⟩ : ByteArray).toList ∧ lo = 0 ∧ up = 0 ∧ n = 0) := by rw [hB]; show decide _ = true ↔ _; simp only [decide_eq_true_eq]
    clear hB
    have HF : Hid (B = true ↔ GoodN ⟨15, s, hi, t, lo, up, n⟩) := by
      show B = true ↔ GoodN _
      have hB := HB.out
      have hG := HG.out
      have hE := emptyL
      try simp only [hE] at hB
      rw [hB]
      simp [GoodN]
      constructor
      · rintro ⟨q1, q2, q3, q4, q5, q6⟩
        simp_all
      · rintro ⟨q1, q2, q3, q4⟩
        simp_all
    go_wp2_with fail
    go_ret
    exact ⟨_, rfl, HF.out, HW0.out.2⟩
  by_cases k16 : kind = 16
  · subst k16
    obtain ⟨B, hB⟩ : ∃ B, B = decide ((16 : Int) = 16 ∧ s.toList = (⟨#[]⟩ : ByteArray).toList ∧ hi = false ∧ t.toList = (⟨#[]⟩ : ByteArray).toList ∧ lo = 0 ∧ up = 0 ∧ n = 0) := ⟨_, rfl⟩
    have hq := ndEq_is 16 s hi t lo up n 16 ⟨#[]⟩ false ⟨#[]⟩ 0 0 0 B hB
    have HB : Hid (B = true ↔ (16 : Int) = 16 ∧ s.toList = (⟨#[]⟩ : ByteArray).toList ∧ hi = false ∧ t.toList = (⟨#[]⟩ : ByteArray).toList ∧ lo = 0 ∧ up = 0 ∧ n = 0) := by rw [hB]; show decide _ = true ↔ _; simp only [decide_eq_true_eq]
    clear hB
    have HF : Hid (B = true ↔ GoodN ⟨16, s, hi, t, lo, up, n⟩) := by
      show B = true ↔ GoodN _
      have hB := HB.out
      have hG := HG.out
      have hE := emptyL
      try simp only [hE] at hB
      rw [hB]
      simp [GoodN]
      constructor
      · rintro ⟨q1, q2, q3, q4, q5, q6⟩
        simp_all
      · rintro ⟨q1, q2, q3, q4⟩
        simp_all
    go_wp2_with fail
    go_ret
    exact ⟨_, rfl, HF.out, HW0.out.2⟩
  by_cases k4 : kind = 4
  · subst k4
    obtain ⟨B, hB⟩ : ∃ B, B = decide ((4 : Int) = 4 ∧ s.toList = s.toList ∧ hi = false ∧ t.toList = (⟨#[]⟩ : ByteArray).toList ∧ lo = 0 ∧ up = 0 ∧ n = 0) := ⟨_, rfl⟩
    have hq := ndEq_is 4 s hi t lo up n 4 s false ⟨#[]⟩ 0 0 0 B hB
    have HB : Hid (B = true ↔ (4 : Int) = 4 ∧ s.toList = s.toList ∧ hi = false ∧ t.toList = (⟨#[]⟩ : ByteArray).toList ∧ lo = 0 ∧ up = 0 ∧ n = 0) := by rw [hB]; show decide _ = true ↔ _; simp only [decide_eq_true_eq]
    clear hB
    cases B
    · have HF : Hid (¬ GoodN ⟨4, s, hi, t, lo, up, n⟩) := by
        show ¬ GoodN _
        have hB := HB.out
        have hE := emptyL
        try simp only [hE] at hB
        intro q
        simp [GoodN] at q hB
        simp_all
      go_wp2_with fail
      go_ret
      exact ⟨_, rfl, by simp [HF.out], HW0.out.2⟩
    · have HF : Hid (GoodN ⟨4, s, hi, t, lo, up, n⟩ ↔ c = 0) := by
        show GoodN _ ↔ _
        have hB := HB.out
        have hG := HG.out
        have hE := emptyL
        try simp only [hE] at hB
        rw [HV.out]
        simp at hB
        simp [GoodN]
        simp_all
      have hfd := regField c k
      go_wp2_with fail
      refine (HC.out _).mono ?_
      rintro r w2 ⟨rfl, hb2⟩
      clear c0 c1 c2 c3 c4 c5 c6
      go_wp2_with fail
      go_ret
      exact ⟨_, rfl, by rw [HF.out]; simp, HW0.out.2.trans (hb2.mono hbw)⟩
  by_cases k5 : kind = 5
  · subst k5
    obtain ⟨B, hB⟩ : ∃ B, B = decide ((5 : Int) = 5 ∧ s.toList = s.toList ∧ hi = false ∧ t.toList = (⟨#[]⟩ : ByteArray).toList ∧ lo = 0 ∧ up = 0 ∧ n = 0) := ⟨_, rfl⟩
    have hq := ndEq_is 5 s hi t lo up n 5 s false ⟨#[]⟩ 0 0 0 B hB
    have HB : Hid (B = true ↔ (5 : Int) = 5 ∧ s.toList = s.toList ∧ hi = false ∧ t.toList = (⟨#[]⟩ : ByteArray).toList ∧ lo = 0 ∧ up = 0 ∧ n = 0) := by rw [hB]; show decide _ = true ↔ _; simp only [decide_eq_true_eq]
    clear hB
    cases B
    · have HF : Hid (¬ GoodN ⟨5, s, hi, t, lo, up, n⟩) := by
        show ¬ GoodN _
        have hB := HB.out
        have hE := emptyL
        try simp only [hE] at hB
        intro q
        simp [GoodN] at q hB
        simp_all
      go_wp2_with fail
      go_ret
      exact ⟨_, rfl, by simp [HF.out], HW0.out.2⟩
    · have HF : Hid (GoodN ⟨5, s, hi, t, lo, up, n⟩ ↔ c = 0) := by
        show GoodN _ ↔ _
        have hB := HB.out
        have hG := HG.out
        have hE := emptyL
        try simp only [hE] at hB
        rw [HV.out]
        simp at hB
        simp [GoodN]
        simp_all
      have hfd := regField c k
      go_wp2_with fail
      refine (HC.out _).mono ?_
      rintro r w2 ⟨rfl, hb2⟩
      clear c0 c1 c2 c3 c4 c5 c6
      go_wp2_with fail
      go_ret
      exact ⟨_, rfl, by rw [HF.out]; simp, HW0.out.2.trans (hb2.mono hbw)⟩
  by_cases k6 : kind = 6
  · subst k6
    obtain ⟨B, hB⟩ : ∃ B, B = decide ((6 : Int) = 6 ∧ s.toList = s.toList ∧ hi = false ∧ t.toList = (⟨#[]⟩ : ByteArray).toList ∧ lo = 0 ∧ up = 0 ∧ n = 0) := ⟨_, rfl⟩
    have hq := ndEq_is 6 s hi t lo up n 6 s false ⟨#[]⟩ 0 0 0 B hB
    have HB : Hid (B = true ↔ (6 : Int) = 6 ∧ s.toList = s.toList ∧ hi = false ∧ t.toList = (⟨#[]⟩ : ByteArray).toList ∧ lo = 0 ∧ up = 0 ∧ n = 0) := by rw [hB]; show decide _ = true ↔ _; simp only [decide_eq_true_eq]
    clear hB
    cases B
    · have HF : Hid (¬ GoodN ⟨6, s, hi, t, lo, up, n⟩) := by
        show ¬ GoodN _
        have hB := HB.out
        have hE := emptyL
        try simp only [hE] at hB
        intro q
        simp [GoodN] at q hB
        simp_all
      go_wp2_with fail
      go_ret
      exact ⟨_, rfl, by simp [HF.out], HW0.out.2⟩
    · have HF : Hid (GoodN ⟨6, s, hi, t, lo, up, n⟩ ↔ c = 0) := by
        show GoodN _ ↔ _
        have hB := HB.out
        have hG := HG.out
        have hE := emptyL
        try simp only [hE] at hB
        rw [HV.out]
        simp at hB
        simp [GoodN]
        simp_all
      have hfd := regField c k
      go_wp2_with fail
      refine (HC.out _).mono ?_
      rintro r w2 ⟨rfl, hb2⟩
      clear c0 c1 c2 c3 c4 c5 c6
      go_wp2_with fail
      go_ret
      exact ⟨_, rfl, by rw [HF.out]; simp, HW0.out.2.trans (hb2.mono hbw)⟩
  by_cases k7 : kind = 7
  · subst k7
    obtain ⟨B, hB⟩ : ∃ B, B = decide ((7 : Int) = 7 ∧ s.toList = s.toList ∧ hi = false ∧ t.toList = (⟨#[]⟩ : ByteArray).toList ∧ lo = 0 ∧ up = 0 ∧ n = 0) := ⟨_, rfl⟩
    have hq := ndEq_is 7 s hi t lo up n 7 s false ⟨#[]⟩ 0 0 0 B hB
    have HB : Hid (B = true ↔ (7 : Int) = 7 ∧ s.toList = s.toList ∧ hi = false ∧ t.toList = (⟨#[]⟩ : ByteArray).toList ∧ lo = 0 ∧ up = 0 ∧ n = 0) := by rw [hB]; show decide _ = true ↔ _; simp only [decide_eq_true_eq]
    clear hB
    cases B
    · have HF : Hid (¬ GoodN ⟨7, s, hi, t, lo, up, n⟩) := by
        show ¬ GoodN _
        have hB := HB.out
        have hE := emptyL
        try simp only [hE] at hB
        intro q
        simp [GoodN] at q hB
        simp_all
      go_wp2_with fail
      go_ret
      exact ⟨_, rfl, by simp [HF.out], HW0.out.2⟩
    · have HF : Hid (GoodN ⟨7, s, hi, t, lo, up, n⟩ ↔ c = 0) := by
        show GoodN _ ↔ _
        have hB := HB.out
        have hG := HG.out
        have hE := emptyL
        try simp only [hE] at hB
        rw [HV.out]
        simp at hB
        simp [GoodN]
        simp_all
      have hfd := regField c k
      go_wp2_with fail
      refine (HC.out _).mono ?_
      rintro r w2 ⟨rfl, hb2⟩
      clear c0 c1 c2 c3 c4 c5 c6
      go_wp2_with fail
      go_ret
      exact ⟨_, rfl, by rw [HF.out]; simp, HW0.out.2.trans (hb2.mono hbw)⟩
  by_cases k8 : kind = 8
  · subst k8
    obtain ⟨B, hB⟩ : ∃ B, B = decide ((8 : Int) = 8 ∧ s.toList = s.toList ∧ hi = hi ∧ t.toList = t.toList ∧ lo = 0 ∧ up = 0 ∧ n = 0) := ⟨_, rfl⟩
    have hq := ndEq_is 8 s hi t lo up n 8 s hi t 0 0 0 B hB
    have HB : Hid (B = true ↔ (8 : Int) = 8 ∧ s.toList = s.toList ∧ hi = hi ∧ t.toList = t.toList ∧ lo = 0 ∧ up = 0 ∧ n = 0) := by rw [hB]; show decide _ = true ↔ _; simp only [decide_eq_true_eq]
    clear hB
    cases B
    · have HF : Hid (¬ GoodN ⟨8, s, hi, t, lo, up, n⟩) := by
        show ¬ GoodN _
        have hB := HB.out
        have hE := emptyL
        try simp only [hE] at hB
        intro q
        simp [GoodN] at q hB
        simp_all
      go_wp2_with fail
      go_ret
      exact ⟨_, rfl, by simp [HF.out], HW0.out.2⟩
    · go_wp2_with fail
      refine (ends_core ⟨8, s, hi, t, lo, up, n⟩ _).mono ?_
      rintro r w2 ⟨b, rfl, hb, hb2⟩
      have HF : Hid (b = true ↔ GoodN ⟨8, s, hi, t, lo, up, n⟩) := by
        show b = true ↔ GoodN _
        have hB := HB.out
        have hG := HG.out
        have hE := emptyL
        have hL := lessL
        try simp only [hE] at hB
        simp at hB
        rw [hb]
        simp [GoodN]
        cases hi <;> simp_all [less]
      clear hb c0 c1 c2 c3 c4 c5 c6
      go_wp2_with fail
      go_ret
      exact ⟨_, rfl, HF.out, HW0.out.2.trans (hb2.mono hbw)⟩
  by_cases k9 : kind = 9
  · subst k9
    obtain ⟨B, hB⟩ : ∃ B, B = decide ((9 : Int) = 9 ∧ s.toList = s.toList ∧ hi = hi ∧ t.toList = t.toList ∧ lo = 0 ∧ up = 0 ∧ n = 0) := ⟨_, rfl⟩
    have hq := ndEq_is 9 s hi t lo up n 9 s hi t 0 0 0 B hB
    have HB : Hid (B = true ↔ (9 : Int) = 9 ∧ s.toList = s.toList ∧ hi = hi ∧ t.toList = t.toList ∧ lo = 0 ∧ up = 0 ∧ n = 0) := by rw [hB]; show decide _ = true ↔ _; simp only [decide_eq_true_eq]
    clear hB
    cases B
    · have HF : Hid (¬ GoodN ⟨9, s, hi, t, lo, up, n⟩) := by
        show ¬ GoodN _
        have hB := HB.out
        have hE := emptyL
        try simp only [hE] at hB
        intro q
        simp [GoodN] at q hB
        simp_all
      go_wp2_with fail
      go_ret
      exact ⟨_, rfl, by simp [HF.out], HW0.out.2⟩
    · go_wp2_with fail
      refine (ends_core ⟨9, s, hi, t, lo, up, n⟩ _).mono ?_
      rintro r w2 ⟨b, rfl, hb, hb2⟩
      have HF : Hid (b = true ↔ GoodN ⟨9, s, hi, t, lo, up, n⟩) := by
        show b = true ↔ GoodN _
        have hB := HB.out
        have hG := HG.out
        have hE := emptyL
        have hL := lessL
        try simp only [hE] at hB
        simp at hB
        rw [hb]
        simp [GoodN]
        cases hi <;> simp_all [less]
      clear hb c0 c1 c2 c3 c4 c5 c6
      go_wp2_with fail
      go_ret
      exact ⟨_, rfl, HF.out, HW0.out.2.trans (hb2.mono hbw)⟩
  by_cases k10 : kind = 10
  · subst k10
    obtain ⟨B, hB⟩ : ∃ B, B = decide ((10 : Int) = 10 ∧ s.toList = (⟨#[]⟩ : ByteArray).toList ∧ hi = hi ∧ t.toList = (⟨#[]⟩ : ByteArray).toList ∧ lo = lo ∧ up = up ∧ n = 0) := ⟨_, rfl⟩
    have hq := ndEq_is 10 s hi t lo up n 10 ⟨#[]⟩ hi ⟨#[]⟩ lo up 0 B hB
    have HB : Hid (B = true ↔ (10 : Int) = 10 ∧ s.toList = (⟨#[]⟩ : ByteArray).toList ∧ hi = hi ∧ t.toList = (⟨#[]⟩ : ByteArray).toList ∧ lo = lo ∧ up = up ∧ n = 0) := by rw [hB]; show decide _ = true ↔ _; simp only [decide_eq_true_eq]
    clear hB
    cases B
    · have HF : Hid (¬ GoodN ⟨10, s, hi, t, lo, up, n⟩) := by
        show ¬ GoodN _
        have hB := HB.out
        have hE := emptyL
        try simp only [hE] at hB
        intro q
        simp [GoodN] at q hB
        simp_all
      go_wp2_with fail
      go_ret
      exact ⟨_, rfl, by simp [HF.out], HW0.out.2⟩
    · go_wp2_with fail
      refine (ends_core ⟨10, s, hi, t, lo, up, n⟩ _).mono ?_
      rintro r w2 ⟨b, rfl, hb, hb2⟩
      have HF : Hid (b = true ↔ GoodN ⟨10, s, hi, t, lo, up, n⟩) := by
        show b = true ↔ GoodN _
        have hB := HB.out
        have hG := HG.out
        have hE := emptyL
        have hL := lessL
        try simp only [hE] at hB
        simp at hB
        rw [hb]
        simp [GoodN]
        cases hi <;> simp_all [less]
      clear hb c0 c1 c2 c3 c4 c5 c6
      go_wp2_with fail
      go_ret
      exact ⟨_, rfl, HF.out, HW0.out.2.trans (hb2.mono hbw)⟩
  by_cases k11 : kind = 11
  · subst k11
    obtain ⟨B, hB⟩ : ∃ B, B = decide ((11 : Int) = 11 ∧ s.toList = (⟨#[]⟩ : ByteArray).toList ∧ hi = false ∧ t.toList = (⟨#[]⟩ : ByteArray).toList ∧ lo = 0 ∧ up = 0 ∧ n = n) := ⟨_, rfl⟩
    have hq := ndEq_is 11 s hi t lo up n 11 ⟨#[]⟩ false ⟨#[]⟩ 0 0 n B hB
    have HB : Hid (B = true ↔ (11 : Int) = 11 ∧ s.toList = (⟨#[]⟩ : ByteArray).toList ∧ hi = false ∧ t.toList = (⟨#[]⟩ : ByteArray).toList ∧ lo = 0 ∧ up = 0 ∧ n = n) := by rw [hB]; show decide _ = true ↔ _; simp only [decide_eq_true_eq]
    clear hB
    cases B
    · have HF : Hid (¬ GoodN ⟨11, s, hi, t, lo, up, n⟩) := by
        show ¬ GoodN _
        have hB := HB.out
        have hE := emptyL
        try simp only [hE] at hB
        intro q
        simp [GoodN] at q hB
        simp_all
      go_wp2_with fail
      go_ret
      exact ⟨_, rfl, by simp [HF.out], HW0.out.2⟩
    · have HF : Hid (GoodN ⟨11, s, hi, t, lo, up, n⟩ ↔ (1 ≤ n ∧ n ≤ 1000)) := by
        show GoodN _ ↔ _
        have hB := HB.out
        have hG := HG.out
        have hE := emptyL
        try simp only [hE] at hB
        simp at hB
        simp [GoodN]
        simp_all
      by_cases h1 : 1 ≤ n
      · go_wp2_with fail
        go_ret
        exact ⟨_, rfl, by rw [HF.out]; simp; omega, HW0.out.2⟩
      · go_wp2_with fail
        go_ret
        exact ⟨_, rfl, by rw [HF.out]; simp; omega, HW0.out.2⟩
  by_cases k12 : kind = 12
  · subst k12
    obtain ⟨B, hB⟩ : ∃ B, B = decide ((12 : Int) = 12 ∧ s.toList = (⟨#[]⟩ : ByteArray).toList ∧ hi = false ∧ t.toList = (⟨#[]⟩ : ByteArray).toList ∧ lo = 0 ∧ up = 0 ∧ n = n) := ⟨_, rfl⟩
    have hq := ndEq_is 12 s hi t lo up n 12 ⟨#[]⟩ false ⟨#[]⟩ 0 0 n B hB
    have HB : Hid (B = true ↔ (12 : Int) = 12 ∧ s.toList = (⟨#[]⟩ : ByteArray).toList ∧ hi = false ∧ t.toList = (⟨#[]⟩ : ByteArray).toList ∧ lo = 0 ∧ up = 0 ∧ n = n) := by rw [hB]; show decide _ = true ↔ _; simp only [decide_eq_true_eq]
    clear hB
    cases B
    · have HF : Hid (¬ GoodN ⟨12, s, hi, t, lo, up, n⟩) := by
        show ¬ GoodN _
        have hB := HB.out
        have hE := emptyL
        try simp only [hE] at hB
        intro q
        simp [GoodN] at q hB
        simp_all
      go_wp2_with fail
      go_ret
      exact ⟨_, rfl, by simp [HF.out], HW0.out.2⟩
    · have HF : Hid (GoodN ⟨12, s, hi, t, lo, up, n⟩ ↔ (1 ≤ n ∧ n ≤ 1000)) := by
        show GoodN _ ↔ _
        have hB := HB.out
        have hG := HG.out
        have hE := emptyL
        try simp only [hE] at hB
        simp at hB
        simp [GoodN]
        simp_all
      by_cases h1 : 1 ≤ n
      · go_wp2_with fail
        go_ret
        exact ⟨_, rfl, by rw [HF.out]; simp; omega, HW0.out.2⟩
      · go_wp2_with fail
        go_ret
        exact ⟨_, rfl, by rw [HF.out]; simp; omega, HW0.out.2⟩
  by_cases k13 : kind = 13
  · subst k13
    obtain ⟨B, hB⟩ : ∃ B, B = decide ((13 : Int) = 13 ∧ s.toList = (⟨#[]⟩ : ByteArray).toList ∧ hi = false ∧ t.toList = (⟨#[]⟩ : ByteArray).toList ∧ lo = 0 ∧ up = 0 ∧ n = n) := ⟨_, rfl⟩
    have hq := ndEq_is 13 s hi t lo up n 13 ⟨#[]⟩ false ⟨#[]⟩ 0 0 n B hB
    have HB : Hid (B = true ↔ (13 : Int) = 13 ∧ s.toList = (⟨#[]⟩ : ByteArray).toList ∧ hi = false ∧ t.toList = (⟨#[]⟩ : ByteArray).toList ∧ lo = 0 ∧ up = 0 ∧ n = n) := by rw [hB]; show decide _ = true ↔ _; simp only [decide_eq_true_eq]
    clear hB
    cases B
    · have HF : Hid (¬ GoodN ⟨13, s, hi, t, lo, up, n⟩) := by
        show ¬ GoodN _
        have hB := HB.out
        have hE := emptyL
        try simp only [hE] at hB
        intro q
        simp [GoodN] at q hB
        simp_all
      go_wp2_with fail
      go_ret
      exact ⟨_, rfl, by simp [HF.out], HW0.out.2⟩
    · have HF : Hid (GoodN ⟨13, s, hi, t, lo, up, n⟩ ↔ (1 ≤ n ∧ n ≤ 1000)) := by
        show GoodN _ ↔ _
        have hB := HB.out
        have hG := HG.out
        have hE := emptyL
        try simp only [hE] at hB
        simp at hB
        simp [GoodN]
        simp_all
      by_cases h1 : 1 ≤ n
      · go_wp2_with fail
        go_ret
        exact ⟨_, rfl, by rw [HF.out]; simp; omega, HW0.out.2⟩
      · go_wp2_with fail
        go_ret
        exact ⟨_, rfl, by rw [HF.out]; simp; omega, HW0.out.2⟩
  have HF : Hid (¬ GoodN ⟨kind, s, hi, t, lo, up, n⟩) := by
    show ¬ GoodN _
    simp only [GoodN]
    rintro ⟨_, _, _, q⟩
    omega
  go_wp2_with fail
  go_ret
  exact ⟨_, rfl, by simp [HF.out], HW0.out.2⟩
end Go.Proofs.Ytlgeffinhbodeae

/-
  Instructions of code, one by one: spec.l6GoodIns, spec.l6Note.
-/
namespace Go.Proofs.Ytlgeffinhbodeae
open Go.ChangeShapes Go.WideShapes Go.ChangeAt Go.RowKit Go.Deep
set_option linter.unusedVariables false
set_option linter.unusedSimpArgs false
set_option maxRecDepth 100000

/-- A row of numbers of the call's own. -/
def OwnZ (e : TypeId) (w : World) (base g cp : Nat) (ds : List Int) (kd : IntKind) : Prop := w.ownsRow base e 1 (.slice (some ⟨g, 0, none⟩) ds.length cp) ds.length (ds.map fun d => .int kd d)
def BoolP (P : Prop) (w : World) (r : Ending) (w' : World) : Prop := ∃ b, r = .returned (.bool b) ∧ (b = true ↔ P) ∧ Below w.heap.size w w'
def NoteP (e d : Int) (base g cp j : Nat) (ds : List Int) (w : World) (r : Ending) (w' : World) : Prop := ∃ b, r = .returned (.bool b) ∧ (b = true ↔ (e = 0 ∨ e = d) ∧ 1 ≤ d ∧ d ≤ 250) ∧ (b = true → OwnZ 2 w' base g cp (ds.set j d) .i64) ∧ Chg (fun q => q = g) w w'
theorem goodI_1 {a b k n cnt conds : Int} {free : Bool} {e : Nd} : GoodI ⟨1, a, b, free, e⟩ k n cnt conds ↔ GoodF [e] ∧ b = 0 ∧ ((cntK e.kind ∧ 0 ≤ a ∧ a < cnt) ∨ (¬ cntK e.kind ∧ a = 0)) := by simp [GoodI]
theorem goodI_5 {a b k n cnt conds : Int} {free : Bool} {e : Nd} : GoodI ⟨5, a, b, free, e⟩ k n cnt conds ↔ (free = false ∧ NoNd e) ∧ 0 ≤ a ∧ a < conds ∧ k < b ∧ b ≤ n := by simp [GoodI, NoLeaf]
theorem goodI_6 {a b k n cnt conds : Int} {free : Bool} {e : Nd} : GoodI ⟨6, a, b, free, e⟩ k n cnt conds ↔ (free = false ∧ NoNd e) ∧ a = 0 ∧ k < b ∧ b ≤ n := by simp [GoodI, NoLeaf]
theorem goodI_o {op a b k n cnt conds : Int} {free : Bool} {e : Nd} (h1 : op ≠ 1) (h5 : op ≠ 5) (h6 : op ≠ 6) : GoodI ⟨op, a, b, free, e⟩ k n cnt conds ↔ (2 ≤ op ∧ op ≤ 4) ∧ (free = false ∧ NoNd e) ∧ a = 0 ∧ b = 0 := by
  simp only [GoodI, NoLeaf, h1, h5, h6, false_and, false_or]
  constructor
  · rintro ⟨h, r⟩; exact ⟨by omega, r⟩
  · rintro ⟨h, r⟩; exact ⟨by omega, r⟩
theorem ndNe_run (k : Int) (s : ByteArray) (h : Bool) (t : ByteArray) (l u n k' : Int) (s' : ByteArray) (h' : Bool) (t' : ByteArray) (l' u' n' : Int) (wx : World) :
    (binOp .neq 173 (.agg #[.int .i64 k, .string s, .bool h, .string t, .int .u64 l, .int .u64 u, .int .i64 n]) (.agg #[.int .i64 k', .string s', .bool h', .string t', .int .u64 l', .int .u64 u', .int .i64 n'])).run Try.prog wx = .ok (.bool (! decide (k = k' ∧ s.toList = s'.toList ∧ h = h' ∧ t.toList = t'.toList ∧ l = l' ∧ u = u' ∧ n = n'))) wx := by
  go_simp
  repeat' split
  all_goals simp_all
theorem ndNe_is (k : Int) (s : ByteArray) (h : Bool) (t : ByteArray) (l u n : Int) : ∃ B : Bool, (B = false ↔ NoNd ⟨k, s, h, t, l, u, n⟩) ∧ ∀ wx, (binOp .neq 173 (.agg #[.int .i64 k, .string s, .bool h, .string t, .int .u64 l, .int .u64 u, .int .i64 n]) (.agg #[.int .i64 0, .string ⟨#[]⟩, .bool false, .string ⟨#[]⟩, .int .u64 0, .int .u64 0, .int .i64 0])).run Try.prog wx = .ok (.bool B) wx :=
  ⟨_, by
    have hE := emptyL
    rw [Bool.not_eq_eq_eq_not, Bool.not_false, decide_eq_true_eq, hE]
    exact Iff.rfl, fun wx => ndNe_run k s h t l u n 0 ⟨#[]⟩ false ⟨#[]⟩ 0 0 0 wx⟩
set_option maxHeartbeats 1000000 in
theorem countsS_core (e : Nd) (w : World) : Calls Try.prog 147 #[e.v] w (BoolP (cntK e.kind) w) := by
  go_enter Try.func147, Try.ntmps147
  go_wp2_with fail
  all_goals go_ret
  all_goals exact ⟨_, rfl, by simp_all [cntK], (Below.refl _ _).alloc (Nat.le_refl _) _⟩
set_option maxHeartbeats 1000000 in
theorem isJumpS_core (op : Int) (w : World) : Calls Try.prog 108 #[.int .i64 op] w (BoolP (op = 5 ∨ op = 6) w) := by
  go_enter Try.func108, Try.ntmps108
  go_wp2_with fail
  all_goals go_ret
  all_goals exact ⟨_, rfl, by simp_all, Below.refl _ _⟩
theorem ownNd_one (w : World) (e : Nd) : OwnNd (w.alloc (Obj.cells #[.int .i64 e.kind, .string e.s, .bool e.hi, .string e.t, .int .u64 e.lo, .int .u64 e.up, .int .i64 e.n] 173)) w.heap.size w.heap.size 1 [e] :=
  World.ownsRow_lit w #[.int .i64 e.kind, .string e.s, .bool e.hi, .string e.t, .int .u64 e.lo, .int .u64 e.up, .int .i64 e.n] 1 (Nat.le_refl _) (by decide) rfl
set_option maxHeartbeats 4000000 in
theorem goodInsS_core (x : Ix) (k n cnt conds : Int) (w : World) (ho : x.ok) : Calls Try.prog 106 #[x.v, .int .i64 k, .int .i64 n, .int .i64 cnt, .int .i64 conds] w (BoolP (GoodI x k n cnt conds) w) := by
  have HO : Hid x.ok := ho
  obtain ⟨op, a, b, free, ⟨kind, s, hi, t, lo, up, nn⟩⟩ := x
  clear ho
  obtain ⟨P, hP⟩ : ∃ P : Prop, P = GoodI ⟨op, a, b, free, ⟨kind, s, hi, t, lo, up, nn⟩⟩ k n cnt conds := ⟨_, rfl⟩
  rw [← hP]
  have HP : Hid (P ↔ GoodI ⟨op, a, b, free, ⟨kind, s, hi, t, lo, up, nn⟩⟩ k n cnt conds) := by show P ↔ _; rw [hP]
  clear hP
  obtain ⟨W0, hW0⟩ : ∃ W0 : World, W0 = w.alloc (Obj.cells #[.int .i64 op, .int .i64 a, .int .i64 b, .bool free, .int .i64 kind, .string s, .bool hi, .string t, .int .u64 lo, .int .u64 up, .int .i64 nn] 175) := ⟨_, rfl⟩
  have hb0 : Below w.heap.size w W0 := by rw [hW0]; exact (Below.refl _ _).alloc (Nat.le_refl _) _
  have hz0 : w.heap.size < W0.heap.size := by rw [hW0]; simp
  have HK : Hid (∀ wx, Below W0.heap.size W0 wx → wx.cell? ⟨w.heap.size, 0, none⟩ = some (.int .i64 op) ∧ wx.cell? ⟨w.heap.size, 1, none⟩ = some (.int .i64 a) ∧ wx.cell? ⟨w.heap.size, 2, none⟩ = some (.int .i64 b) ∧ wx.cell? ⟨w.heap.size, 3, none⟩ = some (.bool free) ∧ wx.cell? ⟨w.heap.size, 4, none⟩ = some (.int .i64 kind) ∧ wx.cell? ⟨w.heap.size, 5, none⟩ = some (.string s) ∧ wx.cell? ⟨w.heap.size, 6, none⟩ = some (.bool hi) ∧ wx.cell? ⟨w.heap.size, 7, none⟩ = some (.string t) ∧ wx.cell? ⟨w.heap.size, 8, none⟩ = some (.int .u64 lo) ∧ wx.cell? ⟨w.heap.size, 9, none⟩ = some (.int .u64 up) ∧ wx.cell? ⟨w.heap.size, 10, none⟩ = some (.int .i64 nn)) := by
    intro wx hx
    refine ⟨?_, ?_, ?_, ?_, ?_, ?_, ?_, ?_, ?_, ?_, ?_⟩
    all_goals rw [hx.cell (by exact hz0), hW0]
    all_goals simp [go_sem]
  obtain ⟨c0, c1, c2, c3, c4, c5, c6, c7, c8, c9, c10⟩ := HK.out W0 (Below.refl _ _)
  go_enter Try.func106, Try.ntmps106
  go_upto_region 1 with fail
  rw [← hW0]
  clear hW0
  by_cases h1 : op = 1
  · subst h1
    obtain ⟨W1, hW1⟩ : ∃ W1 : World, W1 = W0.alloc (Obj.cells #[.int .i64 kind, .string s, .bool hi, .string t, .int .u64 lo, .int .u64 up, .int .i64 nn] 173) := ⟨_, rfl⟩
    have hb1 : Below W0.heap.size W0 W1 := by rw [hW1]; exact (Below.refl _ _).alloc (Nat.le_refl _) _
    have HW1 : Hid (OwnNd W1 W0.heap.size W0.heap.size 1 [⟨kind, s, hi, t, lo, up, nn⟩]) := by rw [hW1]; exact ownNd_one W0 ⟨kind, s, hi, t, lo, up, nn⟩
    go_wp2_with fail
    rw [← hW1]
    clear hW1 c0 c1 c2 c3 c4 c5 c6 c7 c8 c9 c10
    refine (specFilter_core HW1.out (fun e he => by simp at he; subst he; exact HO.out.leaf) (by decide)).mono ?_
    rintro e w2 ⟨r, rfl, hr, hb2⟩
    have HR : Hid (r = true ↔ GoodF [⟨kind, s, hi, t, lo, up, nn⟩]) := hr
    have k2 : Below W0.heap.size W0 w2 := hb1.trans (hb2.mono hb1.size)
    have k2w : Below w.heap.size w w2 := hb0.trans (k2.mono (by omega))
    obtain ⟨c0, c1, c2, c3, c4, c5, c6, c7, c8, c9, c10⟩ := HK.out w2 k2
    clear hr
    cases r
    · have HF : Hid (¬ P) := fun q => Bool.noConfusion (HR.out.2 (goodI_1.1 (HP.out.1 q)).1)
      go_wp2_with fail
      go_ret
      exact ⟨_, rfl, by simp [HF.out], k2w⟩
    · by_cases hbz : b = 0
      · subst hbz
        go_wp2_with fail
        refine (countsS_core ⟨kind, s, hi, t, lo, up, nn⟩ _).mono ?_
        rintro e w3 ⟨q, rfl, hq, hb3⟩
        have HQ : Hid (q = true ↔ cntK kind) := hq
        have k3 : Below W0.heap.size W0 w3 := k2.trans (hb3.mono k2.size)
        have k3w : Below w.heap.size w w3 := hb0.trans (k3.mono (by omega))
        clear hq c0 c1 c2 c3 c4 c5 c6 c7 c8 c9 c10
        obtain ⟨c0, c1, c2, c3, c4, c5, c6, c7, c8, c9, c10⟩ := HK.out w3 k3
        have HF : Hid (P ↔ ((q = true ∧ 0 ≤ a ∧ a < cnt) ∨ (q = false ∧ a = 0))) := by
          have h1 := HR.out
          have h2 := HQ.out
          show P ↔ _
          rw [HP.out, goodI_1]
          simp only [true_iff] at h1
          simp only [h1, true_and]
          cases q <;> simp_all
        clear HR HQ
        cases q
        case false =>
          have HF : Hid (P ↔ a = 0) := by show P ↔ _; have := HF.out; simpa using this
          by_cases p0 : a = 0
          case neg =>
            have HG : Hid (¬ P) := fun q => p0 (HF.out.1 q)
            go_wp2_with fail
            go_ret
            exact ⟨_, rfl, by simp [HG.out, p0], k3w⟩
          have HG : Hid (P) := HF.out.2 p0
          go_wp2_with fail
          go_ret
          exact ⟨_, rfl, by simp [HG.out, p0], k3w⟩
        case true =>
          have HF : Hid (P ↔ 0 ≤ a ∧ a < cnt) := by show P ↔ _; have := HF.out; simpa using this
          by_cases p0 : 0 ≤ a
          case neg =>
            have HG : Hid (¬ P) := fun q => p0 (HF.out.1 q).1
            go_wp2_with fail
            go_ret
            exact ⟨_, rfl, by simp [HG.out, p0], k3w⟩
          by_cases p1 : a < cnt
          case neg =>
            have HG : Hid (¬ P) := fun q => p1 (HF.out.1 q).2
            go_wp2_with fail
            go_ret
            exact ⟨_, rfl, by simp [HG.out, p0, p1], k3w⟩
          have HG : Hid (P) := HF.out.2 ⟨p0, p1⟩
          go_wp2_with fail
          go_ret
          exact ⟨_, rfl, by simp [HG.out, p0, p1], k3w⟩
      · have HF : Hid (¬ P) := fun q => hbz (goodI_1.1 (HP.out.1 q)).2.1
        go_wp2_with fail
        go_ret
        exact ⟨_, rfl, by simp [HF.out], k2w⟩
  obtain ⟨B, hB, hq⟩ := ndNe_is kind s hi t lo up nn
  have HB : Hid (B = false ↔ NoNd ⟨kind, s, hi, t, lo, up, nn⟩) := hB
  clear hB
  cases B
  case true =>
    have HF : Hid (¬ P) := fun q => by
      replace q := HP.out.1 q
      have hB := HB.out
      simp only [GoodI, NoLeaf, h1, false_and, false_or] at q
      simp_all
    go_wp2_with fail
    go_ret
    exact ⟨_, rfl, by simp [HF.out], hb0⟩
  case false =>
  cases free
  case true =>
    have HF : Hid (¬ P) := fun q => by
      replace q := HP.out.1 q
      simp only [GoodI, NoLeaf, h1, false_and, false_or] at q
      simp_all
    go_wp2_with fail
    go_ret
    exact ⟨_, rfl, by simp [HF.out], hb0⟩
  case false =>
  have HN : Hid (NoNd ⟨kind, s, hi, t, lo, up, nn⟩) := HB.out.1 rfl
  by_cases h5 : op = 5
  · subst h5
    have HF : Hid (P ↔ 0 ≤ a ∧ a < conds ∧ k < b ∧ b ≤ n) := by
      show P ↔ _
      rw [HP.out, goodI_5]
      simp [HN.out]
    by_cases p0 : 0 ≤ a
    case neg =>
      have HG : Hid (¬ P) := fun q => p0 (HF.out.1 q).1
      go_wp2_with fail
      go_ret
      exact ⟨_, rfl, by simp [HG.out, p0], hb0⟩
    by_cases p1 : a < conds
    case neg =>
      have HG : Hid (¬ P) := fun q => p1 (HF.out.1 q).2.1
      go_wp2_with fail
      go_ret
      exact ⟨_, rfl, by simp [HG.out, p0, p1], hb0⟩
    by_cases p2 : k < b
    case neg =>
      have HG : Hid (¬ P) := fun q => p2 (HF.out.1 q).2.2.1
      go_wp2_with fail
      go_ret
      exact ⟨_, rfl, by simp [HG.out, p0, p1, p2], hb0⟩
    by_cases p3 : b ≤ n
    case neg =>
      have HG : Hid (¬ P) := fun q => p3 (HF.out.1 q).2.2.2
      go_wp2_with fail
      go_ret
      exact ⟨_, rfl, by simp [HG.out, p0, p1, p2, p3], hb0⟩
    have HG : Hid (P) := HF.out.2 ⟨p0, p1, p2, p3⟩
    go_wp2_with fail
    go_ret
    exact ⟨_, rfl, by simp [HG.out, p0, p1, p2, p3], hb0⟩
  by_cases h6 : op = 6
  · subst h6
    have HF : Hid (P ↔ a = 0 ∧ k < b ∧ b ≤ n) := by
      show P ↔ _
      rw [HP.out, goodI_6]
      simp [HN.out]
    by_cases p0 : a = 0
    case neg =>
      have HG : Hid (¬ P) := fun q => p0 (HF.out.1 q).1
      go_wp2_with fail
      go_ret
      exact ⟨_, rfl, by simp [HG.out, p0], hb0⟩
    by_cases p1 : k < b
    case neg =>
      have HG : Hid (¬ P) := fun q => p1 (HF.out.1 q).2.1
      go_wp2_with fail
      go_ret
      exact ⟨_, rfl, by simp [HG.out, p0, p1], hb0⟩
    by_cases p2 : b ≤ n
    case neg =>
      have HG : Hid (¬ P) := fun q => p2 (HF.out.1 q).2.2
      go_wp2_with fail
      go_ret
      exact ⟨_, rfl, by simp [HG.out, p0, p1, p2], hb0⟩
    have HG : Hid (P) := HF.out.2 ⟨p0, p1, p2⟩
    go_wp2_with fail
    go_ret
    exact ⟨_, rfl, by simp [HG.out, p0, p1, p2], hb0⟩
  have HF : Hid (P ↔ 2 ≤ op ∧ op ≤ 4 ∧ a = 0 ∧ b = 0) := by
    show P ↔ _
    rw [HP.out, goodI_o h1 h5 h6]
    simp [HN.out, and_assoc]
  by_cases p0 : 2 ≤ op
  case neg =>
    have HG : Hid (¬ P) := fun q => p0 (HF.out.1 q).1
    go_wp2_with fail
    go_ret
    exact ⟨_, rfl, by simp [HG.out, p0], hb0⟩
  by_cases p1 : op ≤ 4
  case neg =>
    have HG : Hid (¬ P) := fun q => p1 (HF.out.1 q).2.1
    go_wp2_with fail
    go_ret
    exact ⟨_, rfl, by simp [HG.out, p0, p1], hb0⟩
  by_cases p2 : a = 0
  case neg =>
    have HG : Hid (¬ P) := fun q => p2 (HF.out.1 q).2.2.1
    go_wp2_with fail
    go_ret
    exact ⟨_, rfl, by simp [HG.out, p0, p1, p2], hb0⟩
  by_cases p3 : b = 0
  case neg =>
    have HG : Hid (¬ P) := fun q => p3 (HF.out.1 q).2.2.2
    go_wp2_with fail
    go_ret
    exact ⟨_, rfl, by simp [HG.out, p0, p1, p2, p3], hb0⟩
  have HG : Hid (P) := HF.out.2 ⟨p0, p1, p2, p3⟩
  go_wp2_with fail
  go_ret
  exact ⟨_, rfl, by simp [HG.out, p0, p1, p2, p3], hb0⟩
theorem OwnZ.cell {e : TypeId} {w : World} {base g cp : Nat} {ds : List Int} {kd : IntKind} (h : OwnZ e w base g cp ds kd) {j : Nat} {d : Int} (hd : ds[j]? = some d) : w.cell? ⟨g, j, none⟩ = some (.int kd d) ∧ w.frozen? ⟨g, j, none⟩ = false := by
  have hj := (List.getElem?_eq_some_iff.1 hd).1
  refine ⟨?_, World.ownsRow.frozenAt h j⟩
  rw [World.ownsRow.cellAt h j (by omega), List.getElem?_map, hd]; rfl
theorem OwnZ.lt {e : TypeId} {w : World} {base g cp : Nat} {ds : List Int} {kd : IntKind} (h : OwnZ e w base g cp ds kd) : base ≤ g ∧ g < w.heap.size := World.ownsRow.lt h g rfl
theorem OwnZ.below {e : TypeId} {w w' : World} {base g cp : Nat} {ds : List Int} {kd : IntKind} (h : OwnZ e w base g cp ds kd) (hb : Below w.heap.size w w') : OwnZ e w' base g cp ds kd := own_chg (S := fun _ => False) h (Chg.of_below hb) (fun k _ q => q)
theorem OwnZ.set {e : TypeId} {w : World} {base g cp : Nat} {ds : List Int} {kd : IntKind} (h : OwnZ e w base g cp ds kd) (j : Nat) (d : Int) : OwnZ e (w.setCell ⟨g, j, none⟩ (.int kd d)) base g cp (ds.set j d) kd := by
  have := (World.ownsRow.stored h j (.int kd d)).1
  unfold OwnZ
  rw [List.length_set, List.map_set]
  exact this
theorem set_self {ds : List Int} {j : Nat} {d : Int} (h : ds[j]? = some d) : ds.set j d = ds := by
  apply List.ext_getElem?
  intro i
  rw [List.getElem?_set]
  split
  · rename_i e; subst e
    rw [if_pos (List.getElem?_eq_some_iff.1 h).1, h]
  · rfl
set_option maxHeartbeats 1000000 in
theorem noteS_core (base g cp : Nat) (ds : List Int) (j : Nat) (d e : Int) (w : World) (h : OwnZ 2 w base g cp ds .i64) (hj : ds[j]? = some e) (hl : ds.length ≤ 4001) :
    Calls Try.prog 107 #[.slice (some ⟨g, 0, none⟩) ds.length cp, .int .i64 j, .int .i64 d] w (NoteP e d base g cp j ds w) := by
  have HO : Hid (OwnZ 2 w base g cp ds .i64) := h
  obtain ⟨c0, f0⟩ := h.cell hj
  have hjl := (List.getElem?_eq_some_iff.1 hj).1
  have HJ : Hid (ds[j]? = some e) := hj
  have zj : (j : Int) < (ds.length : Int) := by omega
  clear h hj
  go_enter Try.func107, Try.ntmps107
  by_cases he : e = 0
  · subst he
    have HS : Hid (OwnZ 2 (w.setCell ⟨g, j, none⟩ (.int .i64 d)) base g cp (ds.set j d) .i64) := HO.out.set j d
    go_wp2_with fail
    all_goals go_ret
    all_goals exact ⟨_, rfl, by simp_all <;> omega, fun _ => HS.out, Chg.of_set _ _ _ _ rfl⟩
  · by_cases hed : e = d
    · subst hed
      have HS : Hid (OwnZ 2 w base g cp (ds.set j e) .i64) := by
        show OwnZ _ _ _ _ _ _ _
        rw [set_self HJ.out]; exact HO.out
      go_wp2_with fail
      all_goals go_ret
      all_goals exact ⟨_, rfl, by simp_all <;> omega, fun _ => HS.out, Chg.refl _ _⟩
    · go_wp2_with fail
      go_ret
      exact ⟨_, rfl, by simp_all, fun q => by simp_all, Chg.refl _ _⟩
end Go.Proofs.Ytlgeffinhbodeae

/-
  Blocks of code in memory, read alone.
-/
namespace Go.Proofs.Ytlgeffinhbodeae
open Go.ChangeShapes Go.WideShapes Go.ChangeAt Go.RowKit Go.Deep
set_option linter.unusedVariables false
set_option linter.unusedSimpArgs false
set_option maxRecDepth 100000

theorem InIxs.cells {w : World} {v : Value} {es : List Ix} (h : InIxs w v es) : v.cells = #[v] := by
  rcases h with ⟨a, cap, rfl, _⟩ | ⟨b, off, cap, rfl, _⟩ <;> rfl
theorem InIxs.one {w : World} {v : Value} {es : List Ix} (h : InIxs w v es) : ∃ a n c, v = .slice a n c ∧ n = es.length := by
  rcases h with ⟨a, cap, rfl, rfl⟩ | ⟨b, off, cap, rfl, _⟩ <;> exact ⟨_, _, _, rfl, rfl⟩
/-- A block of code: its slice, what it shows. -/
structure Bk where
  v : Value
  cnt : Int
  l : List Ix
abbrev Bk.val (x : Bk) : Value := .agg #[x.v, .int .i64 x.cnt]
abbrev Bk.vw (x : Bk) : Int × List Ix := (x.cnt, x.l)
abbrev Bk.two (x : Bk) : List Value := [x.v, .int .i64 x.cnt]
structure Bk.ok (x : Bk) : Prop where
  cnt : (Lit.int .i64 x.cnt).wf = true
  ins : ∀ e ∈ x.l, e.ok
def totB : List Bk → Nat
  | [] => 0
  | x :: bs => x.l.length + totB bs
theorem totB_mem {bs : List Bk} {x : Bk} (h : x ∈ bs) : x.l.length ≤ totB bs := by
  induction bs with
  | nil => cases h
  | cons a l ih =>
    rcases List.mem_cons.1 h with rfl | h
    · simp [totB]
    · have := ih h; simp only [totB]; omega
theorem totB_take {bs : List Bk} {k : Nat} {x : Bk} (h : bs[k]? = some x) : totB (bs.take (k + 1)) = totB (bs.take k) + x.l.length := by
  induction bs generalizing k with
  | nil => simp at h
  | cons a l ih =>
    cases k with
    | zero => simp at h; subst h; simp [totB]
    | succ k => simp at h; simp [totB, ih h]; omega
def BksAt (w : World) (b off : Nat) (bs : List Bk) : Prop := ∀ i x, bs[i]? = some x → w.cell? ⟨b, off + i * 2, none⟩ = some x.v ∧ w.cell? ⟨b, off + i * 2 + 1, none⟩ = some (.int .i64 x.cnt) ∧ InIxs w x.v x.l
theorem BksAt.below {w w' : World} {b off : Nat} {bs : List Bk} (h : BksAt w b off bs) (hb : Below w.heap.size w w') (hlt : b < w.heap.size) : BksAt w' b off bs := by
  intro i x hx
  obtain ⟨h0, h1, h2⟩ := h i x hx
  exact ⟨by rw [hb.cell (p := ⟨b, off + i * 2, none⟩) hlt]; exact h0, by rw [hb.cell (p := ⟨b, off + i * 2 + 1, none⟩) hlt]; exact h1, h2.below hb (Nat.le_refl _)⟩
def InBks (w : World) (v : Value) (bs : List Bk) : Prop :=
  (∃ a cap, v = .slice a 0 cap ∧ bs = []) ∨
  ∃ b off cap, v = .slice (some ⟨b, off, none⟩) bs.length cap ∧ BksAt w b off bs ∧ b < w.heap.size ∧ bs.length ≤ cap ∧ cap ≤ maxLen
theorem InBks.below {w w' : World} {v : Value} {bs : List Bk} (h : InBks w v bs) (hb : Below w.heap.size w w') : InBks w' v bs := by
  rcases h with h | ⟨b, off, cap, hv, hE, hlt, h1, h2⟩
  · exact .inl h
  · exact .inr ⟨b, off, cap, hv, hE.below hb hlt, by have := hb.size; omega, h1, h2⟩
theorem InBks.cells {w : World} {v : Value} {es : List Bk} (h : InBks w v es) : v.cells = #[v] := by
  rcases h with ⟨a, cap, rfl, _⟩ | ⟨b, off, cap, rfl, _⟩ <;> rfl
theorem InIxs.chg {S : Nat → Prop} {w w' : World} {v : Value} {l : List Ix} (h : InIxs w v l) (hc : Chg S w w') (hv : ∀ g n c, v = .slice (some g) n c → l ≠ [] → ¬ S g.block) : InIxs w' v l := by
  rcases h with h | ⟨b, off, cap, hq, hE, hlt, h1, h2⟩
  · exact .inl h
  · by_cases hn : l = []
    · subst hn
      exact .inl ⟨_, _, hq, rfl⟩
    · exact .inr ⟨b, off, cap, hq, hE.chg hc hlt (hv ⟨b, off, none⟩ _ _ hq hn), by have := hc.size; omega, h1, h2⟩

set_option maxHeartbeats 400000 in
theorem szBlock_core (x : Bk) (left : Int) (w : World) (h : InIxs w x.v x.l) (ho : x.ok) (h0 : 0 ≤ left) (h1 : left ≤ 2 ^ 40) :
    Calls Try.prog 64 #[x.val, .int .i64 left] w fun r w' => ∃ y, r = .returned (.int .i64 y) ∧ (y = -1 ∨ (0 ≤ y ∧ y + x.l.length ≤ left)) ∧ Below w.heap.size w w' := by
  have hu := h.cells
  have HE : Hid (InIxs w x.v x.l ∧ x.ok) := ⟨h, ho⟩
  obtain ⟨v, cnt, l⟩ := x
  simp only at hu
  clear h ho
  go_enter Try.func64, Try.ntmps64
  go_wp2_with fail
  refine (szInsS_any _ l left _ (HE.out.1.below ((Below.refl _ _).alloc (Nat.le_refl _) _) (Nat.le_refl _)) HE.out.2.ins h0 h1).mono ?_
  rintro r w1 ⟨y, rfl, hy, hb1⟩
  have k1 : Below w.heap.size w w1 := ((Below.refl _ _).alloc (Nat.le_refl _) (Obj.cells #[v, .int .i64 cnt] 46)).trans (hb1.mono (by simp))
  have HX : Hid (y = -1 ∨ (0 ≤ y ∧ y + l.length ≤ left)) := hy
  by_cases hy0 : y < 0
  · clear hy
    go_wp2_with fail
    go_ret
    exact ⟨_, rfl, .inl rfl, k1⟩
  · clear hy
    go_wp2_with fail
    go_ret
    exact ⟨_, rfl, HX.out, k1⟩
set_option maxHeartbeats 400000 in
theorem szBlockS_core (b off cap : Nat) (bs : List Bk) (left : Int) (w : World) (hE : BksAt w b off bs) (hok : ∀ x ∈ bs, x.ok) (hB : b < w.heap.size) (hlen : bs.length ≤ cap) (hcap : cap ≤ maxLen) (h0 : 0 ≤ left) (h1 : left ≤ 2 ^ 40) :
    Calls Try.prog 63 #[.slice (some ⟨b, off, none⟩) bs.length cap, .int .i64 left] w fun e w' =>
      ∃ x, e = .returned (.int .i64 x) ∧ (x = -1 ∨ (0 ≤ x ∧ x + bs.length + totB bs ≤ left)) ∧ Below w.heap.size w w' := by
  have HE : Hid (BksAt w b off bs) := hE
  have HO : Hid (∀ e ∈ bs, e.ok) := hok
  clear hE hok
  unfold maxLen at hcap
  by_cases hle : left < bs.length
  · have hle' : left - bs.length < 0 := by omega
    go_enter Try.func63, Try.ntmps63
    go_wp2
    go_ret
    exact ⟨_, rfl, .inl rfl, Below.refl _ _⟩
  have hle' : 0 ≤ left - bs.length := by omega
  go_enter Try.func63, Try.ntmps63
  go_wp2
  go_loopw [1, 5] (fun l i wr => ∃ (k : Nat) (x : Int), k ≤ bs.length ∧ i = .int .i64 k ∧ l = .int .i64 x ∧ 0 ≤ x ∧ x + bs.length + totB (bs.take k) ≤ left ∧ Below w.heap.size w wr) (fun _ i _ => bs.length - (intOf i).toNat)
  case atStart => exact ⟨0, _, Nat.zero_le _, rfl, rfl, hle', by simp [totB], Below.refl _ _⟩
  case round =>
    obtain ⟨k, x, hk, rfl, rfl, hx0, hx1, hb⟩ := hrel
    have sb := hb.size
    by_cases hlt : k < bs.length
    · obtain ⟨y, hy⟩ : ∃ y, bs[k]? = some y := ⟨_, List.getElem?_eq_getElem hlt⟩
      obtain ⟨c0, c1, hI⟩ := (HE.out.below hb hB) k y hy
      have HK : Hid (InIxs wr y.v y.l ∧ y.ok ∧ bs[k]? = some y) := ⟨hI, HO.out y (List.mem_of_getElem? hy), hy⟩
      have hu := hI.cells
      clear hI hy
      go_wp2_with fail
      refine (szBlock_core y _ _ HK.out.1 HK.out.2.1 (by omega) (by omega)).mono ?_
      rintro e w1 ⟨z, rfl, hz, hb1⟩
      have hb2 := hb.trans (hb1.mono sb)
      have ht := totB_take HK.out.2.2
      clear c0 c1 hb1
      by_cases hz0 : z < 0
      · clear hz
        go_wp2_with fail
        go_ret
        exact ⟨_, rfl, .inl rfl, hb2⟩
      · have hz1 : 0 ≤ z := by omega
        have hz2 : z + bs.length + totB (bs.take (k + 1)) ≤ left := by omega
        clear hz
        go_wp2_with fail
        go_roundw
        case rel => exact ⟨k + 1, z, by omega, by go_num, rfl, hz1, hz2, hb2⟩
        case measure => simp [intOf]; omega
    · have hkl : k = bs.length := by omega
      rw [hkl, List.take_length] at hx1
      go_wp2_with fail
      go_ret
      exact ⟨_, rfl, .inr ⟨hx0, hx1⟩, hb⟩
set_option maxHeartbeats 400000 in
theorem szBlockS_zero (a : Option Addr) (cap : Nat) (left : Int) (w : World) (h0 : 0 ≤ left) (h1 : left ≤ 2 ^ 40) :
    Calls Try.prog 63 #[.slice a 0 cap, .int .i64 left] w fun e w' => e = .returned (.int .i64 left) ∧ Below w.heap.size w w' := by
  go_enter Try.func63, Try.ntmps63
  go_wp2
  go_loopw [1, 5] (fun l i wr => l = .int .i64 left ∧ i = .int .i64 0 ∧ Below w.heap.size w wr) (fun _ i _ => 0)
  case atStart => exact ⟨rfl, rfl, Below.refl _ _⟩
  case round =>
    obtain ⟨rfl, rfl, hb⟩ := hrel
    go_wp2_with fail
    go_ret
    exact ⟨rfl, hb⟩
theorem szBlockS_any (v : Value) (bs : List Bk) (left : Int) (w : World) (h : InBks w v bs) (hok : ∀ x ∈ bs, x.ok) (h0 : 0 ≤ left) (h1 : left ≤ 2 ^ 40) :
    Calls Try.prog 63 #[v, .int .i64 left] w fun e w' =>
      ∃ x, e = .returned (.int .i64 x) ∧ (x = -1 ∨ (0 ≤ x ∧ x + bs.length + totB bs ≤ left)) ∧ Below w.heap.size w w' := by
  rcases h with ⟨a, cap, rfl, rfl⟩ | ⟨b, off, cap, rfl, hE, hlt, g1, g2⟩
  · exact (szBlockS_zero a cap left w h0 h1).mono fun e w' ⟨he, hb⟩ => ⟨left, he, .inr ⟨h0, by simp [totB]⟩, hb⟩
  · exact szBlockS_core b off cap bs left w hE hok hlt g1 g2 h0 h1
set_option maxHeartbeats 400000 in
theorem szCode_any (v : Value) (bs : List Bk) (m : Bk) (left : Int) (w : World) (h : InBks w v bs) (hok : ∀ x ∈ bs, x.ok) (hm : InIxs w m.v m.l) (hmo : m.ok) (h0 : 0 ≤ left) (h1 : left ≤ 2 ^ 40) :
    Calls Try.prog 20 #[.agg #[v, m.v, .int .i64 m.cnt], .int .i64 left] w fun e w' =>
      ∃ x, e = .returned (.int .i64 x) ∧ (x = -1 ∨ (0 ≤ x ∧ x + bs.length + totB bs + m.l.length ≤ left)) ∧ Below w.heap.size w w' := by
  have HE : Hid (InBks w v bs ∧ (∀ x ∈ bs, x.ok) ∧ InIxs w m.v m.l ∧ m.ok) := ⟨h, hok, hm, hmo⟩
  have hu := h.cells
  have hu2 := hm.cells
  clear h hok hm hmo
  obtain ⟨W0, hW0⟩ : ∃ W0 : World, W0 = w.alloc (Obj.cells #[v, m.v, .int .i64 m.cnt] 48) := ⟨_, rfl⟩
  have hb0 : Below w.heap.size w W0 := by rw [hW0]; exact (Below.refl _ _).alloc (Nat.le_refl _) _
  have hz0 : w.heap.size < W0.heap.size := by rw [hW0]; simp
  have HK0 : Hid (∀ wx, Below W0.heap.size W0 wx → wx.cell? ⟨w.heap.size, 1, none⟩ = some m.v ∧ wx.cell? ⟨w.heap.size, 2, none⟩ = some (.int .i64 m.cnt) ∧ InIxs wx m.v m.l) := fun wx hx => ⟨by rw [hx.cell (p := ⟨w.heap.size, 1, none⟩) hz0, hW0]; simp, by rw [hx.cell (p := ⟨w.heap.size, 2, none⟩) hz0, hW0]; simp, (HE.out.2.2.1.below hb0 (Nat.le_refl _)).below hx (Nat.le_refl _)⟩
  have HI0 : Hid (InBks W0 v bs) := HE.out.1.below hb0
  have c0 : W0.cell? ⟨w.heap.size, 0, none⟩ = some v := by rw [hW0]; simp
  go_enter Try.func20, Try.ntmps20
  go_upto_region 1 with fail
  rw [← hW0]
  clear hW0
  go_wp2_with fail
  refine (szBlockS_any v bs left _ HI0.out HE.out.2.1 h0 h1).mono ?_
  rintro e w1 ⟨x, rfl, hx, hb1⟩
  have s1 := hb1.size
  by_cases hx0 : x < 0
  · clear hx
    go_wp2_with fail
    go_ret
    exact ⟨_, rfl, .inl rfl, hb0.trans (hb1.mono (by omega))⟩
  have hx1 : 0 ≤ x ∧ x + bs.length + totB bs ≤ left := by omega
  clear hx c0
  obtain ⟨c1, c2, hI⟩ := HK0.out w1 hb1
  have HI : Hid (InIxs w1 m.v m.l) := hI
  clear hI
  go_wp2_with fail
  refine (szBlock_core m _ _ HI.out HE.out.2.2.2 (by omega) (by omega)).mono ?_
  rintro e w2 ⟨y, rfl, hy, hb2⟩
  have k2 : Below w.heap.size w w2 := (hb0.trans (hb1.mono (by omega))).trans (hb2.mono (by omega))
  by_cases hy0 : y < 0
  · clear hy
    go_wp2_with fail
    go_ret
    exact ⟨_, rfl, .inl rfl, k2⟩
  have HY : Hid (0 ≤ y ∧ y + bs.length + totB bs + m.l.length ≤ left) := by show _ ∧ _; omega
  clear hy hx1
  go_wp2_with fail
  go_ret
  exact ⟨_, rfl, .inr HY.out, k2⟩
end Go.Proofs.Ytlgeffinhbodeae

