/-
  The normal form keeps the meaning; it is valid, and its own normal form: without memory.
-/
import Derived.Test.YtkidabedcgngcaaGreatDoorPkAT
import Derived.Test.YtkidabedcgngcaaGreatDoorPkAU
import Derived.Test.YtkidabedcgngcaaGreatDoorPkAF
import Derived.Test.YtkidabedcgngcaaGreatDoorPkAW
namespace Go.Proofs.YtkidabedcgngcaaGreatDoor
open Go.ChangeShapes Go.WideShapes Go.ChangeAt Go.RowKit Go.Deep
set_option linter.unusedVariables false
set_option linter.unusedSimpArgs false
set_option maxRecDepth 100000

theorem TrV.beside {T : Type} {V : Nd → List T → T} {ss : List T} {xs : List Nd} (h : TrV V ss xs) {ts : List T} {ys : List Nd} (k : TrV V ts ys) : TrV V (ss ++ ts) (xs ++ ys) := by
  induction k with
  | nil => simpa using h
  | @snoc ts os ys n ho k ih =>
    rw [← List.append_assoc, ← List.append_assoc]
    refine .snoc n ho ?_
    rw [List.append_assoc]; exact ih
theorem TrV.node2 {T : Type} {V : Nd → List T → T} {a b : T} {ka kb : List Nd} {n : Nd} (hn : arity n.kind = 2) (ha : TrV V [a] ka) (hb : TrV V [b] kb) : TrV V [V n [a, b]] (ka ++ kb ++ [n]) := TrV.snoc (ss := []) (os := [a, b]) n hn.symm (ha.beside hb)
theorem TrV.node3 {T : Type} {V : Nd → List T → T} {a b c : T} {ka kb kc : List Nd} {n : Nd} (hn : arity n.kind = 3) (ha : TrV V [a] ka) (hb : TrV V [b] kb) (hc : TrV V [c] kc) : TrV V [V n [a, b, c]] (ka ++ kb ++ kc ++ [n]) := TrV.snoc (ss := []) (os := [a, b, c]) n hn.symm ((ha.beside hb).beside hc)
theorem TrV.node0 {T : Type} {V : Nd → List T → T} {n : Nd} (hn : arity n.kind = 0) : TrV V [V n []] [n] := TrV.snoc (ss := []) (os := []) (xs := []) n hn.symm .nil
theorem arity2 {k : Int} (h : k = 14 ∨ k = 15) : arity k = 2 := by unfold arity; rw [if_pos h]
theorem arity3 {k : Int} (h : k = 16) : arity k = 3 := by unfold arity; rw [if_neg (by omega), if_pos h]
theorem trv_sh {ss : List Shape} {xs : List Nd} (h : TrV (shapeM goodB) ss xs) : ShT goodB ss xs := by
  induction h with
  | nil => exact .nil
  | snoc n ho _ ih => exact .snoc n ho ih
/-- The shape of a tree. -/
noncomputable def shp : CT → Shape
  | .leaf n => shapeM goodB n []
  | .chain n a b => shapeM goodB n [shp a, shp b]
  | .inter n a b => shapeM goodB n [shp a, shp b]
  | .cond n p a b => shapeM goodB n [shp p, shp a, shp b]
theorem tree_shp : ∀ {t : CT} {xs : List Nd}, TreeF xs t → TrV (shapeM goodB) [shp t] xs
  | .leaf _, _, h => by
    cases h.part with
    | leaf n hn => exact TrV.node0 hn
  | .chain _ _ _, _, h => by
    cases h.part with
    | chain n hn ha hb => exact TrV.node2 (arity2 (.inl hn)) (tree_shp ha) (tree_shp hb)
  | .inter _ _ _, _, h => by
    cases h.part with
    | inter n hn ha hb => exact TrV.node2 (arity2 (.inr hn)) (tree_shp ha) (tree_shp hb)
  | .cond _ _ _ _, _, h => by
    cases h.part with
    | cond n hn hp ha hb => exact TrV.node3 (arity3 hn) (tree_shp hp) (tree_shp ha) (tree_shp hb)
def lvN (op : Int) (i : Nat) (s : Shape) : Nat := s.nest + if level op i s.kind then 1 else 0
/-- No deeper, wherever it stands. -/
def NoDeep (s' s : Shape) : Prop := ∀ op i, lvN op i s' ≤ lvN op i s
theorem noDeep_refl (s : Shape) : NoDeep s s := fun _ _ => Nat.le_refl _
theorem NoDeep.trans {a b c : Shape} (h : NoDeep a b) (k : NoDeep b c) : NoDeep a c := fun op i => Nat.le_trans (h op i) (k op i)
theorem NoDeep.nest {s' s : Shape} (h : NoDeep s' s) : s'.nest ≤ s.nest := by
  have h0 := h 15 0
  have hl : ∀ k, level 15 0 k = false := fun k => by
    have hs : ¬ strong k < 1 := by unfold strong; split <;> (try split) <;> omega
    have h15 : strong 15 = 1 := rfl
    simp [level, h15, hs]
  unfold lvN at h0
  rw [hl, hl] at h0
  simpa using h0
theorem nestFrom_two (op : Int) : ∀ (os os' : List Shape) (i a a' : Nat), a ≤ a' → os.length = os'.length → (∀ (j : Nat) (o o' : Shape), os[j]? = some o → os'[j]? = some o' → NoDeep o o') → nestFrom op i a os ≤ nestFrom op i a' os'
  | [], [], i, a, a', h, _, _ => h
  | o :: os, o' :: os', i, a, a', h, hl, hd => by
    unfold nestFrom
    refine nestFrom_two op os os' (i + 1) _ _ ?_ (by simpa using hl) (fun j x x' h1 h2 => hd (j + 1) x x' (by simpa using h1) (by simpa using h2))
    have := hd 0 o o' rfl rfl op i
    unfold lvN at this
    omega
  | [], _ :: _, _, _, _, _, hl, _ => by simp at hl
  | _ :: _, [], _, _, _, _, hl, _ => by simp at hl
theorem nestFrom_ge (op : Int) : ∀ (os : List Shape) (i a : Nat), a ≤ nestFrom op i a os
  | [], _, _ => Nat.le_refl _
  | o :: os, i, a => by
    unfold nestFrom
    exact Nat.le_trans (Nat.le_max_left _ _) (nestFrom_ge op os (i + 1) _)
theorem nestFrom_kid (op : Int) : ∀ (os : List Shape) (i a j : Nat) (o : Shape), os[j]? = some o → lvN op (i + j) o ≤ nestFrom op i a os
  | [], _, _, j, o, h => by simp at h
  | x :: os, i, a, 0, o, h => by
    simp at h
    subst h
    unfold nestFrom lvN
    exact Nat.le_trans (Nat.le_max_right _ _) (nestFrom_ge op os (i + 1) _)
  | x :: os, i, a, j + 1, o, h => by
    unfold nestFrom
    have := nestFrom_kid op os (i + 1) (max a (x.nest + if level op i x.kind then 1 else 0)) j o (by simpa using h)
    rw [show i + 1 + j = i + (j + 1) by omega] at this
    exact this
theorem kid_noDeep (n : Nd) (os : List Shape) (j : Nat) (o : Shape) (h : os[j]? = some o) : NoDeep o (shapeM goodB n os) := by
  intro op i
  have h1 := nestFrom_kid n.kind os 0 0 j o h
  rw [Nat.zero_add] at h1
  show o.nest + _ ≤ nestFrom n.kind 0 0 os + (if level op i n.kind then 1 else 0)
  unfold lvN at h1
  by_cases h2 : level op i o.kind = true
  · by_cases h3 : level op i n.kind = true
    · rw [if_pos h2, if_pos h3]; omega
    · have h4 : level n.kind j o.kind = true := by
        unfold level at h2 h3 ⊢
        simp only [Bool.or_eq_true, decide_eq_true_eq, not_or] at h2 h3 ⊢
        refine .inr ?_
        have h5 := h2.resolve_left h3.1
        have h6 := h3.2
        split at h5
        · rw [if_pos (by assumption)] at h6
          simp only [decide_eq_true_eq] at h5 h6
          split <;> simp only [decide_eq_true_eq] <;> omega
        · rw [if_neg (by assumption)] at h6
          simp only [decide_eq_true_eq] at h5 h6
          split <;> simp only [decide_eq_true_eq] <;> omega
      rw [if_pos h2]
      rw [if_pos h4] at h1
      omega
  · rw [if_neg h2]; omega
theorem same_noDeep (n : Nd) (os os' : List Shape) (hl : os.length = os'.length) (hd : ∀ (j : Nat) (o o' : Shape), os[j]? = some o → os'[j]? = some o' → NoDeep o o') : NoDeep (shapeM goodB n os) (shapeM goodB n os') := by
  intro op i
  have := nestFrom_two n.kind os os' 0 0 0 (Nat.le_refl _) hl hd
  show nestFrom n.kind 0 0 os + _ ≤ nestFrom n.kind 0 0 os' + _
  have e : (shapeM goodB n os).kind = (shapeM goodB n os').kind := rfl
  rw [e]
  omega
theorem leafG_all (n : Nd) (h : n.kind = 1) : ∀ (cs pre : List Ent), leafG n pre cs = cs
  | [], _ => rfl
  | c :: cs, pre => by
    have hk : keepB n pre c = true := by unfold keepB tstB; simp [h]
    have hs : stripE n c = c := by unfold stripE; rw [if_neg (by omega)]
    unfold leafG
    rw [hk, if_pos rfl, hs, leafG_all n h cs]
theorem leafG_none (n : Nd) (h : n.kind = 2) : ∀ (cs pre : List Ent), leafG n pre cs = []
  | [], _ => rfl
  | c :: cs, pre => by
    have hk : keepB n pre c = false := by unfold keepB tstB; simp [h]
    unfold leafG
    rw [hk]
    simp only [Bool.false_eq_true, if_false]
    exact leafG_none n h cs _
theorem nkLeafG_strip (n : Nd) (h : n.kind = 3) : ∀ (cs pre : List Ent), leafG n pre cs = cs.map fun c => { c with val := ⟨#[]⟩ }
  | [], _ => rfl
  | c :: cs, pre => by
    have hk : keepB n pre c = true := by unfold keepB tstB; simp [h]
    have hs : stripE n c = { c with val := ⟨#[]⟩ } := by unfold stripE; rw [if_pos h]
    unfold leafG
    rw [hk, if_pos rfl, hs, nkLeafG_strip n h cs]
    rfl
theorem uni_nil (b : List Ent) (h : Ord b) : uniM [] b = b := by
  obtain ⟨h1, h2⟩ := uniM_spec (a := []) List.Pairwise.nil h
  exact ord_ext h1 h fun x => by rw [h2]; simp
theorem uni_nilr (a : List Ent) (h : Ord a) : uniM a [] = a := by
  obtain ⟨h1, h2⟩ := uniM_spec (b := []) h List.Pairwise.nil
  exact ord_ext h1 h fun x => by rw [h2]; simp
theorem uni_in {a b : List Ent} (ha : Ord a) (hb : Ord b) (h : ∀ x ∈ b, ∃ y ∈ a, keyCmp x y = 0) : uniM a b = a := by
  obtain ⟨h1, h2⟩ := uniM_spec ha hb
  refine ord_ext h1 ha fun x => ?_
  rw [h2]
  constructor
  · rintro (q | ⟨q, z⟩)
    · exact q
    · obtain ⟨y, hy, hk⟩ := h x q
      exact absurd hk (z y hy)
  · exact .inl
theorem mean_nil : ∀ t : CT, mean t [] = []
  | .leaf n => rfl
  | .chain _ a b => by unfold mean; rw [mean_nil a, mean_nil b]
  | .inter _ a b => by unfold mean; rw [mean_nil a, mean_nil b]; rfl
  | .cond _ p a b => by unfold mean; rw [mean_nil p, mean_nil b]; rfl
/-- What a normal form is to its tree. -/
structure Nrm (t : CT) (y : List Nd) (u : CT) : Prop where
  tree : TreeF y u
  own : NormF y y
  deep : NoDeep (shp u) (shp t)
  same : ∀ row, Sub row row → mean u row = mean t row
theorem isK_leaf {y : List Nd} {u : CT} {k : Int} (h : TreeF y u) (hk : isK y k) (h0 : k = 1 ∨ k = 2 ∨ k = 3) : ∃ n, u = .leaf n ∧ n.kind = k := by
  obtain ⟨n, rfl, hn⟩ := hk
  have ha : arity n.kind = 0 := by unfold arity; rw [if_neg (by omega), if_neg (by omega)]
  exact ⟨n, treeF_one h (TrV.node0 ha), hn⟩
theorem Nrm.all {t : CT} {y : List Nd} {u : CT} (h : Nrm t y u) (hk : isK y 1) {row : List Ent} (hS : Sub row row) : mean t row = row := by
  obtain ⟨n, rfl, hn⟩ := isK_leaf h.tree hk (.inl rfl)
  rw [← h.same row hS]
  exact leafG_all n hn row []
theorem Nrm.non {t : CT} {y : List Nd} {u : CT} (h : Nrm t y u) (hk : isK y 2) {row : List Ent} (hS : Sub row row) : mean t row = [] := by
  obtain ⟨n, rfl, hn⟩ := isK_leaf h.tree hk (.inr (.inl rfl))
  rw [← h.same row hS]
  exact leafG_none n hn row []
theorem Nrm.strip {t : CT} {y : List Nd} {u : CT} (h : Nrm t y u) (hk : isK y 3) {row : List Ent} (hS : Sub row row) : mean t row = row.map fun c => { c with val := ⟨#[]⟩ } := by
  obtain ⟨n, rfl, hn⟩ := isK_leaf h.tree hk (.inr (.inr rfl))
  rw [← h.same row hS]
  exact nkLeafG_strip n hn row []
theorem Nrm.up {t s : CT} {y : List Nd} {u : CT} (h : Nrm t y u) (hd : NoDeep (shp t) (shp s)) (hm : ∀ row, Sub row row → mean t row = mean s row) : Nrm s y u := ⟨h.tree, h.own, h.deep.trans hd, fun row hS => (h.same row hS).trans (hm row hS)⟩
theorem kid2 (n : Nd) (a b : Shape) : NoDeep a (shapeM goodB n [a, b]) ∧ NoDeep b (shapeM goodB n [a, b]) := ⟨kid_noDeep n _ 0 a rfl, kid_noDeep n _ 1 b rfl⟩
theorem kid3 (n : Nd) (p a b : Shape) : NoDeep a (shapeM goodB n [p, a, b]) ∧ NoDeep b (shapeM goodB n [p, a, b]) := ⟨kid_noDeep n _ 1 a rfl, kid_noDeep n _ 2 b rfl⟩
theorem deep2 (n : Nd) {a b a' b' : Shape} (ha : NoDeep a' a) (hb : NoDeep b' b) : NoDeep (shapeM goodB n [a', b']) (shapeM goodB n [a, b]) := same_noDeep n _ _ rfl fun j o o' h1 h2 => by
  match j, h1, h2 with
  | 0, h1, h2 => cases h1; cases h2; exact ha
  | 1, h1, h2 => cases h1; cases h2; exact hb
  | j + 2, h1, h2 => simp at h1
theorem deep3 (n : Nd) {p a b p' a' b' : Shape} (hp : NoDeep p' p) (ha : NoDeep a' a) (hb : NoDeep b' b) : NoDeep (shapeM goodB n [p', a', b']) (shapeM goodB n [p, a, b]) := same_noDeep n _ _ rfl fun j o o' h1 h2 => by
  match j, h1, h2 with
  | 0, h1, h2 => cases h1; cases h2; exact hp
  | 1, h1, h2 => cases h1; cases h2; exact ha
  | 2, h1, h2 => cases h1; cases h2; exact hb
  | j + 3, h1, h2 => simp at h1
theorem nrm_chain (n : Nd) (hn : n.kind = 14) {a b ua ub : CT} {ya yb : List Nd} (ha : Nrm a ya ua) (hb : Nrm b yb ub) : ∃ u, Nrm (.chain n a b) (normOf n [ya, yb]) u := by
  have hkid := kid2 n (shp a) (shp b)
  have hmb : ∀ row, Sub row row → Sub (mean a row) (mean a row) := fun row hS => (mean_sub a hS).self
  by_cases h1 : isK ya 1 ∨ isK yb 2
  · have e : normOf n [ya, yb] = yb := by unfold normOf; simp only; rw [if_pos hn, if_pos h1]
    rw [e]
    refine ⟨ub, hb.up hkid.2 fun row hS => ?_⟩
    show _ = mean b (mean a row)
    rcases h1 with h1 | h1
    · rw [ha.all h1 hS]
    · rw [hb.non h1 hS, hb.non h1 (hmb row hS)]
  · by_cases h2 : isK yb 1 ∨ isK ya 2 ∨ (isK ya 3 ∧ isK yb 3)
    · have e : normOf n [ya, yb] = ya := by unfold normOf; simp only; rw [if_pos hn, if_neg h1, if_pos h2]
      rw [e]
      refine ⟨ua, ha.up hkid.1 fun row hS => ?_⟩
      show _ = mean b (mean a row)
      rcases h2 with h2 | h2 | h2
      · rw [hb.all h2 (hmb row hS)]
      · rw [ha.non h2 hS, mean_nil]
      · rw [hb.strip h2.2 (hmb row hS), ha.strip h2.1 hS, List.map_map]
        rfl
    · have e : normOf n [ya, yb] = ya ++ yb ++ [n] := by unfold normOf; simp only; rw [if_pos hn, if_neg h1, if_neg h2]
      rw [e]
      refine ⟨.chain n ua ub, ?_, ?_, deep2 n ha.deep hb.deep, fun row hS => ?_⟩
      · have h9 := TrV.node2 (V := ctV) (arity2 (.inl hn)) ha.tree hb.tree
        have e1 : ctV n [ua, ub] = .chain n ua ub := if_pos hn
        rw [e1] at h9
        exact h9
      · have h9 := TrV.node2 (V := normOf) (arity2 (.inl hn)) ha.own hb.own
        rw [e] at h9
        exact h9
      · show mean ub (mean ua row) = mean b (mean a row)
        rw [ha.same row hS, hb.same _ (hmb row hS)]
theorem nrm_inter (n : Nd) (hn : n.kind = 15) {a b ua ub : CT} {ya yb : List Nd} (ha : Nrm a ya ua) (hb : Nrm b yb ub) : ∃ u, Nrm (.inter n a b) (normOf n [ya, yb]) u := by
  have hn' : ¬ n.kind = 14 := by omega
  have hkid := kid2 n (shp a) (shp b)
  by_cases h1 : isK ya 2
  · have e : normOf n [ya, yb] = yb := by unfold normOf; simp only; rw [if_neg hn', if_pos h1]
    rw [e]
    refine ⟨ub, hb.up hkid.2 fun row hS => ?_⟩
    show _ = uniM (mean a row) (mean b row)
    rw [ha.non h1 hS, uni_nil _ (mean_sub b hS).ord]
  · by_cases h2 : isK yb 2 ∨ isK ya 1 ∨ ya = yb
    · have e : normOf n [ya, yb] = ya := by unfold normOf; simp only; rw [if_neg hn', if_neg h1, if_pos h2]
      rw [e]
      refine ⟨ua, ha.up hkid.1 fun row hS => ?_⟩
      show _ = uniM (mean a row) (mean b row)
      rcases h2 with h2 | h2 | h2
      · rw [hb.non h2 hS, uni_nilr _ (mean_sub a hS).ord]
      · rw [ha.all h2 hS, uni_in hS.ord (mean_sub b hS).ord (mean_sub b hS).key]
      · have hu : ua = ub := treeF_one ha.tree (by rw [h2]; exact hb.tree)
        have hab : mean b row = mean a row := by rw [← hb.same row hS, ← ha.same row hS, hu]
        rw [hab, uni_in (mean_sub a hS).ord (mean_sub a hS).ord fun x hx => ⟨x, hx, keyCmp_self x⟩]
    · have e : normOf n [ya, yb] = ya ++ yb ++ [n] := by unfold normOf; simp only; rw [if_neg hn', if_neg h1, if_neg h2]
      rw [e]
      refine ⟨.inter n ua ub, ?_, ?_, deep2 n ha.deep hb.deep, fun row hS => ?_⟩
      · have h9 := TrV.node2 (V := ctV) (arity2 (.inr hn)) ha.tree hb.tree
        have e1 : ctV n [ua, ub] = .inter n ua ub := if_neg hn'
        rw [e1] at h9
        exact h9
      · have h9 := TrV.node2 (V := normOf) (arity2 (.inr hn)) ha.own hb.own
        rw [e] at h9
        exact h9
      · show uniM (mean ua row) (mean ub row) = uniM (mean a row) (mean b row)
        rw [ha.same row hS, hb.same row hS]
theorem nrm_cond (n : Nd) (hn : n.kind = 16) {p a b up ua ub : CT} {yp ya yb : List Nd} (hp : Nrm p yp up) (ha : Nrm a ya ua) (hb : Nrm b yb ub) : ∃ u, Nrm (.cond n p a b) (normOf n [yp, ya, yb]) u := by
  have hkid := kid3 n (shp p) (shp a) (shp b)
  by_cases h1 : isK yp 1
  · have e : normOf n [yp, ya, yb] = ya := by unfold normOf; simp only; rw [if_pos h1]
    rw [e]
    refine ⟨ua, ha.up hkid.1 fun row hS => ?_⟩
    show _ = if mean p row = [] then mean b row else mean a row
    rw [hp.all h1 hS]
    by_cases h0 : row = []
    · rw [if_pos h0, h0, mean_nil, mean_nil]
    · rw [if_neg h0]
  · by_cases h2 : isK yp 2
    · have e : normOf n [yp, ya, yb] = yb := by unfold normOf; simp only; rw [if_neg h1, if_pos h2]
      rw [e]
      refine ⟨ub, hb.up hkid.2 fun row hS => ?_⟩
      show _ = if mean p row = [] then mean b row else mean a row
      rw [if_pos (hp.non h2 hS)]
    · by_cases h3 : ya = yb
      · have e : normOf n [yp, ya, yb] = ya := by unfold normOf; simp only; rw [if_neg h1, if_neg h2, if_pos h3]
        rw [e]
        refine ⟨ua, ha.up hkid.1 fun row hS => ?_⟩
        have hu : ua = ub := treeF_one ha.tree (by rw [h3]; exact hb.tree)
        have hab : mean b row = mean a row := by rw [← hb.same row hS, ← ha.same row hS, hu]
        show _ = if mean p row = [] then mean b row else mean a row
        rw [hab]
        split <;> rfl
      · have e : normOf n [yp, ya, yb] = yp ++ ya ++ yb ++ [n] := by unfold normOf; simp only; rw [if_neg h1, if_neg h2, if_neg h3]
        rw [e]
        refine ⟨.cond n up ua ub, ?_, ?_, deep3 n hp.deep ha.deep hb.deep, fun row hS => ?_⟩
        · exact TrV.node3 (V := ctV) (arity3 hn) hp.tree ha.tree hb.tree
        · have h9 := TrV.node3 (V := normOf) (arity3 hn) hp.own ha.own hb.own
          rw [e] at h9
          exact h9
        · show (if mean up row = [] then mean ub row else mean ua row) = if mean p row = [] then mean b row else mean a row
          rw [hp.same row hS, ha.same row hS, hb.same row hS]
theorem nrm_all : ∀ {t : CT} {xs : List Nd}, TreeF xs t → ∃ y u, NormF xs y ∧ Nrm t y u
  | .leaf n, _, h => by
    cases h.part with
    | leaf _ hn =>
      have h0 : NormF [n] [n] := TrV.node0 (V := normOf) hn
      exact ⟨[n], .leaf n, h0, h, h0, noDeep_refl _, fun _ _ => rfl⟩
  | .chain n _ _, _, h => by
    cases h.part with
    | chain _ hn ha hb =>
      obtain ⟨ya, ua, na, ra⟩ := nrm_all ha
      obtain ⟨yb, ub, nb, rb⟩ := nrm_all hb
      obtain ⟨u, hu⟩ := nrm_chain n hn ra rb
      exact ⟨_, u, TrV.node2 (arity2 (.inl hn)) na nb, hu⟩
  | .inter n _ _, _, h => by
    cases h.part with
    | inter _ hn ha hb =>
      obtain ⟨ya, ua, na, ra⟩ := nrm_all ha
      obtain ⟨yb, ub, nb, rb⟩ := nrm_all hb
      obtain ⟨u, hu⟩ := nrm_inter n hn ra rb
      exact ⟨_, u, TrV.node2 (arity2 (.inr hn)) na nb, hu⟩
  | .cond n _ _ _, _, h => by
    cases h.part with
    | cond _ hn hp ha hb =>
      obtain ⟨yp, up, np, rp⟩ := nrm_all hp
      obtain ⟨ya, ua, na, ra⟩ := nrm_all ha
      obtain ⟨yb, ub, nb, rb⟩ := nrm_all hb
      obtain ⟨u, hu⟩ := nrm_cond n hn rp ra rb
      exact ⟨_, u, TrV.node3 (arity3 hn) np na nb, hu⟩
/-- The normal form of a good filter: good, no longer, its own normal form, and of the same meaning. -/
theorem norm_good {xs y : List Nd} (h : GoodF xs) (hy : NormF xs y) : GoodF y ∧ y.length ≤ xs.length ∧ NormF y y ∧ ∀ es R, (∀ e ∈ es, e.kind = 0) → (∀ e ∈ es, e.ok) → MeaOf xs es R → MeaOf y es R := by
  obtain ⟨t, ht⟩ := goodF_tree h
  obtain ⟨y', u, hy', hN⟩ := nrm_all ht
  obtain rfl : y = y' := normF_one hy hy'
  have hm := trv_mem xs.length (Nat.le_refl _) hy
  have hg : GoodF y := by
    refine ⟨Nat.le_trans hm.2 h.1, shp u, trv_sh (tree_shp hN.tree), ?_, ?_⟩
    · have h9 := ShT.valid goodB (trv_sh (tree_shp hN.tree))
      have h10 : y.all goodB = true := List.all_eq_true.2 fun e he => (goodB_iff e).2 (goodF_all h e (hm.1 e he))
      rw [h10] at h9
      simpa using h9
    · obtain ⟨_, s, hs, _, hn⟩ := h
      obtain rfl : s = shp t := sh_one hs (trv_sh (tree_shp ht))
      exact Nat.le_trans hN.deep.nest hn
  refine ⟨hg, hm.2, hN.own, fun es R hk hok hR => ?_⟩
  rcases hR with ⟨h1, rfl⟩ | ⟨h1, t', ht', rfl⟩
  · exact .inl ⟨fun q => h1 ⟨h, q.2⟩, rfl⟩
  · obtain rfl : t = t' := treeF_one ht ht'
    refine .inr ⟨⟨hg, h1.2⟩, u, hN.tree, ?_⟩
    have hS := sub_good h1.2 hk hok
    unfold meanAll
    congr 1
    funext p
    exact (hN.same _ (segE_sub hS p)).symm
end Go.Proofs.YtkidabedcgngcaaGreatDoor
