/-
  What the law FnExactMergeStore needs besides: stores that are marked, and how much they hold.
-/
import Derived.Test.YtlgeffinhbodeaeQMgS
import Derived.Test.YtlgeffinhbodeaeQMgI
import Derived.Test.YtlgeffinhbodeaeQTabs3
import Derived.Test.YtlgeffinhbodeaeQEqT
namespace Go.Proofs.Ytlgeffinhbodeae
open Go.ChangeShapes Go.WideShapes Go.ChangeAt Go.RowKit Go.Deep
set_option linter.unusedVariables false
set_option linter.unusedSimpArgs false

/-- How much a stack of runs holds. -/
def szR : List (List Ent) → Nat
  | [] => 0
  | e :: es => 1 + e.length + szR es
theorem szR_append : ∀ (a b : List (List Ent)), szR (a ++ b) = szR a + szR b
  | [], b => by simp [szR]
  | e :: a, b => by simp [szR, szR_append a b]; omega
theorem szR_len : ∀ (a : List (List Ent)), a.length ≤ szR a
  | [] => Nat.le_refl _
  | e :: a => by have := szR_len a; simp [szR]; omega
def szB : List Tb → Nat
  | [] => 0
  | t :: ts => szR t.rs + szB ts
theorem szB_append : ∀ (a b : List Tb), szB (a ++ b) = szB a + szB b
  | [], b => by simp [szB]
  | e :: a, b => by simp [szB, szB_append a b]; omega
theorem szB_mem {a : List Tb} {t : Tb} (h : t ∈ a) : szR t.rs ≤ szB a := by
  obtain ⟨x, y, rfl⟩ := List.append_of_mem h
  rw [szB_append]
  simp [szB]
  omega
theorem split_two {ts : List Tb} {i : Nat} {a b : Tb} (ha : ts[i]? = some a) (hb : ts[i + 1]? = some b) : ts = ts.take i ++ a :: b :: ts.drop (i + 2) := by
  obtain ⟨h1, h2⟩ := List.getElem?_eq_some_iff.1 ha
  obtain ⟨h3, h4⟩ := List.getElem?_eq_some_iff.1 hb
  rw [← h2, ← h4]
  conv => lhs; rw [← List.take_append_drop i ts]
  congr 1
  rw [List.drop_eq_getElem_cons h1, List.drop_eq_getElem_cons h3]
theorem szB_two {ts : List Tb} {i : Nat} {a b : Tb} (ha : ts[i]? = some a) (hb : ts[i + 1]? = some b) : szR a.rs + szR b.rs ≤ szB ts := by
  rw [split_two ha hb, szB_append]
  simp [szB]
  omega
theorem mrgT_sz {ts out : List Tb} {row : ByteArray} (h : MrgT ts row out) : szB out ≤ szB ts ∧ out.length ≤ ts.length := by
  by_cases hg : GoodS ts
  · obtain ⟨i, hi⟩ := hold_ex hg row
    by_cases hl : i + 1 = ts.length
    · rw [h.last hg i hi hl]; exact ⟨Nat.le_refl _, Nat.le_refl _⟩
    · have ha := List.getElem?_eq_getElem hi.1
      have hb := List.getElem?_eq_getElem (show i + 1 < ts.length by have := hi.1; omega)
      by_cases hf : 50 < (ts[i]'hi.1).rs.length + (ts[i + 1]'(by have := hi.1; omega)).rs.length
      · rw [h.full hg i _ _ hi ha hb hf]; exact ⟨Nat.le_refl _, Nat.le_refl _⟩
      · rw [h.done hg i _ _ hi ha hb (by omega)]
        have h1 := split_two ha hb
        have h2 := congrArg szB h1
        have h3 := congrArg List.length h1
        rw [szB_append] at h2
        simp only [szB, List.length_append, List.length_cons] at h2 h3
        rw [szB_append, szB_append]
        simp only [szB, List.length_append, List.length_cons, List.length_nil, szR_append]
        omega
  · rw [h.bad hg]; exact ⟨Nat.le_refl _, Nat.le_refl _⟩
theorem szR_tot : ∀ (rs : List Rn), szR (esOf rs) = rs.length + tot rs
  | [] => rfl
  | r :: rs => by
    have := szR_tot rs
    unfold esOf at this ⊢
    simp [szR, tot, this]
    omega
theorem szB_tn : ∀ (ts : List Tn), szB (ts.map Tn.tb) ≤ totT ts
  | [] => Nat.le_refl _
  | t :: ts => by
    have := szB_tn ts
    have h2 := szR_tot t.rs
    simp [szB, totT, Tn.tb, wt] at this ⊢
    omega
theorem szR_totM : ∀ (l : List Rm), szR (esM l) = l.length + totM l
  | [] => rfl
  | r :: l => by
    have := szR_totM l
    unfold esM at this ⊢
    simp [szR, totM, this]
    omega
theorem totM_append : ∀ (a b : List Rm), totM (a ++ b) = totM a + totM b
  | [], b => by simp [totM]
  | r :: a, b => by simp [totM, totM_append a b]; omega
theorem szR_totW : ∀ (l : List Rw), szR (l.map Rw.es) = l.length + totW l
  | [] => rfl
  | r :: l => by
    have := szR_totW l
    simp [szR, totW, this]
    omega
theorem totX_sz : ∀ (xs : List Tx), totX xs ≤ xs.length + 6 * szB (xs.map Tx.tb)
  | [] => Nat.le_refl _
  | t :: xs => by
    have := totX_sz xs
    have h2 := szR_totW t.rs
    simp [totX, szB, wx, Tx.tb] at this ⊢
    omega
theorem tx_ok {xs : List Tx} (h : szB (xs.map Tx.tb) ≤ 1048576) : ∀ t ∈ xs, totW t.rs ≤ 1048576 ∧ t.rs.length ≤ 1048576 := by
  intro t ht
  have h1 := szB_mem (List.mem_map.2 ⟨t, ht, rfl⟩ : t.tb ∈ xs.map Tx.tb)
  have h2 := szR_totW t.rs
  simp [Tx.tb] at h1
  omega
theorem tm_ok {ts : List Tm} (h : szB (tbs ts) ≤ 1048576) : ∀ t ∈ ts, t.l.length ≤ 1048576 ∧ totM t.l ≤ 1048576 := by
  intro t ht
  have h1 := szB_mem (List.mem_map.2 ⟨t, ht, rfl⟩ : t.tb ∈ ts.map Tm.tb)
  have h2 := szR_totM t.l
  unfold tbs at h
  have h3 : szR t.tb.rs = szR (esM t.l) := rfl
  omega
theorem tm_two {ts : List Tm} (h : szB (tbs ts) ≤ 1048576) : ∀ (i : Nat) (t n : Tm), ts[i]? = some t → ts[i + 1]? = some n → totM (t.l ++ n.l) ≤ 1048576 := by
  intro i t n ht hn
  have h1 := szB_two (ts := tbs ts) (i := i) (a := t.tb) (b := n.tb) (by rw [tbs_get, ht]; rfl) (by rw [tbs_get, hn]; rfl)
  have h2 := szR_totM t.l
  have h3 := szR_totM n.l
  have h4 : szR t.tb.rs = szR (esM t.l) := rfl
  have h5 : szR n.tb.rs = szR (esM n.l) := rfl
  rw [totM_append]
  omega

/-- A store that the law has made, as one that may be marked. -/
def Tw.tx (t : Tw) : Tx := ⟨t.lo, .slice (some ⟨t.g, 0, none⟩) t.l.length t.l.length, t.l.map fun p => ⟨.slice (some ⟨p.1, 0, none⟩) p.2.length p.2.length, p.2, some p.1⟩⟩
theorem tx_pr (ts : List Tw) : (ts.map Tw.tx).map Tx.pr = ts.map Tw.pr := by
  rw [List.map_map]
  apply List.map_congr_left
  intro t _
  rfl
theorem tx_tb (ts : List Tw) : (ts.map Tw.tx).map Tx.tb = ts.map Tw.tb := by
  rw [List.map_map]
  apply List.map_congr_left
  intro t _
  simp [Tw.tx, Tx.tb, Tw.tb, Function.comp_def]
theorem OwnTabs.st {w : World} {base g : Nat} {ts : List Tw} (h : OwnTabs w base g ts) : OwnSt w base (.slice (some ⟨g, 0, none⟩) ts.length ts.length) (ts.map Tw.tx) := by
  refine ⟨.inr ⟨g, ts.length, by rw [List.length_map], by rw [tx_pr]; exact h.row⟩, fun t ht => ?_, fun t ht r hr => ?_⟩
  · obtain ⟨p, hp, rfl⟩ := List.mem_map.1 ht
    have h1 := (h.tabs p hp).row
    refine .inr ⟨p.g, p.l.length, by simp [Tw.tx], ?_⟩
    unfold OwnR at h1
    have e1 : (usOf p.l).length = p.l.length := by simp [usOf]
    have e2 : p.tx.rs.map Rw.u = usOf p.l := by simp [Tw.tx, usOf, Function.comp_def]
    have e3 : p.tx.rs.length = p.l.length := by simp [Tw.tx]
    rw [e1] at h1
    rw [e2, e3]
    exact h1
  · obtain ⟨p, hp, rfl⟩ := List.mem_map.1 ht
    simp only [Tw.tx, List.mem_map] at hr
    obtain ⟨q, hq, rfl⟩ := hr
    exact .inr ⟨q.1, q.2.length, rfl, rfl, (h.tabs p hp).rows.2 q hq⟩
theorem OwnTabs.apart {w : World} {base g : Nat} {ts : List Tw} (h : OwnTabs w base g ts) : ApartT (ts.map Tw.tx) := by
  unfold ApartT Apart
  rw [List.flatMap_map, List.pairwise_flatMap]
  refine ⟨fun t ht => ?_, ?_⟩
  · show (t.l.map _).Pairwise _
    rw [List.pairwise_map]
    refine (h.tabs t ht).rows.1.imp ?_
    intro p q hpq k h1 h2
    have e1 : p.1 = k := Option.some.inj h1
    have e2 : q.1 = k := Option.some.inj h2
    omega
  · have hu : ts.Pairwise fun a b => (a ∈ ts ∧ b ∈ ts) ∧ a.g < b.g ∧ ∀ p ∈ a.l, p.1 < b.g := by
      have := h.up
      rw [List.pairwise_iff_forall_sublist] at this ⊢
      intro a b hab
      exact ⟨⟨hab.subset (by simp), hab.subset (by simp)⟩, this hab⟩
    refine hu.imp ?_
    rintro a b ⟨⟨ha, hb⟩, h1, h2⟩ x hx y hy k hk hk'
    simp only [Tw.tx, List.mem_map] at hx hy
    obtain ⟨p, hp, rfl⟩ := hx
    obtain ⟨q, hq, rfl⟩ := hy
    have e1 : p.1 = k := Option.some.inj hk
    have e2 : q.1 = k := Option.some.inj hk'
    have h3 := h2 p hp
    have h4 := (h.tabs b hb).ne q hq
    omega
theorem vwX (xs : List Tx) : vwT (xs.map Tx.tn) = (xs.map Tx.tb).map fun t => (t.lo, t.rs) := by
  unfold vwT
  rw [List.map_map, List.map_map]
  apply List.map_congr_left
  intro t ht
  simp [Tx.tn, Tx.tb, esOf, Rw.rn, Function.comp_def]
theorem vwX_eq {l l' : List Tx} (h : l.map Tx.tb = l'.map Tx.tb) : vwT (l.map Tx.tn) = vwT (l'.map Tx.tn) := by rw [vwX, vwX, h]
/-- What the law's own copy shows is what came in. -/
theorem tms_tns {l : List Tw} {ts : List Tn} (h : l.map Tw.tb = ts.map Tn.tb) : tbs (l.map Tw.tm) = ts.map Tn.tb := by
  unfold tbs
  rw [tms_tbs, h]
/-- impl.MergeStore at a store that the law has made. -/
theorem implMerge_at {w : World} {base g : Nat} {l : List Tw} {ts : List Tn} (row : ByteArray) (h : OwnTabs w base g l) (hm : l.map Tw.tb = ts.map Tn.tb) (hok : okT ts) (hn : ts.length + totT ts ≤ 1048576) :
    Calls Try.prog 28 #[.agg #[.slice (some ⟨g, 0, none⟩) l.length l.length], .string row] w fun e w' => MgIPost w (ts.map Tn.tb) row e w' := by
  have hl : l.length = ts.length := by have := congrArg List.length hm; simpa using this
  have h1 : szB (tbs (l.map Tw.tm)) ≤ 1048576 := by
    rw [tms_tns hm]
    have := szB_tn ts
    omega
  have := implMerge_store g 0 l.length (l.map Tw.tm) row w h.at (ok_tms hm hok h.short) h.lt.2 (by rw [List.length_map]; omega) (by rw [List.length_map]; exact Nat.le_refl _) (by unfold maxLen; omega) (tm_ok h1) (tm_two h1)
  rw [tms_tns hm, List.length_map] at this
  exact this
theorem specMerge_at {w : World} {base g : Nat} {l : List Tw} {ts : List Tn} (row : ByteArray) (h : OwnTabs w base g l) (hm : l.map Tw.tb = ts.map Tn.tb) (hok : okT ts) (hn : ts.length + totT ts ≤ 1048576) :
    Calls Try.prog 26 #[.agg #[.slice (some ⟨g, 0, none⟩) l.length l.length], .string row] w fun e w' => MgSPost w (ts.map Tn.tb) row e w' := by
  have hl : l.length = ts.length := by have := congrArg List.length hm; simpa using this
  have h1 : szB (tbs (l.map Tw.tm)) ≤ 1048576 := by
    rw [tms_tns hm]
    have := szB_tn ts
    omega
  have := specMerge_store g 0 l.length (l.map Tw.tm) row w h.at (ok_tms hm hok h.short) h.lt.2 (by rw [List.length_map]; omega) (tm_ok h1)
  rw [tms_tns hm, List.length_map] at this
  exact this
end Go.Proofs.Ytlgeffinhbodeae
