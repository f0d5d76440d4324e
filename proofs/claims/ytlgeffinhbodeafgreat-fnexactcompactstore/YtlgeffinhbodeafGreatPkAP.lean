import Derived.BigQuiet
import Derived.Test.YtlgeffinhbodeafGreatPkAO
import Derived.Test.YtlgeffinhbodeafGreatPkAK
import Derived.Test.YtlgeffinhbodeafGreatPkAE
import Derived.Test.YtlgeffinhbodeafGreatPkAC
import Derived.Test.YtlgeffinhbodeafGreatPkAD
import Derived.Test.YtlgeffinhbodeafGreatPkAI
import Derived.Test.YtlgeffinhbodeafGreatPkAH
/-
  What the law FnExactMergeStore needs besides: stores that are marked, and how much they hold.
-/
namespace Go.Proofs.YtlgeffinhbodeafGreat
open Go.ChangeShapes Go.WideShapes Go.ChangeAt Go.RowKit Go.Deep
set_option linter.unusedVariables false
set_option linter.unusedSimpArgs false

/-- How much a stack of runs holds. -/
def szR : List (List Ent) → Nat
  | [] => 0
  | e :: es => 1 + e.length + szR es
theorem szR_append : ∀ (a b : List (List Ent)), szR (a ++ b) = szR a + szR b
  | [], b => by simp [szR]
  | e :: a, b => by simp [szR, szR_append a b]; omega
theorem szR_len : ∀ (a : List (List Ent)), a.length ≤ szR a
  | [] => Nat.le_refl _
  | e :: a => by have := szR_len a; simp [szR]; omega
def szB : List Tb → Nat
  | [] => 0
  | t :: ts => szR t.rs + szB ts
theorem szB_append : ∀ (a b : List Tb), szB (a ++ b) = szB a + szB b
  | [], b => by simp [szB]
  | e :: a, b => by simp [szB, szB_append a b]; omega
theorem szB_mem {a : List Tb} {t : Tb} (h : t ∈ a) : szR t.rs ≤ szB a := by
  obtain ⟨x, y, rfl⟩ := List.append_of_mem h
  rw [szB_append]
  simp [szB]
  omega
theorem split_two {ts : List Tb} {i : Nat} {a b : Tb} (ha : ts[i]? = some a) (hb : ts[i + 1]? = some b) : ts = ts.take i ++ a :: b :: ts.drop (i + 2) := by
  obtain ⟨h1, h2⟩ := List.getElem?_eq_some_iff.1 ha
  obtain ⟨h3, h4⟩ := List.getElem?_eq_some_iff.1 hb
  rw [← h2, ← h4]
  conv => lhs; rw [← List.take_append_drop i ts]
  congr 1
  rw [List.drop_eq_getElem_cons h1, List.drop_eq_getElem_cons h3]
theorem szB_two {ts : List Tb} {i : Nat} {a b : Tb} (ha : ts[i]? = some a) (hb : ts[i + 1]? = some b) : szR a.rs + szR b.rs ≤ szB ts := by
  rw [split_two ha hb, szB_append]
  simp [szB]
  omega
theorem mrgT_sz {ts out : List Tb} {row : ByteArray} (h : MrgT ts row out) : szB out ≤ szB ts ∧ out.length ≤ ts.length := by
  by_cases hg : GoodS ts
  · obtain ⟨i, hi⟩ := hold_ex hg row
    by_cases hl : i + 1 = ts.length
    · rw [h.last hg i hi hl]; exact ⟨Nat.le_refl _, Nat.le_refl _⟩
    · have ha := List.getElem?_eq_getElem hi.1
      have hb := List.getElem?_eq_getElem (show i + 1 < ts.length by have := hi.1; omega)
      by_cases hf : 50 < (ts[i]'hi.1).rs.length + (ts[i + 1]'(by have := hi.1; omega)).rs.length
      · rw [h.full hg i _ _ hi ha hb hf]; exact ⟨Nat.le_refl _, Nat.le_refl _⟩
      · rw [h.done hg i _ _ hi ha hb (by omega)]
        have h1 := split_two ha hb
        have h2 := congrArg szB h1
        have h3 := congrArg List.length h1
        rw [szB_append] at h2
        simp only [szB, List.length_append, List.length_cons] at h2 h3
        rw [szB_append, szB_append]
        simp only [szB, List.length_append, List.length_cons, List.length_nil, szR_append]
        omega
  · rw [h.bad hg]; exact ⟨Nat.le_refl _, Nat.le_refl _⟩
theorem szR_tot : ∀ (rs : List Rn), szR (esOf rs) = rs.length + tot rs
  | [] => rfl
  | r :: rs => by
    have := szR_tot rs
    unfold esOf at this ⊢
    simp [szR, tot, this]
    omega
theorem szB_tn : ∀ (ts : List Tn), szB (ts.map Tn.tb) ≤ totT ts
  | [] => Nat.le_refl _
  | t :: ts => by
    have := szB_tn ts
    have h2 := szR_tot t.rs
    simp [szB, totT, Tn.tb, wt] at this ⊢
    omega
theorem szR_totM : ∀ (l : List Rm), szR (esM l) = l.length + totM l
  | [] => rfl
  | r :: l => by
    have := szR_totM l
    unfold esM at this ⊢
    simp [szR, totM, this]
    omega
theorem totM_append : ∀ (a b : List Rm), totM (a ++ b) = totM a + totM b
  | [], b => by simp [totM]
  | r :: a, b => by simp [totM, totM_append a b]; omega
theorem szR_totW : ∀ (l : List Rw), szR (l.map Rw.es) = l.length + totW l
  | [] => rfl
  | r :: l => by
    have := szR_totW l
    simp [szR, totW, this]
    omega
theorem totX_sz : ∀ (xs : List Tx), totX xs ≤ xs.length + 6 * szB (xs.map Tx.tb)
  | [] => Nat.le_refl _
  | t :: xs => by
    have := totX_sz xs
    have h2 := szR_totW t.rs
    simp [totX, szB, wx, Tx.tb] at this ⊢
    omega
theorem tx_ok {xs : List Tx} (h : szB (xs.map Tx.tb) ≤ 1048576) : ∀ t ∈ xs, totW t.rs ≤ 1048576 ∧ t.rs.length ≤ 1048576 := by
  intro t ht
  have h1 := szB_mem (List.mem_map.2 ⟨t, ht, rfl⟩ : t.tb ∈ xs.map Tx.tb)
  have h2 := szR_totW t.rs
  simp [Tx.tb] at h1
  omega
theorem tm_ok {ts : List Tm} (h : szB (tbs ts) ≤ 1048576) : ∀ t ∈ ts, t.l.length ≤ 1048576 ∧ totM t.l ≤ 1048576 := by
  intro t ht
  have h1 := szB_mem (List.mem_map.2 ⟨t, ht, rfl⟩ : t.tb ∈ ts.map Tm.tb)
  have h2 := szR_totM t.l
  unfold tbs at h
  have h3 : szR t.tb.rs = szR (esM t.l) := rfl
  omega
theorem tm_two {ts : List Tm} (h : szB (tbs ts) ≤ 1048576) : ∀ (i : Nat) (t n : Tm), ts[i]? = some t → ts[i + 1]? = some n → totM (t.l ++ n.l) ≤ 1048576 := by
  intro i t n ht hn
  have h1 := szB_two (ts := tbs ts) (i := i) (a := t.tb) (b := n.tb) (by rw [tbs_get, ht]; rfl) (by rw [tbs_get, hn]; rfl)
  have h2 := szR_totM t.l
  have h3 := szR_totM n.l
  have h4 : szR t.tb.rs = szR (esM t.l) := rfl
  have h5 : szR n.tb.rs = szR (esM n.l) := rfl
  rw [totM_append]
  omega

/-- A store that the law has made, as one that may be marked. -/
def Tw.tx (t : Tw) : Tx := ⟨t.lo, .slice (some ⟨t.g, 0, none⟩) t.l.length t.l.length, t.l.map fun p => ⟨.slice (some ⟨p.1, 0, none⟩) p.2.length p.2.length, p.2, some p.1⟩⟩
theorem tx_pr (ts : List Tw) : (ts.map Tw.tx).map Tx.pr = ts.map Tw.pr := by
  rw [List.map_map]
  apply List.map_congr_left
  intro t _
  rfl
theorem tx_tb (ts : List Tw) : (ts.map Tw.tx).map Tx.tb = ts.map Tw.tb := by
  rw [List.map_map]
  apply List.map_congr_left
  intro t _
  simp [Tw.tx, Tx.tb, Tw.tb, Function.comp_def]
theorem OwnTabs.st {w : World} {base g : Nat} {ts : List Tw} (h : OwnTabs w base g ts) : OwnSt w base (.slice (some ⟨g, 0, none⟩) ts.length ts.length) (ts.map Tw.tx) := by
  refine ⟨.inr ⟨g, ts.length, by rw [List.length_map], by rw [tx_pr]; exact h.row⟩, fun t ht => ?_, fun t ht r hr => ?_⟩
  · obtain ⟨p, hp, rfl⟩ := List.mem_map.1 ht
    have h1 := (h.tabs p hp).row
    refine .inr ⟨p.g, p.l.length, by simp [Tw.tx], ?_⟩
    unfold OwnR at h1
    have e1 : (usOf p.l).length = p.l.length := by simp [usOf]
    have e2 : p.tx.rs.map Rw.u = usOf p.l := by simp [Tw.tx, usOf, Function.comp_def]
    have e3 : p.tx.rs.length = p.l.length := by simp [Tw.tx]
    rw [e1] at h1
    rw [e2, e3]
    exact h1
  · obtain ⟨p, hp, rfl⟩ := List.mem_map.1 ht
    simp only [Tw.tx, List.mem_map] at hr
    obtain ⟨q, hq, rfl⟩ := hr
    exact .inr ⟨q.1, q.2.length, rfl, rfl, (h.tabs p hp).rows.2 q hq⟩
theorem OwnTabs.apart {w : World} {base g : Nat} {ts : List Tw} (h : OwnTabs w base g ts) : ApartT (ts.map Tw.tx) := by
  unfold ApartT Apart
  rw [List.flatMap_map, List.pairwise_flatMap]
  refine ⟨fun t ht => ?_, ?_⟩
  · show (t.l.map _).Pairwise _
    rw [List.pairwise_map]
    refine (h.tabs t ht).rows.1.imp ?_
    intro p q hpq k h1 h2
    have e1 : p.1 = k := Option.some.inj h1
    have e2 : q.1 = k := Option.some.inj h2
    omega
  · have hu : ts.Pairwise fun a b => (a ∈ ts ∧ b ∈ ts) ∧ a.g < b.g ∧ ∀ p ∈ a.l, p.1 < b.g := by
      have := h.up
      rw [List.pairwise_iff_forall_sublist] at this ⊢
      intro a b hab
      exact ⟨⟨hab.subset (by simp), hab.subset (by simp)⟩, this hab⟩
    refine hu.imp ?_
    rintro a b ⟨⟨ha, hb⟩, h1, h2⟩ x hx y hy k hk hk'
    simp only [Tw.tx, List.mem_map] at hx hy
    obtain ⟨p, hp, rfl⟩ := hx
    obtain ⟨q, hq, rfl⟩ := hy
    have e1 : p.1 = k := Option.some.inj hk
    have e2 : q.1 = k := Option.some.inj hk'
    have h3 := h2 p hp
    have h4 := (h.tabs b hb).ne q hq
    omega
theorem vwX (xs : List Tx) : vwT (xs.map Tx.tn) = (xs.map Tx.tb).map fun t => (t.lo, t.rs) := by
  unfold vwT
  rw [List.map_map, List.map_map]
  apply List.map_congr_left
  intro t ht
  simp [Tx.tn, Tx.tb, esOf, Rw.rn, Function.comp_def]
theorem vwX_eq {l l' : List Tx} (h : l.map Tx.tb = l'.map Tx.tb) : vwT (l.map Tx.tn) = vwT (l'.map Tx.tn) := by rw [vwX, vwX, h]
/-- What the law's own copy shows is what came in. -/
theorem tms_tns {l : List Tw} {ts : List Tn} (h : l.map Tw.tb = ts.map Tn.tb) : tbs (l.map Tw.tm) = ts.map Tn.tb := by
  unfold tbs
  rw [tms_tbs, h]
end Go.Proofs.YtlgeffinhbodeafGreat

/-
  CompactStore as lists.
-/
namespace Go.Proofs.YtlgeffinhbodeafGreat
open Go.ChangeShapes Go.WideShapes Go.ChangeAt Go.RowKit Go.Deep
set_option linter.unusedVariables false

abbrev allR : ByteArray → Bool := inR ⟨#[]⟩ false ⟨#[]⟩
/-- The runs that a compacted tablet holds. -/
def oneRun (L : List Ent) : List (List Ent) := if L.length = 0 then [] else [L.map putE]
def packT (ts : List Tb) (i : Nat) (a : Tb) (L : List Ent) : List Tb := ts.take i ++ [⟨a.lo, oneRun L⟩] ++ ts.drop (i + 1)
/-- What CompactStore makes of a store. -/
def CmsT (ts : List Tb) (row : ByteArray) (out : List Tb) : Prop :=
  (¬ GoodS ts ∧ out = ts) ∨ ∃ i a L, GoodS ts ∧ HoldAt ts row i ∧ ts[i]? = some a ∧ MrgOf a.rs allR L ∧ ((10000 < L.length ∧ out = ts) ∨ (L.length ≤ 10000 ∧ out = packT ts i a L))
theorem cmsT_bad {ts : List Tb} {row : ByteArray} (h : ¬ GoodS ts) : CmsT ts row ts := .inl ⟨h, rfl⟩
theorem cmsT_much {ts : List Tb} {row : ByteArray} {i : Nat} {a : Tb} {L : List Ent} (hg : GoodS ts) (hi : HoldAt ts row i) (ha : ts[i]? = some a) (hm : MrgOf a.rs allR L) (hl : 10000 < L.length) : CmsT ts row ts := .inr ⟨i, a, L, hg, hi, ha, hm, .inl ⟨hl, rfl⟩⟩
theorem cmsT_done {ts : List Tb} {row : ByteArray} {i : Nat} {a : Tb} {L : List Ent} (hg : GoodS ts) (hi : HoldAt ts row i) (ha : ts[i]? = some a) (hm : MrgOf a.rs allR L) (hl : L.length ≤ 10000) : CmsT ts row (packT ts i a L) := .inr ⟨i, a, L, hg, hi, ha, hm, .inr ⟨hl, rfl⟩⟩
theorem cmsT_uniq {ts : List Tb} {row : ByteArray} {o1 o2 : List Tb} (h : CmsT ts row o1) (k : CmsT ts row o2) : o1 = o2 := by
  rcases h with ⟨g1, rfl⟩ | ⟨i, a, L, g1, hi, ha, hm, h⟩ <;> rcases k with ⟨g2, rfl⟩ | ⟨j, b, M, g2, hj, hb, hn, k⟩
  · rfl
  · exact absurd g2 g1
  · exact absurd g1 g2
  · have := hold_uniq hi hj
    subst this
    rw [ha] at hb
    cases hb
    have := mrgOf_uniq hm hn
    subst this
    rcases h with ⟨h1, rfl⟩ | ⟨h1, rfl⟩ <;> rcases k with ⟨k1, rfl⟩ | ⟨k1, rfl⟩
    · rfl
    · omega
    · omega
    · rfl
theorem szR_flat : ∀ (rs : List (List Ent)), szR rs = rs.length + rs.flatten.length
  | [] => rfl
  | e :: rs => by
    have := szR_flat rs
    simp only [szR, List.length_cons, List.flatten_cons, List.length_append]
    omega
theorem oneRun_sz {rs : List (List Ent)} {L : List Ent} (h : MrgOf rs allR L) : szR (oneRun L) ≤ szR rs := by
  unfold oneRun
  split
  · exact Nat.zero_le _
  · rename_i hL
    have h0 : L.length ≤ rs.flatten.length := by
      by_cases g : GoodRs rs
      · exact nodup_sub_len (nodup_ord (h.1 g).1) (mrg_len (h.1 g))
      · rw [h.2 g]; exact Nat.zero_le _
    have h1 := szR_flat rs
    have h2 : 0 < rs.length := by
      rcases rs with _ | ⟨e, rs⟩
      · simp at h0; simp [h0] at hL
      · simp
    simp only [szR, List.length_map]
    omega
theorem cmsT_sz {ts out : List Tb} {row : ByteArray} (h : CmsT ts row out) : szB out ≤ szB ts ∧ out.length ≤ ts.length := by
  rcases h with ⟨g1, rfl⟩ | ⟨i, a, L, g1, hi, ha, hm, ⟨_, rfl⟩ | ⟨_, rfl⟩⟩
  · exact ⟨Nat.le_refl _, Nat.le_refl _⟩
  · exact ⟨Nat.le_refl _, Nat.le_refl _⟩
  · have h1 : ts = ts.take i ++ a :: ts.drop (i + 1) := by
      obtain ⟨h1, h2⟩ := List.getElem?_eq_some_iff.1 ha
      rw [← h2]
      conv => lhs; rw [← List.take_append_drop i ts]
      congr 1
      rw [List.drop_eq_getElem_cons h1]
    have h2 := congrArg szB h1
    have h3 := congrArg List.length h1
    have h4 := oneRun_sz hm
    rw [szB_append] at h2
    simp only [szB, List.length_append, List.length_cons] at h2 h3
    unfold packT
    rw [szB_append, szB_append]
    simp only [szB, List.length_append, List.length_cons, List.length_nil]
    omega
end Go.Proofs.YtlgeffinhbodeafGreat

/-
  spec.l7Part: the entries of a run whose rows are in a range.
-/
namespace Go.Proofs.YtlgeffinhbodeafGreat
open Go.ChangeShapes Go.WideShapes Go.ChangeAt Go.RowKit Go.Deep
set_option linter.unusedVariables false
set_option linter.unusedSimpArgs false
set_option maxRecDepth 100000

abbrev inP (lo : ByteArray) (hh : Bool) (hi : ByteArray) (es : List Ent) : List Ent := es.filter fun x => inR lo hh hi x.row
theorem inP_yes {lo hi : ByteArray} {hh : Bool} {es : List Ent} {k : Nat} {x : Ent} (h : es[k]? = some x) (hx : inR lo hh hi x.row = true) : inP lo hh hi (es.take (k + 1)) = inP lo hh hi (es.take k) ++ [x] := by
  unfold inP
  rw [List.take_add_one, h, List.filter_append]
  simp [hx]
theorem inP_no {lo hi : ByteArray} {hh : Bool} {es : List Ent} {k : Nat} {x : Ent} (h : es[k]? = some x) (hx : inR lo hh hi x.row = false) : inP lo hh hi (es.take (k + 1)) = inP lo hh hi (es.take k) := by
  unfold inP
  rw [List.take_add_one, h, List.filter_append]
  simp [hx]
theorem inP_len (lo hi : ByteArray) (hh : Bool) (es : List Ent) (k : Nat) : (inP lo hh hi (es.take k)).length ≤ es.length := by
  have h1 : (inP lo hh hi (es.take k)).length ≤ (es.take k).length := List.length_filter_le ..
  have := List.length_take_le k es
  have := List.length_take (i := k) (l := es)
  omega
def SpPPost (w : World) (fs : List Ent) (e : Ending) (w' : World) : Prop := ∃ g cp, e = .returned (.slice (some ⟨g, 0, none⟩) fs.length cp) ∧ OwnE w' w.heap.size g cp fs ∧ Below w.heap.size w w'

set_option maxHeartbeats 4000000 in
theorem specPart_core (r : Rm) (lo hi : ByteArray) (hh : Bool) (w : World) (h : r.at w) (hn : r.es.length ≤ 1048576) :
    Calls Tryz.prog 23 #[.slice (some ⟨r.b, r.off, none⟩) r.es.length r.cap, .agg #[.string lo, .bool hh, .string hi]] w fun e w' => SpPPost w (inP lo hh hi r.es) e w' := by
  obtain ⟨Wa, hWa⟩ : ∃ Wa : World, Wa = (w.alloc (Obj.cells #[.string lo, .bool hh, .string hi] 52)).alloc (Obj.cells #[] 61) := ⟨_, rfl⟩
  have hba : Below w.heap.size w Wa := by rw [hWa]; exact ((Below.refl _ _).alloc (Nat.le_refl _) _).alloc (by simp) _
  have hza : Wa.heap.size = w.heap.size + 1 + 1 := by rw [hWa]; simp
  have HO0 : Hid (OwnE Wa (w.heap.size + 1) (w.heap.size + 1) 0 []) := by
    rw [hWa]
    have := ownE_empty (w.alloc (Obj.cells #[.string lo, .bool hh, .string hi] 52)) (w.heap.size + 1) (by simp)
    have h2 : OwnE ((w.alloc (Obj.cells #[.string lo, .bool hh, .string hi] 52)).alloc (Obj.cells #[] 61)) (w.heap.size + 1) (w.heap.size + 1) 0 [] := by simpa using this
    exact h2
  have HC : Hid (∀ wx, Below (w.heap.size + 1) Wa wx → wx.cell? ⟨w.heap.size, 0, none⟩ = some (.string lo) ∧ wx.cell? ⟨w.heap.size, 1, none⟩ = some (.bool hh) ∧ wx.cell? ⟨w.heap.size, 2, none⟩ = some (.string hi) ∧ r.at wx) := by
    intro wx hx
    refine ⟨?_, ?_, ?_, ?_⟩
    · rw [hx.cell (p := ⟨w.heap.size, 0, none⟩) (by show w.heap.size < w.heap.size + 1; omega), hWa]; simp [go_sem]
    · rw [hx.cell (p := ⟨w.heap.size, 1, none⟩) (by show w.heap.size < w.heap.size + 1; omega), hWa]; simp [go_sem]
    · rw [hx.cell (p := ⟨w.heap.size, 2, none⟩) (by show w.heap.size < w.heap.size + 1; omega), hWa]; simp [go_sem]
    · have hbx : Below w.heap.size w wx := hba.trans (hx.mono (by omega))
      exact h.below hbx
  clear h
  go_enter Tryz.func23, Tryz.ntmps23
  go_wp2_with fail
  rw [← hWa]
  clear hWa
  go_loopw [5, 6] (fun o i wr => ∃ (k g cp : Nat) (fs : List Ent), k ≤ r.es.length ∧ i = .int .i64 k ∧ o = .slice (some ⟨g, 0, none⟩) fs.length cp ∧ fs = inP lo hh hi (r.es.take k) ∧ OwnE wr (w.heap.size + 1) g cp fs ∧ Below (w.heap.size + 1) Wa wr) (fun _ i _ => r.es.length - (intOf i).toNat)
  case atStart => exact ⟨0, w.heap.size + 1, 0, [], Nat.zero_le _, rfl, rfl, rfl, HO0.out, Below.refl _ _⟩
  case round =>
    obtain ⟨k, g, cp, fs, hk, rfl, rfl, hfs, hO, hb⟩ := hrel
    have HR : Hid (fs = inP lo hh hi (r.es.take k) ∧ OwnE wr (w.heap.size + 1) g cp fs) := ⟨hfs, hO⟩
    have hfl : fs.length ≤ 1048576 := by rw [hfs]; exact Nat.le_trans (inP_len ..) hn
    have hgl := hO.lt
    have hsz := hb.size
    clear hfs hO
    by_cases hlt : k < r.es.length
    · obtain ⟨x, hx⟩ : ∃ x, r.es[k]? = some x := ⟨_, List.getElem?_eq_getElem hlt⟩
      have HX : Hid (r.es[k]? = some x) := hx
      clear hx
      have zk : (k : Int) < (r.es.length : Int) := by omega
      have HCo : Hid (∀ n : Out wr, Below (w.heap.size + 1) Wa n.u) := fun n => hb.trans (n.out.mono (by omega))
      have q1 : ∀ n : Out wr, n.u.cell? ⟨w.heap.size, 0, none⟩ = some (.string lo) := fun n => (HC.out n.u (HCo.out n)).1
      have q2 : ∀ n : Out wr, n.u.cell? ⟨w.heap.size, 1, none⟩ = some (.bool hh) := fun n => (HC.out n.u (HCo.out n)).2.1
      have q3 : ∀ n : Out wr, n.u.cell? ⟨w.heap.size, 2, none⟩ = some (.string hi) := fun n => (HC.out n.u (HCo.out n)).2.2.1
      have q4 : ∀ n : Out wr, n.u.cell? ⟨r.b, r.off + k * 6, none⟩ = some (.string x.row) := fun n => ((HC.out n.u (HCo.out n)).2.2.2.ents k x HX.out).1
      have inh2 : Nonempty (Out wr) := ⟨⟨wr, Below.refl _ _⟩⟩
      go_upto_region 5 with fail
      refine wp_region_out (by kernel_rfl) (by kernel_rfl) ?_
      repeat (go_big_quiet_step ((go_at_call 50; exact Calls.out_of (specInRange_core lo hi x.row hh _))))
      refine wpQuiet_nil ?_
      rintro wz ⟨⟨wx', hbz⟩, rfl⟩
      have hbz2 : Below (w.heap.size + 1) Wa wz := hb.trans (hbz.mono (by omega))
      have sz := hbz.size
      obtain ⟨d0, d1, d2, d3, d4, d5⟩ := (HC.out wz hbz2).2.2.2.ents k x HX.out
      clear q1 q2 q3 q4 inh2
      cases hin : inR lo hh hi x.row
      · have H : Hid (fs = inP lo hh hi (r.es.take (k + 1)) ∧ OwnE wz (w.heap.size + 1) g cp fs) := ⟨by rw [inP_no HX.out hin]; exact HR.out.1, HR.out.2.below hbz HR.out.2.lt.2⟩
        go_wp2_with fail
        go_roundw
        case rel => go_light; exact ⟨k + 1, g, cp, fs, by omega, by go_num, rfl, H.out.1, H.out.2, hbz2⟩
        case measure => go_light; simp [intOf]; omega
      · obtain ⟨W2, hW2⟩ : ∃ W2 : World, W2 = wz.alloc (Obj.cells #[.string x.row, .string x.fam, .string x.qual, .int .u64 x.ts, .int .i64 x.kind, .string x.val] 61) := ⟨_, rfl⟩
        have hb2 : Below wz.heap.size wz W2 := by rw [hW2]; exact (Below.refl _ _).alloc (Nat.le_refl _) _
        have HO2 : Hid (OwnE W2 (w.heap.size + 1) g cp fs) := (HR.out.2.below hbz HR.out.2.lt.2).below hb2 (by have := HR.out.2.lt.2; omega)
        have HE2 : Hid (EntsAt W2 wz.heap.size 0 [x]) := by rw [hW2]; exact ent_box wz x
        have s2 := hb2.size
        go_wp2_with (at_builtin; rw [← hW2]; refine wpList_append_entO _ rfl _ _ rfl (w.heap.size + 1) g cp fs.length wz.heap.size 0 1 1 fs [x] rfl rfl rfl rfl HO2.out HE2.out ?hl ?hb ?_)
        case hl => simp; omega
        case hb => omega
        intro g' cp' w3 hO3 hgr3 hat3
        have hgr4 : W2.grownBy w3 (some g) := by rw [hW2]; exact hgr3
        have hb3 : Below (w.heap.size + 1) Wa w3 := (hbz2.trans (hb2.mono (by omega))).grown hgr4 (by omega) (fun j hj => by cases hj; exact hgl.1)
        have H : Hid (fs ++ [x] = inP lo hh hi (r.es.take (k + 1)) ∧ OwnE w3 (w.heap.size + 1) g' cp' (fs ++ [x])) := ⟨by rw [inP_yes HX.out hin]; rw [← HR.out.1], hO3⟩
        clear hO3 hgr3 hgr4 hW2
        go_wp2_with fail
        go_roundw
        case rel => go_light; exact ⟨k + 1, g', cp', fs ++ [x], by omega, by go_num, by simp, H.out.1, H.out.2, hb3⟩
        case measure => go_light; simp [intOf]; omega
    · have zk : ¬ (k : Int) < (r.es.length : Int) := by omega
      have H : Hid (fs = inP lo hh hi r.es) := by
        have h1 := HR.out.1
        rw [List.take_of_length_le (by omega)] at h1
        exact h1
      go_wp2_with fail
      go_ret
      refine ⟨g, cp, (by rw [← H.out]; rfl), ?_, hba.trans (hb.mono (by omega))⟩
      rw [← H.out]
      exact HR.out.2.mono (by omega)
end Go.Proofs.YtlgeffinhbodeafGreat

/-
  spec.l7Runs: the parts of runs whose rows are in a range, without the empty ones.
-/
namespace Go.Proofs.YtlgeffinhbodeafGreat
open Go.ChangeShapes Go.WideShapes Go.ChangeAt Go.RowKit Go.Deep
set_option linter.unusedVariables false
set_option linter.unusedSimpArgs false
set_option maxRecDepth 100000

def keepP (lo : ByteArray) (hh : Bool) (hi : ByteArray) (ess : List (List Ent)) : List (List Ent) := (ess.map (inP lo hh hi)).filter fun e => decide (0 < e.length)
theorem keepP_yes {lo hi : ByteArray} {hh : Bool} {l : List Rm} {k : Nat} {r : Rm} (h : l[k]? = some r) (hx : 0 < (inP lo hh hi r.es).length) : keepP lo hh hi (esM (l.take (k + 1))) = keepP lo hh hi (esM (l.take k)) ++ [inP lo hh hi r.es] := by
  unfold keepP esM
  rw [List.take_add_one, h, List.map_append, List.map_append, List.filter_append]
  simp [hx]
theorem keepP_no {lo hi : ByteArray} {hh : Bool} {l : List Rm} {k : Nat} {r : Rm} (h : l[k]? = some r) (hx : ¬ 0 < (inP lo hh hi r.es).length) : keepP lo hh hi (esM (l.take (k + 1))) = keepP lo hh hi (esM (l.take k)) := by
  unfold keepP esM
  rw [List.take_add_one, h, List.map_append, List.map_append, List.filter_append]
  have : decide (0 < (inP lo hh hi r.es).length) = false := decide_eq_false hx
  simp only [Option.toList_some, List.map_cons, List.map_nil, List.filter_cons, this, List.filter_nil]
  simp
theorem keepP_len (lo hi : ByteArray) (hh : Bool) (l : List Rm) (k : Nat) : (keepP lo hh hi (esM (l.take k))).length ≤ l.length := by
  unfold keepP esM
  have h1 := List.length_filter_le (fun e : List Ent => decide (0 < e.length)) (((l.take k).map Rm.es).map (inP lo hh hi))
  rw [List.length_map, List.length_map, List.length_take] at h1
  omega
def SpRPost (w : World) (ess : List (List Ent)) (e : Ending) (w' : World) : Prop := ∃ g cp rs, e = .returned (.slice (some ⟨g, 0, none⟩) rs.length cp) ∧ CopyO w' w.heap.size (.slice (some ⟨g, 0, none⟩) rs.length cp) rs ess ∧ Below w.heap.size w w'
theorem CopyO.snoc {w w2 w3 : World} {base : Nat} {v v' : Value} {rs : List Rw} {ess : List (List Ent)} {g' cp' : Nat} {es : List Ent} (h : CopyO w base v rs ess) (hb : Below w.heap.size w w2) (hO : OwnE w2 base g' cp' es)
    (hA : AppR w2 w3 base v v' (rs.map Rw.u) [.slice (some ⟨g', 0, none⟩) es.length cp']) : CopyO w3 base v' (rs ++ [⟨.slice (some ⟨g', 0, none⟩) es.length cp', es, some g'⟩]) (ess ++ [es]) := by
  have h2 := h.below hb
  have hkk : ∀ x : Rw, OwnK w2 base x → OwnK w3 base x := fun x hx => by
    refine hx.kept hA.grown (fun k' hk' q => ?_)
    rcases hx with ⟨h0, _⟩ | ⟨g2, cp2, h1, _, hE⟩
    · rw [h0] at hk'; cases hk'
    · rw [h1] at hk'
      have e3 : g2 = k' := Option.some.inj hk'
      subst e3
      exact own_apart h2.row hE (by decide) _ q rfl
  refine ⟨by rw [List.map_append]; exact hA.row, fun r hr => ?_, by rw [List.map_append, h.same]; rfl⟩
  rcases List.mem_append.1 hr with q | q
  · exact hkk r (h2.ents r q)
  · simp at q
    subst q
    exact hkk _ (.inr ⟨g', cp', rfl, rfl, hO⟩)

end Go.Proofs.YtlgeffinhbodeafGreat

/-
  spec.CompactStore.
-/
namespace Go.Proofs.YtlgeffinhbodeafGreat
open Go.ChangeShapes Go.WideShapes Go.ChangeAt Go.RowKit Go.Deep
set_option linter.unusedVariables false
set_option linter.unusedSimpArgs false
set_option maxRecDepth 100000

/-- What CompactStore of spec hands back. -/
def CsSPost (w : World) (tb : List Tb) (row : ByteArray) (e : Ending) (w' : World) : Prop := ∃ out, CmsT tb row out ∧ CpSPost w out e w'

set_option maxHeartbeats 8000000 in
theorem specCompact_store (b off cap : Nat) (ts : List Tm) (row : ByteArray) (w : World) (h : TmsAt w b off ts) (hok : okTs ts) (hB : b < w.heap.size) (hn : ts.length ≤ 1048576) (hs : ∀ t ∈ ts, t.l.length ≤ 1048576 ∧ totM t.l ≤ 1048576) :
    Calls Tryz.prog 16 #[.agg #[.slice (some ⟨b, off, none⟩) ts.length cap], .string row] w fun e w' => CsSPost w (tbs ts) row e w' := by
  obtain ⟨Wa, hWa⟩ : ∃ Wa : World, Wa = (w.alloc (Obj.cells #[.slice (some ⟨b, off, none⟩) ts.length cap] 30)).alloc (Obj.cells #[.slice none 0 0] 30) := ⟨_, rfl⟩
  have hba : Below w.heap.size w Wa := by rw [hWa]; exact ((Below.refl _ _).alloc (Nat.le_refl _) _).alloc (by simp) _
  have hza : Wa.heap.size = w.heap.size + 1 + 1 := by rw [hWa]; simp
  have HWa : Hid (∀ wx, Below Wa.heap.size Wa wx → wx.cell? ⟨w.heap.size, 0, none⟩ = some (.slice (some ⟨b, off, none⟩) ts.length cap) ∧ wx.cell? ⟨w.heap.size + 1, 0, none⟩ = some (.slice none 0 0) ∧ wx.frozen? ⟨w.heap.size + 1, 0, none⟩ = false ∧ TmsAt wx b off ts ∧ b < wx.heap.size) := by
    intro wx hx
    have sx := hx.size
    refine ⟨?_, ?_, ?_, (h.below hba hB).below hx (by omega), by omega⟩
    · rw [hx.cell (p := ⟨w.heap.size, 0, none⟩) (by show w.heap.size < Wa.heap.size; omega), hWa]; simp [go_sem]
    · rw [hx.cell (p := ⟨w.heap.size + 1, 0, none⟩) (by show w.heap.size + 1 < Wa.heap.size; omega), hWa]; simp [go_sem]
    · rw [hx.frozen (p := ⟨w.heap.size + 1, 0, none⟩) (by show w.heap.size + 1 < Wa.heap.size; omega), hWa]; simp [go_sem]
  have HS : Hid (okTs ts ∧ ∀ t ∈ ts, t.l.length ≤ 1048576 ∧ totM t.l ≤ 1048576) := ⟨hok, hs⟩
  -- a copy of the store as it came
  have HCp : Hid (∀ W, Below Wa.heap.size Wa W → Calls Tryz.prog 20 #[.agg #[.slice (some ⟨b, off, none⟩) ts.length cap]] W fun e w' => ∃ (va : Option Addr) (vn vc : Nat), e = .returned (.agg #[.slice va vn vc]) ∧ w'.cell? ⟨w.heap.size + 1, 0, none⟩ = some (.slice none 0 0) ∧ w'.frozen? ⟨w.heap.size + 1, 0, none⟩ = false ∧ Hid (CpSPost w (tbs ts) (.returned (.agg #[.slice va vn vc])) (w'.setCell ⟨w.heap.size + 1, 0, none⟩ (.slice va vn vc)))) := by
    intro W hW
    obtain ⟨_, _, _, hT, hb'⟩ := HWa.out W hW
    have sW := hW.size
    refine (specCopy_core b off cap ts W hT hb' hn HS.out.2).mono ?_
    rintro e w3 ⟨v, xs, rfl, hS, hx, hb3⟩
    have hb3' : Below Wa.heap.size Wa w3 := hW.trans (hb3.mono sW)
    obtain ⟨_, q1, q2, _⟩ := HWa.out w3 hb3'
    obtain ⟨va, vn, vc, rfl, hc⟩ := st_in (w := w) (R := w.heap.size + 1) (by omega) (by omega) hS (hba.trans (hb3'.mono (by omega)))
    rw [hx] at hc
    exact ⟨va, vn, vc, rfl, q1, q2, hc⟩
  clear h hok hs
  obtain ⟨c0, _, _, hT0, hB0⟩ := HWa.out Wa (Below.refl _ _)
  have HT0 : Hid (TmsAt Wa b off ts) := hT0
  clear hT0
  go_enter Tryz.func16, Tryz.ntmps16
  go_upto_region 1 with fail
  rw [← hWa]
  clear hWa
  go_wp2_with fail
  refine (specValidStore_core b off cap ts _ HT0.out HS.out.1 hB0 hn).mono ?_
  rintro e w1 ⟨r, rfl, hr, hb1⟩
  have HR : Hid (r = true ↔ GoodS (tbs ts)) := hr
  have s1 := hb1.size
  clear hr c0
  obtain ⟨c0, _, _, hT1, hB1⟩ := HWa.out w1 hb1
  have HT1 : Hid (TmsAt w1 b off ts) := hT1
  clear hT1
  cases r
  · have H : Hid (CmsT (tbs ts) row (tbs ts)) := cmsT_bad (fun q => Bool.noConfusion (HR.out.2 q))
    go_wp2_with fail
    refine (HCp.out _ hb1).mono ?_
    rintro e w3 ⟨va, vn, vc, rfl, q1, q2, hc⟩
    go_wp2_with fail
    exact bodyPost_ret (v := .agg #[.slice va vn vc]) (by simp [results, Tryz.results16, go_sem, q1]) rfl ⟨_, H.out, hc.out⟩
  have HG : Hid (GoodS (tbs ts)) := HR.out.1 rfl
  obtain ⟨i, hi⟩ := hold_ex HG.out row
  have HI : Hid (HoldAt (tbs ts) row i) := hi
  have hil : i < ts.length := by have := hi.1; rw [tbs_len] at this; exact this
  have hn100 : ts.length ≤ 100 := by have := HG.out.le; rw [tbs_len] at this; exact this
  clear hi
  go_wp2_with fail
  refine (specHolder_core b off cap ts row i _ HT1.out hB1 hn HI.out).mono ?_
  rintro e w2 ⟨rfl, hb2'⟩
  have hb2 : Below Wa.heap.size Wa w2 := hb1.trans (hb2'.mono s1)
  have s2 := hb2.size
  clear hb2' c0
  obtain ⟨c0, _, _, hT2, hB2⟩ := HWa.out w2 hb2
  have HT2 : Hid (TmsAt w2 b off ts) := hT2
  clear hT2
  have hwr : IntKind.i64.wrap ((i : Int) + 1) = (i : Int) + 1 := by rw [IntKind.wrap_i64]; omega
  obtain ⟨t, ht⟩ : ∃ t, ts[i]? = some t := ⟨_, List.getElem?_eq_getElem hil⟩
  have HTN : Hid (ts[i]? = some t) := ht
  have HTb : Hid ((tbs ts)[i]? = some t.tb) := by
    show (tbs ts)[i]? = some t.tb
    rw [tbs_get, ht]; rfl
  have HOk : Hid (okM t.l ∧ t.l.length ≤ 1048576) := ⟨(HS.out.1 t (List.mem_of_getElem? ht)).ents, (HS.out.2 t (List.mem_of_getElem? ht)).1⟩
  clear ht
  have HK : Hid (∀ w', Below Wa.heap.size Wa w' → w'.cell? ⟨w.heap.size, 0, none⟩ = some (.slice (some ⟨b, off, none⟩) ts.length cap) ∧ w'.cell? ⟨b, off + i * 2, none⟩ = some (.string t.lo) ∧ w'.cell? ⟨b, off + i * 2 + 1, none⟩ = some (.slice (some ⟨t.b, t.off, none⟩) t.l.length t.cap) ∧ t.at w') := by
    intro w' hw'
    obtain ⟨k0, _, _, kT, _⟩ := HWa.out w' hw'
    obtain ⟨k1, k2, k3⟩ := kT i t HTN.out
    exact ⟨k0, k1, k2, k3⟩
  have z1 : (i : Int) < (ts.length : Int) := by omega
  obtain ⟨d0, d1, d2, hat⟩ := HK.out w2 hb2
  have HAt : Hid (t.at w2) := hat
  clear hat HT2
  go_wp2_with fail
  refine (specMerge_core t.b t.off t.cap t.l ⟨#[]⟩ ⟨#[]⟩ false _ HAt.out.rms HOk.out.1 HAt.out.lt HOk.out.2).mono ?_
  rintro e v1 ⟨gc, cc, L, rfl, hC1, hbv1, hL5, hM⟩
  have k1 : Below Wa.heap.size Wa v1 := hb2.trans (hbv1.mono s2)
  have HC1 : Hid (OwnC v1 w2.heap.size gc cc L ∧ MrgOf t.tb.rs allR L) := ⟨hC1, hM⟩
  have sv1 := k1.size
  clear hC1 hM d0 d1 d2 hbv1 c0
  by_cases hbig : 10000 < L.length
  · have H : Hid (CmsT (tbs ts) row (tbs ts)) := cmsT_much HG.out HI.out HTb.out HC1.out.2 hbig
    have zf : (10000 : Int) < (L.length : Int) := by omega
    obtain ⟨k0, _⟩ := HK.out v1 k1
    go_wp2_with fail
    refine (HCp.out _ k1).mono ?_
    rintro e w3 ⟨va, vn, vc, rfl, q1, q2, hc⟩
    go_wp2_with fail
    exact bodyPost_ret (v := .agg #[.slice va vn vc]) (by simp [results, Tryz.results16, go_sem, q1]) rfl ⟨_, H.out, hc.out⟩
  have zf : ¬ (10000 : Int) < (L.length : Int) := by omega
  obtain ⟨W2, hW2⟩ : ∃ W2 : World, W2 = v1.alloc (Obj.cells #[] 58) := ⟨_, rfl⟩
  have hbW2 : Below v1.heap.size v1 W2 := by rw [hW2]; exact (Below.refl _ _).alloc (Nat.le_refl _) _
  have hz2 : W2.heap.size = v1.heap.size + 1 := by rw [hW2]; simp
  have kW2 : Below Wa.heap.size Wa W2 := k1.trans (hbW2.mono sv1)
  have HO0 : Hid (CopyO W2 Wa.heap.size (.slice (some ⟨v1.heap.size, 0, none⟩) 0 0) [] []) := by
    have h1 := ownR_empty v1 Wa.heap.size sv1
    rw [← hW2] at h1
    exact ⟨h1, fun r hr => by simp at hr, rfl⟩
  have HC2 : Hid (OwnC W2 w2.heap.size gc cc L) := HC1.out.1.below hbW2 HC1.out.1.lt.2
  go_upto_region 8 with fail
  rw [← hW2]
  clear hW2
  go_upto_if 32 with fail
  go_cut [7] (fun o wx => ∃ (g cp n : Nat) (rs : List Rw), o = .slice (some ⟨g, 0, none⟩) n cp ∧ Hid (n = rs.length ∧ CopyO wx Wa.heap.size (.slice (some ⟨g, 0, none⟩) n cp) rs (oneRun L)) ∧ Below Wa.heap.size Wa wx)
  case first =>
    by_cases hp : 0 < L.length
    · have zp : (0 : Int) < (L.length : Int) := by omega
      go_wp2_with fail
      refine (puts_core gc cc L w2.heap.size _ HC2.out (by omega)).mono ?_
      rintro e v3 ⟨g1, cp1, rfl, hO1, hb3⟩
      have k3 : Below W2.heap.size W2 v3 := hb3
      have HO1 : Hid (OwnE v3 W2.heap.size g1 cp1 (L.map putE)) := hO1
      obtain ⟨fs, hfs⟩ : ∃ fs, fs = L.map putE := ⟨_, rfl⟩
      have HFS : Hid (fs = L.map putE) := hfs
      have HNL : Hid (L.length = fs.length) := by show _ = _; rw [hfs]; simp
      rw [← hfs] at HO1
      clear hfs hO1
      have s3 := k3.size
      obtain ⟨W5, hW5⟩ : ∃ W5 : World, W5 = v3.alloc (Obj.cells #[.slice (some ⟨g1, 0, none⟩) L.length cp1] 58) := ⟨_, rfl⟩
      have hb5 : Below v3.heap.size v3 W5 := by rw [hW5]; exact (Below.refl _ _).alloc (Nat.le_refl _) _
      have k5 : Below W2.heap.size W2 W5 := k3.trans (hb5.mono s3)
      have HR2 : Hid (W5.ownsRow Wa.heap.size 58 1 (.slice (some ⟨v1.heap.size, 0, none⟩) 0 0) (([] : List Rw).map Rw.u).length (([] : List Rw).map Rw.u)) := (HO0.out.below k5).row
      have HN1 : Hid (∀ j u, [Value.slice (some ⟨g1, 0, none⟩) L.length cp1][j]? = some u → W5.cell? ⟨v3.heap.size, 0 + j, none⟩ = some u) := by rw [hW5]; exact one_cell_new
      have s5 := hb5.size
      go_wp2_with (at_builtin; rw [← hW5]; refine wpList_append_runO _ rfl _ _ rfl Wa.heap.size (.slice (some ⟨v1.heap.size, 0, none⟩) 0 0) [] v3.heap.size 0 1 1 [.slice (some ⟨g1, 0, none⟩) L.length cp1] rfl rfl rfl HR2.out HN1.out ?h1 ?hl ?hb ?_)
      case h1 => (intro u hu; simp at hu; subst hu; rfl)
      case hl => simp
      case hb => omega
      intro v' w3 hA3
      obtain ⟨g3, cp3, rfl⟩ := hA3.form (by intro q; cases q)
      have hA4 : AppR W5 w3 Wa.heap.size (.slice (some ⟨v1.heap.size, 0, none⟩) 0 0) (.slice (some ⟨g3, 0, none⟩) 1 cp3) (([] : List Rw).map Rw.u) [.slice (some ⟨g1, 0, none⟩) L.length cp1] := by rw [hW5, hza]; exact hA3
      have HNw : Hid (CopyO w3 Wa.heap.size (.slice (some ⟨g3, 0, none⟩) 1 cp3) [⟨.slice (some ⟨g1, 0, none⟩) L.length cp1, fs, some g1⟩] (oneRun L) ∧ Below Wa.heap.size Wa w3) := by
        have hA5 := hA4
        rw [HNL.out] at hA5
        have h1 := HO0.out.snoc k5 ((HO1.out.mono (by omega)).below hb5 HO1.out.lt.2) hA5
        have e1 : oneRun L = [] ++ [fs] := by
          unfold oneRun
          rw [if_neg (by omega), HFS.out]; rfl
        rw [e1, HNL.out]
        exact ⟨h1, (kW2.trans (k5.mono kW2.size)).grown hA4.grown (by omega) (fun j hj => row_blk HR2.out j hj)⟩
      clear hA3 hA4 hW5
      go_wp2_with fail
      go_meet
      exact ⟨g3, cp3, _, _, rfl, ⟨rfl, HNw.out.1⟩, HNw.out.2⟩
    · have zp : ¬ (0 : Int) < (L.length : Int) := by omega
      have e1 : Hid (oneRun L = []) := by
        show _ = _
        unfold oneRun
        rw [if_pos (by omega)]
      go_wp2_with fail
      go_meet
      exact ⟨v1.heap.size, 0, 0, [], rfl, ⟨rfl, by rw [e1.out]; exact HO0.out⟩, kW2⟩
  case rest =>
  obtain ⟨g3, cp3, N3, rs, rfl, HA3', hbc⟩ := hcut
  have HA3 : Hid (CopyO wc Wa.heap.size (.slice (some ⟨g3, 0, none⟩) N3 cp3) rs (oneRun L) ∧ Below Wa.heap.size Wa wc) := ⟨HA3'.out.2, hbc⟩
  obtain ⟨k0, k1', _⟩ := HK.out wc hbc
  have HRep : Hid (∀ (X : World) (ob : Nat), Below Wa.heap.size Wa X → ob < X.heap.size → OwnTs X Wa.heap.size [⟨t.lo, .slice (some ⟨g3, 0, none⟩) N3 cp3, rs⟩] → X.cell? ⟨ob, 0, none⟩ = some (.string t.lo) → X.cell? ⟨ob, 1, none⟩ = some (.slice (some ⟨g3, 0, none⟩) N3 cp3) →
      Calls Tryz.prog 42 #[.agg #[.slice (some ⟨b, off, none⟩) ts.length cap], .int .i64 i, .int .i64 ((i : Int) + 1), .slice (some ⟨ob, 0, none⟩) 1 1] X fun e w' => ∃ (va : Option Addr) (vn vc : Nat), e = .returned (.agg #[.slice va vn vc]) ∧ w'.cell? ⟨w.heap.size + 1, 0, none⟩ = some (.slice none 0 0) ∧ w'.frozen? ⟨w.heap.size + 1, 0, none⟩ = false ∧ w'.cell? ⟨w.heap.size, 0, none⟩ = some (.slice (some ⟨b, off, none⟩) ts.length cap) ∧ w'.cell? ⟨b, off + i * 2, none⟩ = some (.string t.lo) ∧ Hid (CsSPost w (tbs ts) row (.returned (.agg #[.slice va vn vc])) (w'.setCell ⟨w.heap.size + 1, 0, none⟩ (.slice va vn vc)))) := by
    intro X ob hX hob hts hc0 hc1
    obtain ⟨_, _, _, hT, hb'⟩ := HWa.out X hX
    have sX := hX.size
    have hcall := specReplace_core b off cap ts [⟨t.lo, .slice (some ⟨g3, 0, none⟩) N3 cp3, rs⟩] i (i + 1) ob Wa.heap.size X hT hb' (fun j u hu => by
      cases j with
      | zero => simp at hu; subst hu; exact ⟨by simpa using hc0, by simpa using hc1⟩
      | succ j => simp at hu) hob hts sX (by omega) (by simp) (by simp) (by omega) (by omega) (by omega) HS.out.2
    rw [show ((i + 1 : Nat) : Int) = (i : Int) + 1 by omega] at hcall
    refine hcall.mono ?_
    rintro e w3 ⟨v, ys, rfl, hrow, hys, htb, hb3⟩
    have hb3' : Below Wa.heap.size Wa w3 := hX.trans (hb3.mono sX)
    obtain ⟨_, q1, q2, _⟩ := HWa.out w3 hb3'
    have hSt : OwnSt w3 Wa.heap.size v ys := ⟨trow_mono hrow sX, hys.runs, hys.ents⟩
    obtain ⟨va, vn, vc, rfl, hc⟩ := st_in (w := w) (R := w.heap.size + 1) (by omega) (by omega) hSt (hba.trans (hb3'.mono (by omega)))
    obtain ⟨y0, y1, _⟩ := HK.out w3 hb3'
    refine ⟨va, vn, vc, rfl, q1, q2, y0, y1, _, cmsT_done HG.out HI.out HTb.out HC1.out.2 (by omega), ?_⟩
    have he : ys.map Tx.tb = packT (tbs ts) i t.tb L := by
      rw [htb]
      unfold tbs packT
      rw [List.map_take, List.map_drop]
      have := HA3.out.1.same
      simp only [List.map_cons, List.map_nil, Tx.tb, this]
      rfl
    rw [← he]
    exact hc
  go_upto_region 10 with fail
  have hS3 : (fun w' : World => w'.cell? ⟨w.heap.size, 0, none⟩ = some (.slice (some ⟨b, off, none⟩) ts.length cap) ∧ w'.cell? ⟨b, off + i * 2, none⟩ = some (.string t.lo)) wc.drew := ⟨by simpa using k0, by simpa using k1'⟩
  refine wp_region_T 14 (fun w' : World => w'.cell? ⟨w.heap.size, 0, none⟩ = some (.slice (some ⟨b, off, none⟩) ts.length cap) ∧ w'.cell? ⟨b, off + i * 2, none⟩ = some (.string t.lo)) (by kernel_rfl) ?_
  refine anyT_take (i := 0) (v := ?vr0x14) rfl (by kernel_rfl) (by kernel_rfl) (by kernel_rfl) (by kernel_rfl) (by decide) (fun _ _ _ h => h) (Or.inl ⟨by rfl, ?yr0x14⟩) hS3 ?_
  case yr0x14 => (intro wz hSw; (try dsimp only at hSw); go_simp; (try with_reducible rfl))
  try simp only [Act.put, List.setIfInBounds_toArray, List.set_cons_zero, List.set_cons_succ]
  refine anyT_take (i := 1) (v := ?vr1x15) rfl (by kernel_rfl) (by kernel_rfl) (by kernel_rfl) (by kernel_rfl) (by decide) (fun _ _ _ h => h) (Or.inl ⟨by rfl, ?yr1x15⟩) hS3 ?_
  case yr1x15 => (intro wz hSw; (try dsimp only at hSw); go_simp; (try with_reducible rfl))
  try simp only [Act.put, List.setIfInBounds_toArray, List.set_cons_zero, List.set_cons_succ]
  refine anyT_take (i := 2) (v := ?vr2x16) rfl (by kernel_rfl) (by kernel_rfl) (by kernel_rfl) (by kernel_rfl) (by decide) (fun _ _ _ h => h) (Or.inl ⟨by rfl, ?yr2x16⟩) hS3 ?_
  case yr2x16 => (intro wz hSw; (try dsimp only at hSw); go_simp; (try with_reducible rfl))
  try simp only [Act.put, List.setIfInBounds_toArray, List.set_cons_zero, List.set_cons_succ]
  refine anyT_take (i := 3) (v := ?vr3x17) rfl (by kernel_rfl) (by kernel_rfl) (by kernel_rfl) (by kernel_rfl) (by decide) (fun _ _ _ h => h) (Or.inl ⟨by rfl, ?yr3x17⟩) hS3 ?_
  case yr3x17 => (intro wz hSw; (try dsimp only at hSw); go_simp; (try with_reducible rfl))
  try simp only [Act.put, List.setIfInBounds_toArray, List.set_cons_zero, List.set_cons_succ]
  refine anyT_take (i := 4) (v := ?vr4x18) rfl (by kernel_rfl) (by kernel_rfl) (by kernel_rfl) (by kernel_rfl) (by decide) (fun _ _ _ h => h) (Or.inl ⟨by rfl, ?yr4x18⟩) hS3 ?_
  case yr4x18 => (intro wz hSw; (try dsimp only at hSw); go_simp; (try with_reducible rfl))
  try simp only [Act.put, List.setIfInBounds_toArray, List.set_cons_zero, List.set_cons_succ]
  refine anyT_take (i := 5) (v := ?vr5x19) rfl (by kernel_rfl) (by kernel_rfl) (by kernel_rfl) (by kernel_rfl) (by decide) (fun _ _ _ h => h) (Or.inl ⟨by rfl, ?yr5x19⟩) hS3 ?_
  case yr5x19 => (intro wz hSw; (try dsimp only at hSw); go_simp; (try with_reducible rfl))
  try simp only [Act.put, List.setIfInBounds_toArray, List.set_cons_zero, List.set_cons_succ]
  refine anyT_take (i := 6) (v := ?vr6x20) rfl (by kernel_rfl) (by kernel_rfl) (by kernel_rfl) (by kernel_rfl) (by decide) (fun _ _ _ h => h) (Or.inl ⟨by rfl, ?yr6x20⟩) hS3 ?_
  case yr6x20 => (intro wz hSw; (try dsimp only at hSw); go_simp; (try with_reducible rfl))
  try simp only [Act.put, List.setIfInBounds_toArray, List.set_cons_zero, List.set_cons_succ]
  refine anyT_take (i := 7) (v := ?vr7x21) rfl (by kernel_rfl) (by kernel_rfl) (by kernel_rfl) (by kernel_rfl) (by decide) (fun _ _ _ h => h) (Or.inl ⟨by rfl, ?yr7x21⟩) hS3 ?_
  case yr7x21 => (intro wz hSw; (try dsimp only at hSw); go_simp; (try with_reducible rfl))
  try simp only [Act.put, List.setIfInBounds_toArray, List.set_cons_zero, List.set_cons_succ]
  refine anyT_take (i := 8) (v := ?vr8x22) rfl (by kernel_rfl) (by kernel_rfl) (by kernel_rfl) (by kernel_rfl) (by decide) (fun _ _ _ h => h) (Or.inl ⟨by rfl, ?yr8x22⟩) hS3 ?_
  case yr8x22 => (intro wz hSw; (try dsimp only at hSw); go_simp; (try with_reducible rfl))
  try simp only [Act.put, List.setIfInBounds_toArray, List.set_cons_zero, List.set_cons_succ]
  refine anyT_take (i := 9) (v := ?vr9x23) rfl (by kernel_rfl) (by kernel_rfl) (by kernel_rfl) (by kernel_rfl) (by decide) (fun _ _ _ h => h) (Or.inl ⟨by rfl, ?yr9x23⟩) hS3 ?_
  case yr9x23 => (intro wz hSw; (try dsimp only at hSw); go_simp; (try with_reducible rfl))
  try simp only [Act.put, List.setIfInBounds_toArray, List.set_cons_zero, List.set_cons_succ]
  refine anyT_take (i := 10) (v := ?vr10x24) rfl (by kernel_rfl) (by kernel_rfl) (by kernel_rfl) (by kernel_rfl) (by decide) (fun _ _ _ h => h) (Or.inl ⟨by rfl, ?yr10x24⟩) hS3 ?_
  case yr10x24 => (intro wz hSw; (try dsimp only at hSw); go_simp; (try with_reducible rfl))
  try simp only [Act.put, List.setIfInBounds_toArray, List.set_cons_zero, List.set_cons_succ]
  refine anyT_take (i := 11) (v := ?vr11x25) rfl (by kernel_rfl) (by kernel_rfl) (by kernel_rfl) (by kernel_rfl) (by decide) (fun _ _ _ h => h) (Or.inl ⟨by rfl, ?yr11x25⟩) hS3 ?_
  case yr11x25 => (intro wz hSw; (try dsimp only at hSw); go_simp; (try with_reducible rfl))
  try simp only [Act.put, List.setIfInBounds_toArray, List.set_cons_zero, List.set_cons_succ]
  refine anyT_one (i := 12) (by kernel_rfl) rfl (fun K hK => ?_)
  go_simp
  obtain ⟨W4, hW4⟩ : ∃ W4 : World, W4 = (wc.alloc (Obj.cells #[.string t.lo, .slice (some ⟨g3, 0, none⟩) N3 cp3] 56)).drew := ⟨_, rfl⟩
  have hb4 : Below wc.heap.size wc W4 := by rw [hW4]; exact ((Below.refl _ _).alloc (Nat.le_refl _) _).drew
  have hz4 : W4.heap.size = wc.heap.size + 1 := by rw [hW4]; simp
  have hB4 : Below Wa.heap.size Wa W4 := HA3.out.2.trans (hb4.mono HA3.out.2.size)
  have HX4 : Hid (OwnTs W4 Wa.heap.size [⟨t.lo, .slice (some ⟨g3, 0, none⟩) N3 cp3, rs⟩] ∧ W4.cell? ⟨wc.heap.size, 0, none⟩ = some (.string t.lo) ∧ W4.cell? ⟨wc.heap.size, 1, none⟩ = some (.slice (some ⟨g3, 0, none⟩) N3 cp3)) :=
    ⟨(HA3.out.1.ts t.lo).below hb4, by rw [hW4]; simp [go_sem], by rw [hW4]; simp [go_sem]⟩
  rw [← hW4]
  obtain ⟨p0, p1, _⟩ := HK.out W4 hB4
  refine hK.out _ _ (.inr ⟨p0, p1⟩) ?_
  clear hK hW4
  try simp only [Act.put, List.setIfInBounds_toArray, List.set_cons_zero, List.set_cons_succ]
  refine anyT_one (i := 13) (by kernel_rfl) rfl (fun K hK => ?_)
  go_simp
  go_at_call 42
  refine (HRep.out W4 wc.heap.size hB4 (by omega) HX4.out.1 HX4.out.2.1 HX4.out.2.2).mono ?_
  rintro e w5 ⟨va, vn, vc, rfl, q1, q2, y0, y1, hc⟩
  refine hK.out _ _ (.inr ⟨y0, y1⟩) ?_
  clear hK
  try simp only [Act.put, List.setIfInBounds_toArray, List.set_cons_zero, List.set_cons_succ]
  refine anyT_one (i := 14) (by kernel_rfl) rfl (fun K hK => ?_)
  go_simp
  refine hK.out _ _ (.inl rfl) ?_
  clear hK
  try simp only [Act.put, List.setIfInBounds_toArray, List.set_cons_zero, List.set_cons_succ]
  refine anyT_done (by kernel_rfl) ?_
  go_wp2_with fail
  exact bodyPost_ret (v := .agg #[.slice va vn vc]) (by simp [results, Tryz.results16, go_sem, q1]) rfl hc.out
end Go.Proofs.YtlgeffinhbodeafGreat

/-
  impl's overfull: whether a tablet shows more than ten thousand cells in a range.
-/
namespace Go.Proofs.YtlgeffinhbodeafGreat
open Go.ChangeShapes Go.WideShapes Go.ChangeAt Go.RowKit Go.Deep
set_option linter.unusedVariables false
set_option linter.unusedSimpArgs false
set_option maxRecDepth 100000

/-- How many entries of runs lie in a range. -/
def cntP (lo : ByteArray) (hh : Bool) (hi : ByteArray) (ess : List (List Ent)) : Nat := ((ess.map (inP lo hh hi)).flatten).length
theorem mrg_parts {rs : List (List Ent)} {lo hi : ByteArray} {hh : Bool} {L : List Ent} (h : MrgOf rs (inR lo hh hi) L) : L.length ≤ cntP lo hh hi rs := by
  by_cases g : GoodRs rs
  · refine nodup_sub_len (nodup_ord (h.1 g).1) (fun x hx => ?_)
    obtain ⟨i, j, ⟨es, h1, h2⟩, _, hr, _⟩ := ((h.1 g).2 x).1 hx
    exact List.mem_flatten.2 ⟨inP lo hh hi es, List.mem_map.2 ⟨es, List.mem_of_getElem? h1, rfl⟩, List.mem_filter.2 ⟨List.mem_of_getElem? h2, hr⟩⟩
  · rw [h.2 g]; exact Nat.zero_le _
theorem cntP_step {lo hi : ByteArray} {hh : Bool} {l : List Rm} {k : Nat} {r : Rm} (h : l[k]? = some r) : cntP lo hh hi (esM (l.take (k + 1))) = cntP lo hh hi (esM (l.take k)) + (inP lo hh hi r.es).length := by
  unfold cntP esM
  rw [List.take_add_one, h]
  simp only [Option.toList_some, List.map_append, List.map_cons, List.map_nil, List.flatten_append, List.length_append, List.flatten_cons, List.flatten_nil, List.append_nil]
theorem cntP_le (lo hi : ByteArray) (hh : Bool) : ∀ (l : List Rm), (∀ r ∈ l, GoodR r.es) → cntP lo hh hi (esM l) ≤ l.length * 10000
  | [], _ => Nat.zero_le _
  | r :: l, h => by
    have h1 := cntP_le lo hi hh l (fun x hx => h x (List.mem_cons_of_mem _ hx))
    have h2 := (h r (by simp)).1.1
    have h3 : (inP lo hh hi r.es).length ≤ r.es.length := List.length_filter_le _ _
    unfold cntP esM at h1 ⊢
    simp only [List.map_cons, List.flatten_cons, List.length_append, List.length_cons, Nat.succ_mul]
    omega
def OvPost (w : World) (ess : List (List Ent)) (inr : ByteArray → Bool) (e : Ending) (w' : World) : Prop := ∃ r : Bool, e = .returned (.bool r) ∧ (∀ L, MrgOf ess inr L → (r = true ↔ 10000 < L.length)) ∧ (r = true → ∃ L, MrgOf ess inr L ∧ 10000 < L.length) ∧ Below w.heap.size w w'

set_option maxHeartbeats 4000000 in
theorem overfull_core (lo0 : ByteArray) (b off cap : Nat) (l : List Rm) (lo hi : ByteArray) (hh : Bool) (w : World) (h : RmsAt w b off l) (hok : okM l) (hB : b < w.heap.size) (hn : l.length ≤ 1048576) (hg : ∀ r ∈ l, GoodR r.es) :
    Calls Tryz.prog 44 #[.agg #[.string lo0, .slice (some ⟨b, off, none⟩) l.length cap], .agg #[.string lo, .bool hh, .string hi]] w fun e w' => OvPost w (esM l) (inR lo hh hi) e w' := by
  obtain ⟨Wa, hWa⟩ : ∃ Wa : World, Wa = (w.alloc (Obj.cells #[.string lo0, .slice (some ⟨b, off, none⟩) l.length cap] 56)).alloc (Obj.cells #[.string lo, .bool hh, .string hi] 52) := ⟨_, rfl⟩
  have hba : Below w.heap.size w Wa := by rw [hWa]; exact ((Below.refl _ _).alloc (Nat.le_refl _) _).alloc (by simp) _
  have hza : Wa.heap.size = w.heap.size + 1 + 1 := by rw [hWa]; simp
  have HC : Hid (∀ wx, Below Wa.heap.size Wa wx → wx.cell? ⟨w.heap.size, 1, none⟩ = some (.slice (some ⟨b, off, none⟩) l.length cap) ∧ wx.cell? ⟨w.heap.size + 1, 0, none⟩ = some (.string lo) ∧ wx.cell? ⟨w.heap.size + 1, 1, none⟩ = some (.bool hh) ∧ wx.cell? ⟨w.heap.size + 1, 2, none⟩ = some (.string hi) ∧ RmsAt wx b off l ∧ b < wx.heap.size) := by
    intro wx hx
    have sx := hx.size
    refine ⟨?_, ?_, ?_, ?_, h.below (hba.trans (hx.mono (by omega))) hB, by omega⟩
    · rw [hx.cell (p := ⟨w.heap.size, 1, none⟩) (by show w.heap.size < Wa.heap.size; omega), hWa]; simp [go_sem]
    · rw [hx.cell (p := ⟨w.heap.size + 1, 0, none⟩) (by show w.heap.size + 1 < Wa.heap.size; omega), hWa]; simp [go_sem]
    · rw [hx.cell (p := ⟨w.heap.size + 1, 1, none⟩) (by show w.heap.size + 1 < Wa.heap.size; omega), hWa]; simp [go_sem]
    · rw [hx.cell (p := ⟨w.heap.size + 1, 2, none⟩) (by show w.heap.size + 1 < Wa.heap.size; omega), hWa]; simp [go_sem]
  have HG : Hid ((∀ r ∈ l, GoodR r.es) ∧ okM l) := ⟨hg, hok⟩
  clear h hg hok
  obtain ⟨c0, _⟩ := HC.out Wa (Below.refl _ _)
  go_enter Tryz.func44, Tryz.ntmps44
  go_upto_region 1 with fail
  rw [← hWa]
  clear hWa
  go_wp2_with fail
  go_loopw [5, 11] (fun o i wr => ∃ (k c : Nat), k ≤ l.length ∧ i = .int .i64 k ∧ o = .int .i64 c ∧ Hid (c = cntP lo hh hi (esM (l.take k))) ∧ Below Wa.heap.size Wa wr) (fun _ i _ => l.length - (intOf i).toNat)
  case atStart => exact ⟨0, 0, Nat.zero_le _, rfl, rfl, rfl, Below.refl _ _⟩
  case round =>
    obtain ⟨k, c, hk, rfl, rfl, HCn, hb⟩ := hrel
    have hcl : c ≤ 1048576 * 10000 := by
      have h1 := cntP_le lo hi hh (l.take k) (fun r hr => HG.out.1 r (List.mem_of_mem_take hr))
      have h2 : (l.take k).length ≤ 1048576 := by rw [List.length_take]; omega
      have h3 := Nat.mul_le_mul_right 10000 h2
      have := HCn.out
      omega
    have hsz := hb.size
    by_cases hlt : k < l.length
    · obtain ⟨r, hr⟩ : ∃ r, l[k]? = some r := ⟨_, List.getElem?_eq_getElem hlt⟩
      have HD : Hid (l[k]? = some r ∧ GoodR r.es) := ⟨hr, HG.out.1 r (List.mem_of_getElem? hr)⟩
      obtain ⟨_, _, _, _, hat, _⟩ := HC.out wr hb
      obtain ⟨c0, _⟩ := hat k r hr
      clear hr hat
      have zk : (k : Int) < (l.length : Int) := by omega
      obtain ⟨W1, hW1⟩ : ∃ W1 : World, W1 = wr.alloc (Obj.cells #[.slice (some ⟨r.b, r.off, none⟩) r.es.length r.cap] 58) := ⟨_, rfl⟩
      have hb1 : Below wr.heap.size wr W1 := by rw [hW1]; exact (Below.refl _ _).alloc (Nat.le_refl _) _
      have k1 : Below Wa.heap.size Wa W1 := hb.trans (hb1.mono hsz)
      have cr : W1.cell? ⟨wr.heap.size, 0, none⟩ = some (.slice (some ⟨r.b, r.off, none⟩) r.es.length r.cap) := by rw [hW1]; simp
      obtain ⟨_, e0, e1, e2, hat1, _⟩ := HC.out W1 k1
      have HA1 : Hid (r.at W1) := (hat1 k r HD.out.1).2
      clear hat1
      go_upto_region 5 with fail
      rw [← hW1]
      clear hW1
      go_wp2_with fail
      refine (entriesIn_core r lo hi hh _ HA1.out HD.out.2).mono ?_
      rintro e v1 ⟨p, rfl, hpa, hpp, hbv⟩
      have kv1 : Below Wa.heap.size Wa v1 := k1.trans (hbv.mono k1.size)
      have hpl : p.es.length ≤ 10000 := by have h1 := hpp.len; have h2 := HD.out.2.1.1; omega
      have HN : Hid (c + p.es.length = cntP lo hh hi (esM (l.take (k + 1)))) := by
        show _ = _
        rw [cntP_step HD.out.1, ← HCn.out, partOf_filter hpp HD.out.2]
      clear hpa hpp cr e0 e1 e2 c0
      go_wp2_with fail
      go_roundw
      case rel =>
        go_light
        exact ⟨k + 1, c + p.es.length, by omega, by go_num, by go_num, HN, kv1⟩
      case measure => go_light; simp [intOf]; omega
    · have zk : ¬ (k : Int) < (l.length : Int) := by omega
      have HE : Hid (c = cntP lo hh hi (esM l)) := by
        have h1 := HCn.out
        rw [List.take_of_length_le (by omega)] at h1
        exact h1
      clear HCn
      obtain ⟨d0, d1, d2, d3, hat, hbb⟩ := HC.out wr hb
      have HA : Hid (RmsAt wr b off l) := hat
      clear hat
      by_cases hc : 10000 < c
      · have zc : (10000 : Int) < (c : Int) := by omega
        go_wp2_with fail
        refine (implMerge_core b off cap l lo hi hh _ HA.out HG.out.2 hbb hn).mono ?_
        rintro e v2 ⟨g, cp, L, rfl, hOC, hb2, hM⟩
        have HM : Hid (MrgOf (esM l) (inR lo hh hi) L) := hM
        have HB : Hid (Below w.heap.size w v2) := hba.trans ((hb.trans (hb2.mono hsz)).mono (by omega))
        clear hOC hM hb2
        go_wp2_with fail
        go_ret
        refine ⟨decide ((10000 : Int) < (L.length : Int)), rfl, fun M hM => ?_, fun q => ⟨L, HM.out, ?_⟩, HB.out⟩
        · rw [mrgOf_uniq hM HM.out, decide_eq_true_iff]
          omega
        · have := of_decide_eq_true q
          omega
      · have zc : ¬ (10000 : Int) < (c : Int) := by omega
        go_wp2_with fail
        go_ret
        refine ⟨false, rfl, fun M hM => ?_, fun q => Bool.noConfusion q, hba.trans (hb.mono (by omega))⟩
        have := mrg_parts hM
        have := HE.out
        simp; omega
end Go.Proofs.YtlgeffinhbodeafGreat

/-
  impl.CompactRuns.
-/
namespace Go.Proofs.YtlgeffinhbodeafGreat
open Go.ChangeShapes Go.WideShapes Go.ChangeAt Go.RowKit Go.Deep
set_option linter.unusedVariables false
set_option linter.unusedSimpArgs false
set_option maxRecDepth 100000

set_option maxHeartbeats 4000000 in
theorem implCompact_core (b off cap : Nat) (l : List Rm) (w : World) (h : RmsAt w b off l) (ho : okM l) (hB : b < w.heap.size) (hn : l.length ≤ 1048576) :
    Calls Tryz.prog 45 #[.slice (some ⟨b, off, none⟩) l.length cap] w fun r w' =>
      ∃ (a : Option Addr) (n c : Nat) (R : List Ent), r = .returned (.agg #[.slice a n c]) ∧ OwnU w' w.heap.size (.slice a n c) R ∧ CmpOf (esM l) R ∧ Below w.heap.size w w' ∧ (a = none → ∃ L, MrgOf (esM l) (inR ⟨#[]⟩ false ⟨#[]⟩) L ∧ 10000 < L.length) := by
  obtain ⟨i, hi0, hz0, hz1, hz2⟩ := info_parts Tryz.infoEnt
  have HI : Hid (Tryz.prog.info? 61 = some i ∧ i.zero = some (.agg #[.string ⟨#[]⟩, .string ⟨#[]⟩, .string ⟨#[]⟩, .int .u64 0, .int .i64 0, .string ⟨#[]⟩]) ∧ i.size = 6 ∧ i.bytes = 80) := ⟨hi0, hz0, hz1, hz2⟩
  clear hi0 hz0 hz1 hz2
  obtain ⟨Wa, hWa⟩ : ∃ Wa : World, Wa = w.alloc (Obj.cells #[.slice none 0 0] 58) := ⟨_, rfl⟩
  have hba : Below w.heap.size w Wa := by rw [hWa]; exact (Below.refl _ _).alloc (Nat.le_refl _) _
  have hza : Wa.heap.size = w.heap.size + 1 := by rw [hWa]; simp
  have HRes : Hid (Wa.cell? ⟨w.heap.size, 0, none⟩ = some (.slice none 0 0) ∧ Wa.frozen? ⟨w.heap.size, 0, none⟩ = false) := by
    rw [hWa]
    exact ⟨by simp, World.ownsRow.frozenAt (World.ownsRow_lit (base := 0) (e := 58) (size := 1) w #[.slice none 0 0] 1 (Nat.zero_le _) (by decide) rfl) 0⟩
  have HO : Hid (RmsAt Wa b off l ∧ okM l) := ⟨h.below hba hB, ho⟩
  have hBa : b < Wa.heap.size := by omega
  clear h ho
  go_enter Tryz.func45, Tryz.ntmps45
  go_wp2_with fail
  rw [← hWa]
  clear hWa
  refine (implMerge_core b off cap l ⟨#[]⟩ ⟨#[]⟩ false _ HO.out.1 HO.out.2 hBa hn).mono ?_
  rintro e w1 ⟨gc, cc, L, rfl, hC1, hb1, hM⟩
  have s1 := hb1.size
  have k1 : Below w.heap.size w w1 := hba.trans (hb1.mono (by omega))
  have HC1 : Hid (OwnC w1 Wa.heap.size gc cc L ∧ MrgOf (esM l) (inR ⟨#[]⟩ false ⟨#[]⟩) L) := ⟨hC1, hM⟩
  have hgc := hC1.lt.2
  clear hC1 hM
  have r1 : w1.cell? ⟨w.heap.size, 0, none⟩ = some (.slice none 0 0) := by rw [hb1.cell (p := ⟨w.heap.size, 0, none⟩) (by show w.heap.size < Wa.heap.size; omega)]; exact HRes.out.1
  have f1 : w1.frozen? ⟨w.heap.size, 0, none⟩ = false := by rw [hb1.frozen (p := ⟨w.heap.size, 0, none⟩) (by show w.heap.size < Wa.heap.size; omega)]; exact HRes.out.2
  by_cases hbig : 10000 < L.length
  · have zb : (10000 : Int) < (L.length : Int) := by omega
    go_wp2_with fail
    refine bodyPost_ret (v := .agg #[.slice none 0 0]) (by simp [results, Tryz.results45, go_sem, World.cell?_setCell_same _ _ _ r1]) rfl ⟨none, 0, 0, [], rfl, .inl ⟨rfl, rfl⟩, ⟨L, HC1.out.2, .inl ⟨hbig, rfl⟩⟩, ?_, fun _ => ⟨L, HC1.out.2, hbig⟩⟩
    exact k1.setCell (Nat.le_refl _) _
  · have zb : ¬ (10000 : Int) < (L.length : Int) := by omega
    have HRs : Hid (w1.cell? ⟨w.heap.size, 0, none⟩ = some (.slice none 0 0) ∧ w1.frozen? ⟨w.heap.size, 0, none⟩ = false) := ⟨r1, f1⟩
    clear r1 f1
    go_wp2_with (at_make; refine wpList_make_own _ rfl _ _ 33 rfl w1.heap.size 61 i _ 6 Tryz.underlying33 HI.out.1 HI.out.2.1 HI.out.2.2.1 _ _ _ L.length rfl rfl ?_ ?hb ?hm ?hs ?_)
    case hb => rw [HI.out.2.2.2]; omega
    case hm => unfold maxLen; omega
    case hs => exact Nat.le_refl _
    · rfl
    intro w2 hown hgr
    have hb2 : Below w1.heap.size w1 w2 := (Below.refl _ _).grown hgr (Nat.le_refl _) (fun k hk => by cases hk)
    have HE2 : Hid (OwnE w2 w1.heap.size w1.heap.size L.length []) := hown
    clear hown hgr
    go_wp2_with fail
    go_loopw [4, 19] (fun o c wr => ∃ (m g5 cp5 : Nat), m ≤ L.length ∧ c = .int .i64 m ∧ o = .slice (some ⟨g5, 0, none⟩) m cp5 ∧ OwnE wr w1.heap.size g5 cp5 (putsTo L m) ∧ Below w1.heap.size w1 wr) (fun _ c _ => L.length - (intOf c).toNat)
    case atStart => exact ⟨0, _, _, Nat.zero_le _, rfl, rfl, HE2.out, hb2⟩
    case round =>
      obtain ⟨m, g5, cp5, hm, rfl, rfl, hE, hb⟩ := hrel
      have HE : Hid (OwnE wr w1.heap.size g5 cp5 (putsTo L m)) := hE
      have hg5 := hE.lt
      have hs := hb.size
      clear hE
      by_cases hlt : m < L.length
      · obtain ⟨x, hx⟩ : ∃ x, L[m]? = some x := ⟨_, List.getElem?_eq_getElem hlt⟩
        obtain ⟨c0, c1, c2, c3, c4⟩ := (HC1.out.1.below hb hgc).at m x hx
        simp only [Nat.zero_add, Nat.zero_mul] at c0 c1 c2 c3 c4
        have HX : Hid (putsTo L (m + 1) = putsTo L m ++ [putE x]) := putsTo_succ hx
        have HTM : Hid (m = (putsTo L m).length) := (putsTo_len hm).symm
        clear hx
        have zm : (m : Int) < (L.length : Int) := by omega
        obtain ⟨W3, hW3⟩ : ∃ W3 : World, W3 = wr.alloc (Obj.cells #[.string x.row, .string x.fam, .string x.qual, .int .u64 x.ts, .string x.val] 112) := ⟨_, rfl⟩
        have hb3 : Below wr.heap.size wr W3 := by rw [hW3]; exact (Below.refl _ _).alloc (Nat.le_refl _) _
        have hs3 := hb3.size
        go_wp2_with fail
        rw [← hW3]
        clear hW3 c0 c1 c2 c3 c4
        refine (implPut_any x _).mono ?_
        rintro e' w4 ⟨rfl, hb4⟩
        have hs4 := hb4.size
        have k4 : Below wr.heap.size wr w4 := hb3.trans (hb4.mono hs3)
        have HE4 : Hid (OwnE w4 w1.heap.size g5 cp5 (putsTo L m)) := HE.out.below k4 hg5.2
        have kb4 : Below w1.heap.size w1 w4 := hb.trans (k4.mono hs)
        clear hb3 hb4
        go_wp2_with (at_builtin; refine wpList_append_ent _ rfl _ _ rfl w1.heap.size g5 cp5 _ _ (putsTo L m) (putE x) rfl rfl HTM.out ?hO ?hc ?hl ?hb ?_)
        case hO => exact HE4.out.below ((Below.refl _ _).alloc (Nat.le_refl _) _) (by omega)
        case hc => exact ent_box w4 (putE x)
        case hl => rw [← HTM.out]; omega
        case hb => simp; omega
        intro g' cp' w' hO' hgr
        have HO' : Hid (OwnE w' w1.heap.size g' cp' (putsTo L (m + 1))) := by show OwnE w' w1.heap.size g' cp' (putsTo L (m + 1)); rw [HX.out]; exact hO'
        have hb' : Below w1.heap.size w1 w' := (kb4.alloc kb4.size _).grown hgr (by simp; omega) (fun j hj => by cases hj; omega)
        clear hO' hgr
        go_wp2_with fail
        go_roundw
        case rel => exact ⟨m + 1, g', cp', by omega, by go_num, rfl, HO'.out, hb'⟩
        case measure => go_light; simp [intOf]; omega
      · have HF : Hid (OwnE wr w1.heap.size g5 cp5 (L.map putE)) := by have := HE.out; rw [putsTo_all (by omega)] at this; exact this
        have HM : Hid (m = L.length) := by show m = L.length; omega
        have zm : ¬ (m : Int) < (L.length : Int) := by omega
        have r2 : wr.cell? ⟨w.heap.size, 0, none⟩ = some (.slice none 0 0) := by rw [hb.cell (p := ⟨w.heap.size, 0, none⟩) (by show w.heap.size < w1.heap.size; omega)]; exact HRs.out.1
        have f2 : wr.frozen? ⟨w.heap.size, 0, none⟩ = false := by rw [hb.frozen (p := ⟨w.heap.size, 0, none⟩) (by show w.heap.size < w1.heap.size; omega)]; exact HRs.out.2
        go_wp2_with fail
        refine bodyPost_ret (v := .agg #[.slice (some ⟨g5, 0, none⟩) m cp5]) (by simp [results, Tryz.results45, go_sem, World.cell?_setCell_same _ _ _ r2]) rfl ⟨some ⟨g5, 0, none⟩, m, cp5, rfl, L.map putE, .inr ⟨g5, cp5, by rw [HM.out]; simp, ?_⟩, ⟨L, HC1.out.2, .inr ⟨by omega, rfl⟩⟩, ?_, (fun q => by cases q)⟩
        · exact OwnE.mono (World.ownsRow.kept HF.out (grown_set wr w.heap.size 0 _) (.inr (fun q => by have h2 : g5 = w.heap.size := Option.some.inj q; omega))) (by omega)
        · exact (k1.trans (hb.mono (by omega))).setCell (Nat.le_refl _) _
theorem implCompact_own (base g : Nat) (l : List (Nat × List Ent)) (w : World) (h : OwnRuns w base g l) (ho : okL l) (hn : l.length ≤ 1048576) :
    Calls Tryz.prog 45 #[.slice (some ⟨g, 0, none⟩) l.length l.length] w fun r w' =>
      ∃ (a : Option Addr) (n c : Nat) (R : List Ent), r = .returned (.agg #[.slice a n c]) ∧ OwnU w' w.heap.size (.slice a n c) R ∧ CmpOf (l.map Prod.snd) R ∧ Below w.heap.size w w' := by
  have := implCompact_core g 0 l.length (rmsOf l) w h.at (okM_of ho) h.lt.2 (by rw [rmsOf_len]; exact hn)
  rw [rmsOf_len, esM_rms] at this
  refine this.mono ?_
  rintro e w' ⟨a, n, c, R, h1, h2, h3, h4, _⟩
  exact ⟨a, n, c, R, h1, h2, h3, h4⟩
end Go.Proofs.YtlgeffinhbodeafGreat

