import Derived.Test.YtjphalbjimggcaeQDraw10
import Derived.Test.YtjphalbjimggcaePkAF
/-
  The drawing's bytes, as they came in; runs of a drawing as runs in memory.
-/
namespace Go.Proofs.Ytjphalbjimggcae
open Go.ChangeShapes Go.WideShapes Go.ChangeAt Go.RowKit Go.Deep
set_option linter.unusedVariables false
set_option linter.unusedSimpArgs false
set_option maxRecDepth 100000

def BytesIn (w : World) (v : Value) (n : Nat) : Prop :=
  n ≤ maxLen ∧ ((∃ a cap, v = .slice a 0 cap ∧ n = 0) ∨ ∃ b off cap, v = .slice (some ⟨b, off, none⟩) n cap ∧ b < w.heap.size ∧ ∀ k, k < n → ∃ x : Int, w.cell? ⟨b, off + k, none⟩ = some (.int .u8 x) ∧ 0 ≤ x ∧ x < 256)
theorem BytesIn.slice {w : World} {v : Value} {n : Nat} (h : BytesIn w v n) : ∃ a cap, v = .slice a n cap := by
  rcases h.2 with ⟨a, cap, rfl, rfl⟩ | ⟨b, off, cap, rfl, _⟩
  · exact ⟨_, _, rfl⟩
  · exact ⟨_, _, rfl⟩
theorem BytesIn.code {w : World} {v : Value} {n : Nat} (h : BytesIn w v n) (hn : n ≤ 1048576) : CodeAt w w.heap.size v n := ⟨hn, h.2⟩
theorem bytes_of_trod {H : Type} {enc : TypeId × Value → H} {w : World} {fuel : Nat} {v : Value} {x : DataW H × List MemPlace}
    (h : DataW.trod enc Try.prog w 0 (fun _ => true) true fuel 22 [v] = some x) (hlt : ∀ p ∈ x.2, p.block < w.heap.size) : ∃ n, BytesIn w v n := by
  have hc : Try.prog.cellsOf 5 = 1 := by kernel_rfl
  rcases open_ints Try.underlying22 Try.underlying5 hc h with ⟨hcs, hx⟩ | ⟨a, len, cap, zs, hcs, _, hl, hm, hz, hx, hcell, hwz⟩
  · simp only [List.cons.injEq, and_true] at hcs
    exact ⟨0, Nat.zero_le _, .inl ⟨none, 0, hcs, rfl⟩⟩
  · simp only [List.cons.injEq, and_true] at hcs
    simp only [if_true] at hz
    refine ⟨len, Nat.le_trans hl hm, ?_⟩
    by_cases h0 : len = 0
    · subst h0; exact .inl ⟨some a, cap, hcs, rfl⟩
    · obtain ⟨ab, ao, spot⟩ := a
      have hspot : spot = none := by simpa [Addr.add] using World.cell?_spot (hcell 0 (by omega))
      subst hspot
      refine .inr ⟨ab, ao, cap, hcs, ?_, fun k hk => ?_⟩
      · rw [hx] at hlt
        exact hlt (.cell ab (ao + 0)) (by simp only [MemPlace.row, List.mem_map, List.mem_range]; exact ⟨0, by omega, rfl⟩)
      · have h1 := hcell k (by omega)
        rw [Addr.add_lit] at h1
        have hb := range_u8 hwz k
        rw [List.getD_eq_getElem?_getD] at h1
        exact ⟨_, h1, hb.1, by omega⟩
theorem DrawnM.at {w : World} {g cp : Nat} {l : List Rm} {w' : World} (h : DrawnM w g cp l w') : RmsAt w' g 0 l := by
  intro i r hr
  rw [Nat.zero_add]
  exact ⟨h.row.cell hr, (h.ats r (List.mem_of_getElem? hr)).at_⟩
theorem DrawnM.ok {w : World} {g cp : Nat} {l : List Rm} {w' : World} (h : DrawnM w g cp l w') : okM l := fun r hr e he => ((h.ats r hr).ok e he).ok
theorem DrawnM.short {w : World} {g cp : Nat} {l : List Rm} {w' : World} (h : DrawnM w g cp l w') : ∀ es ∈ esM l, es.length ≤ 101 := by
  intro es he
  obtain ⟨r, hr, rfl⟩ := List.mem_map.1 he
  exact (h.ats r hr).len
end Go.Proofs.Ytjphalbjimggcae

/-
  Writes cut into runs: the runs together show what the writes show (no memory).
-/
namespace Go.Proofs.Ytjphalbjimggcae
set_option linter.unusedVariables false
set_option linter.unusedSimpArgs false

/-- The largest delete of a column. -/
theorem largest_of : ∀ (q : List Ent) (v : Ent), v ∈ q → v.kind = 2 → ∃ d ∈ q, d.kind = 2 ∧ sameCol d v = true ∧ v.ts ≤ d.ts ∧ ∀ u ∈ q, u.kind = 2 → sameCol u v = true → u.ts ≤ d.ts
  | [], v, hv, _ => by simp at hv
  | a :: q, v, hv, hk => by
    have hvv : sameCol v v = true := by rw [sameCol_iff]; exact ⟨rfl, rfl, rfl⟩
    by_cases hq : ∃ u ∈ q, u.kind = 2 ∧ sameCol u v = true
    · obtain ⟨u, hu, hu2, huv⟩ := hq
      obtain ⟨d, hd, hd2, hdu, hul, hmax⟩ := largest_of q u hu hu2
      have hdv : sameCol d v = true := by rw [sameCol_iff] at *; exact ⟨hdu.1.trans huv.1, hdu.2.1.trans huv.2.1, hdu.2.2.trans huv.2.2⟩
      have hmax' : ∀ x ∈ q, x.kind = 2 → sameCol x v = true → x.ts ≤ d.ts := fun x hx h2 h3 => hmax x hx h2 (by rw [sameCol_iff] at *; exact ⟨h3.1.trans huv.1.symm, h3.2.1.trans huv.2.1.symm, h3.2.2.trans huv.2.2.symm⟩)
      by_cases ha : a.kind = 2 ∧ sameCol a v = true ∧ d.ts < a.ts
      · refine ⟨a, by simp, ha.1, ha.2.1, ?_, fun x hx h2 h3 => ?_⟩
        · rcases List.mem_cons.1 hv with rfl | hv
          · exact Int.le_refl _
          · have := hmax' v hv hk hvv; omega
        · rcases List.mem_cons.1 hx with rfl | hx
          · exact Int.le_refl _
          · have := hmax' x hx h2 h3; omega
      · have hal : a.kind = 2 → sameCol a v = true → a.ts ≤ d.ts := fun h1 h2 => by
          by_cases h3 : d.ts < a.ts
          · exact absurd ⟨h1, h2, h3⟩ ha
          · omega
        refine ⟨d, List.mem_cons_of_mem _ hd, hd2, hdv, ?_, fun x hx h2 h3 => ?_⟩
        · rcases List.mem_cons.1 hv with rfl | hv
          · exact hal hk hvv
          · exact hmax' v hv hk hvv
        · rcases List.mem_cons.1 hx with rfl | hx
          · exact hal h2 h3
          · exact hmax' x hx h2 h3
    · have hva : v = a := by
        rcases List.mem_cons.1 hv with h | h
        · exact h
        · exact absurd ⟨v, h, hk, hvv⟩ hq
      subst hva
      refine ⟨v, by simp, hk, hvv, Int.le_refl _, fun x hx h2 h3 => ?_⟩
      rcases List.mem_cons.1 hx with rfl | hx
      · exact Int.le_refl _
      · exact absurd ⟨x, hx, h2, h3⟩ hq
theorem kills_iff {v e : Ent} : kills v e = true ↔ sameCol v e = true ∧ ((v.kind = 2 ∧ e.ts ≤ v.ts) ∨ (¬ v.kind = 2 ∧ v.ts = e.ts)) := by
  unfold kills
  by_cases h : v.kind = 2 <;> simp [h]
theorem sameCol_trans {a b c : Ent} (h : sameCol a b = true) (k : sameCol b c = true) : sameCol a c = true := by
  rw [sameCol_iff] at *; exact ⟨h.1.trans k.1, h.2.1.trans k.2.1, h.2.2.trans k.2.2⟩
/-- A column's delete among the writes: the kept one does at least as much. -/
theorem kept_del {p R : List Ent} (hk : Kept p p.length R) {v x : Ent} (hv : v ∈ p) (h2 : v.kind = 2) (hx : kills v x = true) : ∃ d ∈ R, kills d x = true := by
  obtain ⟨d, hd, hd2, hdv, hvd, hmax⟩ := largest_of p v hv h2
  obtain ⟨i, hi⟩ := List.getElem?_of_mem hd
  have hlt := (List.getElem?_eq_some_iff.1 hi).1
  refine ⟨d, (hk.2 d).2 ⟨i, hlt, hi, .inr ⟨hd2, fun u hu hu2 hud => hmax u hu hu2 (sameCol_trans hud hdv)⟩⟩, ?_⟩
  rw [kills_iff] at hx ⊢
  rcases hx.2 with ⟨_, h⟩ | ⟨h, _⟩
  · exact ⟨sameCol_trans hdv hx.1, .inl ⟨hd2, by omega⟩⟩
  · exact absurd h2 h
theorem kept_kills {p R : List Ent} (hk : Kept p p.length R) : ∀ (n i : Nat) (v x : Ent), p.length - i ≤ n → p[i]? = some v → kills v x = true → ∃ d ∈ R, kills d x = true
  | 0, i, v, x, hn, hv, _ => by have := (List.getElem?_eq_some_iff.1 hv).1; omega
  | n + 1, i, v, x, hn, hv, hx => by
    have hlt := (List.getElem?_eq_some_iff.1 hv).1
    by_cases h2 : v.kind = 2
    · exact kept_del hk (List.mem_of_getElem? hv) h2 hx
    · by_cases hs : Stands p i
      · exact ⟨v, (hk.2 v).2 ⟨i, hlt, hv, .inl ⟨h2, hs⟩⟩, hx⟩
      · obtain ⟨j, u, hij, hu, huv⟩ : ∃ j u, i < j ∧ p[j]? = some u ∧ kills u v = true := by
          refine Classical.byContradiction fun hno => hs fun j u e h1 h3 h4 => ?_
          rw [hv] at h4
          simp at h4
          subst h4
          cases hkk : kills u v with
          | false => rfl
          | true => exact absurd ⟨j, u, h1, h3, hkk⟩ hno
        have hux : kills u x = true := by
          rw [kills_iff] at hx huv ⊢
          rcases hx.2 with ⟨h, _⟩ | ⟨_, h⟩
          · exact absurd h h2
          · refine ⟨sameCol_trans huv.1 hx.1, ?_⟩
            rcases huv.2 with ⟨h3, h4⟩ | ⟨h3, h4⟩
            · exact .inl ⟨h3, by omega⟩
            · exact .inr ⟨h3, by omega⟩
        exact kept_kills hk n j u x (by omega) hu hux
theorem kept_sub {p R : List Ent} {k : Nat} (hk : Kept p k R) : ∀ x ∈ R, x ∈ p := fun x hx => by
  obtain ⟨i, _, hi, _⟩ := (hk.2 x).1 hx
  exact List.mem_of_getElem? hi
theorem kept_same {p R : List Ent} (hk : Kept p p.length R) (x : Ent) : (∃ d ∈ R, kills d x = true) ↔ ∃ v ∈ p, kills v x = true := by
  constructor
  · rintro ⟨d, hd, h⟩; exact ⟨d, kept_sub hk d hd, h⟩
  · rintro ⟨v, hv, h⟩
    obtain ⟨i, hi⟩ := List.getElem?_of_mem hv
    exact kept_kills hk p.length i v x (by omega) hi h
theorem kept_nonempty {p R : List Ent} (hk : Kept p p.length R) (hp : 0 < p.length) : 0 < R.length := by
  obtain ⟨v, hv⟩ : ∃ v, p[p.length - 1]? = some v := ⟨_, List.getElem?_eq_getElem (by omega)⟩
  by_cases h2 : v.kind = 2
  · obtain ⟨d, hd, _⟩ := kept_del (x := v) hk (List.mem_of_getElem? hv) h2 (by rw [kills_iff, sameCol_iff]; exact ⟨⟨rfl, rfl, rfl⟩, .inl ⟨h2, Int.le_refl _⟩⟩)
    exact List.length_pos_of_mem hd
  · have : v ∈ R := (hk.2 v).2 ⟨p.length - 1, by omega, hv, .inl ⟨h2, fun j u e h1 h3 _ => by have := (List.getElem?_eq_some_iff.1 h3).1; omega⟩⟩
    exact List.length_pos_of_mem this
/-- Runs, newest first, of writes cut into pieces. -/
inductive Cuts : List Ent → List (List Ent) → Prop where
  | nil : Cuts [] []
  | cut {ws : List Ent} {rs : List (List Ent)} {p R : List Ent} : Cuts ws rs → Kept p p.length R → Cuts (ws ++ p) (R :: rs)
theorem stands_left {ws p : List Ent} {i : Nat} {x : Ent} (hx : ws[i]? = some x) : Stands (ws ++ p) i ↔ Stands ws i ∧ ∀ v ∈ p, kills v x = false := by
  have hi := (List.getElem?_eq_some_iff.1 hx).1
  constructor
  · intro h
    refine ⟨fun j v e h1 h2 h3 => ?_, fun v hv => ?_⟩
    · have hj := (List.getElem?_eq_some_iff.1 h2).1
      exact h j v e h1 (by rw [List.getElem?_append_left hj]; exact h2) (by rw [List.getElem?_append_left hi]; exact h3)
    · obtain ⟨j, hj⟩ := List.getElem?_of_mem hv
      exact h (ws.length + j) v x (by omega) (by rw [List.getElem?_append_right (by omega), show ws.length + j - ws.length = j by omega]; exact hj) (by rw [List.getElem?_append_left hi]; exact hx)
  · rintro ⟨h1, h2⟩ j v e hij hv he
    rw [List.getElem?_append_left hi, hx] at he
    simp at he
    subst he
    by_cases hj : j < ws.length
    · rw [List.getElem?_append_left hj] at hv
      exact h1 j v x hij hv hx
    · rw [List.getElem?_append_right (by omega)] at hv
      exact h2 v (List.mem_of_getElem? hv)
theorem stands_right {ws p : List Ent} {i : Nat} : Stands (ws ++ p) (ws.length + i) ↔ Stands p i := by
  constructor
  · intro h j v e h1 h2 h3
    exact h (ws.length + j) v e (by omega) (by rw [List.getElem?_append_right (by omega), show ws.length + j - ws.length = j by omega]; exact h2) (by rw [List.getElem?_append_right (by omega), show ws.length + i - ws.length = i by omega]; exact h3)
  · intro h j v e h1 h2 h3
    rw [List.getElem?_append_right (by omega)] at h2 h3
    rw [show ws.length + i - ws.length = i by omega] at h3
    exact h (j - ws.length) v e (by omega) h2 h3
theorem cuts_show {ws : List Ent} {rs : List (List Ent)} (h : Cuts ws rs) : ∀ x : Ent, x.kind = 0 → ((∃ i es, rs[i]? = some es ∧ x ∈ es ∧ ¬ HidTo rs i x) ↔ ∃ i, ws[i]? = some x ∧ Stands ws i) := by
  induction h with
  | nil => intro x _; simp
  | @cut ws rs p R hc hk ih =>
    intro x hx
    have hx2 : ¬ x.kind = 2 := by omega
    have hhid : ∀ i, HidTo (R :: rs) (i + 1) x ↔ (∃ d ∈ R, kills d x = true) ∨ HidTo rs i x := by
      intro i
      constructor
      · rintro ⟨m, ds, d, h1, h2, h3, h4⟩
        cases m with
        | zero => simp at h2; subst h2; exact .inl ⟨d, h3, h4⟩
        | succ m => exact .inr ⟨m, ds, d, by omega, by simpa using h2, h3, h4⟩
      · rintro (⟨d, h3, h4⟩ | ⟨m, ds, d, h1, h2, h3, h4⟩)
        · exact ⟨0, R, d, by omega, rfl, h3, h4⟩
        · exact ⟨m + 1, ds, d, by omega, by simpa using h2, h3, h4⟩
    have hall : (¬ ∃ d ∈ R, kills d x = true) ↔ ∀ v ∈ p, kills v x = false := by
      rw [kept_same hk x]
      constructor
      · intro h v hv
        cases hq : kills v x with
        | false => rfl
        | true => exact absurd ⟨v, hv, hq⟩ h
      · rintro h ⟨v, hv, hq⟩
        rw [h v hv] at hq
        cases hq
    constructor
    · rintro ⟨i, es, h1, h2, h3⟩
      cases i with
      | zero =>
        simp at h1
        subst h1
        obtain ⟨j, hj, hp, hkeep⟩ := (hk.2 x).1 h2
        rcases hkeep with ⟨_, hs⟩ | ⟨h, _⟩
        · exact ⟨ws.length + j, by rw [List.getElem?_append_right (by omega), show ws.length + j - ws.length = j by omega]; exact hp, stands_right.2 hs⟩
        · exact absurd h hx2
      | succ i =>
        rw [hhid] at h3
        obtain ⟨j, hj, hs⟩ := (ih x hx).1 ⟨i, es, by simpa using h1, h2, fun q => h3 (.inr q)⟩
        exact ⟨j, by rw [List.getElem?_append_left (List.getElem?_eq_some_iff.1 hj).1]; exact hj, (stands_left hj).2 ⟨hs, hall.1 (fun q => h3 (.inl q))⟩⟩
    · rintro ⟨i, hi, hs⟩
      by_cases hlt : i < ws.length
      · rw [List.getElem?_append_left hlt] at hi
        obtain ⟨h1, h2⟩ := (stands_left hi).1 hs
        obtain ⟨m, es, h3, h4, h5⟩ := (ih x hx).2 ⟨i, hi, h1⟩
        refine ⟨m + 1, es, by simpa using h3, h4, ?_⟩
        rw [hhid]
        rintro (q | q)
        · exact (hall.2 h2) q
        · exact h5 q
      · obtain ⟨j, rfl⟩ : ∃ j, i = ws.length + j := ⟨i - ws.length, by omega⟩
        rw [List.getElem?_append_right (by omega), show ws.length + j - ws.length = j by omega] at hi
        exact ⟨0, R, rfl, (hk.2 x).2 ⟨j, (List.getElem?_eq_some_iff.1 hi).1, hi, .inl ⟨hx2, stands_right.1 hs⟩⟩, hidTo_zero _ _⟩
theorem rep_stands {ws L : List Ent} (h : Rep ws ws.length L) (x : Ent) : x ∈ L ↔ x.kind = 0 ∧ ∃ i, ws[i]? = some x ∧ Stands ws i := by
  refine (h.2 x).trans ⟨?_, ?_⟩
  · rintro ⟨i, hi, h1, h2, h3⟩
    exact ⟨h2, i, h1, fun j v e hij hv he => h3 j v e hij (List.getElem?_eq_some_iff.1 hv).1 hv he⟩
  · rintro ⟨h2, i, h1, h3⟩
    exact ⟨i, (List.getElem?_eq_some_iff.1 h1).1, h1, h2, fun j v e hij _ hv he => h3 j v e hij hv he⟩
/-- What the runs show is what the writes show. -/
theorem cuts_merge {ws L M : List Ent} {rs : List (List Ent)} {inr : ByteArray → Bool} (hc : Cuts ws rs) (hL : Rep ws ws.length L) (hM : Mrg rs inr M) : M = L.filter fun x => inr x.row := by
  refine ord_ext hM.1 (List.Pairwise.filter _ hL.1) (fun x => ?_)
  rw [List.mem_filter, rep_stands hL x, hM.2 x]
  constructor
  · rintro ⟨i, j, ⟨es, h1, h2⟩, h3, h4, h5⟩
    exact ⟨⟨h3, (cuts_show hc x h3).1 ⟨i, es, h1, List.mem_of_getElem? h2, h5⟩⟩, h4⟩
  · rintro ⟨⟨h3, h6⟩, h4⟩
    obtain ⟨i, es, h1, h2, h5⟩ := (cuts_show hc x h3).2 h6
    obtain ⟨j, hj⟩ := List.getElem?_of_mem h2
    exact ⟨i, j, ⟨es, h1, hj⟩, h3, h4, h5⟩
theorem kept_good {p R : List Ent} (hg : GoodW p) (hk : Kept p p.length R) (hl : R.length ≤ p.length) : GoodR R := by
  refine ⟨⟨Nat.le_trans hl hg.1, fun x hx => hg.2 x (kept_sub hk x hx)⟩, fun i a b ha hb => ?_⟩
  have hkey := ord_get hk.1 (Nat.lt_succ_self i) ha hb
  unfold okPair
  simp only [hkey, Bool.and_eq_true, Bool.not_eq_true', beq_iff_eq, true_and]
  cases hq : ((a.kind == 2) && ((b.kind == 2) && sameCol a b)) with
  | false => rfl
  | true =>
    exfalso
    simp only [Bool.and_eq_true, beq_iff_eq] at hq
    obtain ⟨ha2, hb2, hab⟩ := hq
    obtain ⟨_, _, _, ka⟩ := (hk.2 a).1 (List.mem_of_getElem? ha)
    obtain ⟨_, _, _, kb⟩ := (hk.2 b).1 (List.mem_of_getElem? hb)
    have la : Largest p a := by rcases ka with ⟨h, _⟩ | ⟨_, h⟩; exact absurd ha2 h; exact h
    have lb : Largest p b := by rcases kb with ⟨h, _⟩ | ⟨_, h⟩; exact absurd hb2 h; exact h
    have h1 := la b (kept_sub hk b (List.mem_of_getElem? hb)) hb2 (by rw [sameCol_comm]; exact hab)
    have h2 := lb a (kept_sub hk a (List.mem_of_getElem? ha)) ha2 hab
    rw [sameCol_iff] at hab
    have : keyCmp a b = 0 := keyCmp_zero.2 ⟨hab.1, hab.2.1, hab.2.2, by simp [ha2, hb2], by omega⟩
    omega
theorem cuts_len {ws : List Ent} {rs : List (List Ent)} (h : Cuts ws rs) (hg : GoodW ws) (hl : ∀ es ∈ rs, GoodR es) (hn : rs.length ≤ 50) : GoodRs rs := ⟨hn, hl⟩
end Go.Proofs.Ytjphalbjimggcae

/-
  The draws: a list of writes, one of them perhaps spoilt.
-/
namespace Go.Proofs.Ytjphalbjimggcae
open Go.ChangeShapes Go.WideShapes Go.ChangeAt Go.RowKit Go.Deep
set_option linter.unusedVariables false
set_option linter.unusedSimpArgs false
set_option maxRecDepth 100000

structure DrawnW (w : World) (g cp : Nat) (es : List Ent) (w' : World) : Prop where
  row : OwnE w' w.heap.size g cp es
  ok : ∀ e ∈ es, e.small
  len : es.length ≤ 100
  below : Below w.heap.size w w'
theorem LInv.drawn {cb : Nat} {bv : Value} {n : Nat} {w w1 : World} {g cp : Nat} {es : List Ent} {wr : World} (h : LInv cb cb bv n w1 g cp es wr) (hb : Below w.heap.size w w1) (hl : es.length ≤ 100) (hcb : w.heap.size ≤ cb) : DrawnW w g cp es wr := by
  have := hb.size
  have := h.lt
  exact ⟨OwnE.mono h.row (by omega), h.ok, hl, Chg.below hb h.c (by omega) (fun k q => by omega)⟩

set_option maxHeartbeats 4000000 in
theorem drawBuild_core (bv : Value) (n : Nat) (w : World) (h : CodeAt w w.heap.size bv n) :
    Calls Try.prog 46 #[bv] w fun x w' => ∃ (g cp : Nat) (es : List Ent), x = .returned (.slice (some ⟨g, 0, none⟩) es.length cp) ∧ DrawnW w g cp es w' := by
  obtain ⟨a, cap, rfl⟩ := h.slice
  have hn := h.1
  have HC : Hid (CodeAt w w.heap.size (.slice a n cap) n) := h
  clear h
  go_enter Try.func46, Try.ntmps46
  go_wp2_with fail
  refine (new_core _ n w HC.out).mono ?_
  rintro e w1 ⟨rfl, hd1, hb1⟩
  have hz1 := hb1.size
  have HD1 : Hid (DrawAt w.heap.size w.heap.size (.slice a n cap) n w1) := hd1
  have hcb1 := hd1.lt
  clear hd1
  go_wp2_with fail
  refine (size_core a n cap w1 hn).mono ?_
  rintro e w1' ⟨k, rfl, hk, hw⟩
  rw [hw]
  clear hw w1'
  go_wp2_with fail
  refine (writes_core w.heap.size w.heap.size (.slice a n cap) n k w1 HD1.out (Nat.le_trans hk (by decide))).mono ?_
  rintro e w2 ⟨g, cp, es, rfl, hl, hL2⟩
  have HL2 : Hid (LInv w.heap.size w.heap.size (.slice a n cap) n w1 g cp es w2) := hL2
  clear hL2
  go_upto_region 3 with fail
  go_cut [18] (fun s wx => ∃ b : Bool, s = .bool b ∧ (b = true → 0 < es.length) ∧ LInv w.heap.size w.heap.size (.slice a n cap) n w1 g cp es wx)
  case first =>
    go_wp2_with fail
    refine (once_core _ _ _ n 15 _ HL2.out.d (by omega) (by omega)).mono ?_
    rintro e w3 ⟨v, rfl, hv, hd3⟩
    have H3 : Hid (LInv w.heap.size w.heap.size (.slice a n cap) n w1 g cp es w3) := HL2.out.call hd3
    clear hd3
    rcases hv with rfl | rfl
    · go_wp2_with fail
      go_meet
      exact ⟨decide (0 < es.length), rfl, by simp, H3.out⟩
    · go_wp2_with fail
      go_meet
      exact ⟨false, rfl, (fun q => by cases q), H3.out⟩
  case rest =>
    obtain ⟨b, rfl, hb0, hR3⟩ := hcut
    have HR3 : Hid (LInv w.heap.size w.heap.size (.slice a n cap) n w1 g cp es wc) := hR3
    clear hR3
    cases b
    · go_wp2_with fail
      go_ret
      exact ⟨g, cp, es, rfl, HR3.out.drawn hb1 hl (Nat.le_refl _)⟩
    · have h0 := hb0 rfl
      clear hb0
      have hm1 : es.length ≤ 1048576 := by omega
      obtain ⟨m, hm⟩ : ∃ m, es.length = m := ⟨_, rfl⟩
      rw [hm] at h0 hl hm1
      rw [hm]
      have HM : Hid (es.length = m) := hm
      clear hm
      go_wp2_with fail
      refine (below_core _ _ _ n (m : Int) wc HR3.out.d (by omega) (by omega)).mono ?_
      rintro e w3 ⟨i, rfl, hi0, hi1, hd3⟩
      obtain ⟨i, rfl⟩ := Int.eq_ofNat_of_zero_le hi0
      clear hi0
      have H3 : Hid (LInv w.heap.size w.heap.size (.slice a n cap) n w1 g cp es w3) := HR3.out.call hd3
      clear hd3
      obtain ⟨x, hx⟩ : ∃ x, es[i]? = some x := ⟨_, List.getElem?_eq_getElem (by have := HM.out; omega)⟩
      have HX : Hid (es[i]? = some x ∧ x.small) := ⟨hx, H3.out.ok x (List.mem_of_getElem? hx)⟩
      clear hx
      obtain ⟨⟨c0, c1, c2, c3, c4, c5⟩, _⟩ := H3.out.at6 i x HX.out.1
      go_wp2_with fail
      refine (spoilE_core _ _ _ n x w3 H3.out.d HX.out.2).mono ?_
      rintro e w4 ⟨y, rfl, hy, hd4⟩
      have H4 : Hid (LInv w.heap.size w.heap.size (.slice a n cap) n w1 g cp es w4 ∧ y.small) := ⟨H3.out.call hd4, hy⟩
      clear hd4 hy c0 c1 c2 c3 c4 c5
      obtain ⟨⟨c0, c1, c2, c3, c4, c5⟩, f1⟩ := H4.out.1.at6 i x HX.out.1
      have f00 := f1 (i * 6)
      have f01 := f1 (i * 6 + 1)
      have f02 := f1 (i * 6 + 2)
      have f03 := f1 (i * 6 + 3)
      have f04 := f1 (i * 6 + 4)
      have f05 := f1 (i * 6 + 5)
      have H5 : Hid (LInv w.heap.size w.heap.size (.slice a n cap) n w1 g cp (es.set i y) ((((((w4.setCell ⟨g, i * 6, none⟩ (.string y.row)).setCell ⟨g, i * 6 + 1, none⟩ (.string y.fam)).setCell ⟨g, i * 6 + 2, none⟩ (.string y.qual)).setCell ⟨g, i * 6 + 3, none⟩ (.int .u64 y.ts)).setCell ⟨g, i * 6 + 4, none⟩ (.int .i64 y.kind)).setCell ⟨g, i * 6 + 5, none⟩ (.string y.val))) := H4.out.1.put i x y HX.out.1 H4.out.2
      clear f1
      go_wp2_with fail
      go_ret
      exact ⟨g, cp, es.set i y, by simp [HM.out], H5.out.drawn hb1 (by rw [List.length_set, HM.out]; exact hl) (Nat.le_refl _)⟩
theorem drawReplay_core (bv : Value) (n : Nat) (w : World) (h : CodeAt w w.heap.size bv n) :
    Calls Try.prog 12 #[bv] w fun x w' => ∃ (g cp : Nat) (es : List Ent), x = .returned (.slice (some ⟨g, 0, none⟩) es.length cp) ∧ DrawnW w g cp es w' := by
  have HC : Hid (CodeAt w w.heap.size bv n) := h
  clear h
  go_enter Try.func12, Try.ntmps12
  go_wp2_with fail
  refine (drawBuild_core bv n w HC.out).mono ?_
  rintro e w1 ⟨g, cp, es, rfl, hD⟩
  have HD : Hid (DrawnW w g cp es w1) := hD
  clear hD
  go_wp2_with fail
  go_ret
  exact ⟨g, cp, es, rfl, HD.out⟩
end Go.Proofs.Ytjphalbjimggcae

