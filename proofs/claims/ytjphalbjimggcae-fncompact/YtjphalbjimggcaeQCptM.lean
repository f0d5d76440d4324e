/-
  The compacted run of good runs is good and shows what they show (no memory).
-/
import Derived.Test.YtjphalbjimggcaeQCmpS
namespace Go.Proofs.Ytjphalbjimggcae
set_option linter.unusedVariables false
set_option linter.unusedSimpArgs false

theorem nodup_ord {L : List Ent} (h : Ord L) : L.Nodup := by
  refine List.Pairwise.imp ?_ h
  rintro a b hab rfl
  have : keyCmp a a = 0 := keyCmp_zero.2 (by simp)
  omega
theorem nodup_sub_len : ∀ {L M : List Ent}, L.Nodup → (∀ x ∈ L, x ∈ M) → L.length ≤ M.length
  | [], _, _, _ => Nat.zero_le _
  | x :: L, M, h, hs => by
    obtain ⟨a, b, rfl⟩ := List.append_of_mem (hs x (by simp))
    have hx := List.nodup_cons.1 h
    have ih := nodup_sub_len (L := L) (M := a ++ b) hx.2 (fun y hy => by
      have := hs y (List.mem_cons_of_mem _ hy)
      simp only [List.mem_append, List.mem_cons] at this ⊢
      rcases this with q | rfl | q
      · exact .inl q
      · exact absurd hy hx.1
      · exact .inr q)
    simp only [List.length_append, List.length_cons] at ih ⊢
    omega
theorem flatten_len {rs : List (List Ent)} {c : Nat} (h : ∀ es ∈ rs, es.length ≤ c) : rs.flatten.length ≤ rs.length * c := by
  induction rs with
  | nil => simp
  | cons a r ih =>
    have h1 := ih (fun es he => h es (List.mem_cons_of_mem _ he))
    have h2 := h a (by simp)
    simp only [List.flatten_cons, List.length_append, List.length_cons, Nat.succ_mul]
    omega
theorem mrg_short {rs : List (List Ent)} {inr : ByteArray → Bool} {L : List Ent} (h : MrgOf rs inr L) (hc : ∀ es ∈ rs, es.length ≤ 101) : L.length ≤ 10000 := by
  by_cases g : GoodRs rs
  · have h1 := nodup_sub_len (nodup_ord (h.1 g).1) (mrg_len (h.1 g))
    have h2 := flatten_len hc
    have h3 : rs.length * 101 ≤ 50 * 101 := Nat.mul_le_mul_right _ g.1
    omega
  · rw [h.2 g]; simp
theorem inR_all (r : ByteArray) : inR ⟨#[]⟩ false ⟨#[]⟩ r = true := by
  have h : (⟨#[]⟩ : ByteArray).toList = [] := by rw [ByteArray.toList_eq]
  unfold inR
  rw [h]
  cases r.toList <;> simp [Op.bytesLess]
theorem putE_of {x : Ent} (h : x.kind = 0) : putE x = x := by
  cases x
  simp [putE] at h ⊢
  exact h.symm
theorem puts_same {L : List Ent} (h : ∀ x ∈ L, x.kind = 0) : L.map putE = L := by
  induction L with
  | nil => rfl
  | cons a r ih => rw [List.map_cons, putE_of (h a (by simp)), ih (fun x hx => h x (List.mem_cons_of_mem _ hx))]
theorem good_of_mrg {rs : List (List Ent)} {L : List Ent} (hG : GoodRs rs) (h : Mrg rs (inR ⟨#[]⟩ false ⟨#[]⟩) L) (hn : L.length ≤ 10000) : GoodR L := by
  refine ⟨⟨hn, fun x hx => ?_⟩, fun i p e hp he => ?_⟩
  · obtain ⟨i, j, ⟨es, h1, h2⟩, _⟩ := (h.2 x).1 hx
    exact (hG.2 es (List.mem_of_getElem? h1)).1.2 x (List.mem_of_getElem? h2)
  · have hk := ord_get h.1 (Nat.lt_succ_self i) hp he
    obtain ⟨_, _, _, hg⟩ := (h.2 p).1 (List.mem_of_getElem? hp)
    unfold okPair
    simp [hk, hg.1]
theorem goodR_nil : GoodR [] := ⟨⟨by simp, fun x hx => by simp at hx⟩, fun i p e hp => by simp at hp⟩
theorem goodRs_one {R : List Ent} (h : GoodR R) : GoodRs [R] := ⟨by simp, fun es he => by simp at he; subst he; exact h⟩
/-- What the one run shows. -/
theorem mrg_one {R : List Ent} {inr : ByteArray → Bool} {M : List Ent} (h : Mrg [R] inr M) (x : Ent) : x ∈ M ↔ x ∈ R ∧ x.kind = 0 ∧ inr x.row = true := by
  refine (h.2 x).trans ⟨?_, ?_⟩
  · rintro ⟨i, j, ⟨es, h1, h2⟩, hg⟩
    have : es = R := by
      cases i with
      | zero => simpa using h1.symm
      | succ i => simp at h1
    subst this
    exact ⟨List.mem_of_getElem? h2, hg.1, hg.2.1⟩
  · rintro ⟨hx, hk, hi⟩
    obtain ⟨j, hj⟩ := List.getElem?_of_mem hx
    exact ⟨0, j, ⟨R, rfl, hj⟩, hk, hi, hidTo_zero _ _⟩
theorem compact_shows {rs : List (List Ent)} {R M W : List Ent} {inr : ByteArray → Bool} (hR : CmpOf rs R) (hc : ∀ es ∈ rs, es.length ≤ 101) (hW : MrgOf rs inr W) : GoodR R ∧ (MrgOf [R] inr M → M = W) := by
  obtain ⟨L, hL, h⟩ := hR
  have hn := mrg_short hL hc
  have hRL : R = L.map putE := by
    rcases h with ⟨h, _⟩ | ⟨_, h⟩
    · omega
    · exact h
  clear h
  by_cases g : GoodRs rs
  · have hm := hL.1 g
    have hk : ∀ x ∈ L, x.kind = 0 := fun x hx => by obtain ⟨_, _, _, hg⟩ := (hm.2 x).1 hx; exact hg.1
    rw [puts_same hk] at hRL
    subst hRL
    have hg := good_of_mrg g hm hn
    refine ⟨hg, fun hM => ?_⟩
    have h1 := hM.1 (goodRs_one hg)
    have h2 := hW.1 g
    refine ord_ext h1.1 h2.1 (fun x => (mrg_one h1 x).trans ⟨?_, ?_⟩)
    · rintro ⟨hx, _, hi⟩
      obtain ⟨i, j, ha, hg⟩ := (hm.2 x).1 hx
      exact (h2.2 x).2 ⟨i, j, ha, hg.1, hi, hg.2.2⟩
    · intro hx
      obtain ⟨i, j, ha, hg⟩ := (h2.2 x).1 hx
      exact ⟨(hm.2 x).2 ⟨i, j, ha, hg.1, inR_all _, hg.2.2⟩, hg.1, hg.2.1⟩
  · rw [hL.2 g] at hRL
    simp at hRL
    subst hRL
    refine ⟨goodR_nil, fun hM => ?_⟩
    rw [hW.2 g]
    refine List.eq_nil_iff_forall_not_mem.2 (fun x hx => ?_)
    have := ((mrg_one (hM.1 (goodRs_one goodR_nil)) x).1 hx).1
    simp at this
theorem compact_mem {rs : List (List Ent)} {R : List Ent} (hR : CmpOf rs R) : ∀ x ∈ R, ∃ es ∈ rs, x ∈ es := by
  obtain ⟨L, hL, h⟩ := hR
  rcases h with ⟨_, h⟩ | ⟨_, h⟩
  · subst h; intro x hx; simp at hx
  · by_cases g : GoodRs rs
    · have hm := hL.1 g
      have hk : ∀ x ∈ L, x.kind = 0 := fun x hx => by obtain ⟨_, _, _, hg⟩ := (hm.2 x).1 hx; exact hg.1
      rw [puts_same hk] at h
      subst h
      intro x hx
      obtain ⟨i, j, ⟨es, h1, h2⟩, _⟩ := (hm.2 x).1 hx
      exact ⟨es, List.mem_of_getElem? h1, List.mem_of_getElem? h2⟩
    · rw [hL.2 g] at h
      subst h
      intro x hx
      simp at hx
end Go.Proofs.Ytjphalbjimggcae
