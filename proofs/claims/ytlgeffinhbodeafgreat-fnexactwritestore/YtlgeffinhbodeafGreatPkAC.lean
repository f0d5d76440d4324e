import Derived.Deep.QuietTactic
import Derived.BigQuiet
import Derived.Test.YtlgeffinhbodeafGreatPkAB
import Derived.Test.YtlgeffinhbodeafGreatPkAA
/-
  What a stack of runs shows.
-/
namespace Go.Proofs.YtlgeffinhbodeafGreat
set_option linter.unusedVariables false
set_option linter.unusedSimpArgs false

theorem okPair_key {p e : Ent} (h : okPair p e = true) : keyCmp p e = -1 := by
  unfold okPair at h
  simp only [Bool.and_eq_true, decide_eq_true_eq, Bool.not_eq_true', beq_iff_eq] at h
  first
    | exact h.1
    | exact h.2
    | (have h1 := h.1; have h2 := h.2; rcases keyCmp_vals p e with q | q | q <;> simp_all)
theorem ord_of_adj : ∀ (l : List Ent), (∀ i p e, l[i]? = some p → l[i + 1]? = some e → keyCmp p e = -1) → Ord l
  | [], _ => List.Pairwise.nil
  | [a], _ => by simp [Ord]
  | a :: b :: r, h => by
    have ih := ord_of_adj (b :: r) (fun i p e h1 h2 => h (i + 1) p e (by simpa using h1) (by simpa using h2))
    have hab : keyCmp a b = -1 := h 0 a b rfl rfl
    refine List.pairwise_cons.2 ⟨fun x hx => ?_, ih⟩
    rcases List.mem_cons.1 hx with rfl | hx
    · exact hab
    · exact keyCmp_trans hab ((List.pairwise_cons.1 ih).1 x hx)
theorem ord_of_good {es : List Ent} (h : GoodR es) : Ord es := ord_of_adj es (fun i p e h1 h2 => okPair_key (h.2 i p e h1 h2))
theorem ord_get {l : List Ent} (h : Ord l) {i j : Nat} {x y : Ent} (hij : i < j) (hx : l[i]? = some x) (hy : l[j]? = some y) : keyCmp x y = -1 := by
  obtain ⟨h1, rfl⟩ := List.getElem?_eq_some_iff.1 hx
  obtain ⟨h2, rfl⟩ := List.getElem?_eq_some_iff.1 hy
  exact List.pairwise_iff_getElem.1 h i j h1 h2 hij

def GoodRs (rs : List (List Ent)) : Prop := rs.length ≤ 50 ∧ ∀ es ∈ rs, GoodR es
/-- An entry at a place. -/
def At (rs : List (List Ent)) (i j : Nat) (x : Ent) : Prop := ∃ es, rs[i]? = some es ∧ es[j]? = some x
/-- Some newer run does away with it. -/
def HidTo (rs : List (List Ent)) (k : Nat) (x : Ent) : Prop := ∃ m ds d, m < k ∧ rs[m]? = some ds ∧ d ∈ ds ∧ kills d x = true
def Good (rs : List (List Ent)) (inr : ByteArray → Bool) (i : Nat) (x : Ent) : Prop := x.kind = 0 ∧ inr x.row = true ∧ ¬ HidTo rs i x
def MrgTo (rs : List (List Ent)) (inr : ByteArray → Bool) (i j : Nat) (L : List Ent) : Prop :=
  Ord L ∧ ∀ x, x ∈ L ↔ ∃ i' j', (i' < i ∨ (i' = i ∧ j' < j)) ∧ At rs i' j' x ∧ Good rs inr i' x
def Mrg (rs : List (List Ent)) (inr : ByteArray → Bool) (L : List Ent) : Prop := Ord L ∧ ∀ x, x ∈ L ↔ ∃ i j, At rs i j x ∧ Good rs inr i x
def MrgOf (rs : List (List Ent)) (inr : ByteArray → Bool) (L : List Ent) : Prop := (GoodRs rs → Mrg rs inr L) ∧ (¬ GoodRs rs → L = [])
theorem mrgOf_uniq {rs : List (List Ent)} {inr : ByteArray → Bool} {L M : List Ent} (h : MrgOf rs inr L) (k : MrgOf rs inr M) : L = M := by
  by_cases g : GoodRs rs
  · exact ord_ext (h.1 g).1 (k.1 g).1 (fun x => ((h.1 g).2 x).trans ((k.1 g).2 x).symm)
  · rw [h.2 g, k.2 g]

theorem mrgTo_zero (rs : List (List Ent)) (inr : ByteArray → Bool) : MrgTo rs inr 0 0 [] :=
  ⟨List.Pairwise.nil, fun x => ⟨fun h => by simp at h, fun ⟨i, j, h, _⟩ => by omega⟩⟩
theorem mrgTo_row {rs : List (List Ent)} {inr : ByteArray → Bool} {i j : Nat} {es L : List Ent} (h : MrgTo rs inr i j L) (he : rs[i]? = some es) (hj : es.length ≤ j) : MrgTo rs inr (i + 1) 0 L := by
  refine ⟨h.1, fun x => (h.2 x).trans ⟨?_, ?_⟩⟩
  · rintro ⟨i', j', hp, ha, hg⟩
    exact ⟨i', j', by omega, ha, hg⟩
  · rintro ⟨i', j', hp, ⟨fs, h1, h2⟩, hg⟩
    refine ⟨i', j', ?_, ⟨fs, h1, h2⟩, hg⟩
    by_cases hii : i' = i
    · subst hii
      rw [he] at h1
      simp at h1
      subst h1
      have := (List.getElem?_eq_some_iff.1 h2).1
      omega
    · omega
theorem mrgTo_skip {rs : List (List Ent)} {inr : ByteArray → Bool} {i j : Nat} {e : Ent} {L : List Ent} (h : MrgTo rs inr i j L) (he : At rs i j e) (hn : ¬ Good rs inr i e) : MrgTo rs inr i (j + 1) L := by
  refine ⟨h.1, fun x => (h.2 x).trans ⟨?_, ?_⟩⟩
  · rintro ⟨i', j', hp, ha, hg⟩
    exact ⟨i', j', by omega, ha, hg⟩
  · rintro ⟨i', j', hp, ha, hg⟩
    refine ⟨i', j', ?_, ha, hg⟩
    by_cases hq : i' = i ∧ j' = j
    · obtain ⟨rfl, rfl⟩ := hq
      obtain ⟨es, h1, h2⟩ := he
      obtain ⟨fs, h3, h4⟩ := ha
      rw [h1] at h3
      simp at h3
      subst h3
      rw [h2] at h4
      simp at h4
      subst h4
      exact absurd hg hn
    · omega
theorem mrgTo_put {rs : List (List Ent)} {inr : ByteArray → Bool} {i j : Nat} {e : Ent} {L : List Ent} (hG : GoodRs rs) (h : MrgTo rs inr i j L) (he : At rs i j e) (hg : Good rs inr i e) : MrgTo rs inr i (j + 1) (into L e) := by
  obtain ⟨h1, h2⟩ := into_spec e L h.1
  have uniq : ∀ x i' j', (i' < i ∨ (i' = i ∧ j' < j)) → At rs i' j' x → Good rs inr i' x → keyCmp x e ≠ 0 := by
    rintro x i' j' hp ⟨fs, a1, a2⟩ hx hz
    rcases hp with hp | ⟨rfl, hp⟩
    · exact hg.2.2 ⟨i', fs, x, hp, a1, List.mem_of_getElem? a2, by
        obtain ⟨k1, k2, k3, k4, k5⟩ := keyCmp_zero.1 hz
        unfold kills
        have hk : ¬ x.kind = 2 := by have := hx.1; omega
        simp [sameCol_iff, hk, k1, k2, k3, k5]⟩
    · obtain ⟨es, b1, b2⟩ := he
      rw [b1] at a1
      simp at a1
      subst a1
      have := ord_get (ord_of_good (hG.2 es (List.mem_of_getElem? b1))) hp a2 b2
      omega
  refine ⟨h1, fun x => (h2 x).trans ⟨?_, ?_⟩⟩
  · rintro (rfl | ⟨hx, _⟩)
    · exact ⟨i, j, by omega, he, hg⟩
    · obtain ⟨i', j', hp, ha, hg'⟩ := (h.2 x).1 hx
      exact ⟨i', j', by omega, ha, hg'⟩
  · rintro ⟨i', j', hp, ha, hg'⟩
    by_cases hq : i' = i ∧ j' = j
    · obtain ⟨rfl, rfl⟩ := hq
      obtain ⟨es, a1, a2⟩ := he
      obtain ⟨fs, a3, a4⟩ := ha
      rw [a1] at a3
      simp at a3
      subst a3
      rw [a2] at a4
      simp at a4
      exact .inl a4.symm
    · have hp' : i' < i ∨ (i' = i ∧ j' < j) := by omega
      exact .inr ⟨(h.2 x).2 ⟨i', j', hp', ha, hg'⟩, uniq x i' j' hp' ha hg'⟩
theorem mrg_of_to {rs : List (List Ent)} {inr : ByteArray → Bool} {i j : Nat} {L : List Ent} (h : MrgTo rs inr i j L) (hi : rs.length ≤ i) : Mrg rs inr L := by
  refine ⟨h.1, fun x => (h.2 x).trans ⟨?_, ?_⟩⟩
  · rintro ⟨i', j', hp, ha, hg⟩
    exact ⟨i', j', ha, hg⟩
  · rintro ⟨i', j', ⟨es, h1, h2⟩, hg⟩
    have := (List.getElem?_eq_some_iff.1 h1).1
    exact ⟨i', j', by omega, ⟨es, h1, h2⟩, hg⟩
theorem hidTo_zero (rs : List (List Ent)) (x : Ent) : ¬ HidTo rs 0 x := fun ⟨m, _, _, h, _⟩ => by omega
theorem hidTo_succ {rs : List (List Ent)} {k : Nat} {x : Ent} {ds : List Ent} (hd : rs[k]? = some ds) : HidTo rs (k + 1) x ↔ HidTo rs k x ∨ ∃ d ∈ ds, kills d x = true := by
  constructor
  · rintro ⟨m, es, d, h1, h2, h3, h4⟩
    by_cases hm : m = k
    · subst hm
      rw [hd] at h2
      simp at h2
      subst h2
      exact .inr ⟨d, h3, h4⟩
    · exact .inl ⟨m, es, d, by omega, h2, h3, h4⟩
  · rintro (⟨m, es, d, h1, h2, h3, h4⟩ | ⟨d, h3, h4⟩)
    · exact ⟨m, es, d, by omega, h2, h3, h4⟩
    · exact ⟨k, ds, d, by omega, hd, h3, h4⟩
theorem mrgTo_len {rs : List (List Ent)} {inr : ByteArray → Bool} {i j : Nat} {L : List Ent} (h : MrgTo rs inr i j L) : ∀ x ∈ L, x ∈ rs.flatten := by
  intro x hx
  obtain ⟨i', j', _, ⟨es, h1, h2⟩, _⟩ := (h.2 x).1 hx
  exact List.mem_flatten.2 ⟨es, List.mem_of_getElem? h1, List.mem_of_getElem? h2⟩
theorem mrg_len {rs : List (List Ent)} {inr : ByteArray → Bool} {L : List Ent} (h : Mrg rs inr L) : ∀ x ∈ L, x ∈ rs.flatten := by
  intro x hx
  obtain ⟨i', j', ⟨es, h1, h2⟩, _⟩ := (h.2 x).1 hx
  exact List.mem_flatten.2 ⟨es, List.mem_of_getElem? h1, List.mem_of_getElem? h2⟩
end Go.Proofs.YtlgeffinhbodeafGreat

/-
  Runs that are valid: the loop of spec.ValidRun.
-/
namespace Go.Proofs.YtlgeffinhbodeafGreat
open Go.ChangeShapes Go.WideShapes Go.ChangeAt Go.RowKit Go.Deep
set_option linter.unusedVariables false

theorem okPair_f1 {p e : Ent} (h : (keyCmp p e != -1) = true) : okPair p e = false := by
  unfold okPair; simp at h; simp [h]
theorem okPair_t1 {p e : Ent} (h : (keyCmp p e != -1) = false) (h2 : (p.kind == 2) = false) : okPair p e = true := by
  unfold okPair; simp at h; simp [h, h2]
theorem okPair_t2 {p e : Ent} (h : (keyCmp p e != -1) = false) (h2 : (e.kind == 2) = false) : okPair p e = true := by
  unfold okPair; simp at h; simp [h, h2]
theorem okPair_s {p e : Ent} (h : (keyCmp p e != -1) = false) (h2 : (p.kind == 2) = true) (h3 : (e.kind == 2) = true) : okPair p e = !sameCol p e := by
  unfold okPair; simp at h; simp [h, h2, h3]

/-- How the test of spec.ValidRun on two neighbours comes out. -/
theorem pair_ways (p e : Ent) :
    ((keyCmp p e != -1) = true ∧ okPair p e = false) ∨ ((keyCmp p e != -1) = false ∧ (p.kind == 2) = false ∧ okPair p e = true) ∨
    ((keyCmp p e != -1) = false ∧ (p.kind == 2) = true ∧ (e.kind == 2) = false ∧ okPair p e = true) ∨
    ((keyCmp p e != -1) = false ∧ (p.kind == 2) = true ∧ (e.kind == 2) = true ∧ sameCol p e = true ∧ okPair p e = false) ∨
    ((keyCmp p e != -1) = false ∧ (p.kind == 2) = true ∧ (e.kind == 2) = true ∧ sameCol p e = false ∧ okPair p e = true) := by
  cases h1 : (keyCmp p e != -1)
  · cases h2 : (p.kind == 2)
    · exact .inr (.inl ⟨rfl, rfl, okPair_t1 h1 h2⟩)
    · cases h3 : (e.kind == 2)
      · exact .inr (.inr (.inl ⟨rfl, rfl, rfl, okPair_t2 h1 h3⟩))
      · cases h4 : sameCol p e
        · exact .inr (.inr (.inr (.inr ⟨rfl, rfl, rfl, rfl, by rw [okPair_s h1 h2 h3, h4]; rfl⟩)))
        · exact .inr (.inr (.inr (.inl ⟨rfl, rfl, rfl, rfl, by rw [okPair_s h1 h2 h3, h4]; rfl⟩)))
  · exact .inl ⟨rfl, okPair_f1 h1⟩

set_option maxHeartbeats 2000000 in
theorem specValidRun_core (b off cap : Nat) (es : List Ent) (w : World) (hE : EntsAt w b off es) (hok : ∀ e ∈ es, e.ok) (hB : b < w.heap.size) (hlen : es.length ≤ cap) (hcap : cap ≤ maxLen) :
    Calls Tryz.prog 78 #[.agg #[.slice (some ⟨b, off, none⟩) es.length cap]] w fun e w' =>
      ∃ r : Bool, e = .returned (.bool r) ∧ (r = true ↔ GoodR es) ∧ Below w.heap.size w w' := by
  obtain ⟨W0, hW0⟩ : ∃ W0 : World, W0 = w.alloc (Obj.cells #[.slice (some ⟨b, off, none⟩) es.length cap] 58) := ⟨_, rfl⟩
  have hb0 : Below w.heap.size w W0 := by rw [hW0]; exact (Below.refl _ _).alloc (Nat.le_refl _) _
  have hz0 : w.heap.size < W0.heap.size := by rw [hW0]; simp
  have ca : W0.cell? ⟨w.heap.size, 0, none⟩ = some (.slice (some ⟨b, off, none⟩) es.length cap) := by rw [hW0]; simp
  have HE : Hid (EntsAt W0 b off es) := hE.below hb0 hB
  have HO : Hid (∀ e ∈ es, e.ok) := hok
  clear hE hok
  unfold maxLen at hcap
  by_cases hbig : 10000 < es.length
  · have H : Hid (¬ GoodR es) := fun h => by have := h.1.1; omega
    go_enter Tryz.func78, Tryz.ntmps78
    go_wp2
    go_ret
    exact ⟨_, rfl, iffF H.out, (Below.refl _ _).alloc (Nat.le_refl _) _⟩
  go_enter Tryz.func78, Tryz.ntmps78
  go_wp2_with fail
  rw [← hW0]
  clear hW0
  go_loopw [3] (fun i wr => ∃ (k : Nat), k ≤ es.length ∧ i = .int .i64 k ∧ (∀ x ∈ es.take k, x.vld = true) ∧ PairsTo es k ∧ Below W0.heap.size W0 wr) (fun i _ => es.length - (intOf i).toNat)
  case atStart => exact ⟨0, Nat.zero_le _, rfl, by simp, fun i p e hi => by omega, Below.refl _ _⟩
  case round =>
    obtain ⟨k, hk, rfl, hv, hP, hb⟩ := hrel
    have HV : Hid ((∀ x ∈ es.take k, x.vld = true) ∧ PairsTo es k) := ⟨hv, hP⟩
    clear hv hP
    have hs2 := hb.size
    have car : wr.cell? ⟨w.heap.size, 0, none⟩ = some (.slice (some ⟨b, off, none⟩) es.length cap) := by rw [hb.cell (p := ⟨w.heap.size, 0, none⟩) (by show w.heap.size < _; omega)]; exact ca
    by_cases hlt : k < es.length
    · obtain ⟨e, he⟩ : ∃ e, es[k]? = some e := ⟨_, List.getElem?_eq_getElem hlt⟩
      have HEr := HE.out.below hb (by omega)
      obtain ⟨c0, c1, c2, c3, c4, c5⟩ := HEr k e he
      have HK : Hid (e.ok ∧ es[k]? = some e ∧ EntsAt wr b off es) := ⟨HO.out e (List.mem_of_getElem? he), he, HEr⟩
      clear he HEr
      go_wp2_with fail
      refine (specValid_core e.row e.fam e.qual e.val e.ts e.kind _ HK.out.1.row HK.out.1.fam HK.out.1.qual HK.out.1.val).mono ?_
      rintro e' w1 ⟨rfl, hb1⟩
      obtain ⟨hc1, hf1⟩ := bcell hb1
      have hz1 : wr.heap.size < w1.heap.size := by have := hb1.size; simp at this; omega
      have hb2 := (hb.alloc hb.size (Obj.cells #[.string e.row, .string e.fam, .string e.qual, .int .u64 e.ts, .int .i64 e.kind, .string e.val] 61)).trans (hb1.mono (by simp; omega))
      clear c0 c1 c2 c3 c4 c5
      cases hv : vE e.row e.fam e.qual e.kind e.val
      · have H : Hid (¬ GoodR es) := fun h => by
          have := h.1.2 e (List.mem_of_getElem? HK.out.2.1)
          unfold Ent.vld at this
          rw [hv] at this
          cases this
        go_wp2_with fail
        go_ret
        exact ⟨_, rfl, iffF H.out, hb0.trans (hb2.mono (by omega))⟩
      · have H : Hid (∀ x ∈ es.take (k + 1), x.vld = true) := vld_of_take HV.out.1 HK.out.2.1 hv
        by_cases hk0 : k = 0
        · subst hk0
          go_wp2_with fail
          go_roundw
          case rel => exact ⟨0 + 1, by omega, by go_num, H.out, fun i p e hi => by omega, hb2⟩
          case measure => simp [intOf]; omega
        · obtain ⟨m, rfl⟩ : ∃ m, k = m + 1 := ⟨k - 1, by omega⟩
          obtain ⟨p, hp⟩ : ∃ e, es[m]? = some e := ⟨_, List.getElem?_eq_getElem (by omega)⟩
          have hbw : Below wr.heap.size wr w1 := ((Below.refl _ _).alloc (Nat.le_refl _) (Obj.cells #[.string e.row, .string e.fam, .string e.qual, .int .u64 e.ts, .int .i64 e.kind, .string e.val] 61)).trans (hb1.mono (by simp))
          have car1 : w1.cell? ⟨w.heap.size, 0, none⟩ = some (.slice (some ⟨b, off, none⟩) es.length cap) := by rw [hbw.cell (p := ⟨w.heap.size, 0, none⟩) (by show w.heap.size < _; omega)]; exact car
          obtain ⟨d0, d1, d2, d3, d4, d5⟩ := HK.out.2.2.below hbw (by omega) m p hp
          have HKp : Hid (es[m]? = some p) := hp
          clear hp
          have hw : IntKind.i64.wrap (m : Int) = (m : Int) := Go.IntWalk.i64_in _ (by omega)
          go_wp2_with fail
          refine (specCompareKeys_any p e _).mono ?_
          rintro e' w2 ⟨rfl, hb3⟩
          obtain ⟨hc3, hf3⟩ := bcell hb3
          have hz3 : w1.heap.size < w2.heap.size := by have := hb3.size; simp at this; omega
          have hb4 := (hb2.alloc hb2.size (Obj.cells #[.string p.row, .string p.fam, .string p.qual, .int .u64 p.ts, .int .i64 p.kind, .string p.val] 61)).trans (hb3.mono (by have := hb2.size; simp; omega))
          clear d0 d1 d2 d3 d4 d5
          rcases pair_ways p e with ⟨g1, ho⟩ | ⟨g1, g2, ho⟩ | ⟨g1, g2, g3, ho⟩ | ⟨g1, g2, g3, g4, ho⟩ | ⟨g1, g2, g3, g4, ho⟩
          · have H2 : Hid (¬ GoodR es) := fun h => by
              have := h.2 m p e HKp.out HK.out.2.1
              rw [ho] at this; cases this
            go_wp2_with fail
            go_ret
            exact ⟨_, rfl, iffF H2.out, hb0.trans (hb4.mono (by omega))⟩
          · have H2 : Hid (PairsTo es (m + 1 + 1)) := pairsTo_succ HV.out.2 HKp.out HK.out.2.1 ho
            go_wp2_with fail
            go_roundw
            case rel => exact ⟨m + 1 + 1, by omega, by go_num, H.out, H2.out, hb4⟩
            case measure => simp [intOf]; omega
          · have H2 : Hid (PairsTo es (m + 1 + 1)) := pairsTo_succ HV.out.2 HKp.out HK.out.2.1 ho
            go_wp2_with fail
            go_roundw
            case rel => exact ⟨m + 1 + 1, by omega, by go_num, H.out, H2.out, hb4⟩
            case measure => simp [intOf]; omega
          · have H2 : Hid (¬ GoodR es) := fun h => by
              have := h.2 m p e HKp.out HK.out.2.1
              rw [ho] at this; cases this
            go_wp2_with fail
            refine (sameColumn_any p e _).mono ?_
            rintro e' w3 ⟨rfl, hb5⟩
            have hb6 := hb4.trans (hb5.mono hb4.size)
            go_wp2_with fail
            go_ret
            exact ⟨_, rfl, iffF H2.out, hb0.trans (hb6.mono (by omega))⟩
          · have H2 : Hid (PairsTo es (m + 1 + 1)) := pairsTo_succ HV.out.2 HKp.out HK.out.2.1 ho
            go_wp2_with fail
            refine (sameColumn_any p e _).mono ?_
            rintro e' w3 ⟨rfl, hb5⟩
            have hb6 := hb4.trans (hb5.mono hb4.size)
            go_wp2_with fail
            go_roundw
            case rel => exact ⟨m + 1 + 1, by omega, by go_num, H.out, H2.out, hb6⟩
            case measure => simp [intOf]; omega
    · go_wp2_with fail
      go_ret
      refine ⟨_, rfl, iffT ⟨⟨by omega, fun e he => ?_⟩, pairs_of_to HV.out.2 (by omega)⟩, hb0.trans (hb.mono (by omega))⟩
      have := HV.out.1
      rw [List.take_of_length_le (by omega)] at this
      exact this e he
end Go.Proofs.YtlgeffinhbodeafGreat

/-
  A region that draws its order, whose operations read and whose callees leave alone what lay there: one walk.
-/
namespace Go.Proofs.YtlgeffinhbodeafGreat
open Go.ChangeShapes Go.WideShapes Go.ChangeAt Go.RowKit Go.Deep
set_option linter.unusedVariables false

/-- A world that has grown out of 'w'. -/
structure Out (w : World) where
  u : World
  out : Below w.heap.size w u

theorem wp_region_out {id : Nat} {Q : Exit → Act → World → Prop} {a : Act} {w : World} {l : List Oper} (hm : Tryz.prog.follows .mixedOrders = true) (hB : Region.lexB .any l.toArray = true)
    (h : wpQuiet Tryz.prog l.toArray (fun w' => ∃ n : Out w, w' = n.u) (fun a' => ∀ w', (∃ n : Out w, w' = n.u) → Q .normal a' w') l a) : (Code.region id l.toArray true).wp Tryz.prog Q a w :=
  wp_region_quiet (C := fun w' => ∃ n : Out w, w' = n.u) hm hB ⟨⟨_, (Below.refl _ _).drew⟩, rfl⟩ (by simpa using h)
theorem Calls.out_of {f : FuncId} {args : Array Value} {w : World} {n : Out w} {v : Value}
    (h : Calls Tryz.prog f args n.u fun e w' => e = .returned v ∧ Below n.u.heap.size n.u w') : Calls Tryz.prog f args n.u fun e w'' => e = .returned v ∧ ∃ m : Out w, w'' = m.u :=
  h.mono fun _ w' ⟨he, hb⟩ => ⟨he, ⟨w', n.out.trans (hb.mono n.out.size)⟩, rfl⟩
theorem ents_out {w : World} {b off j : Nat} {L : List Ent} {x : Ent} (h : EntsAt w b off L) (hb : b < w.heap.size) (hx : L[j]? = some x) :
    (∀ n : Out w, n.u.cell? ⟨b, off + j * 6, none⟩ = some (.string x.row)) ∧ (∀ n : Out w, n.u.cell? ⟨b, off + j * 6 + 1, none⟩ = some (.string x.fam)) ∧ (∀ n : Out w, n.u.cell? ⟨b, off + j * 6 + 2, none⟩ = some (.string x.qual)) ∧
    (∀ n : Out w, n.u.cell? ⟨b, off + j * 6 + 3, none⟩ = some (.int .u64 x.ts)) ∧ (∀ n : Out w, n.u.cell? ⟨b, off + j * 6 + 4, none⟩ = some (.int .i64 x.kind)) ∧ (∀ n : Out w, n.u.cell? ⟨b, off + j * 6 + 5, none⟩ = some (.string x.val)) :=
  ⟨fun n => (h.below n.out hb j x hx).1, fun n => (h.below n.out hb j x hx).2.1, fun n => (h.below n.out hb j x hx).2.2.1, fun n => (h.below n.out hb j x hx).2.2.2.1, fun n => (h.below n.out hb j x hx).2.2.2.2.1, fun n => (h.below n.out hb j x hx).2.2.2.2.2⟩
end Go.Proofs.YtlgeffinhbodeafGreat

/-
  Ranges by value: the contracts of szRange, toRange, spec.InRange, impl.InRange.
-/
namespace Go.Proofs.YtlgeffinhbodeafGreat
open Go.ChangeShapes Go.WideShapes Go.ChangeAt Go.RowKit Go.Deep

/-- Whether a row is in a range. -/
def inR (lo : ByteArray) (hh : Bool) (hi row : ByteArray) : Bool := !Op.bytesLess row.toList lo.toList && (!hh || Op.bytesLess row.toList hi.toList)

set_option maxHeartbeats 400000 in
theorem specInRange_core (lo hi row : ByteArray) (hh : Bool) (w : World) :
    Calls Tryz.prog 50 #[.agg #[.string lo, .bool hh, .string hi], .string row] w fun e w' =>
      e = .returned (.bool (inR lo hh hi row)) ∧ Below w.heap.size w w' := by
  unfold inR
  cases hb : Op.bytesLess row.toList lo.toList <;> cases hh
  all_goals
    go_enter Tryz.func50, Tryz.ntmps50
    go_wp2
    go_ret
    exact ⟨by simp, (Below.refl _ _).alloc (Nat.le_refl _) _⟩

end Go.Proofs.YtlgeffinhbodeafGreat

/-
  Runs in memory, each a slice that is not nil; spec.l3GoodRuns, impl.validStack, spec.l3Says.
-/
namespace Go.Proofs.YtlgeffinhbodeafGreat
open Go.ChangeShapes Go.WideShapes Go.ChangeAt Go.RowKit Go.Deep
set_option linter.unusedVariables false
set_option linter.unusedSimpArgs false

/-- A run: where its entries lie, and what they are. -/
structure Rm where
  b : Nat
  off : Nat
  cap : Nat
  es : List Ent
abbrev Rm.u (r : Rm) : Value := .slice (some ⟨r.b, r.off, none⟩) r.es.length r.cap
structure Rm.at (w : World) (r : Rm) : Prop where
  ents : EntsAt w r.b r.off r.es
  lt : r.b < w.heap.size
  len : r.es.length ≤ r.cap
  cap : r.cap ≤ maxLen
theorem Rm.at.below {w w' : World} {r : Rm} (h : r.at w) (hb : Below w.heap.size w w') : r.at w' := ⟨h.ents.below hb h.lt, by have := hb.size; have := h.lt; omega, h.len, h.cap⟩
def RmsAt (w : World) (b off : Nat) (l : List Rm) : Prop := ∀ i r, l[i]? = some r → w.cell? ⟨b, off + i, none⟩ = some r.u ∧ r.at w
theorem RmsAt.below {w w' : World} {b off : Nat} {l : List Rm} (h : RmsAt w b off l) (hb : Below w.heap.size w w') (hlt : b < w.heap.size) : RmsAt w' b off l := by
  intro i r hr
  obtain ⟨h1, h2⟩ := h i r hr
  exact ⟨by rw [hb.cell (p := ⟨b, off + i, none⟩) (by exact hlt)]; exact h1, h2.below hb⟩
def okM (l : List Rm) : Prop := ∀ r ∈ l, ∀ e ∈ r.es, e.ok
abbrev esM (l : List Rm) : List (List Ent) := l.map Rm.es

theorem goodRs_of {l : List Rm} (h : l.length ≤ 50) (k : ∀ r ∈ l, GoodR r.es) : GoodRs (esM l) := by
  refine ⟨by simpa using h, fun es he => ?_⟩
  obtain ⟨r, hr, rfl⟩ := List.mem_map.1 he
  exact k r hr
theorem goodRs_mem {l : List Rm} (h : GoodRs (esM l)) {r : Rm} (hr : r ∈ l) : GoodR r.es := h.2 _ (List.mem_map.2 ⟨r, hr, rfl⟩)
theorem mem_take_succ {α : Type} {l : List α} {k : Nat} {a x : α} (h : l[k]? = some a) (hx : x ∈ l.take (k + 1)) : x ∈ l.take k ∨ x = a := by
  rw [List.take_add_one, h] at hx
  simpa using hx

set_option maxHeartbeats 1000000 in
theorem goodRuns_core (b off cap : Nat) (l : List Rm) (w : World) (hR : RmsAt w b off l) (hok : okM l) (hB : b < w.heap.size) (hlen : l.length ≤ 1048576) :
    Calls Tryz.prog 49 #[.slice (some ⟨b, off, none⟩) l.length cap] w fun e w' =>
      ∃ r : Bool, e = .returned (.bool r) ∧ (r = true ↔ GoodRs (esM l)) ∧ Below w.heap.size w w' := by
  have HR : Hid (RmsAt w b off l ∧ okM l) := ⟨hR, hok⟩
  clear hR hok
  by_cases hbig : 50 < l.length
  · have H : Hid (¬ GoodRs (esM l)) := fun h => by have := h.1; simp at this; omega
    go_enter Tryz.func49, Tryz.ntmps49
    go_wp2
    go_ret
    exact ⟨_, rfl, iffF H.out, Below.refl _ _⟩
  go_enter Tryz.func49, Tryz.ntmps49
  go_wp2
  go_loopw [3] (fun i wr => ∃ (k : Nat), k ≤ l.length ∧ i = .int .i64 k ∧ (∀ r ∈ l.take k, GoodR r.es) ∧ Below w.heap.size w wr) (fun i _ => l.length - (intOf i).toNat)
  case atStart => exact ⟨0, Nat.zero_le _, rfl, by simp, Below.refl _ _⟩
  case round =>
    obtain ⟨k, hk, rfl, hv, hb⟩ := hrel
    have HV : Hid (∀ r ∈ l.take k, GoodR r.es) := hv
    clear hv
    by_cases hlt : k < l.length
    · obtain ⟨r, hr⟩ : ∃ r, l[k]? = some r := ⟨_, List.getElem?_eq_getElem hlt⟩
      obtain ⟨c0, ha⟩ := (HR.out.1.below hb hB) k r hr
      have HA : Hid (r.at wr ∧ l[k]? = some r) := ⟨ha, hr⟩
      clear ha hr
      go_wp2_with fail
      refine (specValidRun_core r.b r.off r.cap r.es _ HA.out.1.ents (HR.out.2 r (List.mem_of_getElem? HA.out.2)) HA.out.1.lt HA.out.1.len HA.out.1.cap).mono ?_
      rintro e' w1 ⟨s, rfl, hs, hb1⟩
      have hb2 := hb.trans (hb1.mono hb.size)
      have HS : Hid (s = true ↔ GoodR r.es) := hs
      clear c0 hb1 hs
      cases s
      · have H : Hid (¬ GoodRs (esM l)) := fun h => Bool.noConfusion (HS.out.2 (goodRs_mem h (List.mem_of_getElem? HA.out.2)))
        go_wp2_with fail
        go_ret
        exact ⟨_, rfl, iffF H.out, hb2⟩
      · have H : Hid (∀ r ∈ l.take (k + 1), GoodR r.es) := fun x hx => by
          rcases mem_take_succ HA.out.2 hx with h | rfl
          · exact HV.out x h
          · exact HS.out.1 rfl
        go_wp2_with fail
        go_roundw
        case rel => exact ⟨k + 1, by omega, by go_num, H.out, hb2⟩
        case measure => go_light; simp [intOf]; omega
    · have H : Hid (GoodRs (esM l)) := goodRs_of (by omega) (fun r hr => HV.out r (by rw [List.take_of_length_le (by omega)]; exact hr))
      go_wp2
      go_ret
      exact ⟨_, rfl, iffT H.out, hb⟩

set_option maxHeartbeats 1000000 in
theorem validStack_core (b off cap : Nat) (l : List Rm) (w : World) (hR : RmsAt w b off l) (hok : okM l) (hB : b < w.heap.size) (hlen : l.length ≤ 1048576) :
    Calls Tryz.prog 81 #[.slice (some ⟨b, off, none⟩) l.length cap] w fun e w' =>
      ∃ r : Bool, e = .returned (.bool r) ∧ (r = true ↔ GoodRs (esM l)) ∧ Below w.heap.size w w' := by
  have HR : Hid (RmsAt w b off l ∧ okM l) := ⟨hR, hok⟩
  clear hR hok
  by_cases hbig : 50 < l.length
  · have H : Hid (¬ GoodRs (esM l)) := fun h => by have := h.1; simp at this; omega
    go_enter Tryz.func81, Tryz.ntmps81
    go_wp2
    go_ret
    exact ⟨_, rfl, iffF H.out, Below.refl _ _⟩
  go_enter Tryz.func81, Tryz.ntmps81
  go_wp2
  go_loopw [10] (fun i wr => ∃ (k : Nat), k ≤ l.length ∧ i = .int .i64 k ∧ (∀ r ∈ l.take k, GoodR r.es) ∧ Below w.heap.size w wr) (fun i _ => l.length - (intOf i).toNat)
  case atStart => exact ⟨0, Nat.zero_le _, rfl, by simp, Below.refl _ _⟩
  case round =>
    obtain ⟨k, hk, rfl, hv, hb⟩ := hrel
    have HV : Hid (∀ r ∈ l.take k, GoodR r.es) := hv
    clear hv
    by_cases hlt : k < l.length
    · obtain ⟨r, hr⟩ : ∃ r, l[k]? = some r := ⟨_, List.getElem?_eq_getElem hlt⟩
      obtain ⟨c0, ha⟩ := (HR.out.1.below hb hB) k r hr
      have HA : Hid (r.at wr ∧ l[k]? = some r) := ⟨ha, hr⟩
      clear ha hr
      obtain ⟨W1, hW1⟩ : ∃ W1 : World, W1 = wr.alloc (Obj.cells #[.slice (some ⟨r.b, r.off, none⟩) r.es.length r.cap] 58) := ⟨_, rfl⟩
      have hbA : Below wr.heap.size wr W1 := by rw [hW1]; exact (Below.refl _ _).alloc (Nat.le_refl _) _
      have HA1 : Hid (r.at W1) := HA.out.1.below hbA
      go_wp2_with fail
      rw [← hW1]
      clear hW1
      refine (implValidRun_core r.b r.off r.cap r.es _ HA1.out.ents (HR.out.2 r (List.mem_of_getElem? HA.out.2)) HA1.out.lt HA1.out.len HA1.out.cap).mono ?_
      rintro e' w1 ⟨s, rfl, hs, hb1⟩
      have hb2 := (hb.trans (hbA.mono hb.size)).trans (hb1.mono (by have := hb.size; have := hbA.size; omega))
      have HS : Hid (s = true ↔ GoodR r.es) := hs
      clear c0 hb1 hs
      cases s
      · have H : Hid (¬ GoodRs (esM l)) := fun h => Bool.noConfusion (HS.out.2 (goodRs_mem h (List.mem_of_getElem? HA.out.2)))
        go_wp2_with fail
        go_ret
        exact ⟨_, rfl, iffF H.out, hb2⟩
      · have H : Hid (∀ r ∈ l.take (k + 1), GoodR r.es) := fun x hx => by
          rcases mem_take_succ HA.out.2 hx with h | rfl
          · exact HV.out x h
          · exact HS.out.1 rfl
        go_wp2_with fail
        go_roundw
        case rel => exact ⟨k + 1, by omega, by go_num, H.out, hb2⟩
        case measure => go_light; simp [intOf]; omega
    · have H : Hid (GoodRs (esM l)) := goodRs_of (by omega) (fun r hr => HV.out r (by rw [List.take_of_length_le (by omega)]; exact hr))
      go_wp2
      go_ret
      exact ⟨_, rfl, iffT H.out, hb⟩

/-- What the entries of a run say of a key. -/
def saysF (e : Ent) : List Ent → Int → Int × ByteArray
  | [], h => (h, ⟨#[]⟩)
  | d :: r, h => if sameCol d e = true then
      (if (d.kind == 0) = true ∧ (d.ts == e.ts) = true then (1, d.val) else if (d.kind == 1) = true ∧ (d.ts == e.ts) = true then (2, ⟨#[]⟩) else if (d.kind == 2) = true ∧ e.ts ≤ d.ts then saysF e r 2 else saysF e r h)
    else saysF e r h
theorem saysF_kills (e : Ent) : ∀ (es : List Ent) (h : Int), (∀ d ∈ es, d.vld = true) → ((saysF e es h).1 ≠ 0 ↔ h ≠ 0 ∨ ∃ d ∈ es, kills d e = true)
  | [], h, _ => by simp [saysF]
  | d :: r, h, hv => by
    have ih2 := saysF_kills e r 2 (fun x hx => hv x (List.mem_cons_of_mem _ hx))
    have ihh := saysF_kills e r h (fun x hx => hv x (List.mem_cons_of_mem _ hx))
    have hd := hv d (by simp)
    unfold Ent.vld vE at hd
    have hk := of_decide_eq_true hd
    unfold saysF
    have hex : (∃ x ∈ d :: r, kills x e = true) ↔ kills d e = true ∨ ∃ x ∈ r, kills x e = true := by simp
    rw [hex]
    by_cases hc : sameCol d e = true
    · rw [if_pos hc]
      by_cases h0 : (d.kind == 0) = true ∧ (d.ts == e.ts) = true
      · rw [if_pos h0]
        have : kills d e = true := by
          unfold kills
          have : d.kind = 0 := by simpa using h0.1
          simp [hc, this, h0.2]
        simp [this]
      · rw [if_neg h0]
        by_cases h1 : (d.kind == 1) = true ∧ (d.ts == e.ts) = true
        · rw [if_pos h1]
          have : kills d e = true := by
            unfold kills
            have : d.kind = 1 := by simpa using h1.1
            simp [hc, this, h1.2]
          simp [this]
        · rw [if_neg h1]
          by_cases h2 : (d.kind == 2) = true ∧ e.ts ≤ d.ts
          · rw [if_pos h2, ih2]
            have : kills d e = true := by
              unfold kills
              have : d.kind = 2 := by simpa using h2.1
              simp [hc, this, h2.2]
            simp [this]
          · rw [if_neg h2, ihh]
            have : kills d e = false := by
              unfold kills
              simp only [beq_iff_eq] at h0 h1 h2
              rw [hc]
              by_cases hk2 : d.kind = 2
              · simp [hk2]
                have : ¬ e.ts ≤ d.ts := fun q => h2 ⟨hk2, q⟩
                omega
              · simp [hk2]
                intro q
                have : d.kind = 0 ∨ d.kind = 1 := by omega
                rcases this with z | z
                · exact h0 ⟨z, q⟩
                · exact h1 ⟨z, q⟩
            simp [this]
    · rw [if_neg hc, ihh]
      have : kills d e = false := by
        unfold kills
        simp [hc]
      simp [this]
theorem saysF_drop {e d : Ent} {es : List Ent} {k : Nat} {h : Int} (hd : es[k]? = some d) : saysF e (es.drop k) h = saysF e (d :: es.drop (k + 1)) h := by
  congr 1
  obtain ⟨h1, rfl⟩ := List.getElem?_eq_some_iff.1 hd
  exact List.drop_eq_getElem_cons h1
theorem rms_out {w : World} {b off m : Nat} {l : List Rm} {r : Rm} (h : RmsAt w b off l) (hb : b < w.heap.size) (hr : l[m]? = some r) : (∀ n : Out w, n.u.cell? ⟨b, off + m, none⟩ = some (.slice (some ⟨r.b, r.off, none⟩) r.es.length r.cap)) ∧ ∀ n : Out w, r.at n.u :=
  ⟨fun n => (h.below n.out hb m r hr).1, fun n => (h.below n.out hb m r hr).2⟩
end Go.Proofs.YtlgeffinhbodeafGreat

/-
  Runs of the call's own; eqRunS.
-/
namespace Go.Proofs.YtlgeffinhbodeafGreat
open Go.ChangeShapes Go.WideShapes Go.ChangeAt Go.RowKit Go.Deep
set_option linter.unusedVariables false
set_option linter.unusedSimpArgs false
set_option maxRecDepth 100000

def rmsOf (l : List (Nat × List Ent)) : List Rm := l.map fun p => ⟨p.1, 0, p.2.length, p.2⟩
theorem rmsOf_len (l : List (Nat × List Ent)) : (rmsOf l).length = l.length := by simp [rmsOf]
theorem esM_rms (l : List (Nat × List Ent)) : esM (rmsOf l) = l.map Prod.snd := by simp [rmsOf, esM]
/-- Runs of the call's own: their row, and theirs. -/
structure OwnRuns (w : World) (base g : Nat) (l : List (Nat × List Ent)) : Prop where
  row : OwnR w base g (usOf l)
  rows : OwnRs w base l
  ne : ∀ p ∈ l, g < p.1
  short : ∀ p ∈ l, p.2.length ≤ 1048576
theorem OwnRuns.lt {w : World} {base g : Nat} {l : List (Nat × List Ent)} (h : OwnRuns w base g l) : base ≤ g ∧ g < w.heap.size := h.row.lt
theorem OwnRuns.below {w w' : World} {base g : Nat} {l : List (Nat × List Ent)} (h : OwnRuns w base g l) (hb : Below w.heap.size w w') : OwnRuns w' base g l :=
  ⟨h.row.below hb h.row.lt.2, ⟨h.rows.1, fun p hp => (h.rows.2 p hp).below hb (h.rows.2 p hp).lt.2⟩, h.ne, h.short⟩
theorem OwnRuns.at {w : World} {base g : Nat} {l : List (Nat × List Ent)} (h : OwnRuns w base g l) : RmsAt w g 0 (rmsOf l) := by
  intro i r hr
  unfold rmsOf at hr
  rw [List.getElem?_map] at hr
  cases hp : l[i]? with
  | none => rw [hp] at hr; cases hr
  | some p =>
    rw [hp] at hr
    simp at hr
    subst hr
    have hm := List.mem_of_getElem? hp
    refine ⟨?_, ⟨(h.rows.2 p hm).at, (h.rows.2 p hm).lt.2, Nat.le_refl _, Nat.le_trans (h.short p hm) (by decide)⟩⟩
    rw [Nat.zero_add]
    exact h.row.cell (usOf_get hp)
theorem inEnts_rm {w : World} {r : Rm} (h : r.at w) : InEnts w (.slice (some ⟨r.b, r.off, none⟩) r.es.length r.cap) r.es := .inr ⟨r.b, r.off, r.cap, rfl, h.ents, h.lt, h.len, h.cap⟩
set_option maxHeartbeats 2000000 in
theorem eqRunS_same (b off cap b' off' cap' : Nat) (l l' : List Rm) (w : World) (h : RmsAt w b off l) (h' : RmsAt w b' off' l') (hB : b < w.heap.size) (hB' : b' < w.heap.size) (he : esM l = esM l') (hn : l.length ≤ 1048576) :
    Calls Tryz.prog 88 #[.slice (some ⟨b, off, none⟩) l.length cap, .slice (some ⟨b', off', none⟩) l'.length cap'] w fun e w' => e = .returned (.bool true) ∧ Below w.heap.size w w' := by
  have hll : l'.length = l.length := by have := congrArg List.length he; simpa using this.symm
  rw [hll]
  have HE : Hid (RmsAt w b off l ∧ RmsAt w b' off' l' ∧ esM l = esM l' ∧ l'.length = l.length) := ⟨h, h', he, hll⟩
  clear h h' he hll
  go_enter Tryz.func88, Tryz.ntmps88
  go_wp2_with fail
  go_loopw [5] (fun i wr => ∃ k : Nat, k ≤ l.length ∧ i = .int .i64 k ∧ Below w.heap.size w wr) (fun i _ => l.length - (intOf i).toNat)
  case atStart => exact ⟨0, Nat.zero_le _, rfl, Below.refl _ _⟩
  case round =>
    obtain ⟨k, hk, rfl, hb⟩ := hrel
    have hs := hb.size
    by_cases hlt : k < l.length
    · obtain ⟨r, hr⟩ : ∃ r, l[k]? = some r := ⟨_, List.getElem?_eq_getElem hlt⟩
      obtain ⟨r', hr'⟩ : ∃ r', l'[k]? = some r' := ⟨_, List.getElem?_eq_getElem (by have := HE.out.2.2.2; omega)⟩
      have hes : r'.es = r.es := by
        have h1 := congrArg (fun x => x[k]?) HE.out.2.2.1
        simp only [List.getElem?_map, hr, hr'] at h1
        simpa using h1.symm
      obtain ⟨y0, y1⟩ := rms_out (HE.out.1.below hb hB) (by omega) hr
      obtain ⟨z0, z1⟩ := rms_out (HE.out.2.1.below hb hB') (by omega) hr'
      have HY : Hid (∀ n : Out wr, InEnts n.u (.slice (some ⟨r.b, r.off, none⟩) r.es.length r.cap) r.es ∧ InEnts n.u (.slice (some ⟨r'.b, r'.off, none⟩) r'.es.length r'.cap) r.es) := fun n => ⟨inEnts_rm (y1 n), by
        have h := inEnts_rm (z1 n)
        rw [hes] at h ⊢
        exact h⟩
      clear y1 z1 hr hr' hes
      have zk : (k : Int) < (l.length : Int) := by omega
      have inh : Nonempty (Out wr) := ⟨⟨wr, Below.refl _ _⟩⟩
      go_upto_region 6 with fail
      refine wp_region_out (by kernel_rfl) (by kernel_rfl) ?_
      repeat (go_big_quiet_step ((go_at_call 113; exact Calls.out_of (eqRun_any _ _ r.es _ (HY.out _).1 (HY.out _).2))))
      refine wpQuiet_nil ?_
      rintro wy ⟨⟨wx, hby⟩, rfl⟩
      have hb2 := hb.trans (hby.mono hs)
      clear y0 z0
      go_wp2_with fail
      go_roundw
      case rel => exact ⟨k + 1, by omega, by go_num, hb2⟩
      case measure => go_light; simp [intOf]; omega
    · have zk : ¬ (k : Int) < (l.length : Int) := by omega
      go_wp2_with fail
      go_ret
      exact ⟨rfl, hb⟩
/-- How many entries. -/
def totL : List (Nat × List Ent) → Nat
  | [] => 0
  | p :: l => p.2.length + totL l
theorem totL_append : ∀ (a b : List (Nat × List Ent)), totL (a ++ b) = totL a + totL b
  | [], b => by simp [totL]
  | p :: a, b => by simp [totL, totL_append a b]; omega
theorem totL_take {l : List (Nat × List Ent)} {k : Nat} {p : Nat × List Ent} (h : l[k]? = some p) : totL (l.take (k + 1)) = totL (l.take k) + p.2.length := by
  rw [List.take_add_one, h, totL_append]; simp [totL]
theorem totL_le (l : List (Nat × List Ent)) (k : Nat) : totL (l.take k) ≤ totL l := by
  have h := totL_append (l.take k) (l.drop k)
  rw [List.take_append_drop] at h
  omega
theorem tot_of : ∀ (l : List (Nat × List Ent)) (rs : List Rn), l.map Prod.snd = esOf rs → totL l = tot rs
  | [], [], _ => rfl
  | [], r :: rs, h => by simp [esOf] at h
  | p :: l, [], h => by simp [esOf] at h
  | p :: l, r :: rs, h => by
    simp [esOf] at h
    have := tot_of l rs h.2
    simp [totL, tot, this, h.1]
def okL (l : List (Nat × List Ent)) : Prop := ∀ p ∈ l, ∀ e ∈ p.2, e.ok
theorem okM_of {l : List (Nat × List Ent)} (h : okL l) : okM (rmsOf l) := by
  intro r hr e he
  unfold rmsOf at hr
  obtain ⟨p, hp, rfl⟩ := List.mem_map.1 hr
  exact h p hp e he
theorem okL_of {l : List (Nat × List Ent)} {rs : List Rn} (h : l.map Prod.snd = esOf rs) (ho : okR rs) : okL l := by
  intro p hp e he
  have : p.2 ∈ esOf rs := by rw [← h]; exact List.mem_map.2 ⟨p, hp, rfl⟩
  unfold esOf at this
  obtain ⟨r, hr, q⟩ := List.mem_map.1 this
  exact ho r hr e (by rw [q]; exact he)
theorem toRuns_own (v : Value) (rs : List Rn) (w : World) (h : InRuns w v rs) (h1 : rs.length + tot rs ≤ 1048576) :
    Calls Tryz.prog 80 #[v] w fun e w' =>
      ∃ (g : Nat) (l : List (Nat × List Ent)), e = .returned (.slice (some ⟨g, 0, none⟩) l.length l.length) ∧ OwnRuns w' w.heap.size g l ∧ l.map Prod.snd = esOf rs ∧ l.length + totL l ≤ 1048576 ∧ Below w.heap.size w w' := by
  refine (toRunS_any v rs w h h1).mono ?_
  rintro e w' ⟨g, l, he, hm, hR, hO, hne, hb⟩
  have ht := tot_of l rs hm
  have hl : l.length = rs.length := by have := congrArg List.length hm; simpa [esOf] using this
  refine ⟨g, l, he, ⟨hR, hO, hne, fun p hp => ?_⟩, hm, by omega, hb⟩
  obtain ⟨i, hi⟩ := List.getElem?_of_mem hp
  have h2 := totL_take hi
  have h3 := totL_le l (i + 1)
  omega
theorem eqRunS_own (base g base' g' : Nat) (l l' : List (Nat × List Ent)) (w : World) (h : OwnRuns w base g l) (h' : OwnRuns w base' g' l') (he : l.map Prod.snd = l'.map Prod.snd) (hn : l.length ≤ 1048576) :
    Calls Tryz.prog 88 #[.slice (some ⟨g, 0, none⟩) l.length l.length, .slice (some ⟨g', 0, none⟩) l'.length l'.length] w fun e w' => e = .returned (.bool true) ∧ Below w.heap.size w w' := by
  have := eqRunS_same g 0 l.length g' 0 l'.length (rmsOf l) (rmsOf l') w h.at h'.at h.lt.2 h'.lt.2 (by rw [esM_rms, esM_rms]; exact he) (by rw [rmsOf_len]; exact hn)
  rw [rmsOf_len, rmsOf_len] at this
  exact this
end Go.Proofs.YtlgeffinhbodeafGreat

/-
  spec.l3Says.
-/
namespace Go.Proofs.YtlgeffinhbodeafGreat
open Go.ChangeShapes Go.WideShapes Go.ChangeAt Go.RowKit Go.Deep
set_option linter.unusedVariables false
set_option linter.unusedSimpArgs false

theorem ent_box (w : World) (e : Ent) : EntsAt (w.alloc (Obj.cells #[.string e.row, .string e.fam, .string e.qual, .int .u64 e.ts, .int .i64 e.kind, .string e.val] 61)) w.heap.size 0 [e] := by
  intro j y hy
  obtain rfl : j = 0 := by
    have := (List.getElem?_eq_some_iff.1 hy).1
    simpa using this
  simp at hy
  subst hy
  simp

theorem saysF_cons (e d : Ent) (r : List Ent) (h : Int) : saysF e (d :: r) h = if sameCol d e = true then
      (if (d.kind == 0) = true ∧ (d.ts == e.ts) = true then (1, d.val) else if (d.kind == 1) = true ∧ (d.ts == e.ts) = true then (2, ⟨#[]⟩) else if (d.kind == 2) = true ∧ e.ts ≤ d.ts then saysF e r 2 else saysF e r h)
    else saysF e r h := rfl

set_option maxHeartbeats 4000000 in
theorem says_core (r : Rm) (e : Ent) (w : World) (hr : r.at w) (hlen : r.es.length ≤ 1048576) :
    Calls Tryz.prog 68 #[.agg #[.slice (some ⟨r.b, r.off, none⟩) r.es.length r.cap], .agg #[.string e.row, .string e.fam, .string e.qual, .int .u64 e.ts, .int .i64 e.kind, .string e.val]] w fun x w' =>
      x = .returned (.tuple #[.int .i64 (saysF e r.es 0).1, .string (saysF e r.es 0).2]) ∧ Below w.heap.size w w' := by
  obtain ⟨rb, ro, rc, es⟩ := r
  simp only at *
  obtain ⟨Wa, hWa⟩ : ∃ Wa : World, Wa = w.alloc (Obj.cells #[.slice (some ⟨rb, ro, none⟩) es.length rc] 58) := ⟨_, rfl⟩
  obtain ⟨W0, hW0⟩ : ∃ W0 : World, W0 = Wa.alloc (Obj.cells #[.string e.row, .string e.fam, .string e.qual, .int .u64 e.ts, .int .i64 e.kind, .string e.val] 61) := ⟨_, rfl⟩
  have hba : Below w.heap.size w Wa := by rw [hWa]; exact (Below.refl _ _).alloc (Nat.le_refl _) _
  have hza : Wa.heap.size = w.heap.size + 1 := by rw [hWa]; simp
  have hbb : Below Wa.heap.size Wa W0 := by rw [hW0]; exact (Below.refl _ _).alloc (Nat.le_refl _) _
  have hz0 : W0.heap.size = w.heap.size + 1 + 1 := by rw [hW0]; simp [hza]
  have hb0 : Below w.heap.size w W0 := hba.trans (hbb.mono (by omega))
  have hcA : Wa.cell? ⟨w.heap.size, 0, none⟩ = some (.slice (some ⟨rb, ro, none⟩) es.length rc) := by rw [hWa]; simp
  have HC : Hid (W0.cell? ⟨w.heap.size, 0, none⟩ = some (.slice (some ⟨rb, ro, none⟩) es.length rc)) := by
    show W0.cell? ⟨w.heap.size, 0, none⟩ = _
    rw [hbb.cell (p := ⟨w.heap.size, 0, none⟩) (by show w.heap.size < Wa.heap.size; omega)]; exact hcA
  have HX : Hid (EntsAt W0 (w.heap.size + 1) 0 [e]) := by
    show EntsAt W0 (w.heap.size + 1) 0 [e]
    rw [hW0, ← hza]; exact ent_box Wa e
  have HR : Hid (EntsAt W0 rb ro es ∧ rb < w.heap.size) := ⟨(hr.below hba).ents.below hbb (hr.below hba).lt, hr.lt⟩
  have hrb := hr.lt
  simp only at hrb
  clear hr hcA
  go_enter Tryz.func68, Tryz.ntmps68
  go_wp2_with fail
  rw [← hWa, ← hW0]
  clear hWa hW0
  go_loopw [6, 7] (fun h i wr => ∃ (k : Nat) (x : Int), k ≤ es.length ∧ i = .int .i64 k ∧ h = .int .i64 x ∧ saysF e es 0 = saysF e (es.drop k) x ∧ Below W0.heap.size W0 wr) (fun _ i _ => es.length - (intOf i).toNat)
  case atStart => exact ⟨0, 0, Nat.zero_le _, rfl, rfl, by simp, Below.refl _ _⟩
  case round =>
    obtain ⟨k, x, hk, rfl, rfl, hS, hb⟩ := hrel
    have HS : Hid (saysF e es 0 = saysF e (es.drop k) x) := hS
    clear hS
    have hs := hb.size
    have ca : wr.cell? ⟨w.heap.size, 0, none⟩ = some (.slice (some ⟨rb, ro, none⟩) es.length rc) := by
      rw [hb.cell (p := ⟨w.heap.size, 0, none⟩) (by show w.heap.size < W0.heap.size; omega)]; exact HC.out
    by_cases hlt : k < es.length
    · obtain ⟨v, hv⟩ : ∃ v, es[k]? = some v := ⟨_, List.getElem?_eq_getElem hlt⟩
      obtain ⟨c0, c1, c2, c3, c4, c5⟩ := (HR.out.1.below hb (by omega)) k v hv
      obtain ⟨d0, d1, d2, d3, d4, d5⟩ := (HX.out.below hb (by omega)) 0 e rfl
      simp only [Nat.zero_add, Nat.zero_mul] at d0 d1 d2 d3 d4 d5
      have HD : Hid (saysF e es 0 = saysF e (v :: es.drop (k + 1)) x) := HS.out.trans (saysF_drop hv)
      clear hv
      obtain ⟨W1, hW1⟩ : ∃ W1 : World, W1 = wr.alloc (Obj.cells #[.string v.row, .string v.fam, .string v.qual, .int .u64 v.ts, .int .i64 v.kind, .string v.val] 61) := ⟨_, rfl⟩
      have hb1 : Below wr.heap.size wr W1 := by rw [hW1]; exact (Below.refl _ _).alloc (Nat.le_refl _) _
      have hz1 : W1.heap.size = wr.heap.size + 1 := by rw [hW1]; simp
      have HV1 : Hid (EntsAt W1 wr.heap.size 0 [v]) := by show EntsAt W1 wr.heap.size 0 [v]; rw [hW1]; exact ent_box wr v
      go_upto_region 6 with fail
      rw [← hW1]
      clear hW1 c0 c1 c2 c3 c4 c5 d0 d1 d2 d3 d4 d5 ca
      obtain ⟨c0, c1, c2, c3, c4, c5⟩ := HV1.out 0 v rfl
      obtain ⟨d0, d1, d2, d3, d4, d5⟩ := ((HX.out.below hb (by omega)).below hb1 (by omega)) 0 e rfl
      simp only [Nat.zero_add, Nat.zero_mul] at c0 c1 c2 c3 c4 c5 d0 d1 d2 d3 d4 d5
      go_wp2_with fail
      refine (sameColumn_any v e _).mono ?_
      rintro e' w2 ⟨rfl, hb2⟩
      have hs2 := hb2.size
      have hb3 : Below W0.heap.size W0 w2 := (hb.trans (hb1.mono (by omega))).trans (hb2.mono (by omega))
      clear c0 c1 c2 c3 c4 c5 d0 d1 d2 d3 d4 d5
      obtain ⟨c0, c1, c2, c3, c4, c5⟩ := (HV1.out.below hb2 (by omega)) 0 v rfl
      obtain ⟨d0, d1, d2, d3, d4, d5⟩ := (HX.out.below hb3 (by omega)) 0 e rfl
      simp only [Nat.zero_add, Nat.zero_mul] at c0 c1 c2 c3 c4 c5 d0 d1 d2 d3 d4 d5
      have hbw : Below w.heap.size w w2 := hb0.trans (hb3.mono (by omega))
      have fin : ∀ (wx : World) (a : Int) (t : ByteArray), Below w.heap.size w wx → saysF e es 0 = (a, t) → (Ending.returned (Value.tuple #[.int .i64 a, .string t]) = .returned (.tuple #[.int .i64 (saysF e es 0).1, .string (saysF e es 0).2]) ∧ Below w.heap.size w wx) := by
        intro wx a t hx hq
        rw [hq]; exact ⟨rfl, hx⟩
      have HFin : Hid (∀ (wx : World) (a : Int) (t : ByteArray), Below w.heap.size w wx → saysF e es 0 = (a, t) → (Ending.returned (Value.tuple #[.int .i64 a, .string t]) = .returned (.tuple #[.int .i64 (saysF e es 0).1, .string (saysF e es 0).2]) ∧ Below w.heap.size w wx)) := fin
      clear fin
      cases hsc : sameCol v e
      · have HN : Hid (saysF e es 0 = saysF e (es.drop (k + 1)) x) := by show saysF e es 0 = _; rw [HD.out]; rw [saysF_cons, if_neg (by rw [hsc]; simp)]
        go_wp2_with fail
        go_roundw
        case rel => exact ⟨k + 1, x, by omega, by go_num, rfl, HN.out, hb3⟩
        case measure => go_light; simp [intOf]; omega
      · cases k0 : (v.kind == 0)
        · cases k1 : (v.kind == 1)
          · cases k2 : (v.kind == 2)
            · have HN : Hid (saysF e es 0 = saysF e (es.drop (k + 1)) x) := by show saysF e es 0 = _; rw [HD.out]; rw [saysF_cons, if_pos hsc, if_neg (by rw [k0]; simp), if_neg (by rw [k1]; simp), if_neg (by rw [k2]; simp)]
              go_wp2_with fail
              go_roundw
              case rel => exact ⟨k + 1, x, by omega, by go_num, rfl, HN.out, hb3⟩
              case measure => go_light; simp [intOf]; omega
            · by_cases ge : e.ts ≤ v.ts
              · have HN : Hid (saysF e es 0 = saysF e (es.drop (k + 1)) 2) := by show saysF e es 0 = _; rw [HD.out]; rw [saysF_cons, if_pos hsc, if_neg (by rw [k0]; simp), if_neg (by rw [k1]; simp), if_pos ⟨k2, ge⟩]
                go_wp2_with fail
                go_roundw
                case rel => exact ⟨k + 1, 2, by omega, by go_num, rfl, HN.out, hb3⟩
                case measure => go_light; simp [intOf]; omega
              · have HN : Hid (saysF e es 0 = saysF e (es.drop (k + 1)) x) := by show saysF e es 0 = _; rw [HD.out]; rw [saysF_cons, if_pos hsc, if_neg (by rw [k0]; simp), if_neg (by rw [k1]; simp), if_neg (fun q => ge q.2)]
                go_wp2_with fail
                go_roundw
                case rel => exact ⟨k + 1, x, by omega, by go_num, rfl, HN.out, hb3⟩
                case measure => go_light; simp [intOf]; omega
          · have k2 : (v.kind == 2) = false := by
              simp at k1 ⊢; omega
            cases ht : (v.ts == e.ts)
            · have HN : Hid (saysF e es 0 = saysF e (es.drop (k + 1)) x) := by show saysF e es 0 = _; rw [HD.out]; rw [saysF_cons, if_pos hsc, if_neg (by rw [k0]; simp), if_neg (by rw [ht]; simp), if_neg (by rw [k2]; simp)]
              go_wp2_with fail
              go_roundw
              case rel => exact ⟨k + 1, x, by omega, by go_num, rfl, HN.out, hb3⟩
              case measure => go_light; simp [intOf]; omega
            · have HN : Hid (saysF e es 0 = (2, ⟨#[]⟩)) := by show saysF e es 0 = _; rw [HD.out]; rw [saysF_cons, if_pos hsc, if_neg (by rw [k0]; simp), if_pos ⟨k1, ht⟩]
              go_wp2_with fail
              go_ret2
              exact HFin.out _ _ _ hbw HN.out
        · have k1 : (v.kind == 1) = false := by
            simp at k0 ⊢; omega
          have k2 : (v.kind == 2) = false := by
            simp at k0 ⊢; omega
          cases ht : (v.ts == e.ts)
          · have HN : Hid (saysF e es 0 = saysF e (es.drop (k + 1)) x) := by show saysF e es 0 = _; rw [HD.out]; rw [saysF_cons, if_pos hsc, if_neg (by rw [ht]; simp), if_neg (by rw [ht]; simp), if_neg (by rw [k2]; simp)]
            go_wp2_with fail
            go_roundw
            case rel => exact ⟨k + 1, x, by omega, by go_num, rfl, HN.out, hb3⟩
            case measure => go_light; simp [intOf]; omega
          · have HN : Hid (saysF e es 0 = (1, v.val)) := by show saysF e es 0 = _; rw [HD.out]; rw [saysF_cons, if_pos hsc, if_pos ⟨k0, ht⟩]
            go_upto_region 8 with fail
            go_quiet (fail)
            go_wp2_with fail
            go_ret2
            exact HFin.out _ _ _ (below_drewN hbw _) HN.out
    · have HN : Hid (saysF e es 0 = (x, ⟨#[]⟩)) := by
        show saysF e es 0 = _
        rw [HS.out, List.drop_of_length_le (by omega)]; rfl
      go_wp2_with fail
      go_ret2
      refine ⟨?_, hb0.trans (hb.mono (by omega))⟩
      rw [HN.out]; rfl
end Go.Proofs.YtlgeffinhbodeafGreat

/-
  slices.BinarySearchFunc over entries; impl.firstAt, impl.entriesIn.
-/
namespace Go.Proofs.YtlgeffinhbodeafGreat
open Go.ChangeShapes Go.WideShapes Go.ChangeAt Go.RowKit Go.Deep
set_option linter.unusedVariables false
set_option linter.unusedSimpArgs false
set_option maxRecDepth 100000

/-- Up to 'i' the entries stand before the key, from there on they don't. -/
def CutAt (es : List Ent) (k : Ent) (i : Nat) : Prop := i ≤ es.length ∧ (∀ (t : Nat) (x : Ent), t < i → es[t]? = some x → keyCmp x k = -1) ∧ (∀ (t : Nat) (x : Ent), i ≤ t → es[t]? = some x → ¬ keyCmp x k = -1)

set_option maxHeartbeats 4000000 in
theorem bsearch_core (b off cap : Nat) (es : List Ent) (e : Ent) (w : World) (hE : EntsAt w b off es) (hB : b < w.heap.size) (hlen : es.length ≤ 1048576)
    (hmono : ∀ (i j : Nat) (x y : Ent), i ≤ j → es[i]? = some x → es[j]? = some y → keyCmp y e = -1 → keyCmp x e = -1) :
    Calls Tryz.prog 115 #[.slice (some ⟨b, off, none⟩) es.length cap, .agg #[.string e.row, .string e.fam, .string e.qual, .int .u64 e.ts, .int .i64 e.kind, .string e.val], .func (.func 64) #[] #[]] w fun r w' =>
      ∃ (i : Nat) (f : Value), r = .returned (.tuple #[.int .i64 i, f]) ∧ CutAt es e i ∧ Below w.heap.size w w' := by
  obtain ⟨W0, hW0⟩ : ∃ W0 : World, W0 = w.alloc (Obj.cells #[.string e.row, .string e.fam, .string e.qual, .int .u64 e.ts, .int .i64 e.kind, .string e.val] 61) := ⟨_, rfl⟩
  have hb0 : Below w.heap.size w W0 := by rw [hW0]; exact (Below.refl _ _).alloc (Nat.le_refl _) _
  have hz0 : w.heap.size < W0.heap.size := by rw [hW0]; simp
  have HE : Hid (EntsAt W0 b off es) := hE.below hb0 hB
  have HX : Hid (EntsAt W0 w.heap.size 0 [e]) := by show EntsAt W0 w.heap.size 0 [e]; rw [hW0]; exact ent_box w e
  have HM : Hid (∀ (i j : Nat) (x y : Ent), i ≤ j → es[i]? = some x → es[j]? = some y → keyCmp y e = -1 → keyCmp x e = -1) := hmono
  clear hE hmono
  go_enter Tryz.func115, Tryz.ntmps115
  go_wp2_with fail
  rw [← hW0]
  clear hW0
  go_loopw [9, 10] (fun i j wr => ∃ lo hi : Nat, i = .int .i64 lo ∧ j = .int .i64 hi ∧ lo ≤ hi ∧ hi ≤ es.length ∧ (∀ (t : Nat) (x : Ent), t < lo → es[t]? = some x → keyCmp x e = -1) ∧ (∀ (t : Nat) (x : Ent), hi ≤ t → es[t]? = some x → ¬ keyCmp x e = -1) ∧ Below W0.heap.size W0 wr) (fun i j _ => (intOf j).toNat - (intOf i).toNat)
  case atStart => exact ⟨0, es.length, rfl, rfl, Nat.zero_le _, Nat.le_refl _, fun t x ht => by omega, fun t x ht hx => by have := (List.getElem?_eq_some_iff.1 hx).1; omega, Below.refl _ _⟩
  case round =>
    obtain ⟨lo, hi, rfl, rfl, hlh, hhi, hA, hZ, hb⟩ := hrel
    have HA : Hid ((∀ (t : Nat) (x : Ent), t < lo → es[t]? = some x → keyCmp x e = -1) ∧ (∀ (t : Nat) (x : Ent), hi ≤ t → es[t]? = some x → ¬ keyCmp x e = -1)) := ⟨hA, hZ⟩
    have hs := hb.size
    clear hA hZ
    by_cases hlt : lo < hi
    · have zl : (lo : Int) < (hi : Int) := by omega
      go_upto_region 5 with fail
      obtain ⟨m, hm⟩ : ∃ m : Nat, m = (lo + hi) / 2 := ⟨_, rfl⟩
      have em : ((lo : Int) + (hi : Int)) / 2 = (m : Int) := by omega
      have hm1 : lo ≤ m := by omega
      have hm2 : m < hi := by omega
      rw [em]
      clear em hm
      obtain ⟨v, hv⟩ : ∃ v, es[m]? = some v := ⟨_, List.getElem?_eq_getElem (by omega)⟩
      obtain ⟨q0, q1, q2, q3, q4, q5⟩ := ents_out (HE.out.below hb (by omega)) (by omega) hv
      obtain ⟨r0, r1, r2, r3, r4, r5⟩ := ents_out (HX.out.below hb (by omega)) (by omega) (rfl : [e][0]? = some e)
      simp only [Nat.zero_add, Nat.zero_mul] at q0 q1 q2 q3 q4 q5 r0 r1 r2 r3 r4 r5
      have HV : Hid (es[m]? = some v) := hv
      clear hv
      have inh : Nonempty (Out wr) := ⟨⟨wr, Below.refl _ _⟩⟩
      have zm : (m : Int) < (es.length : Int) := by omega
      refine wp_region_out (by kernel_rfl) (by kernel_rfl) ?_
      repeat (go_big_quiet_step ((go_at_call 64; exact Calls.out_of (compare_any v e _))))
      refine wpQuiet_nil ?_
      rintro wy ⟨⟨wx, hby⟩, rfl⟩
      have hb2 : Below W0.heap.size W0 wy := hb.trans (hby.mono hs)
      clear q0 q1 q2 q3 q4 q5 r0 r1 r2 r3 r4 r5
      by_cases hk : keyCmp v e < 0
      · have HK : Hid (keyCmp v e = -1) := by
          rcases keyCmp_vals v e with h | h | h
          · exact h
          · omega
          · omega
        have HN : Hid (∀ (t : Nat) (x : Ent), t < m + 1 → es[t]? = some x → keyCmp x e = -1) := fun t x ht hx => HM.out t m x v (by omega) hx HV.out HK.out
        go_wp2_with fail
        go_roundw
        case rel => exact ⟨m + 1, hi, by go_num, rfl, by omega, hhi, HN.out, HA.out.2, hb2⟩
        case measure => go_light; simp [intOf]; omega
      · have HN : Hid (∀ (t : Nat) (x : Ent), m ≤ t → es[t]? = some x → ¬ keyCmp x e = -1) := fun t x ht hx q => by
          have := HM.out m t v x ht HV.out hx q
          omega
        go_wp2_with fail
        go_roundw
        case rel => exact ⟨lo, m, rfl, rfl, hm1, by omega, HA.out.1, HN.out, hb2⟩
        case measure => go_light; simp [intOf]; omega
    · obtain rfl : lo = hi := by omega
      have HC : Hid (CutAt es e lo) := ⟨hhi, HA.out.1, HA.out.2⟩
      have hbw : Below w.heap.size w wr := hb0.trans (hb.mono (by omega))
      have zl : ¬ (lo : Int) < (lo : Int) := by omega
      by_cases hn : lo < es.length
      · obtain ⟨v, hv⟩ : ∃ v, es[lo]? = some v := ⟨_, List.getElem?_eq_getElem hn⟩
        have zm : (lo : Int) < (es.length : Int) := by omega
        go_upto_region 8 with fail
        obtain ⟨q0, q1, q2, q3, q4, q5⟩ := ents_out (HE.out.below hb (by omega)) (by omega) hv
        obtain ⟨r0, r1, r2, r3, r4, r5⟩ := ents_out (HX.out.below hb (by omega)) (by omega) (rfl : [e][0]? = some e)
        simp only [Nat.zero_add, Nat.zero_mul] at q0 q1 q2 q3 q4 q5 r0 r1 r2 r3 r4 r5
        clear hv
        have inh : Nonempty (Out wr) := ⟨⟨wr, Below.refl _ _⟩⟩
        refine wp_region_out (by kernel_rfl) (by kernel_rfl) ?_
        repeat (go_big_quiet_step ((go_at_call 64; exact Calls.out_of (compare_any v e _))))
        refine wpQuiet_nil ?_
        rintro wy ⟨⟨wx, hby⟩, rfl⟩
        go_wp2_with fail
        go_ret2
        first | exact ⟨lo, _, rfl, HC.out, hbw.trans (hby.mono (by have := hbw.size; omega))⟩ | exact ⟨lo, ⟨_, rfl⟩, HC.out, hbw.trans (hby.mono (by have := hbw.size; omega))⟩
      · have zm : ¬ (lo : Int) < (es.length : Int) := by omega
        go_upto_region 8 with fail
        have inh : Nonempty (Out wr) := ⟨⟨wr, Below.refl _ _⟩⟩
        refine wp_region_out (by kernel_rfl) (by kernel_rfl) ?_
        repeat (go_big_quiet_step (fail))
        refine wpQuiet_nil ?_
        rintro wy ⟨⟨wx, hby⟩, rfl⟩
        go_wp2_with fail
        go_ret2
        first | exact ⟨lo, _, rfl, HC.out, hbw.trans (hby.mono (by have := hbw.size; omega))⟩ | exact ⟨lo, ⟨_, rfl⟩, HC.out, hbw.trans (hby.mono (by have := hbw.size; omega))⟩

/-- It stands before every valid entry of the row. -/
def lstE (row : ByteArray) : Ent := ⟨row, ⟨#[]⟩, ⟨#[]⟩, 18446744073709551615, 2, ⟨#[]⟩⟩
theorem cB_empty {a : ByteArray} (h : 1 ≤ a.size) : cB a ⟨#[]⟩ = 1 := by
  obtain ⟨⟨l⟩⟩ := a
  cases l with
  | nil => simp [ByteArray.size] at h
  | cons x l => simp [cB, Lib.compareBytes]
theorem cB_less_iff (a b : ByteArray) : Op.bytesLess a.toList b.toList = true ↔ cB a b = -1 := by
  constructor
  · exact cB_less
  · intro h
    cases hl : Op.bytesLess a.toList b.toList
    · cases he : (a.toList == b.toList)
      · have := cB_more hl he
        omega
      · have : a = b := toList_inj (by simpa using he)
        subst this
        have := cB_zero.2 (rfl : a = a)
        omega
    · rfl
theorem least_iff {x : Ent} (hv : x.vld = true) (row : ByteArray) : keyCmp x (lstE row) = -1 ↔ Op.bytesLess x.row.toList row.toList = true := by
  have hf : 1 ≤ x.fam.size := by
    unfold Ent.vld vE at hv
    have := of_decide_eq_true hv
    omega
  rw [cB_less_iff]
  unfold keyCmp lstE firstOf
  simp only [cB_empty hf]
  by_cases h : cB x.row row = 0
  · simp [h]
  · simp [h]
/-- Where a row begins. -/
def RowAt (es : List Ent) (row : ByteArray) (i : Nat) : Prop := i ≤ es.length ∧ ∀ (t : Nat) (x : Ent), es[t]? = some x → (t < i ↔ Op.bytesLess x.row.toList row.toList = true)
theorem rowAt_of {es : List Ent} (hg : GoodR es) {row : ByteArray} {i : Nat} (h : CutAt es (lstE row) i) : RowAt es row i := by
  refine ⟨h.1, fun t x hx => ?_⟩
  have hv := hg.1.2 x (List.mem_of_getElem? hx)
  rw [← least_iff hv]
  constructor
  · intro ht; exact h.2.1 t x ht hx
  · intro hk
    by_cases ht : t < i
    · exact ht
    · exact absurd hk (h.2.2 t x (by omega) hx)

set_option maxHeartbeats 1000000 in
theorem firstAt_core (r : Rm) (row : ByteArray) (w : World) (hr : r.at w) (hg : GoodR r.es) :
    Calls Tryz.prog 91 #[.agg #[.slice (some ⟨r.b, r.off, none⟩) r.es.length r.cap], .string row] w fun e w' =>
      ∃ i : Nat, e = .returned (.int .i64 i) ∧ RowAt r.es row i ∧ Below w.heap.size w w' := by
  obtain ⟨rb, ro, rc, es⟩ := r
  simp only at *
  obtain ⟨Wa, hWa⟩ : ∃ Wa : World, Wa = w.alloc (Obj.cells #[.slice (some ⟨rb, ro, none⟩) es.length rc] 58) := ⟨_, rfl⟩
  obtain ⟨W0, hW0⟩ : ∃ W0 : World, W0 = Wa.alloc (Obj.cells #[.string row, .string ⟨#[]⟩, .string ⟨#[]⟩, .int .u64 18446744073709551615, .int .i64 2, .string ⟨#[]⟩] 61) := ⟨_, rfl⟩
  have hba : Below w.heap.size w Wa := by rw [hWa]; exact (Below.refl _ _).alloc (Nat.le_refl _) _
  have hza : Wa.heap.size = w.heap.size + 1 := by rw [hWa]; simp
  have hbb : Below Wa.heap.size Wa W0 := by rw [hW0]; exact (Below.refl _ _).alloc (Nat.le_refl _) _
  have HR : Hid (EntsAt W0 rb ro es ∧ rb < W0.heap.size) := ⟨(hr.below hba).ents.below hbb (hr.below hba).lt, ((hr.below hba).below hbb).lt⟩
  have hb0 : Below w.heap.size w W0 := hba.trans (hbb.mono (by omega))
  have hL : es.length ≤ 1048576 := by have := hg.1.1; omega
  have HG : Hid (GoodR es) := hg
  have HM : Hid (∀ (i j : Nat) (x y : Ent), i ≤ j → es[i]? = some x → es[j]? = some y → keyCmp y (lstE row) = -1 → keyCmp x (lstE row) = -1) := by
    intro i j x y hij hx hy hk
    by_cases h : i = j
    · subst h; rw [hx] at hy; simp at hy; subst hy; exact hk
    · exact keyCmp_trans (ord_get (ord_of_good hg) (by omega) hx hy) hk
  clear hr hg
  go_enter Tryz.func91, Tryz.ntmps91
  go_wp2_with fail
  rw [← hWa, ← hW0]
  clear hWa hW0
  refine (bsearch_core rb ro rc es (lstE row) _ HR.out.1 HR.out.2 hL HM.out).mono ?_
  rintro e w1 ⟨i, f, rfl, hc, hb1⟩
  have HC : Hid (RowAt es row i) := rowAt_of HG.out hc
  have hbw := hb0.trans (hb1.mono hb0.size)
  clear hc hb1
  go_wp2_with fail
  go_ret
  exact ⟨i, rfl, HC.out, hbw⟩
end Go.Proofs.YtlgeffinhbodeafGreat

/-
  impl.entriesIn.
-/
namespace Go.Proofs.YtlgeffinhbodeafGreat
open Go.ChangeShapes Go.WideShapes Go.ChangeAt Go.RowKit Go.Deep
set_option linter.unusedVariables false
set_option linter.unusedSimpArgs false
set_option maxRecDepth 100000

/-- A part of a run. -/
def Rm.part (r : Rm) (i n : Nat) : Rm := ⟨r.b, r.off + i * 6, r.cap - i, (r.es.drop i).take n⟩
theorem Rm.at.part {w : World} {r : Rm} (h : r.at w) {i n : Nat} (hi : i + n ≤ r.es.length) : (r.part i n).at w := by
  refine ⟨?_, h.lt, ?_, ?_⟩
  · intro j e he
    show _ ∧ _
    simp only [Rm.part] at he ⊢
    rw [List.getElem?_take] at he
    by_cases hj : j < n
    · rw [if_pos hj, List.getElem?_drop] at he
      have := h.ents (i + j) e he
      rw [show r.off + (i + j) * 6 = r.off + i * 6 + j * 6 by omega] at this
      exact this
    · rw [if_neg hj] at he; cases he
  · have := h.len
    simp [Rm.part]; omega
  · have := h.cap
    simp only [Rm.part]
    omega
theorem part_len {r : Rm} {i n : Nat} (hi : i + n ≤ r.es.length) : (r.part i n).es.length = n := by simp [Rm.part]; omega
theorem mem_part {r : Rm} {i n : Nat} {x : Ent} : x ∈ (r.part i n).es ↔ ∃ t, i ≤ t ∧ t < i + n ∧ r.es[t]? = some x := by
  constructor
  · intro h
    obtain ⟨j, hj⟩ := List.getElem?_of_mem h
    simp only [Rm.part] at hj
    rw [List.getElem?_take] at hj
    by_cases hn : j < n
    · rw [if_pos hn, List.getElem?_drop] at hj
      exact ⟨i + j, by omega, by omega, hj⟩
    · rw [if_neg hn] at hj; cases hj
  · rintro ⟨t, h1, h2, h3⟩
    refine List.mem_of_getElem? (i := t - i) ?_
    simp only [Rm.part]
    rw [List.getElem?_take, if_pos (by omega), List.getElem?_drop, show i + (t - i) = t by omega]
    exact h3
/-- What of a run lies in a range. -/
structure PartOf (r p : Rm) (lo : ByteArray) (hh : Bool) (hi : ByteArray) : Prop where
  blk : p.b = r.b
  ord : Ord p.es
  mem : ∀ x, x ∈ p.es ↔ x ∈ r.es ∧ inR lo hh hi x.row = true
  len : p.es.length ≤ r.es.length
theorem part_of {r : Rm} (hg : GoodR r.es) {lo hi : ByteArray} {hh : Bool} {i j : Nat} (h1 : RowAt r.es lo i) (h2 : (hh = true → RowAt r.es hi j) ∧ (hh = false → j = r.es.length)) : PartOf r (r.part i (max i j - i)) lo hh hi := by
  refine ⟨rfl, ?_, fun x => ?_, ?_⟩
  · exact ((ord_of_good hg).drop (i := i)).take
  · rw [mem_part]
    constructor
    · rintro ⟨t, a1, a2, a3⟩
      refine ⟨List.mem_of_getElem? a3, ?_⟩
      unfold inR
      have b1 : Op.bytesLess x.row.toList lo.toList = false := by
        cases hb : Op.bytesLess x.row.toList lo.toList
        · rfl
        · have := (h1.2 t x a3).2 hb; omega
      rw [b1]
      cases hh
      · rfl
      · have := (h2.1 rfl).2 t x a3
        rw [this.1 (by omega)]; rfl
    · rintro ⟨hx, hr⟩
      obtain ⟨t, ht⟩ := List.getElem?_of_mem hx
      have hl := (List.getElem?_eq_some_iff.1 ht).1
      unfold inR at hr
      rw [Bool.and_eq_true] at hr
      have c1 : i ≤ t := by
        by_cases q : t < i
        · have := (h1.2 t x ht).1 q
          rw [this] at hr
          simp at hr
        · omega
      have c2 : t < j := by
        cases hh
        · have := h2.2 rfl; omega
        · refine ((h2.1 rfl).2 t x ht).2 ?_
          simpa using hr.2
      exact ⟨t, c1, by omega, ht⟩
  · simp [Rm.part]; omega
/-- Where the part of a run lies. -/
def WhereP (r p : Rm) (lo : ByteArray) : Prop := ∃ i, RowAt r.es lo i ∧ p.off = (if r.cap = i then r.off else r.off + i * 6) ∧ p.cap = r.cap - i

set_option maxHeartbeats 2000000 in
theorem entriesIn_at (r : Rm) (lo hi : ByteArray) (hh : Bool) (w : World) (hr : r.at w) (hg : GoodR r.es) :
    Calls Tryz.prog 73 #[.agg #[.slice (some ⟨r.b, r.off, none⟩) r.es.length r.cap], .agg #[.string lo, .bool hh, .string hi]] w fun e w' =>
      ∃ p : Rm, e = .returned (.slice (some ⟨p.b, p.off, none⟩) p.es.length p.cap) ∧ p.at w' ∧ PartOf r p lo hh hi ∧ Below w.heap.size w w' ∧ WhereP r p lo := by
  have HR : Hid (r.at w ∧ GoodR r.es) := ⟨hr, hg⟩
  have hL : r.es.length ≤ 1048576 := by have := hg.1.1; omega
  have hcl := hr.len
  have hcm := hr.cap
  unfold maxLen at hcm
  clear hr hg
  obtain ⟨Wa, hWa⟩ : ∃ Wa : World, Wa = w.alloc (Obj.cells #[.slice (some ⟨r.b, r.off, none⟩) r.es.length r.cap] 58) := ⟨_, rfl⟩
  obtain ⟨W0, hW0⟩ : ∃ W0 : World, W0 = Wa.alloc (Obj.cells #[.string lo, .bool hh, .string hi] 52) := ⟨_, rfl⟩
  have hba : Below w.heap.size w Wa := by rw [hWa]; exact (Below.refl _ _).alloc (Nat.le_refl _) _
  have hza : Wa.heap.size = w.heap.size + 1 := by rw [hWa]; simp
  have hbb : Below Wa.heap.size Wa W0 := by rw [hW0]; exact (Below.refl _ _).alloc (Nat.le_refl _) _
  have hz0 : W0.heap.size = w.heap.size + 1 + 1 := by rw [hW0]; simp [hza]
  have hb0 : Below w.heap.size w W0 := hba.trans (hbb.mono (by omega))
  have HC : Hid (∀ wx, Below W0.heap.size W0 wx → wx.cell? ⟨w.heap.size, 0, none⟩ = some (.slice (some ⟨r.b, r.off, none⟩) r.es.length r.cap) ∧ wx.cell? ⟨w.heap.size + 1, 1, none⟩ = some (.bool hh) ∧ wx.cell? ⟨w.heap.size + 1, 2, none⟩ = some (.string hi) ∧ r.at wx) := by
    intro wx hb
    have hat : r.at wx := ((HR.out.1.below hba).below hbb).below hb
    rw [hb.cell (p := ⟨w.heap.size, 0, none⟩) (by show w.heap.size < W0.heap.size; omega), hb.cell (p := ⟨w.heap.size + 1, 1, none⟩) (by show w.heap.size + 1 < W0.heap.size; omega), hb.cell (p := ⟨w.heap.size + 1, 2, none⟩) (by show w.heap.size + 1 < W0.heap.size; omega)]
    refine ⟨?_, ?_, ?_, hat⟩
    · rw [hbb.cell (p := ⟨w.heap.size, 0, none⟩) (by show w.heap.size < Wa.heap.size; omega), hWa]; simp
    · rw [hW0, ← hza]; simp
    · rw [hW0, ← hza]; simp
  have HA0 : Hid (r.at W0) := (HR.out.1.below hba).below hbb
  go_enter Tryz.func73, Tryz.ntmps73
  go_wp2_with fail
  rw [← hWa, ← hW0]
  clear hWa hW0
  refine (firstAt_core r lo _ HA0.out HR.out.2).mono ?_
  rintro e w1 ⟨i, rfl, hi1, hb1⟩
  have HI : Hid (RowAt r.es lo i) := hi1
  have hil := hi1.1
  clear hi1
  obtain ⟨c0, c1, c2, hat⟩ := HC.out w1 hb1
  have HA1 : Hid (r.at w1) := hat
  have hs1 := hb1.size
  clear hat
  have fin : ¬ r.cap = i → ∀ (j : Nat) (wx : World), Below W0.heap.size W0 wx → ((hh = true → RowAt r.es hi j) ∧ (hh = false → j = r.es.length)) → ∃ p : Rm, Ending.returned (Value.slice (some ⟨r.b, r.off + i * 6, none⟩) ((max (i : Int) (j : Int)).toNat - i) (r.cap - i)) = .returned (.slice (some ⟨p.b, p.off, none⟩) p.es.length p.cap) ∧ p.at wx ∧ PartOf r p lo hh hi ∧ Below w.heap.size w wx ∧ WhereP r p lo := by
    intro hci j wx hb hj
    have hjl : j ≤ r.es.length := by
      cases hh
      · rw [hj.2 rfl]; exact Nat.le_refl _
      · exact (hj.1 rfl).1
    refine ⟨r.part i (max i j - i), ?_, (HC.out wx hb).2.2.2.part (by omega), part_of HR.out.2 HI.out hj, hb0.trans (hb.mono (by omega)), i, HI.out, ?_, rfl⟩
    rotate_left
    · rw [if_neg hci]; rfl
    rw [part_len (by omega), show (max (i : Int) (j : Int)).toNat - i = max i j - i by omega]; rfl
  have HF : Hid (¬ r.cap = i → ∀ (j : Nat) (wx : World), Below W0.heap.size W0 wx → ((hh = true → RowAt r.es hi j) ∧ (hh = false → j = r.es.length)) → ∃ p : Rm, Ending.returned (Value.slice (some ⟨r.b, r.off + i * 6, none⟩) ((max (i : Int) (j : Int)).toNat - i) (r.cap - i)) = .returned (.slice (some ⟨p.b, p.off, none⟩) p.es.length p.cap) ∧ p.at wx ∧ PartOf r p lo hh hi ∧ Below w.heap.size w wx ∧ WhereP r p lo) := fin
  have fin2 : r.cap = i → ∀ (j : Nat) (wx : World), Below W0.heap.size W0 wx → ((hh = true → RowAt r.es hi j) ∧ (hh = false → j = r.es.length)) → ∃ p : Rm, Ending.returned (Value.slice (some ⟨r.b, r.off, none⟩) ((max (i : Int) (j : Int)).toNat - i) 0) = .returned (.slice (some ⟨p.b, p.off, none⟩) p.es.length p.cap) ∧ p.at wx ∧ PartOf r p lo hh hi ∧ Below w.heap.size w wx ∧ WhereP r p lo := by
    intro hci j wx hb hj
    have hjl : j ≤ r.es.length := by
      cases hh
      · rw [hj.2 rfl]; exact Nat.le_refl _
      · exact (hj.1 rfl).1
    have hp := part_of HR.out.2 HI.out hj
    have hn : (r.part i (max i j - i)).es = [] := List.eq_nil_of_length_eq_zero (by rw [part_len (by omega)]; omega)
    refine ⟨⟨r.b, r.off, 0, []⟩, ?_, ⟨fun j e he => by simp at he, (HC.out wx hb).2.2.2.lt, by simp, by simp [maxLen]⟩, ⟨rfl, List.Pairwise.nil, fun x => ?_, by simp⟩, hb0.trans (hb.mono (by omega)), i, HI.out, by rw [if_pos hci], by show 0 = r.cap - i; omega⟩
    · rw [show (max (i : Int) (j : Int)).toNat - i = 0 by omega]; rfl
    · have := hp.mem x
      rw [hn] at this
      exact this
  have HF2 : Hid (r.cap = i → ∀ (j : Nat) (wx : World), Below W0.heap.size W0 wx → ((hh = true → RowAt r.es hi j) ∧ (hh = false → j = r.es.length)) → ∃ p : Rm, Ending.returned (Value.slice (some ⟨r.b, r.off, none⟩) ((max (i : Int) (j : Int)).toNat - i) 0) = .returned (.slice (some ⟨p.b, p.off, none⟩) p.es.length p.cap) ∧ p.at wx ∧ PartOf r p lo hh hi ∧ Below w.heap.size w wx ∧ WhereP r p lo) := fin2
  clear fin fin2
  cases hh
  · by_cases hci : r.cap = i
    · have HCI : Hid (r.cap = i) := hci
      go_wp2_with fail
      go_ret
      exact HF2.out HCI.out r.es.length w1 hb1 ⟨fun q => by simp at q, fun _ => rfl⟩
    · have HCI : Hid (¬ r.cap = i) := hci
      go_wp2_with fail
      go_ret
      exact HF.out HCI.out r.es.length w1 hb1 ⟨fun q => by simp at q, fun _ => rfl⟩
  · go_wp2_with fail
    refine (firstAt_core r hi _ HA1.out HR.out.2).mono ?_
    rintro e w2 ⟨j, rfl, hj1, hb2⟩
    have hjl := hj1.1
    have HJ : Hid (RowAt r.es hi j) := hj1
    have hb3 := hb1.trans (hb2.mono (by omega))
    clear c0 c1 c2 hj1
    obtain ⟨c0, c1, c2, hat⟩ := HC.out w2 hb3
    clear hat
    by_cases hci : r.cap = i
    · have HCI : Hid (r.cap = i) := hci
      go_wp2_with fail
      go_ret
      exact HF2.out HCI.out j w2 hb3 ⟨fun _ => HJ.out, fun q => by simp at q⟩
    · have HCI : Hid (¬ r.cap = i) := hci
      go_wp2_with fail
      go_ret
      exact HF.out HCI.out j w2 hb3 ⟨fun _ => HJ.out, fun q => by simp at q⟩
theorem entriesIn_core (r : Rm) (lo hi : ByteArray) (hh : Bool) (w : World) (hr : r.at w) (hg : GoodR r.es) :
    Calls Tryz.prog 73 #[.agg #[.slice (some ⟨r.b, r.off, none⟩) r.es.length r.cap], .agg #[.string lo, .bool hh, .string hi]] w fun e w' =>
      ∃ p : Rm, e = .returned (.slice (some ⟨p.b, p.off, none⟩) p.es.length p.cap) ∧ p.at w' ∧ PartOf r p lo hh hi ∧ Below w.heap.size w w' :=
  (entriesIn_at r lo hi hh w hr hg).mono fun e w' ⟨p, h1, h2, h3, h4, _⟩ => ⟨p, h1, h2, h3, h4⟩
end Go.Proofs.YtlgeffinhbodeafGreat

/-
  Stores as lists: when one is valid; what of a run lies in a range.
-/
namespace Go.Proofs.YtlgeffinhbodeafGreat
open Go.ChangeShapes Go.WideShapes Go.ChangeAt Go.RowKit Go.Deep
set_option linter.unusedVariables false
set_option linter.unusedSimpArgs false

/-- A tablet: its first row, and its runs. -/
structure Tb where
  lo : ByteArray
  rs : List (List Ent)
/-- Whether a tablet has a next one, and that one's first row. -/
def hasN (ts : List Tb) (i : Nat) : Bool := decide (i + 1 < ts.length)
def hiN (ts : List Tb) (i : Nat) : ByteArray := match ts[i + 1]? with | some t => t.lo | none => ⟨#[]⟩
/-- The runs of a tablet are in its range. -/
def RowsIn (lo : ByteArray) (hh : Bool) (hi : ByteArray) (rs : List (List Ent)) : Prop := ∀ es ∈ rs, es ≠ [] ∧ ∀ e ∈ es, inR lo hh hi e.row = true
structure GoodT (ts : List Tb) (i : Nat) (t : Tb) : Prop where
  size : t.lo.size ≤ 64
  up : ∀ p, 0 < i → ts[i - 1]? = some p → Op.bytesLess p.lo.toList t.lo.toList = true
  runs : GoodRs t.rs
  rows : RowsIn t.lo (hasN ts i) (hiN ts i) t.rs
structure GoodS (ts : List Tb) : Prop where
  ne : 1 ≤ ts.length
  le : ts.length ≤ 100
  first : ∀ t, ts[0]? = some t → t.lo.size = 0
  tabs : ∀ i t, ts[i]? = some t → GoodT ts i t

theorem partOf_filter {r p : Rm} {lo hi : ByteArray} {hh : Bool} (h : PartOf r p lo hh hi) (hg : GoodR r.es) : p.es = r.es.filter (fun x => inR lo hh hi x.row) :=
  ord_ext h.ord ((ord_of_good hg).filter _) (fun x => by rw [h.mem x, List.mem_filter])
theorem partOf_all {r p : Rm} {lo hi : ByteArray} {hh : Bool} (h : PartOf r p lo hh hi) (hg : GoodR r.es) : r.es.length ≤ p.es.length ↔ ∀ e ∈ r.es, inR lo hh hi e.row = true := by
  rw [partOf_filter h hg]
  constructor
  · intro hl
    have := List.length_filter_le (fun x => inR lo hh hi x.row) r.es
    exact List.length_filter_eq_length_iff.1 (by omega)
  · intro hl
    rw [List.filter_eq_self.2 hl]
    exact Nat.le_refl _
end Go.Proofs.YtlgeffinhbodeafGreat

/-
  Tablets of the call's own: toTablet, toTabletS, toStore.
-/
namespace Go.Proofs.YtlgeffinhbodeafGreat
open Go.ChangeShapes Go.WideShapes Go.ChangeAt Go.RowKit Go.Deep
set_option linter.unusedVariables false
set_option linter.unusedSimpArgs false
set_option maxRecDepth 100000

theorem OwnR.mono {w : World} {base base' g : Nat} {us : List Value} (h : OwnR w base g us) (hb : base' ≤ base) : OwnR w base' g us := by
  refine ⟨h.1, ?_⟩
  rcases h.2 with hn | ⟨g', cap', cur, hv, h1, rest⟩
  · exact .inl hn
  · exact .inr ⟨g', cap', cur, hv, Nat.le_trans hb h1, rest⟩
theorem OwnRuns.mono {w : World} {base base' g : Nat} {l : List (Nat × List Ent)} (h : OwnRuns w base g l) (hb : base' ≤ base) : OwnRuns w base' g l :=
  ⟨h.row.mono hb, ⟨h.rows.1, fun p hp => (h.rows.2 p hp).mono hb⟩, h.ne, h.short⟩
theorem OwnR.setNe {w : World} {base g : Nat} {us : List Value} (h : OwnR w base g us) (g' k : Nat) (u : Value) (hne : g ≠ g') : OwnR (w.setCell ⟨g', k, none⟩ u) base g us :=
  World.ownsRow.kept h (grown_set w g' k u) (.inr (fun q => hne (Option.some.inj q)))
theorem OwnRuns.setNe {w : World} {base g : Nat} {l : List (Nat × List Ent)} (h : OwnRuns w base g l) (g' k : Nat) (u : Value) (hne : g' < g) : OwnRuns (w.setCell ⟨g', k, none⟩ u) base g l :=
  ⟨h.row.setNe g' k u (by omega), ⟨h.rows.1, fun p hp => (h.rows.2 p hp).setNe g' k u (by have := h.ne p hp; omega)⟩, h.ne, h.short⟩

/-- A tablet of the call's own: its first row, the block of its runs, and those. -/
structure Tw where
  lo : ByteArray
  g : Nat
  l : List (Nat × List Ent)
def Tw.pr (t : Tw) : Pr := (t.lo, .slice (some ⟨t.g, 0, none⟩) t.l.length t.l.length)
def Tw.tb (t : Tw) : Tb := ⟨t.lo, t.l.map Prod.snd⟩
def Tn.tb (t : Tn) : Tb := ⟨t.lo, esOf t.rs⟩
structure OwnTabs (w : World) (base g : Nat) (ts : List Tw) : Prop where
  row : OwnP w base g ts.length (ts.map Tw.pr)
  tabs : ∀ t ∈ ts, OwnRuns w base t.g t.l
  ne : ∀ t ∈ ts, g < t.g
  up : ts.Pairwise fun a b => a.g < b.g ∧ ∀ p ∈ a.l, p.1 < b.g
  short : ∀ t ∈ ts, t.l.length + totL t.l ≤ 1048576
theorem OwnTabs.lt {w : World} {base g : Nat} {ts : List Tw} (h : OwnTabs w base g ts) : base ≤ g ∧ g < w.heap.size := h.row.lt
theorem OwnTabs.below {w w' : World} {base g : Nat} {ts : List Tw} (h : OwnTabs w base g ts) (hb : Below w.heap.size w w') : OwnTabs w' base g ts :=
  ⟨h.row.below hb h.row.lt.2, fun t ht => (h.tabs t ht).below hb, h.ne, h.up, h.short⟩

theorem prs_set {l : List Tw} {t : Tw} {n k : Nat} (hk : l.length = k) (hn : k < n) :
    (l.map Tw.pr ++ List.replicate (n - k) zeroP).set k t.pr = (l ++ [t]).map Tw.pr ++ List.replicate (n - (k + 1)) zeroP := by
  rw [List.set_append_right _ _ (by simp [hk])]
  have : n - k = (n - (k + 1)) + 1 := by omega
  rw [this, List.replicate_succ]
  simp [hk]
theorem tbs_take {ts : List Tn} {k : Nat} {t : Tn} (h : ts[k]? = some t) : (ts.take (k + 1)).map Tn.tb = (ts.take k).map Tn.tb ++ [t.tb] := by
  rw [List.take_add_one, h]; simp
theorem wt_le {t : Tn} {n : Nat} (h : wt t ≤ n) : t.rs.length + tot t.rs ≤ n := by unfold wt at h; omega
end Go.Proofs.YtlgeffinhbodeafGreat

/-
  Tablets in memory, each with runs that are not nil: the reading view.
-/
namespace Go.Proofs.YtlgeffinhbodeafGreat
open Go.ChangeShapes Go.WideShapes Go.ChangeAt Go.RowKit Go.Deep
set_option linter.unusedVariables false
set_option linter.unusedSimpArgs false
set_option maxRecDepth 100000

/-- A tablet: its first row, where its runs lie, and what they are. -/
structure Tm where
  lo : ByteArray
  b : Nat
  off : Nat
  cap : Nat
  l : List Rm
abbrev Tm.u (t : Tm) : Value := .slice (some ⟨t.b, t.off, none⟩) t.l.length t.cap
def Tm.tb (t : Tm) : Tb := ⟨t.lo, esM t.l⟩
structure Tm.at (w : World) (t : Tm) : Prop where
  rms : RmsAt w t.b t.off t.l
  lt : t.b < w.heap.size
  len : t.l.length ≤ t.cap
  cap : t.cap ≤ maxLen
theorem Tm.at.below {w w' : World} {t : Tm} (h : t.at w) (hb : Below w.heap.size w w') : t.at w' := ⟨h.rms.below hb h.lt, by have := hb.size; have := h.lt; omega, h.len, h.cap⟩
def TmsAt (w : World) (b off : Nat) (ts : List Tm) : Prop := ∀ i t, ts[i]? = some t → w.cell? ⟨b, off + i * 2, none⟩ = some (.string t.lo) ∧ w.cell? ⟨b, off + i * 2 + 1, none⟩ = some t.u ∧ t.at w
theorem TmsAt.below {w w' : World} {b off : Nat} {ts : List Tm} (h : TmsAt w b off ts) (hb : Below w.heap.size w w') (hlt : b < w.heap.size) : TmsAt w' b off ts := by
  intro i t ht
  obtain ⟨h1, h2, h3⟩ := h i t ht
  exact ⟨by rw [hb.cell (p := ⟨b, off + i * 2, none⟩) (by exact hlt)]; exact h1, by rw [hb.cell (p := ⟨b, off + i * 2 + 1, none⟩) (by exact hlt)]; exact h2, h3.below hb⟩
structure OkTm (t : Tm) : Prop where
  ents : okM t.l
  runs : t.l.length ≤ 1048576
  lo : t.lo.size ≤ maxLen
def okTs (ts : List Tm) : Prop := ∀ t ∈ ts, OkTm t

def Tw.tm (t : Tw) : Tm := ⟨t.lo, t.g, 0, t.l.length, rmsOf t.l⟩
theorem Tw.tm_tb (t : Tw) : t.tm.tb = t.tb := by simp [Tw.tm, Tm.tb, Tw.tb, esM_rms]
theorem tms_tbs (ts : List Tw) : (ts.map Tw.tm).map Tm.tb = ts.map Tw.tb := by simp [List.map_map, Function.comp_def, Tw.tm_tb]
theorem OwnTabs.at {w : World} {base g : Nat} {ts : List Tw} (h : OwnTabs w base g ts) : TmsAt w g 0 (ts.map Tw.tm) := by
  intro i t ht
  rw [List.getElem?_map] at ht
  cases hp : ts[i]? with
  | none => rw [hp] at ht; cases ht
  | some p =>
    rw [hp] at ht
    simp at ht
    subst ht
    have hm := List.mem_of_getElem? hp
    obtain ⟨c0, c1⟩ := h.row.cells (p := p.pr) (i := i) (by rw [List.getElem?_map, hp]; rfl)
    rw [Nat.zero_add]
    have hs := h.short p hm
    refine ⟨c0, ?_, ⟨(h.tabs p hm).at, (h.tabs p hm).lt.2, by simp [Tw.tm, rmsOf_len], ?_⟩⟩
    · rw [c1]; simp [Tw.pr, Tw.tm, Tm.u, rmsOf_len]
    · have : p.tm.cap = p.l.length := rfl
      unfold maxLen; omega
theorem ok_tms {ts : List Tw} {tn : List Tn} (h : ts.map Tw.tb = tn.map Tn.tb) (hok : okT tn) (hs : ∀ t ∈ ts, t.l.length + totL t.l ≤ 1048576) : okTs (ts.map Tw.tm) := by
  intro t ht
  obtain ⟨p, hp, rfl⟩ := List.mem_map.1 ht
  have h1 : p.tb ∈ tn.map Tn.tb := by rw [← h]; exact List.mem_map.2 ⟨p, hp, rfl⟩
  obtain ⟨q, hq, he⟩ := List.mem_map.1 h1
  obtain ⟨a1, a2⟩ := hok q hq
  unfold Tn.tb Tw.tb at he
  simp only [Tb.mk.injEq] at he
  refine ⟨okM_of (okL_of he.2.symm a2), ?_, ?_⟩
  · have := hs p hp
    simp [Tw.tm, rmsOf_len]; omega
  · show p.lo.size ≤ maxLen
    rw [← he.1]; exact a1
end Go.Proofs.YtlgeffinhbodeafGreat

/-
  The range of a tablet: spec.l7Range, impl's rowsIn.
-/
namespace Go.Proofs.YtlgeffinhbodeafGreat
open Go.ChangeShapes Go.WideShapes Go.ChangeAt Go.RowKit Go.Deep
set_option linter.unusedVariables false
set_option linter.unusedSimpArgs false
set_option maxRecDepth 100000

def tbs (ts : List Tm) : List Tb := ts.map Tm.tb
theorem tbs_len (ts : List Tm) : (tbs ts).length = ts.length := by simp [tbs]
theorem tbs_get (ts : List Tm) (i : Nat) : (tbs ts)[i]? = ts[i]?.map Tm.tb := by simp [tbs]
theorem hasN_T {ts : List Tm} {i : Nat} (h : i + 1 < ts.length) : hasN (tbs ts) i = true := by unfold hasN; rw [tbs_len]; exact decide_eq_true h
theorem hasN_F {ts : List Tm} {i : Nat} (h : ¬ i + 1 < ts.length) : hasN (tbs ts) i = false := by unfold hasN; rw [tbs_len]; exact decide_eq_false h
theorem hiN_T {ts : List Tm} {i : Nat} {n : Tm} (h : ts[i + 1]? = some n) : hiN (tbs ts) i = n.lo := by unfold hiN; rw [tbs_get, h]; rfl
theorem hiN_F {ts : List Tm} {i : Nat} (h : ¬ i + 1 < ts.length) : hiN (tbs ts) i = ⟨#[]⟩ := by unfold hiN; rw [tbs_get, List.getElem?_eq_none (by omega)]; rfl

set_option maxHeartbeats 2000000 in
theorem specRange_core (b off cap : Nat) (ts : List Tm) (i : Nat) (t : Tm) (w : World) (h : TmsAt w b off ts) (hB : b < w.heap.size) (ht : ts[i]? = some t) (hn : ts.length ≤ 1048576) :
    Calls Tryz.prog 24 #[.agg #[.slice (some ⟨b, off, none⟩) ts.length cap], .int .i64 i] w fun e w' =>
      e = .returned (.agg #[.string t.lo, .bool (hasN (tbs ts) i), .string (hiN (tbs ts) i)]) ∧ Below w.heap.size w w' := by
  have hi : i < ts.length := (List.getElem?_eq_some_iff.1 ht).1
  obtain ⟨c0, c1, _⟩ := h i t ht
  clear c1
  by_cases hx : i + 1 < ts.length
  · obtain ⟨n, hn'⟩ : ∃ n, ts[i + 1]? = some n := ⟨_, List.getElem?_eq_getElem hx⟩
    obtain ⟨d0, d1, _⟩ := h (i + 1) n hn'
    clear d1
    rw [hasN_T hx, hiN_T hn']
    clear h ht hn'
    have kb : ∀ x, Below w.heap.size w (((w.alloc (Obj.cells #[.slice (some ⟨b, off, none⟩) ts.length cap] 30)).alloc (Obj.cells #[.string ⟨#[]⟩, .bool false, .string ⟨#[]⟩] 52)).alloc (Obj.cells #[.string t.lo, .bool x, .string ⟨#[]⟩] 52)) := fun x => (((Below.refl _ _).alloc (Nat.le_refl _) _).alloc (by simp) _).alloc (by simp; omega) _
    have d1 := (kb true).cell (p := ⟨b, off + (i + 1) * 2, none⟩) (by exact hB)
    rw [d0] at d1
    have HK : Hid (Below w.heap.size w (((w.alloc (Obj.cells #[.slice (some ⟨b, off, none⟩) ts.length cap] 30)).alloc (Obj.cells #[.string t.lo, .bool true, .string n.lo] 52)).alloc (Obj.cells #[.string t.lo, .bool true, .string n.lo] 52))) := (((Below.refl _ _).alloc (Nat.le_refl _) _).alloc (by simp) _).alloc (by simp; omega) _
    clear kb
    go_enter Tryz.func24, Tryz.ntmps24
    go_wp2_with fail
    refine bodyPost_ret (v := .agg #[.string t.lo, .bool true, .string n.lo]) (by simp [results, Tryz.results24, go_sem]) rfl ⟨rfl, HK.out⟩
  · rw [hasN_F hx, hiN_F hx]
    clear h ht
    go_enter Tryz.func24, Tryz.ntmps24
    go_wp2_with fail
    refine bodyPost_ret (v := .agg #[.string t.lo, .bool false, .string ⟨#[]⟩]) (by simp [results, Tryz.results24, go_sem]) rfl ⟨rfl, (((Below.refl _ _).alloc (Nat.le_refl _) _).alloc (by simp) _).alloc (by simp; omega) _⟩

set_option maxHeartbeats 2000000 in
theorem rowsIn_core (b off cap : Nat) (ts : List Tm) (i : Nat) (t : Tm) (w : World) (h : TmsAt w b off ts) (hB : b < w.heap.size) (ht : ts[i]? = some t) (hn : ts.length ≤ 1048576) :
    Calls Tryz.prog 57 #[.agg #[.slice (some ⟨b, off, none⟩) ts.length cap], .int .i64 i] w fun e w' =>
      e = .returned (.agg #[.string t.lo, .bool (hasN (tbs ts) i), .string (hiN (tbs ts) i)]) ∧ Below w.heap.size w w' := by
  have hi : i < ts.length := (List.getElem?_eq_some_iff.1 ht).1
  obtain ⟨c0, c1, _⟩ := h i t ht
  clear c1
  by_cases hx : i + 1 < ts.length
  · obtain ⟨n, hn'⟩ : ∃ n, ts[i + 1]? = some n := ⟨_, List.getElem?_eq_getElem hx⟩
    obtain ⟨d0, d1, _⟩ := h (i + 1) n hn'
    clear d1
    rw [hasN_T hx, hiN_T hn']
    clear h ht hn'
    have zx : ¬ (i : Int) + 1 = (ts.length : Int) := by omega
    go_enter Tryz.func57, Tryz.ntmps57
    go_upto_region 3 with fail
    go_region
    all_goals go_wp2_with fail
    all_goals refine bodyPost_ret (v := .agg #[.string t.lo, .bool true, .string n.lo]) (by simp [results, Tryz.results57, go_sem]) rfl ⟨rfl, ?_⟩
    all_goals exact (((Below.refl _ _).alloc (Nat.le_refl _) _).alloc (by simp) _).drew
  · rw [hasN_F hx, hiN_F hx]
    clear h ht
    have zx : (i : Int) + 1 = (ts.length : Int) := by omega
    go_enter Tryz.func57, Tryz.ntmps57
    go_wp2_with fail
    refine bodyPost_ret (v := .agg #[.string t.lo, .bool false, .string ⟨#[]⟩]) (by simp [results, Tryz.results57, go_sem]) rfl ⟨rfl, ((Below.refl _ _).alloc (Nat.le_refl _) _).alloc (by simp) _⟩
end Go.Proofs.YtlgeffinhbodeafGreat

