/-
  The cursors that are opened, with and without memory.
-/
import Derived.Test.YtjphalbjimggcaePkAP
import Derived.Test.YtjphalbjimggcaePkAQ
import Derived.Deep.AppendLies
namespace Go.Proofs.Ytjphalbjimggcae
open Go.ChangeShapes Go.WideShapes Go.ChangeAt Go.RowKit Go.Deep
set_option linter.unusedVariables false
set_option linter.unusedSimpArgs false
set_option maxRecDepth 100000

/-- The cursors of the first 'k' runs: those that have something in the range. -/
structure OpenTo (l : List Rm) (lo : ByteArray) (hh : Bool) (hi : ByteArray) (k : Nat) (cs : List Cu) : Prop where
  mem : ∀ (a : Nat) (x : Ent), (a < k ∧ (∃ r, l[a]? = some r ∧ x ∈ r.es) ∧ inR lo hh hi x.row = true) ↔ ∃ c ∈ cs, c.age = a ∧ x ∈ c.r.es
  age : ∀ c ∈ cs, c.age < k
  zero : ∀ c ∈ cs, c.pos = 0 ∧ Ord c.r.es
  ages : cs.Pairwise fun a b => a.age ≠ b.age
  blks : cs.Pairwise fun a b => a.blk ≠ b.blk
  sum : sumL (cs.map fl) ≤ 10000 * k
  few : cs.length ≤ k
  src : ∀ c ∈ cs, ∃ r ∈ l, c.r.b = r.b
theorem OpenTo.perm {l : List Rm} {lo hi : ByteArray} {hh : Bool} {k : Nat} {cs ds : List Cu} (h : OpenTo l lo hh hi k cs) (hp : cs.Perm ds) : OpenTo l lo hh hi k ds where
  mem := fun a x => (h.mem a x).trans ⟨fun ⟨c, hc, q⟩ => ⟨c, hp.mem_iff.1 hc, q⟩, fun ⟨c, hc, q⟩ => ⟨c, hp.mem_iff.2 hc, q⟩⟩
  age := fun c hc => h.age c (hp.mem_iff.2 hc)
  zero := fun c hc => h.zero c (hp.mem_iff.2 hc)
  ages := (hp.pairwise_iff (fun h => Ne.symm h)).1 h.ages
  blks := (hp.pairwise_iff (fun h => Ne.symm h)).1 h.blks
  sum := by
    have : sumL (ds.map fl) = sumL (cs.map fl) := (((hp.map fl).map (fun p : Nat × List Ent => p.2.length)).sum_nat).symm
    rw [this]; exact h.sum
  few := by rw [← hp.length_eq]; exact h.few
  src := fun c hc => h.src c (hp.mem_iff.2 hc)
theorem openTo_zero (l : List Rm) (lo hi : ByteArray) (hh : Bool) : OpenTo l lo hh hi 0 [] where
  mem := fun a x => ⟨fun h => by omega, fun ⟨c, hc, _⟩ => by simp at hc⟩
  age := fun c hc => by simp at hc
  zero := fun c hc => by simp at hc
  ages := List.Pairwise.nil
  blks := List.Pairwise.nil
  sum := by simp [sumL]
  few := by simp
  src := fun c hc => by simp at hc
theorem openTo_mem {l : List Rm} {lo hi : ByteArray} {hh : Bool} {k : Nat} {cs : List Cu} {r p : Rm} (h : OpenTo l lo hh hi k cs) (hr : l[k]? = some r) (hp : PartOf r p lo hh hi) (a : Nat) (x : Ent) :
    (a < k + 1 ∧ (∃ r, l[a]? = some r ∧ x ∈ r.es) ∧ inR lo hh hi x.row = true) ↔ (∃ c ∈ cs, c.age = a ∧ x ∈ c.r.es) ∨ (a = k ∧ x ∈ p.es) := by
  rw [← h.mem a x]
  constructor
  · rintro ⟨h1, ⟨r', h2, h3⟩, h4⟩
    by_cases hk : a = k
    · subst hk
      rw [hr] at h2
      simp at h2
      subst h2
      exact .inr ⟨rfl, (hp.mem x).2 ⟨h3, h4⟩⟩
    · exact .inl ⟨by omega, ⟨r', h2, h3⟩, h4⟩
  · rintro (⟨h1, h2, h3⟩ | ⟨rfl, h2⟩)
    · exact ⟨by omega, h2, h3⟩
    · obtain ⟨h3, h4⟩ := (hp.mem x).1 h2
      exact ⟨by omega, ⟨r, hr, h3⟩, h4⟩
theorem openTo_skip {l : List Rm} {lo hi : ByteArray} {hh : Bool} {k : Nat} {cs : List Cu} {r p : Rm} (h : OpenTo l lo hh hi k cs) (hr : l[k]? = some r) (hp : PartOf r p lo hh hi) (h0 : p.es = []) : OpenTo l lo hh hi (k + 1) cs where
  mem := fun a x => (openTo_mem h hr hp a x).trans (by rw [h0]; simp)
  age := fun c hc => by have := h.age c hc; omega
  zero := h.zero
  ages := h.ages
  blks := h.blks
  sum := by have := h.sum; omega
  few := by have := h.few; omega
  src := h.src
theorem openTo_push {l : List Rm} {lo hi : ByteArray} {hh : Bool} {k B : Nat} {cs : List Cu} {r p : Rm} (h : OpenTo l lo hh hi k cs) (hr : l[k]? = some r) (hg : GoodR r.es) (hp : PartOf r p lo hh hi) (hB : ∀ c ∈ cs, c.blk ≠ B) :
    OpenTo l lo hh hi (k + 1) (cs ++ [⟨B, p, 0, k⟩]) where
  mem := fun a x => (openTo_mem h hr hp a x).trans (by
    constructor
    · rintro (⟨c, hc, q⟩ | ⟨rfl, q⟩)
      · exact ⟨c, List.mem_append_left _ hc, q⟩
      · exact ⟨⟨B, p, 0, a⟩, by simp, rfl, q⟩
    · rintro ⟨c, hc, q1, q2⟩
      rcases List.mem_append.1 hc with hc | hc
      · exact .inl ⟨c, hc, q1, q2⟩
      · simp at hc
        subst hc
        exact .inr ⟨q1.symm, q2⟩)
  age := fun c hc => by
    rcases List.mem_append.1 hc with hc | hc
    · have := h.age c hc; omega
    · simp at hc
      subst hc
      show k < k + 1
      omega
  zero := fun c hc => by
    rcases List.mem_append.1 hc with hc | hc
    · exact h.zero c hc
    · simp at hc
      subst hc
      exact ⟨rfl, hp.ord⟩
  ages := List.pairwise_append.2 ⟨h.ages, by simp, fun a ha b hb => by
    simp at hb
    subst hb
    have := h.age a ha
    show a.age ≠ k
    omega⟩
  blks := List.pairwise_append.2 ⟨h.blks, by simp, fun a ha b hb => by
    simp at hb
    subst hb
    exact hB a ha⟩
  sum := by
    have h1 := h.sum
    have h2 := hp.len
    have h3 := hg.1.1
    simp [sumL, fl, Cu.rest] at h1 ⊢
    omega
  few := by have := h.few; simp; omega
  src := fun c hc => by
    rcases List.mem_append.1 hc with hc | hc
    · exact h.src c hc
    · simp at hc
      subst hc
      exact ⟨r, List.mem_of_getElem? hr, hp.blk⟩
/-- What the heap's flow begins with. -/
theorem flow_open {l : List Rm} {lo hi : ByteArray} {hh : Bool} {cs : List Cu} (h : OpenTo l lo hh hi l.length cs) : Flow (fun a x => (∃ j, At (esM l) a j x) ∧ inR lo hh hi x.row = true) (sumL (cs.map fl)) [] (cs.map fl) where
  sorted := List.Pairwise.nil
  ahead := fun p hp => by simp at hp
  all := fun a x => by
    have hm := h.mem a x
    constructor
    · rintro ⟨⟨j, es, h1, h2⟩, h3⟩
      rw [List.getElem?_map] at h1
      cases hl : l[a]? with
      | none => rw [hl] at h1; cases h1
      | some r =>
        rw [hl] at h1
        simp at h1
        subst h1
        obtain ⟨c, hc, q1, q2⟩ := hm.1 ⟨(List.getElem?_eq_some_iff.1 hl).1, ⟨r, hl, List.mem_of_getElem? h2⟩, h3⟩
        refine .inr ⟨fl c, List.mem_map.2 ⟨c, hc, rfl⟩, q1, ?_⟩
        show x ∈ c.r.es.drop c.pos
        rw [(h.zero c hc).1]; exact q2
    · rintro (h1 | ⟨c', hc', q1, q2⟩)
      · simp at h1
      · obtain ⟨c, hc, rfl⟩ := List.mem_map.1 hc'
        have q3 : x ∈ c.r.es.drop c.pos := q2
        rw [(h.zero c hc).1] at q3
        obtain ⟨_, ⟨r, hr, hx⟩, h3⟩ := hm.2 ⟨c, hc, q1, q3⟩
        obtain ⟨j, hj⟩ := List.getElem?_of_mem hx
        exact ⟨⟨j, r.es, by rw [List.getElem?_map, hr]; rfl, hj⟩, h3⟩
  ages := by
    rw [List.pairwise_map]
    exact h.ages
  ord := fun c' hc' => by
    obtain ⟨c, hc, rfl⟩ := List.mem_map.1 hc'
    show Ord (c.r.es.drop c.pos)
    rw [(h.zero c hc).1]; exact (h.zero c hc).2
  count := by simp

/-- The row of cursors, in memory. -/
structure RowOk (w : World) (base g cap : Nat) (d : Array Cu) : Prop where
  row : OwnH w base g cap d
  cur : ∀ c ∈ d, CuAt w c
  low : ∀ c ∈ d, c.r.b < base
  high : ∀ c ∈ d, base ≤ c.blk ∧ ¬ c.blk = g
theorem RowOk.below {w w' : World} {base g cap : Nat} {d : Array Cu} (h : RowOk w base g cap d) (hb : Below w.heap.size w w') : RowOk w' base g cap d :=
  ⟨h.row.below hb h.row.lt.2, fun c hc => (h.cur c hc).below hb, h.low, h.high⟩
theorem HeapW.rowOk {w : World} {hp base g cap : Nat} {d : Array Cu} (h : HeapW w hp base g cap d) : RowOk w base g cap d := ⟨h.row, h.cur, h.low, fun c hc => ⟨(h.high c hc).1, (h.high c hc).2.1⟩⟩

/-- How the opening stands. -/
structure OInv (W : World) (hv : Nat) (l : List Rm) (lo : ByteArray) (hh : Bool) (hi : ByteArray) (k g cp : Nat) (d : Array Cu) (w : World) : Prop where
  below : Below W.heap.size W w
  hdr : w.cell? ⟨hv, 0, none⟩ = some (.slice (some ⟨g, 0, none⟩) d.size cp)
  free : ∀ j, w.frozen? ⟨hv, j, none⟩ = false
  lt : hv < w.heap.size
  own : W.heap.size < hv
  new : W.heap.size < g
  ne : ¬ hv = g
  apart : ∀ c ∈ d, W.heap.size < c.blk ∧ ¬ c.blk = hv
  row : RowOk w W.heap.size g cp d
  opened : OpenTo l lo hh hi k d.toList
  rg0 : w.cell? ⟨W.heap.size, 0, none⟩ = some (.string lo)
  rg1 : w.cell? ⟨W.heap.size, 1, none⟩ = some (.bool hh)
  rg2 : w.cell? ⟨W.heap.size, 2, none⟩ = some (.string hi)
theorem OInv.step {W : World} {hv : Nat} {l : List Rm} {lo hi : ByteArray} {hh : Bool} {k g cp : Nat} {d : Array Cu} {w w' : World} (h : OInv W hv l lo hh hi k g cp d w) (hb : Below w.heap.size w w') : OInv W hv l lo hh hi k g cp d w' where
  below := h.below.trans (hb.mono h.below.size)
  hdr := by rw [hb.cell (p := ⟨hv, 0, none⟩) h.lt]; exact h.hdr
  free := fun j => by rw [hb.frozen (p := ⟨hv, j, none⟩) h.lt]; exact h.free j
  lt := by have := hb.size; have := h.lt; omega
  own := h.own
  new := h.new
  ne := h.ne
  apart := h.apart
  row := h.row.below hb
  opened := h.opened
  rg0 := by rw [hb.cell (p := ⟨W.heap.size, 0, none⟩) (by have := h.own; have := h.lt; show W.heap.size < w.heap.size; omega)]; exact h.rg0
  rg1 := by rw [hb.cell (p := ⟨W.heap.size, 1, none⟩) (by have := h.own; have := h.lt; show W.heap.size < w.heap.size; omega)]; exact h.rg1
  rg2 := by rw [hb.cell (p := ⟨W.heap.size, 2, none⟩) (by have := h.own; have := h.lt; show W.heap.size < w.heap.size; omega)]; exact h.rg2

theorem cu_new (w : World) (p : Rm) (k : Nat) (hp : p.at w) (h0 : 0 < p.es.length) (hs : p.es.length ≤ 1048576) (hk : k ≤ 1048576) :
    CuAt (w.alloc (Obj.cells #[.slice (some ⟨p.b, p.off, none⟩) p.es.length p.cap, .int .i64 0, .int .i64 k] 126)) ⟨w.heap.size, p, 0, k⟩ where
  slice := by simp
  pos := by simp
  age := by simp
  free := fun j => World.ownsRow.frozenAt (World.ownsRow_lit (base := 0) (e := 126) (size := 3) w #[.slice (some ⟨p.b, p.off, none⟩) p.es.length p.cap, .int .i64 0, .int .i64 k] 1 (Nat.zero_le _) (by decide) rfl) j
  lt := by simp
  ents := hp.below ((Below.refl _ _).alloc (Nat.le_refl _) _)
  here := h0
  short := hs
  young := hk

theorem OInv.push {W : World} {hv : Nat} {l : List Rm} {lo hi : ByteArray} {hh : Bool} {k g cp : Nat} {d : Array Cu} {w w3 w4 : World} (h : OInv W hv l lo hh hi k g cp d w) {r p : Rm} (hr : l[k]? = some r) (hg : GoodR r.es) (hrb : r.b < W.heap.size) (hp : PartOf r p lo hh hi) (hat : p.at w) (h0 : 0 < p.es.length) (hk : k ≤ 1048576)
    (hb3 : Below (w.heap.size + 1) (w.alloc (Obj.cells #[.slice (some ⟨p.b, p.off, none⟩) p.es.length p.cap, .int .i64 0, .int .i64 k] 126)) w3) {g' cp' : Nat} (hO : OwnH w4 W.heap.size g' cp' (d.push ⟨w.heap.size, p, 0, k⟩)) (hgr : w3.grownBy w4 (some g)) (hgg : g = g' ∨ g' = w3.heap.size) :
    OInv W hv l lo hh hi (k + 1) g' cp' (d.push ⟨w.heap.size, p, 0, k⟩) (w4.setCell ⟨hv, 0, none⟩ (.slice (some ⟨g', 0, none⟩) (d.size + 1) cp')) := by
  have hbA : Below w.heap.size w (w.alloc (Obj.cells #[.slice (some ⟨p.b, p.off, none⟩) p.es.length p.cap, .int .i64 0, .int .i64 k] 126)) := (Below.refl _ _).alloc (Nat.le_refl _) _
  have hzA : (w.alloc (Obj.cells #[.slice (some ⟨p.b, p.off, none⟩) p.es.length p.cap, .int .i64 0, .int .i64 k] 126)).heap.size = w.heap.size + 1 := by simp
  have hnew := cu_new w p k hat h0 (by have := hp.len; have := hg.1.1; omega) hk
  generalize w.alloc (Obj.cells #[.slice (some ⟨p.b, p.off, none⟩) p.es.length p.cap, .int .i64 0, .int .i64 k] 126) = wA at *
  rw [← hzA] at hb3
  have hs3 := hb3.size
  have hs4 := hgr.size
  have hlt := h.lt
  have hown := h.own
  have hgl := h.row.row.lt
  have hne' : ¬ hv = g' := by
    rcases hgg with q | q
    · rw [← q]; exact h.ne
    · omega
  have h3 : OInv W hv l lo hh hi k g cp d w3 := (h.step hbA).step hb3
  have hC4 : Chg (fun k => k = g) w3 w4 := Chg.of_grown hgr (fun k hk => by cases hk; rfl)
  have hC5 : Chg (fun k => k = hv) w4 (w4.setCell ⟨hv, 0, none⟩ (.slice (some ⟨g', 0, none⟩) (d.size + 1) cp')) := Chg.of_set _ _ _ _ rfl
  have hs5 := hC5.size
  have c4 : w4.cell? ⟨hv, 0, none⟩ = some (.slice (some ⟨g, 0, none⟩) d.size cp) := by rw [hC4.cell (p := ⟨hv, 0, none⟩) h3.lt h.ne]; exact h3.hdr
  have hmem : ∀ c ∈ d.push ⟨w.heap.size, p, 0, k⟩, c ∈ d ∨ c = ⟨w.heap.size, p, 0, k⟩ := fun c hc => by simpa using hc
  have hcu : ∀ c ∈ d.push ⟨w.heap.size, p, 0, k⟩, CuAt w3 c ∧ ¬ c.blk = g ∧ ¬ c.blk = hv ∧ c.r.b < W.heap.size ∧ W.heap.size < c.blk ∧ c.blk < w3.heap.size := fun c hc => by
    rcases hmem c hc with hc | rfl
    · have q := h3.row.cur c hc
      exact ⟨q, (h.row.high c hc).2, (h.apart c hc).2, h.row.low c hc, (h.apart c hc).1, q.lt⟩
    · have q := hnew.below hb3
      refine ⟨q, ?_, ?_, ?_, ?_, q.lt⟩
      · show ¬ w.heap.size = g; omega
      · show ¬ w.heap.size = hv; omega
      · show p.b < W.heap.size
        rw [hp.blk]; exact hrb
      · show W.heap.size < w.heap.size; omega
  have hbig := h3.below.size
  exact {
    below := (Chg.below (Chg.below h3.below hC4 h3.below.size (fun k q => by omega)) hC5 (by omega) (fun k q => by omega))
    hdr := by rw [World.cell?_setCell_same _ _ _ c4]; simp
    free := fun j => by
      rw [World.frozen?_setCell, hC4.frozen (p := ⟨hv, j, none⟩) h3.lt h.ne]; exact h3.free j
    lt := by omega
    own := h.own
    new := by
      rcases hgg with q | q
      · rw [← q]; exact h.new
      · omega
    ne := hne'
    apart := fun c hc => ⟨(hcu c hc).2.2.2.2.1, (hcu c hc).2.2.1⟩
    row := {
      row := World.ownsRow.kept hO (grown_set w4 hv 0 _) (.inr (fun q => hne' (Option.some.inj q).symm))
      cur := fun c hc => by
        obtain ⟨q1, q2, q3, q4, q5, q6⟩ := hcu c hc
        exact (q1.chg hC4 q2 (by omega)).chg hC5 q3 (by omega)
      low := fun c hc => (hcu c hc).2.2.2.1
      high := fun c hc => by
        obtain ⟨q1, q2, q3, q4, q5, q6⟩ := hcu c hc
        refine ⟨by omega, ?_⟩
        rcases hgg with q | q
        · rw [← q]; exact q2
        · omega }
    opened := by
      have := openTo_push (B := w.heap.size) h.opened hr hg hp (fun c hc => by
        have := (h.row.cur c (by simpa using hc)).lt
        omega)
      simpa using this
    rg0 := by
      have hx : W.heap.size < w3.heap.size := by omega
      rw [hC5.cell (p := ⟨W.heap.size, 0, none⟩) (by show W.heap.size < w4.heap.size; omega) (by show ¬ W.heap.size = hv; omega), hC4.cell (p := ⟨W.heap.size, 0, none⟩) hx (by have := h.new; show ¬ W.heap.size = g; omega)]
      exact h3.rg0
    rg1 := by
      have hx : W.heap.size < w3.heap.size := by omega
      rw [hC5.cell (p := ⟨W.heap.size, 1, none⟩) (by show W.heap.size < w4.heap.size; omega) (by show ¬ W.heap.size = hv; omega), hC4.cell (p := ⟨W.heap.size, 1, none⟩) hx (by have := h.new; show ¬ W.heap.size = g; omega)]
      exact h3.rg1
    rg2 := by
      have hx : W.heap.size < w3.heap.size := by omega
      rw [hC5.cell (p := ⟨W.heap.size, 2, none⟩) (by show W.heap.size < w4.heap.size; omega) (by show ¬ W.heap.size = hv; omega), hC4.cell (p := ⟨W.heap.size, 2, none⟩) hx (by have := h.new; show ¬ W.heap.size = g; omega)]
      exact h3.rg2 }
end Go.Proofs.Ytjphalbjimggcae
