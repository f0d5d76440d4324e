import Derived.Test.YtlgeffinhbodeaeQTabP
import Derived.Test.YtlgeffinhbodeaeQRunsO
import Derived.Test.YtlgeffinhbodeaeQStM
/-
  Tablets of the call's own: toTablet, toTabletS, toStore.
-/
namespace Go.Proofs.Ytlgeffinhbodeae
open Go.ChangeShapes Go.WideShapes Go.ChangeAt Go.RowKit Go.Deep
set_option linter.unusedVariables false
set_option linter.unusedSimpArgs false
set_option maxRecDepth 100000

theorem OwnR.mono {w : World} {base base' g : Nat} {us : List Value} (h : OwnR w base g us) (hb : base' ≤ base) : OwnR w base' g us := by
  refine ⟨h.1, ?_⟩
  rcases h.2 with hn | ⟨g', cap', cur, hv, h1, rest⟩
  · exact .inl hn
  · exact .inr ⟨g', cap', cur, hv, Nat.le_trans hb h1, rest⟩
theorem OwnRuns.mono {w : World} {base base' g : Nat} {l : List (Nat × List Ent)} (h : OwnRuns w base g l) (hb : base' ≤ base) : OwnRuns w base' g l :=
  ⟨h.row.mono hb, ⟨h.rows.1, fun p hp => (h.rows.2 p hp).mono hb⟩, h.ne, h.short⟩
theorem OwnR.setNe {w : World} {base g : Nat} {us : List Value} (h : OwnR w base g us) (g' k : Nat) (u : Value) (hne : g ≠ g') : OwnR (w.setCell ⟨g', k, none⟩ u) base g us :=
  World.ownsRow.kept h (grown_set w g' k u) (.inr (fun q => hne (Option.some.inj q)))
theorem OwnRuns.setNe {w : World} {base g : Nat} {l : List (Nat × List Ent)} (h : OwnRuns w base g l) (g' k : Nat) (u : Value) (hne : g' < g) : OwnRuns (w.setCell ⟨g', k, none⟩ u) base g l :=
  ⟨h.row.setNe g' k u (by omega), ⟨h.rows.1, fun p hp => (h.rows.2 p hp).setNe g' k u (by have := h.ne p hp; omega)⟩, h.ne, h.short⟩

/-- A tablet of the call's own: its first row, the block of its runs, and those. -/
structure Tw where
  lo : ByteArray
  g : Nat
  l : List (Nat × List Ent)
def Tw.pr (t : Tw) : Pr := (t.lo, .slice (some ⟨t.g, 0, none⟩) t.l.length t.l.length)
def Tw.tb (t : Tw) : Tb := ⟨t.lo, t.l.map Prod.snd⟩
def Tn.tb (t : Tn) : Tb := ⟨t.lo, esOf t.rs⟩
structure OwnTabs (w : World) (base g : Nat) (ts : List Tw) : Prop where
  row : OwnP w base g ts.length (ts.map Tw.pr)
  tabs : ∀ t ∈ ts, OwnRuns w base t.g t.l
  ne : ∀ t ∈ ts, g < t.g
  up : ts.Pairwise fun a b => a.g < b.g ∧ ∀ p ∈ a.l, p.1 < b.g
  short : ∀ t ∈ ts, t.l.length + totL t.l ≤ 1048576
theorem OwnTabs.lt {w : World} {base g : Nat} {ts : List Tw} (h : OwnTabs w base g ts) : base ≤ g ∧ g < w.heap.size := h.row.lt
theorem OwnTabs.below {w w' : World} {base g : Nat} {ts : List Tw} (h : OwnTabs w base g ts) (hb : Below w.heap.size w w') : OwnTabs w' base g ts :=
  ⟨h.row.below hb h.row.lt.2, fun t ht => (h.tabs t ht).below hb, h.ne, h.up, h.short⟩

theorem prs_set {l : List Tw} {t : Tw} {n k : Nat} (hk : l.length = k) (hn : k < n) :
    (l.map Tw.pr ++ List.replicate (n - k) zeroP).set k t.pr = (l ++ [t]).map Tw.pr ++ List.replicate (n - (k + 1)) zeroP := by
  rw [List.set_append_right _ _ (by simp [hk])]
  have : n - k = (n - (k + 1)) + 1 := by omega
  rw [this, List.replicate_succ]
  simp [hk]
theorem tbs_take {ts : List Tn} {k : Nat} {t : Tn} (h : ts[k]? = some t) : (ts.take (k + 1)).map Tn.tb = (ts.take k).map Tn.tb ++ [t.tb] := by
  rw [List.take_add_one, h]; simp
theorem wt_le {t : Tn} {n : Nat} (h : wt t ≤ n) : t.rs.length + tot t.rs ≤ n := by unfold wt at h; omega
end Go.Proofs.Ytlgeffinhbodeae

/-
  Tablets in memory, each with runs that are not nil: the reading view.
-/
namespace Go.Proofs.Ytlgeffinhbodeae
open Go.ChangeShapes Go.WideShapes Go.ChangeAt Go.RowKit Go.Deep
set_option linter.unusedVariables false
set_option linter.unusedSimpArgs false
set_option maxRecDepth 100000

/-- A tablet: its first row, where its runs lie, and what they are. -/
structure Tm where
  lo : ByteArray
  b : Nat
  off : Nat
  cap : Nat
  l : List Rm
abbrev Tm.u (t : Tm) : Value := .slice (some ⟨t.b, t.off, none⟩) t.l.length t.cap
def Tm.tb (t : Tm) : Tb := ⟨t.lo, esM t.l⟩
structure Tm.at (w : World) (t : Tm) : Prop where
  rms : RmsAt w t.b t.off t.l
  lt : t.b < w.heap.size
  len : t.l.length ≤ t.cap
  cap : t.cap ≤ maxLen
theorem Tm.at.below {w w' : World} {t : Tm} (h : t.at w) (hb : Below w.heap.size w w') : t.at w' := ⟨h.rms.below hb h.lt, by have := hb.size; have := h.lt; omega, h.len, h.cap⟩
def TmsAt (w : World) (b off : Nat) (ts : List Tm) : Prop := ∀ i t, ts[i]? = some t → w.cell? ⟨b, off + i * 2, none⟩ = some (.string t.lo) ∧ w.cell? ⟨b, off + i * 2 + 1, none⟩ = some t.u ∧ t.at w
theorem TmsAt.below {w w' : World} {b off : Nat} {ts : List Tm} (h : TmsAt w b off ts) (hb : Below w.heap.size w w') (hlt : b < w.heap.size) : TmsAt w' b off ts := by
  intro i t ht
  obtain ⟨h1, h2, h3⟩ := h i t ht
  exact ⟨by rw [hb.cell (p := ⟨b, off + i * 2, none⟩) (by exact hlt)]; exact h1, by rw [hb.cell (p := ⟨b, off + i * 2 + 1, none⟩) (by exact hlt)]; exact h2, h3.below hb⟩
structure OkTm (t : Tm) : Prop where
  ents : okM t.l
  runs : t.l.length ≤ 1048576
  lo : t.lo.size ≤ maxLen
def okTs (ts : List Tm) : Prop := ∀ t ∈ ts, OkTm t

def Tw.tm (t : Tw) : Tm := ⟨t.lo, t.g, 0, t.l.length, rmsOf t.l⟩
theorem Tw.tm_tb (t : Tw) : t.tm.tb = t.tb := by simp [Tw.tm, Tm.tb, Tw.tb, esM_rms]
theorem tms_tbs (ts : List Tw) : (ts.map Tw.tm).map Tm.tb = ts.map Tw.tb := by simp [List.map_map, Function.comp_def, Tw.tm_tb]
theorem OwnTabs.at {w : World} {base g : Nat} {ts : List Tw} (h : OwnTabs w base g ts) : TmsAt w g 0 (ts.map Tw.tm) := by
  intro i t ht
  rw [List.getElem?_map] at ht
  cases hp : ts[i]? with
  | none => rw [hp] at ht; cases ht
  | some p =>
    rw [hp] at ht
    simp at ht
    subst ht
    have hm := List.mem_of_getElem? hp
    obtain ⟨c0, c1⟩ := h.row.cells (p := p.pr) (i := i) (by rw [List.getElem?_map, hp]; rfl)
    rw [Nat.zero_add]
    have hs := h.short p hm
    refine ⟨c0, ?_, ⟨(h.tabs p hm).at, (h.tabs p hm).lt.2, by simp [Tw.tm, rmsOf_len], ?_⟩⟩
    · rw [c1]; simp [Tw.pr, Tw.tm, Tm.u, rmsOf_len]
    · have : p.tm.cap = p.l.length := rfl
      unfold maxLen; omega
theorem ok_tms {ts : List Tw} {tn : List Tn} (h : ts.map Tw.tb = tn.map Tn.tb) (hok : okT tn) (hs : ∀ t ∈ ts, t.l.length + totL t.l ≤ 1048576) : okTs (ts.map Tw.tm) := by
  intro t ht
  obtain ⟨p, hp, rfl⟩ := List.mem_map.1 ht
  have h1 : p.tb ∈ tn.map Tn.tb := by rw [← h]; exact List.mem_map.2 ⟨p, hp, rfl⟩
  obtain ⟨q, hq, he⟩ := List.mem_map.1 h1
  obtain ⟨a1, a2⟩ := hok q hq
  unfold Tn.tb Tw.tb at he
  simp only [Tb.mk.injEq] at he
  refine ⟨okM_of (okL_of he.2.symm a2), ?_, ?_⟩
  · have := hs p hp
    simp [Tw.tm, rmsOf_len]; omega
  · show p.lo.size ≤ maxLen
    rw [← he.1]; exact a1
end Go.Proofs.Ytlgeffinhbodeae

