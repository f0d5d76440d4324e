/-
  Runs of the call's own; eqRunS.
-/
import Derived.Test.YtlgeffinhbodeaeQRuns2
import Derived.Test.YtlgeffinhbodeaeQRms
namespace Go.Proofs.Ytlgeffinhbodeae
open Go.ChangeShapes Go.WideShapes Go.ChangeAt Go.RowKit Go.Deep
set_option linter.unusedVariables false
set_option linter.unusedSimpArgs false
set_option maxRecDepth 100000

def rmsOf (l : List (Nat × List Ent)) : List Rm := l.map fun p => ⟨p.1, 0, p.2.length, p.2⟩
theorem rmsOf_len (l : List (Nat × List Ent)) : (rmsOf l).length = l.length := by simp [rmsOf]
theorem esM_rms (l : List (Nat × List Ent)) : esM (rmsOf l) = l.map Prod.snd := by simp [rmsOf, esM]
/-- Runs of the call's own: their row, and theirs. -/
structure OwnRuns (w : World) (base g : Nat) (l : List (Nat × List Ent)) : Prop where
  row : OwnR w base g (usOf l)
  rows : OwnRs w base l
  ne : ∀ p ∈ l, g < p.1
  short : ∀ p ∈ l, p.2.length ≤ 1048576
theorem OwnRuns.lt {w : World} {base g : Nat} {l : List (Nat × List Ent)} (h : OwnRuns w base g l) : base ≤ g ∧ g < w.heap.size := h.row.lt
theorem OwnRuns.below {w w' : World} {base g : Nat} {l : List (Nat × List Ent)} (h : OwnRuns w base g l) (hb : Below w.heap.size w w') : OwnRuns w' base g l :=
  ⟨h.row.below hb h.row.lt.2, ⟨h.rows.1, fun p hp => (h.rows.2 p hp).below hb (h.rows.2 p hp).lt.2⟩, h.ne, h.short⟩
theorem OwnRuns.at {w : World} {base g : Nat} {l : List (Nat × List Ent)} (h : OwnRuns w base g l) : RmsAt w g 0 (rmsOf l) := by
  intro i r hr
  unfold rmsOf at hr
  rw [List.getElem?_map] at hr
  cases hp : l[i]? with
  | none => rw [hp] at hr; cases hr
  | some p =>
    rw [hp] at hr
    simp at hr
    subst hr
    have hm := List.mem_of_getElem? hp
    refine ⟨?_, ⟨(h.rows.2 p hm).at, (h.rows.2 p hm).lt.2, Nat.le_refl _, Nat.le_trans (h.short p hm) (by decide)⟩⟩
    rw [Nat.zero_add]
    exact h.row.cell (usOf_get hp)
theorem inEnts_rm {w : World} {r : Rm} (h : r.at w) : InEnts w (.slice (some ⟨r.b, r.off, none⟩) r.es.length r.cap) r.es := .inr ⟨r.b, r.off, r.cap, rfl, h.ents, h.lt, h.len, h.cap⟩
set_option maxHeartbeats 2000000 in
theorem eqRunS_same (b off cap b' off' cap' : Nat) (l l' : List Rm) (w : World) (h : RmsAt w b off l) (h' : RmsAt w b' off' l') (hB : b < w.heap.size) (hB' : b' < w.heap.size) (he : esM l = esM l') (hn : l.length ≤ 1048576) :
    Calls Try.prog 155 #[.slice (some ⟨b, off, none⟩) l.length cap, .slice (some ⟨b', off', none⟩) l'.length cap'] w fun e w' => e = .returned (.bool true) ∧ Below w.heap.size w w' := by
  have hll : l'.length = l.length := by have := congrArg List.length he; simpa using this.symm
  rw [hll]
  have HE : Hid (RmsAt w b off l ∧ RmsAt w b' off' l' ∧ esM l = esM l' ∧ l'.length = l.length) := ⟨h, h', he, hll⟩
  clear h h' he hll
  go_enter Try.func155, Try.ntmps155
  go_wp2_with fail
  go_loopw [5] (fun i wr => ∃ k : Nat, k ≤ l.length ∧ i = .int .i64 k ∧ Below w.heap.size w wr) (fun i _ => l.length - (intOf i).toNat)
  case atStart => exact ⟨0, Nat.zero_le _, rfl, Below.refl _ _⟩
  case round =>
    obtain ⟨k, hk, rfl, hb⟩ := hrel
    have hs := hb.size
    by_cases hlt : k < l.length
    · obtain ⟨r, hr⟩ : ∃ r, l[k]? = some r := ⟨_, List.getElem?_eq_getElem hlt⟩
      obtain ⟨r', hr'⟩ : ∃ r', l'[k]? = some r' := ⟨_, List.getElem?_eq_getElem (by have := HE.out.2.2.2; omega)⟩
      have hes : r'.es = r.es := by
        have h1 := congrArg (fun x => x[k]?) HE.out.2.2.1
        simp only [List.getElem?_map, hr, hr'] at h1
        simpa using h1.symm
      obtain ⟨y0, y1⟩ := rms_out (HE.out.1.below hb hB) (by omega) hr
      obtain ⟨z0, z1⟩ := rms_out (HE.out.2.1.below hb hB') (by omega) hr'
      have HY : Hid (∀ n : Out wr, InEnts n.u (.slice (some ⟨r.b, r.off, none⟩) r.es.length r.cap) r.es ∧ InEnts n.u (.slice (some ⟨r'.b, r'.off, none⟩) r'.es.length r'.cap) r.es) := fun n => ⟨inEnts_rm (y1 n), by
        have h := inEnts_rm (z1 n)
        rw [hes] at h ⊢
        exact h⟩
      clear y1 z1 hr hr' hes
      have zk : (k : Int) < (l.length : Int) := by omega
      have inh : Nonempty (Out wr) := ⟨⟨wr, Below.refl _ _⟩⟩
      go_upto_region 6 with fail
      refine wp_region_out (by kernel_rfl) (by kernel_rfl) ?_
      repeat (go_big_quiet_step ((go_at_call 179; exact Calls.out_of (eqRun_any _ _ r.es _ (HY.out _).1 (HY.out _).2))))
      refine wpQuiet_nil ?_
      rintro wy ⟨⟨wx, hby⟩, rfl⟩
      have hb2 := hb.trans (hby.mono hs)
      clear y0 z0
      go_wp2_with fail
      go_roundw
      case rel => exact ⟨k + 1, by omega, by go_num, hb2⟩
      case measure => go_light; simp [intOf]; omega
    · have zk : ¬ (k : Int) < (l.length : Int) := by omega
      go_wp2_with fail
      go_ret
      exact ⟨rfl, hb⟩
/-- How many entries. -/
def totL : List (Nat × List Ent) → Nat
  | [] => 0
  | p :: l => p.2.length + totL l
theorem totL_append : ∀ (a b : List (Nat × List Ent)), totL (a ++ b) = totL a + totL b
  | [], b => by simp [totL]
  | p :: a, b => by simp [totL, totL_append a b]; omega
theorem totL_take {l : List (Nat × List Ent)} {k : Nat} {p : Nat × List Ent} (h : l[k]? = some p) : totL (l.take (k + 1)) = totL (l.take k) + p.2.length := by
  rw [List.take_add_one, h, totL_append]; simp [totL]
theorem totL_le (l : List (Nat × List Ent)) (k : Nat) : totL (l.take k) ≤ totL l := by
  have h := totL_append (l.take k) (l.drop k)
  rw [List.take_append_drop] at h
  omega
theorem tot_of : ∀ (l : List (Nat × List Ent)) (rs : List Rn), l.map Prod.snd = esOf rs → totL l = tot rs
  | [], [], _ => rfl
  | [], r :: rs, h => by simp [esOf] at h
  | p :: l, [], h => by simp [esOf] at h
  | p :: l, r :: rs, h => by
    simp [esOf] at h
    have := tot_of l rs h.2
    simp [totL, tot, this, h.1]
def okL (l : List (Nat × List Ent)) : Prop := ∀ p ∈ l, ∀ e ∈ p.2, e.ok
theorem okM_of {l : List (Nat × List Ent)} (h : okL l) : okM (rmsOf l) := by
  intro r hr e he
  unfold rmsOf at hr
  obtain ⟨p, hp, rfl⟩ := List.mem_map.1 hr
  exact h p hp e he
theorem okL_of {l : List (Nat × List Ent)} {rs : List Rn} (h : l.map Prod.snd = esOf rs) (ho : okR rs) : okL l := by
  intro p hp e he
  have : p.2 ∈ esOf rs := by rw [← h]; exact List.mem_map.2 ⟨p, hp, rfl⟩
  unfold esOf at this
  obtain ⟨r, hr, q⟩ := List.mem_map.1 this
  exact ho r hr e (by rw [q]; exact he)
theorem toRuns_own (v : Value) (rs : List Rn) (w : World) (h : InRuns w v rs) (h1 : rs.length + tot rs ≤ 1048576) :
    Calls Try.prog 153 #[v] w fun e w' =>
      ∃ (g : Nat) (l : List (Nat × List Ent)), e = .returned (.slice (some ⟨g, 0, none⟩) l.length l.length) ∧ OwnRuns w' w.heap.size g l ∧ l.map Prod.snd = esOf rs ∧ l.length + totL l ≤ 1048576 ∧ Below w.heap.size w w' := by
  refine (toRunS_any v rs w h h1).mono ?_
  rintro e w' ⟨g, l, he, hm, hR, hO, hne, hb⟩
  have ht := tot_of l rs hm
  have hl : l.length = rs.length := by have := congrArg List.length hm; simpa [esOf] using this
  refine ⟨g, l, he, ⟨hR, hO, hne, fun p hp => ?_⟩, hm, by omega, hb⟩
  obtain ⟨i, hi⟩ := List.getElem?_of_mem hp
  have h2 := totL_take hi
  have h3 := totL_le l (i + 1)
  omega
theorem eqRunS_own (base g base' g' : Nat) (l l' : List (Nat × List Ent)) (w : World) (h : OwnRuns w base g l) (h' : OwnRuns w base' g' l') (he : l.map Prod.snd = l'.map Prod.snd) (hn : l.length ≤ 1048576) :
    Calls Try.prog 155 #[.slice (some ⟨g, 0, none⟩) l.length l.length, .slice (some ⟨g', 0, none⟩) l'.length l'.length] w fun e w' => e = .returned (.bool true) ∧ Below w.heap.size w w' := by
  have := eqRunS_same g 0 l.length g' 0 l'.length (rmsOf l) (rmsOf l') w h.at h'.at h.lt.2 h'.lt.2 (by rw [esM_rms, esM_rms]; exact he) (by rw [rmsOf_len]; exact hn)
  rw [rmsOf_len, rmsOf_len] at this
  exact this
end Go.Proofs.Ytlgeffinhbodeae
