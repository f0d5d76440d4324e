/-
  eqRunS, markRunS over runs of the call's own.
-/
import Derived.Test.YtjphalbjimggcadRuns2
import Derived.Test.YtjphalbjimggcadMrgR
import Derived.Test.YtjphalbjimggcadMrgS
import Derived.Test.YtjphalbjimggcadMarkC
namespace Go.Proofs.Ytjphalbjimggcad
open Go.ChangeShapes Go.WideShapes Go.ChangeAt Go.RowKit Go.Deep
set_option linter.unusedVariables false
set_option linter.unusedSimpArgs false
set_option maxRecDepth 100000

def rmsOf (l : List (Nat × List Ent)) : List Rm := l.map fun p => ⟨p.1, 0, p.2.length, p.2⟩
theorem rmsOf_len (l : List (Nat × List Ent)) : (rmsOf l).length = l.length := by simp [rmsOf]
theorem esM_rms (l : List (Nat × List Ent)) : esM (rmsOf l) = l.map Prod.snd := by simp [rmsOf, esM]
/-- Runs of the call's own: their row, and theirs. -/
structure OwnRuns (w : World) (base g : Nat) (l : List (Nat × List Ent)) : Prop where
  row : OwnR w base g (usOf l)
  rows : OwnRs w base l
  ne : ∀ p ∈ l, g < p.1
  short : ∀ p ∈ l, p.2.length ≤ 1048576
theorem OwnRuns.lt {w : World} {base g : Nat} {l : List (Nat × List Ent)} (h : OwnRuns w base g l) : base ≤ g ∧ g < w.heap.size := h.row.lt
theorem OwnRuns.below {w w' : World} {base g : Nat} {l : List (Nat × List Ent)} (h : OwnRuns w base g l) (hb : Below w.heap.size w w') : OwnRuns w' base g l :=
  ⟨h.row.below hb h.row.lt.2, ⟨h.rows.1, fun p hp => (h.rows.2 p hp).below hb (h.rows.2 p hp).lt.2⟩, h.ne, h.short⟩
theorem OwnRuns.at {w : World} {base g : Nat} {l : List (Nat × List Ent)} (h : OwnRuns w base g l) : RmsAt w g 0 (rmsOf l) := by
  intro i r hr
  unfold rmsOf at hr
  rw [List.getElem?_map] at hr
  cases hp : l[i]? with
  | none => rw [hp] at hr; cases hr
  | some p =>
    rw [hp] at hr
    simp at hr
    subst hr
    have hm := List.mem_of_getElem? hp
    refine ⟨?_, ⟨(h.rows.2 p hm).at, (h.rows.2 p hm).lt.2, Nat.le_refl _, Nat.le_trans (h.short p hm) (by decide)⟩⟩
    rw [Nat.zero_add]
    exact h.row.cell (usOf_get hp)
theorem inEnts_rm {w : World} {r : Rm} (h : r.at w) : InEnts w (.slice (some ⟨r.b, r.off, none⟩) r.es.length r.cap) r.es := .inr ⟨r.b, r.off, r.cap, rfl, h.ents, h.lt, h.len, h.cap⟩

set_option maxHeartbeats 2000000 in
theorem eqRunS_same (b off cap b' off' cap' : Nat) (l l' : List Rm) (w : World) (h : RmsAt w b off l) (h' : RmsAt w b' off' l') (hB : b < w.heap.size) (hB' : b' < w.heap.size) (he : esM l = esM l') (hn : l.length ≤ 1048576) :
    Calls Try.prog 13 #[.slice (some ⟨b, off, none⟩) l.length cap, .slice (some ⟨b', off', none⟩) l'.length cap'] w fun e w' => e = .returned (.bool true) ∧ Below w.heap.size w w' := by
  have hll : l'.length = l.length := by have := congrArg List.length he; simpa using this.symm
  rw [hll]
  have HE : Hid (RmsAt w b off l ∧ RmsAt w b' off' l' ∧ esM l = esM l' ∧ l'.length = l.length) := ⟨h, h', he, hll⟩
  clear h h' he hll
  go_enter Try.func13, Try.ntmps13
  go_wp2_with fail
  go_loopw [5] (fun i wr => ∃ k : Nat, k ≤ l.length ∧ i = .int .i64 k ∧ Below w.heap.size w wr) (fun i _ => l.length - (intOf i).toNat)
  case atStart => exact ⟨0, Nat.zero_le _, rfl, Below.refl _ _⟩
  case round =>
    obtain ⟨k, hk, rfl, hb⟩ := hrel
    have hs := hb.size
    by_cases hlt : k < l.length
    · obtain ⟨r, hr⟩ : ∃ r, l[k]? = some r := ⟨_, List.getElem?_eq_getElem hlt⟩
      obtain ⟨r', hr'⟩ : ∃ r', l'[k]? = some r' := ⟨_, List.getElem?_eq_getElem (by have := HE.out.2.2.2; omega)⟩
      have hes : r'.es = r.es := by
        have h1 := congrArg (fun x => x[k]?) HE.out.2.2.1
        simp only [List.getElem?_map, hr, hr'] at h1
        simpa using h1.symm
      obtain ⟨y0, y1⟩ := rms_out (HE.out.1.below hb hB) (by omega) hr
      obtain ⟨z0, z1⟩ := rms_out (HE.out.2.1.below hb hB') (by omega) hr'
      have HY : Hid (∀ n : Out wr, InEnts n.u (.slice (some ⟨r.b, r.off, none⟩) r.es.length r.cap) r.es ∧ InEnts n.u (.slice (some ⟨r'.b, r'.off, none⟩) r'.es.length r'.cap) r.es) := fun n => ⟨inEnts_rm (y1 n), by
        have h := inEnts_rm (z1 n)
        rw [hes] at h ⊢
        exact h⟩
      clear y1 z1 hr hr' hes
      have zk : (k : Int) < (l.length : Int) := by omega
      have inh : Nonempty (Out wr) := ⟨⟨wr, Below.refl _ _⟩⟩
      go_upto_region 6 with fail
      refine wp_region_out (by kernel_rfl) (by kernel_rfl) ?_
      repeat (go_big_quiet_step ((go_at_call 19; exact Calls.out_of (eqRun_any _ _ r.es _ (HY.out _).1 (HY.out _).2))))
      refine wpQuiet_nil ?_
      rintro wy ⟨⟨wx, hby⟩, rfl⟩
      have hb2 := hb.trans (hby.mono hs)
      clear y0 z0
      go_wp2_with fail
      go_roundw
      case rel => exact ⟨k + 1, by omega, by go_num, hb2⟩
      case measure => go_light; simp [intOf]; omega
    · have zk : ¬ (k : Int) < (l.length : Int) := by omega
      go_wp2_with fail
      go_ret
      exact ⟨rfl, hb⟩

def RowsOf (l : List (Nat × List Ent)) (k : Nat) : Prop := ∃ p ∈ l, k = p.1
/-- How many entries. -/
def totL : List (Nat × List Ent) → Nat
  | [] => 0
  | p :: l => p.2.length + totL l
theorem totL_append : ∀ (a b : List (Nat × List Ent)), totL (a ++ b) = totL a + totL b
  | [], b => by simp [totL]
  | p :: a, b => by simp [totL, totL_append a b]; omega
theorem totL_take {l : List (Nat × List Ent)} {k : Nat} {p : Nat × List Ent} (h : l[k]? = some p) : totL (l.take (k + 1)) = totL (l.take k) + p.2.length := by
  rw [List.take_add_one, h, totL_append]; simp [totL]
theorem totL_le (l : List (Nat × List Ent)) (k : Nat) : totL (l.take k) ≤ totL l := by
  have h := totL_append (l.take k) (l.drop k)
  rw [List.take_append_drop] at h
  omega
theorem tot_of : ∀ (l : List (Nat × List Ent)) (rs : List Rn), l.map Prod.snd = esOf rs → totL l = tot rs
  | [], [], _ => rfl
  | [], r :: rs, h => by simp [esOf] at h
  | p :: l, [], h => by simp [esOf] at h
  | p :: l, r :: rs, h => by
    simp [esOf] at h
    have := tot_of l rs h.2
    simp [totL, tot, this, h.1]

set_option maxHeartbeats 2000000 in
theorem markRunS_core (base g : Nat) (l : List (Nat × List Ent)) (w : World) (h : OwnRuns w base g l) (hn : l.length + totL l ≤ 1048576) :
    Calls Try.prog 14 #[.slice (some ⟨g, 0, none⟩) l.length l.length, .int .i64 1] w fun e w' =>
      ∃ a : Int, e = .returned (.int .i64 a) ∧ 0 ≤ a ∧ Chg (RowsOf l) w w' := by
  have HO : Hid (OwnRuns w base g l) := h
  clear h
  go_enter Try.func14, Try.ntmps14
  go_wp2_with fail
  go_loopw [1, 5] (fun c i wr => ∃ (m : Nat) (a : Int), m ≤ l.length ∧ i = .int .i64 m ∧ c = .int .i64 a ∧ 0 < a ∧ a ≤ 1 + totL (l.take m) * 6 ∧ OwnR wr base g (usOf l) ∧ (∀ p ∈ l.drop m, OwnE wr base p.1 p.2.length p.2) ∧ Chg (RowsOf l) w wr) (fun _ i _ => l.length - (intOf i).toNat)
  case atStart => exact ⟨0, 1, Nat.zero_le _, rfl, rfl, by omega, by simp [totL], HO.out.row, fun p hp => HO.out.rows.2 p (by simpa using hp), Chg.refl _ _⟩
  case round =>
    obtain ⟨m, a, hm, rfl, rfl, ha0, ha1, hR, hE, hC⟩ := hrel
    have HR : Hid (OwnR wr base g (usOf l) ∧ (∀ p ∈ l.drop m, OwnE wr base p.1 p.2.length p.2) ∧ Chg (RowsOf l) w wr) := ⟨hR, hE, hC⟩
    have HA : Hid (a ≤ 1 + totL (l.take m) * 6) := ha1
    have hab : a ≤ 2 ^ 30 := by have := totL_le l m; omega
    clear hR hE hC ha1
    by_cases hlt : m < l.length
    · obtain ⟨p, hp⟩ : ∃ p, l[m]? = some p := ⟨_, List.getElem?_eq_getElem hlt⟩
      have c0 := HR.out.1.cell (usOf_get hp)
      have hpl : p.2.length ≤ 1048576 := by have := totL_take hp; have := totL_le l (m + 1); omega
      have hdr : l.drop m = p :: l.drop (m + 1) := by
        obtain ⟨h1, h2⟩ := List.getElem?_eq_some_iff.1 hp
        rw [← h2]; exact List.drop_eq_getElem_cons h1
      have HP : Hid (l[m]? = some p ∧ l.drop m = p :: l.drop (m + 1)) := ⟨hp, hdr⟩
      have HPo : Hid (OwnE wr base p.1 p.2.length p.2) := HR.out.2.1 p (by rw [hdr]; simp)
      clear hp hdr
      have zm : (m : Int) < (l.length : Int) := by omega
      go_wp2_with fail
      refine (markEntryS_core base p.1 p.2.length p.2 a _ HPo.out ha0 hab hpl).mono ?_
      rintro e w1 ⟨fs, rfl, _, _, _, hg1⟩
      have hlg := List.mem_of_getElem? HP.out.1
      have hpw : ∀ q ∈ l.drop (m + 1), q.1 ≠ p.1 := by
        have h1 : (l.drop m).Pairwise (fun p q => p.1 < q.1) := HO.out.rows.1.drop
        rw [HP.out.2] at h1
        intro q hq
        have := (List.pairwise_cons.1 h1).1 q hq
        omega
      have HN : Hid (OwnR w1 base g (usOf l) ∧ (∀ q ∈ l.drop (m + 1), OwnE w1 base q.1 q.2.length q.2) ∧ Chg (RowsOf l) w w1) := by
        refine ⟨World.ownsRow.kept HR.out.1 hg1 (.inr (fun q => ?_)), fun q hq => World.ownsRow.kept (HR.out.2.1 q (by rw [HP.out.2]; exact List.mem_cons_of_mem _ hq)) hg1 (.inr (fun x => hpw q hq (Option.some.inj x))), HR.out.2.2.trans (Chg.of_grown hg1 (fun k hk => by cases hk; exact ⟨p, hlg, rfl⟩))⟩
        have h1 := HO.out.ne p hlg
        have h2 : g = p.1 := Option.some.inj q
        omega
      have HA2 : Hid (a + p.2.length * 6 ≤ 1 + totL (l.take (m + 1)) * 6) := by
        have := HA.out
        have := totL_take HP.out.1
        show a + p.2.length * 6 ≤ 1 + totL (l.take (m + 1)) * 6
        omega
      clear hg1 hpw hlg c0
      go_wp2_with fail
      go_roundw
      case rel => exact ⟨m + 1, a + p.2.length * 6, by omega, by go_num, rfl, by omega, HA2.out, HN.out.1, HN.out.2.1, HN.out.2.2⟩
      case measure => go_light; simp [intOf]; omega
    · have zm : ¬ (m : Int) < (l.length : Int) := by omega
      go_wp2_with fail
      go_ret
      exact ⟨a, rfl, by omega, HR.out.2.2⟩
end Go.Proofs.Ytjphalbjimggcad
