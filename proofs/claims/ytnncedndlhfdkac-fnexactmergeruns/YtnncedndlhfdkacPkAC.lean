import Derived.Sort.LotB
import Derived.Deep.RegionHeld3
import Derived.Test.YtnncedndlhfdkacPkAB
import Derived.Test.YtnncedndlhfdkacPkAA
/-
  Runs in memory, each a slice that is not nil; spec.l3GoodRuns, impl.validStack, spec.l3Says.
-/
namespace Go.Proofs.Ytnncedndlhfdkac
open Go.ChangeShapes Go.WideShapes Go.ChangeAt Go.RowKit Go.Deep
set_option linter.unusedVariables false
set_option linter.unusedSimpArgs false

/-- A run: where its entries lie, and what they are. -/
structure Rm where
  b : Nat
  off : Nat
  cap : Nat
  es : List Ent
abbrev Rm.u (r : Rm) : Value := .slice (some ⟨r.b, r.off, none⟩) r.es.length r.cap
structure Rm.at (w : World) (r : Rm) : Prop where
  ents : EntsAt w r.b r.off r.es
  lt : r.b < w.heap.size
  len : r.es.length ≤ r.cap
  cap : r.cap ≤ maxLen
theorem Rm.at.below {w w' : World} {r : Rm} (h : r.at w) (hb : Below w.heap.size w w') : r.at w' := ⟨h.ents.below hb h.lt, by have := hb.size; have := h.lt; omega, h.len, h.cap⟩
def RmsAt (w : World) (b off : Nat) (l : List Rm) : Prop := ∀ i r, l[i]? = some r → w.cell? ⟨b, off + i, none⟩ = some r.u ∧ r.at w
theorem RmsAt.below {w w' : World} {b off : Nat} {l : List Rm} (h : RmsAt w b off l) (hb : Below w.heap.size w w') (hlt : b < w.heap.size) : RmsAt w' b off l := by
  intro i r hr
  obtain ⟨h1, h2⟩ := h i r hr
  exact ⟨by rw [hb.cell (p := ⟨b, off + i, none⟩) (by exact hlt)]; exact h1, h2.below hb⟩
def okM (l : List Rm) : Prop := ∀ r ∈ l, ∀ e ∈ r.es, e.ok
abbrev esM (l : List Rm) : List (List Ent) := l.map Rm.es

theorem goodRs_of {l : List Rm} (h : l.length ≤ 50) (k : ∀ r ∈ l, GoodR r.es) : GoodRs (esM l) := by
  refine ⟨by simpa using h, fun es he => ?_⟩
  obtain ⟨r, hr, rfl⟩ := List.mem_map.1 he
  exact k r hr
theorem goodRs_mem {l : List Rm} (h : GoodRs (esM l)) {r : Rm} (hr : r ∈ l) : GoodR r.es := h.2 _ (List.mem_map.2 ⟨r, hr, rfl⟩)
theorem mem_take_succ {α : Type} {l : List α} {k : Nat} {a x : α} (h : l[k]? = some a) (hx : x ∈ l.take (k + 1)) : x ∈ l.take k ∨ x = a := by
  rw [List.take_add_one, h] at hx
  simpa using hx

set_option maxHeartbeats 1000000 in
theorem goodRuns_core (b off cap : Nat) (l : List Rm) (w : World) (hR : RmsAt w b off l) (hok : okM l) (hB : b < w.heap.size) (hlen : l.length ≤ 1048576) :
    Calls Try.prog 34 #[.slice (some ⟨b, off, none⟩) l.length cap] w fun e w' =>
      ∃ r : Bool, e = .returned (.bool r) ∧ (r = true ↔ GoodRs (esM l)) ∧ Below w.heap.size w w' := by
  have HR : Hid (RmsAt w b off l ∧ okM l) := ⟨hR, hok⟩
  clear hR hok
  by_cases hbig : 50 < l.length
  · have H : Hid (¬ GoodRs (esM l)) := fun h => by have := h.1; simp at this; omega
    go_enter Try.func34, Try.ntmps34
    go_wp2
    go_ret
    exact ⟨_, rfl, iffF H.out, Below.refl _ _⟩
  go_enter Try.func34, Try.ntmps34
  go_wp2
  go_loopw [3] (fun i wr => ∃ (k : Nat), k ≤ l.length ∧ i = .int .i64 k ∧ (∀ r ∈ l.take k, GoodR r.es) ∧ Below w.heap.size w wr) (fun i _ => l.length - (intOf i).toNat)
  case atStart => exact ⟨0, Nat.zero_le _, rfl, by simp, Below.refl _ _⟩
  case round =>
    obtain ⟨k, hk, rfl, hv, hb⟩ := hrel
    have HV : Hid (∀ r ∈ l.take k, GoodR r.es) := hv
    clear hv
    by_cases hlt : k < l.length
    · obtain ⟨r, hr⟩ : ∃ r, l[k]? = some r := ⟨_, List.getElem?_eq_getElem hlt⟩
      obtain ⟨c0, ha⟩ := (HR.out.1.below hb hB) k r hr
      have HA : Hid (r.at wr ∧ l[k]? = some r) := ⟨ha, hr⟩
      clear ha hr
      go_wp2_with fail
      refine (specValidRun_core r.b r.off r.cap r.es _ HA.out.1.ents (HR.out.2 r (List.mem_of_getElem? HA.out.2)) HA.out.1.lt HA.out.1.len HA.out.1.cap).mono ?_
      rintro e' w1 ⟨s, rfl, hs, hb1⟩
      have hb2 := hb.trans (hb1.mono hb.size)
      have HS : Hid (s = true ↔ GoodR r.es) := hs
      clear c0 hb1 hs
      cases s
      · have H : Hid (¬ GoodRs (esM l)) := fun h => Bool.noConfusion (HS.out.2 (goodRs_mem h (List.mem_of_getElem? HA.out.2)))
        go_wp2_with fail
        go_ret
        exact ⟨_, rfl, iffF H.out, hb2⟩
      · have H : Hid (∀ r ∈ l.take (k + 1), GoodR r.es) := fun x hx => by
          rcases mem_take_succ HA.out.2 hx with h | rfl
          · exact HV.out x h
          · exact HS.out.1 rfl
        go_wp2_with fail
        go_roundw
        case rel => exact ⟨k + 1, by omega, by go_num, H.out, hb2⟩
        case measure => go_light; simp [intOf]; omega
    · have H : Hid (GoodRs (esM l)) := goodRs_of (by omega) (fun r hr => HV.out r (by rw [List.take_of_length_le (by omega)]; exact hr))
      go_wp2
      go_ret
      exact ⟨_, rfl, iffT H.out, hb⟩

set_option maxHeartbeats 1000000 in
theorem validStack_core (b off cap : Nat) (l : List Rm) (w : World) (hR : RmsAt w b off l) (hok : okM l) (hB : b < w.heap.size) (hlen : l.length ≤ 1048576) :
    Calls Try.prog 40 #[.slice (some ⟨b, off, none⟩) l.length cap] w fun e w' =>
      ∃ r : Bool, e = .returned (.bool r) ∧ (r = true ↔ GoodRs (esM l)) ∧ Below w.heap.size w w' := by
  have HR : Hid (RmsAt w b off l ∧ okM l) := ⟨hR, hok⟩
  clear hR hok
  by_cases hbig : 50 < l.length
  · have H : Hid (¬ GoodRs (esM l)) := fun h => by have := h.1; simp at this; omega
    go_enter Try.func40, Try.ntmps40
    go_wp2
    go_ret
    exact ⟨_, rfl, iffF H.out, Below.refl _ _⟩
  go_enter Try.func40, Try.ntmps40
  go_wp2
  go_loopw [10] (fun i wr => ∃ (k : Nat), k ≤ l.length ∧ i = .int .i64 k ∧ (∀ r ∈ l.take k, GoodR r.es) ∧ Below w.heap.size w wr) (fun i _ => l.length - (intOf i).toNat)
  case atStart => exact ⟨0, Nat.zero_le _, rfl, by simp, Below.refl _ _⟩
  case round =>
    obtain ⟨k, hk, rfl, hv, hb⟩ := hrel
    have HV : Hid (∀ r ∈ l.take k, GoodR r.es) := hv
    clear hv
    by_cases hlt : k < l.length
    · obtain ⟨r, hr⟩ : ∃ r, l[k]? = some r := ⟨_, List.getElem?_eq_getElem hlt⟩
      obtain ⟨c0, ha⟩ := (HR.out.1.below hb hB) k r hr
      have HA : Hid (r.at wr ∧ l[k]? = some r) := ⟨ha, hr⟩
      clear ha hr
      obtain ⟨W1, hW1⟩ : ∃ W1 : World, W1 = wr.alloc (Obj.cells #[.slice (some ⟨r.b, r.off, none⟩) r.es.length r.cap] 40) := ⟨_, rfl⟩
      have hbA : Below wr.heap.size wr W1 := by rw [hW1]; exact (Below.refl _ _).alloc (Nat.le_refl _) _
      have HA1 : Hid (r.at W1) := HA.out.1.below hbA
      go_wp2_with fail
      rw [← hW1]
      clear hW1
      refine (implValidRun_core r.b r.off r.cap r.es _ HA1.out.ents (HR.out.2 r (List.mem_of_getElem? HA.out.2)) HA1.out.lt HA1.out.len HA1.out.cap).mono ?_
      rintro e' w1 ⟨s, rfl, hs, hb1⟩
      have hb2 := (hb.trans (hbA.mono hb.size)).trans (hb1.mono (by have := hb.size; have := hbA.size; omega))
      have HS : Hid (s = true ↔ GoodR r.es) := hs
      clear c0 hb1 hs
      cases s
      · have H : Hid (¬ GoodRs (esM l)) := fun h => Bool.noConfusion (HS.out.2 (goodRs_mem h (List.mem_of_getElem? HA.out.2)))
        go_wp2_with fail
        go_ret
        exact ⟨_, rfl, iffF H.out, hb2⟩
      · have H : Hid (∀ r ∈ l.take (k + 1), GoodR r.es) := fun x hx => by
          rcases mem_take_succ HA.out.2 hx with h | rfl
          · exact HV.out x h
          · exact HS.out.1 rfl
        go_wp2_with fail
        go_roundw
        case rel => exact ⟨k + 1, by omega, by go_num, H.out, hb2⟩
        case measure => go_light; simp [intOf]; omega
    · have H : Hid (GoodRs (esM l)) := goodRs_of (by omega) (fun r hr => HV.out r (by rw [List.take_of_length_le (by omega)]; exact hr))
      go_wp2
      go_ret
      exact ⟨_, rfl, iffT H.out, hb⟩

/-- What the entries of a run say of a key. -/
def saysF (e : Ent) : List Ent → Int → Int × ByteArray
  | [], h => (h, ⟨#[]⟩)
  | d :: r, h => if sameCol d e = true then
      (if (d.kind == 0) = true ∧ (d.ts == e.ts) = true then (1, d.val) else if (d.kind == 1) = true ∧ (d.ts == e.ts) = true then (2, ⟨#[]⟩) else if (d.kind == 2) = true ∧ e.ts ≤ d.ts then saysF e r 2 else saysF e r h)
    else saysF e r h
theorem saysF_kills (e : Ent) : ∀ (es : List Ent) (h : Int), (∀ d ∈ es, d.vld = true) → ((saysF e es h).1 ≠ 0 ↔ h ≠ 0 ∨ ∃ d ∈ es, kills d e = true)
  | [], h, _ => by simp [saysF]
  | d :: r, h, hv => by
    have ih2 := saysF_kills e r 2 (fun x hx => hv x (List.mem_cons_of_mem _ hx))
    have ihh := saysF_kills e r h (fun x hx => hv x (List.mem_cons_of_mem _ hx))
    have hd := hv d (by simp)
    unfold Ent.vld vE at hd
    have hk := of_decide_eq_true hd
    unfold saysF
    have hex : (∃ x ∈ d :: r, kills x e = true) ↔ kills d e = true ∨ ∃ x ∈ r, kills x e = true := by simp
    rw [hex]
    by_cases hc : sameCol d e = true
    · rw [if_pos hc]
      by_cases h0 : (d.kind == 0) = true ∧ (d.ts == e.ts) = true
      · rw [if_pos h0]
        have : kills d e = true := by
          unfold kills
          have : d.kind = 0 := by simpa using h0.1
          simp [hc, this, h0.2]
        simp [this]
      · rw [if_neg h0]
        by_cases h1 : (d.kind == 1) = true ∧ (d.ts == e.ts) = true
        · rw [if_pos h1]
          have : kills d e = true := by
            unfold kills
            have : d.kind = 1 := by simpa using h1.1
            simp [hc, this, h1.2]
          simp [this]
        · rw [if_neg h1]
          by_cases h2 : (d.kind == 2) = true ∧ e.ts ≤ d.ts
          · rw [if_pos h2, ih2]
            have : kills d e = true := by
              unfold kills
              have : d.kind = 2 := by simpa using h2.1
              simp [hc, this, h2.2]
            simp [this]
          · rw [if_neg h2, ihh]
            have : kills d e = false := by
              unfold kills
              simp only [beq_iff_eq] at h0 h1 h2
              rw [hc]
              by_cases hk2 : d.kind = 2
              · simp [hk2]
                have : ¬ e.ts ≤ d.ts := fun q => h2 ⟨hk2, q⟩
                omega
              · simp [hk2]
                intro q
                have : d.kind = 0 ∨ d.kind = 1 := by omega
                rcases this with z | z
                · exact h0 ⟨z, q⟩
                · exact h1 ⟨z, q⟩
            simp [this]
    · rw [if_neg hc, ihh]
      have : kills d e = false := by
        unfold kills
        simp [hc]
      simp [this]
theorem saysF_drop {e d : Ent} {es : List Ent} {k : Nat} {h : Int} (hd : es[k]? = some d) : saysF e (es.drop k) h = saysF e (d :: es.drop (k + 1)) h := by
  congr 1
  obtain ⟨h1, rfl⟩ := List.getElem?_eq_some_iff.1 hd
  exact List.drop_eq_getElem_cons h1
theorem rms_out {w : World} {b off m : Nat} {l : List Rm} {r : Rm} (h : RmsAt w b off l) (hb : b < w.heap.size) (hr : l[m]? = some r) : (∀ n : Out w, n.u.cell? ⟨b, off + m, none⟩ = some (.slice (some ⟨r.b, r.off, none⟩) r.es.length r.cap)) ∧ ∀ n : Out w, r.at n.u :=
  ⟨fun n => (h.below n.out hb m r hr).1, fun n => (h.below n.out hb m r hr).2⟩
end Go.Proofs.Ytnncedndlhfdkac

/-
  Runs of the call's own; eqRunS.
-/
namespace Go.Proofs.Ytnncedndlhfdkac
open Go.ChangeShapes Go.WideShapes Go.ChangeAt Go.RowKit Go.Deep
set_option linter.unusedVariables false
set_option linter.unusedSimpArgs false
set_option maxRecDepth 100000

def rmsOf (l : List (Nat × List Ent)) : List Rm := l.map fun p => ⟨p.1, 0, p.2.length, p.2⟩
theorem rmsOf_len (l : List (Nat × List Ent)) : (rmsOf l).length = l.length := by simp [rmsOf]
theorem esM_rms (l : List (Nat × List Ent)) : esM (rmsOf l) = l.map Prod.snd := by simp [rmsOf, esM]
/-- Runs of the call's own: their row, and theirs. -/
structure OwnRuns (w : World) (base g : Nat) (l : List (Nat × List Ent)) : Prop where
  row : OwnR w base g (usOf l)
  rows : OwnRs w base l
  ne : ∀ p ∈ l, g < p.1
  short : ∀ p ∈ l, p.2.length ≤ 1048576
theorem OwnRuns.lt {w : World} {base g : Nat} {l : List (Nat × List Ent)} (h : OwnRuns w base g l) : base ≤ g ∧ g < w.heap.size := h.row.lt
theorem OwnRuns.below {w w' : World} {base g : Nat} {l : List (Nat × List Ent)} (h : OwnRuns w base g l) (hb : Below w.heap.size w w') : OwnRuns w' base g l :=
  ⟨h.row.below hb h.row.lt.2, ⟨h.rows.1, fun p hp => (h.rows.2 p hp).below hb (h.rows.2 p hp).lt.2⟩, h.ne, h.short⟩
theorem OwnRuns.at {w : World} {base g : Nat} {l : List (Nat × List Ent)} (h : OwnRuns w base g l) : RmsAt w g 0 (rmsOf l) := by
  intro i r hr
  unfold rmsOf at hr
  rw [List.getElem?_map] at hr
  cases hp : l[i]? with
  | none => rw [hp] at hr; cases hr
  | some p =>
    rw [hp] at hr
    simp at hr
    subst hr
    have hm := List.mem_of_getElem? hp
    refine ⟨?_, ⟨(h.rows.2 p hm).at, (h.rows.2 p hm).lt.2, Nat.le_refl _, Nat.le_trans (h.short p hm) (by decide)⟩⟩
    rw [Nat.zero_add]
    exact h.row.cell (usOf_get hp)
theorem inEnts_rm {w : World} {r : Rm} (h : r.at w) : InEnts w (.slice (some ⟨r.b, r.off, none⟩) r.es.length r.cap) r.es := .inr ⟨r.b, r.off, r.cap, rfl, h.ents, h.lt, h.len, h.cap⟩
set_option maxHeartbeats 2000000 in
theorem eqRunS_same (b off cap b' off' cap' : Nat) (l l' : List Rm) (w : World) (h : RmsAt w b off l) (h' : RmsAt w b' off' l') (hB : b < w.heap.size) (hB' : b' < w.heap.size) (he : esM l = esM l') (hn : l.length ≤ 1048576) :
    Calls Try.prog 14 #[.slice (some ⟨b, off, none⟩) l.length cap, .slice (some ⟨b', off', none⟩) l'.length cap'] w fun e w' => e = .returned (.bool true) ∧ Below w.heap.size w w' := by
  have hll : l'.length = l.length := by have := congrArg List.length he; simpa using this.symm
  rw [hll]
  have HE : Hid (RmsAt w b off l ∧ RmsAt w b' off' l' ∧ esM l = esM l' ∧ l'.length = l.length) := ⟨h, h', he, hll⟩
  clear h h' he hll
  go_enter Try.func14, Try.ntmps14
  go_wp2_with fail
  go_loopw [5] (fun i wr => ∃ k : Nat, k ≤ l.length ∧ i = .int .i64 k ∧ Below w.heap.size w wr) (fun i _ => l.length - (intOf i).toNat)
  case atStart => exact ⟨0, Nat.zero_le _, rfl, Below.refl _ _⟩
  case round =>
    obtain ⟨k, hk, rfl, hb⟩ := hrel
    have hs := hb.size
    by_cases hlt : k < l.length
    · obtain ⟨r, hr⟩ : ∃ r, l[k]? = some r := ⟨_, List.getElem?_eq_getElem hlt⟩
      obtain ⟨r', hr'⟩ : ∃ r', l'[k]? = some r' := ⟨_, List.getElem?_eq_getElem (by have := HE.out.2.2.2; omega)⟩
      have hes : r'.es = r.es := by
        have h1 := congrArg (fun x => x[k]?) HE.out.2.2.1
        simp only [List.getElem?_map, hr, hr'] at h1
        simpa using h1.symm
      obtain ⟨y0, y1⟩ := rms_out (HE.out.1.below hb hB) (by omega) hr
      obtain ⟨z0, z1⟩ := rms_out (HE.out.2.1.below hb hB') (by omega) hr'
      have HY : Hid (∀ n : Out wr, InEnts n.u (.slice (some ⟨r.b, r.off, none⟩) r.es.length r.cap) r.es ∧ InEnts n.u (.slice (some ⟨r'.b, r'.off, none⟩) r'.es.length r'.cap) r.es) := fun n => ⟨inEnts_rm (y1 n), by
        have h := inEnts_rm (z1 n)
        rw [hes] at h ⊢
        exact h⟩
      clear y1 z1 hr hr' hes
      have zk : (k : Int) < (l.length : Int) := by omega
      have inh : Nonempty (Out wr) := ⟨⟨wr, Below.refl _ _⟩⟩
      go_upto_region 6 with fail
      refine wp_region_out (by kernel_rfl) (by kernel_rfl) ?_
      repeat (go_big_quiet_step ((go_at_call 20; exact Calls.out_of (eqRun_any _ _ r.es _ (HY.out _).1 (HY.out _).2))))
      refine wpQuiet_nil ?_
      rintro wy ⟨⟨wx, hby⟩, rfl⟩
      have hb2 := hb.trans (hby.mono hs)
      clear y0 z0
      go_wp2_with fail
      go_roundw
      case rel => exact ⟨k + 1, by omega, by go_num, hb2⟩
      case measure => go_light; simp [intOf]; omega
    · have zk : ¬ (k : Int) < (l.length : Int) := by omega
      go_wp2_with fail
      go_ret
      exact ⟨rfl, hb⟩
/-- How many entries. -/
def totL : List (Nat × List Ent) → Nat
  | [] => 0
  | p :: l => p.2.length + totL l
theorem totL_append : ∀ (a b : List (Nat × List Ent)), totL (a ++ b) = totL a + totL b
  | [], b => by simp [totL]
  | p :: a, b => by simp [totL, totL_append a b]; omega
theorem totL_take {l : List (Nat × List Ent)} {k : Nat} {p : Nat × List Ent} (h : l[k]? = some p) : totL (l.take (k + 1)) = totL (l.take k) + p.2.length := by
  rw [List.take_add_one, h, totL_append]; simp [totL]
theorem totL_le (l : List (Nat × List Ent)) (k : Nat) : totL (l.take k) ≤ totL l := by
  have h := totL_append (l.take k) (l.drop k)
  rw [List.take_append_drop] at h
  omega
theorem tot_of : ∀ (l : List (Nat × List Ent)) (rs : List Rn), l.map Prod.snd = esOf rs → totL l = tot rs
  | [], [], _ => rfl
  | [], r :: rs, h => by simp [esOf] at h
  | p :: l, [], h => by simp [esOf] at h
  | p :: l, r :: rs, h => by
    simp [esOf] at h
    have := tot_of l rs h.2
    simp [totL, tot, this, h.1]
def okL (l : List (Nat × List Ent)) : Prop := ∀ p ∈ l, ∀ e ∈ p.2, e.ok
theorem okM_of {l : List (Nat × List Ent)} (h : okL l) : okM (rmsOf l) := by
  intro r hr e he
  unfold rmsOf at hr
  obtain ⟨p, hp, rfl⟩ := List.mem_map.1 hr
  exact h p hp e he
theorem okL_of {l : List (Nat × List Ent)} {rs : List Rn} (h : l.map Prod.snd = esOf rs) (ho : okR rs) : okL l := by
  intro p hp e he
  have : p.2 ∈ esOf rs := by rw [← h]; exact List.mem_map.2 ⟨p, hp, rfl⟩
  unfold esOf at this
  obtain ⟨r, hr, q⟩ := List.mem_map.1 this
  exact ho r hr e (by rw [q]; exact he)
theorem toRuns_own (v : Value) (rs : List Rn) (w : World) (h : InRuns w v rs) (h1 : rs.length + tot rs ≤ 1048576) :
    Calls Try.prog 10 #[v] w fun e w' =>
      ∃ (g : Nat) (l : List (Nat × List Ent)), e = .returned (.slice (some ⟨g, 0, none⟩) l.length l.length) ∧ OwnRuns w' w.heap.size g l ∧ l.map Prod.snd = esOf rs ∧ l.length + totL l ≤ 1048576 ∧ Below w.heap.size w w' := by
  refine (toRunS_any v rs w h h1).mono ?_
  rintro e w' ⟨g, l, he, hm, hR, hO, hne, hb⟩
  have ht := tot_of l rs hm
  have hl : l.length = rs.length := by have := congrArg List.length hm; simpa [esOf] using this
  refine ⟨g, l, he, ⟨hR, hO, hne, fun p hp => ?_⟩, hm, by omega, hb⟩
  obtain ⟨i, hi⟩ := List.getElem?_of_mem hp
  have h2 := totL_take hi
  have h3 := totL_le l (i + 1)
  omega
theorem eqRunS_own (base g base' g' : Nat) (l l' : List (Nat × List Ent)) (w : World) (h : OwnRuns w base g l) (h' : OwnRuns w base' g' l') (he : l.map Prod.snd = l'.map Prod.snd) (hn : l.length ≤ 1048576) :
    Calls Try.prog 14 #[.slice (some ⟨g, 0, none⟩) l.length l.length, .slice (some ⟨g', 0, none⟩) l'.length l'.length] w fun e w' => e = .returned (.bool true) ∧ Below w.heap.size w w' := by
  have := eqRunS_same g 0 l.length g' 0 l'.length (rmsOf l) (rmsOf l') w h.at h'.at h.lt.2 h'.lt.2 (by rw [esM_rms, esM_rms]; exact he) (by rw [rmsOf_len]; exact hn)
  rw [rmsOf_len, rmsOf_len] at this
  exact this
end Go.Proofs.Ytnncedndlhfdkac

/-
  The merge as a fold: entries come in the order of keys, and at one key the newest run's first.
-/
namespace Go.Proofs.Ytnncedndlhfdkac
set_option linter.unusedVariables false
set_option linter.unusedSimpArgs false

/-- Comes before: a smaller key, or the same key in a newer run. -/
def Lt2 (p q : Nat × Ent) : Prop := keyCmp p.2 q.2 = -1 ∨ (keyCmp p.2 q.2 = 0 ∧ p.1 < q.1)
theorem lt2_trans {p q r : Nat × Ent} (h : Lt2 p q) (k : Lt2 q r) : Lt2 p r := by
  rcases h with h | ⟨h, h'⟩ <;> rcases k with k | ⟨k, k'⟩
  · exact .inl (keyCmp_trans h k)
  · left
    have h1 := keyCmp_congr k (c := p.2)
    have h2 := keyCmp_neg p.2 q.2
    have h3 := keyCmp_neg p.2 r.2
    omega
  · left
    have h1 := keyCmp_congr h (c := r.2)
    omega
  · right
    have h1 := keyCmp_congr h (c := r.2)
    exact ⟨by omega, by omega⟩
theorem lt2_irrefl (p : Nat × Ent) : ¬ Lt2 p p := by
  rintro (h | ⟨_, h⟩)
  · rw [keyCmp_self] at h; omega
  · omega
theorem lt2_total {p q : Nat × Ent} (h : ¬ p.1 = q.1) : Lt2 p q ∨ Lt2 q p := by
  have h2 := keyCmp_neg p.2 q.2
  rcases keyCmp_vals p.2 q.2 with k | k | k
  · exact .inl (.inl k)
  · by_cases hl : p.1 < q.1
    · exact .inl (.inr ⟨k, hl⟩)
    · exact .inr (.inr ⟨by omega, by omega⟩)
  · exact .inr (.inl (by omega))
theorem lt2_asymm {p q : Nat × Ent} (h : Lt2 p q) : ¬ Lt2 q p := fun k => lt2_irrefl p (lt2_trans h k)

/-- What stands in the way of a put of run 'a'. -/
def Over (P : List (Nat × Ent)) (a : Nat) (x : Ent) : Prop := ∃ p ∈ P, p.1 < a ∧ kills p.2 x = true
/-- What has been shown of what came. -/
def Shown (P : List (Nat × Ent)) (L : List Ent) : Prop := Ord L ∧ ∀ x, x ∈ L ↔ ∃ a, (a, x) ∈ P ∧ x.kind = 0 ∧ ¬ Over P a x

abbrev Ent.col (e : Ent) : ByteArray × ByteArray × ByteArray := (e.row, e.fam, e.qual)
theorem sameCol_col {a b : Ent} : sameCol a b = true ↔ a.col = b.col := by
  rw [sameCol_iff]; simp [Ent.col]
theorem key_le {a b : Ent} (h : keyCmp a b ≤ 0) : cB a.row b.row ≤ 0 ∧ (a.row = b.row → cB a.fam b.fam ≤ 0 ∧ (a.fam = b.fam → cB a.qual b.qual ≤ 0 ∧ (a.qual = b.qual → kindCmp a.kind b.kind ≤ 0 ∧ (kindCmp a.kind b.kind = 0 → tsCmp a.ts b.ts ≤ 0)))) := by
  have F : ∀ {x y : Int}, firstOf x y ≤ 0 → x ≤ 0 ∧ (x = 0 → y ≤ 0) := by
    intro x y
    unfold firstOf
    by_cases h : x = 0
    · rw [if_pos h]; intro k; exact ⟨by omega, fun _ => k⟩
    · rw [if_neg h]; intro k; exact ⟨k, fun q => absurd q h⟩
  unfold keyCmp at h
  obtain ⟨h1, h⟩ := F h
  refine ⟨h1, fun q => ?_⟩
  obtain ⟨h2, h⟩ := F (h (cB_zero.2 q))
  refine ⟨h2, fun q => ?_⟩
  obtain ⟨h3, h⟩ := F (h (cB_zero.2 q))
  refine ⟨h3, fun q => ?_⟩
  exact F (h (cB_zero.2 q))
theorem Lt2.le {p q : Nat × Ent} (h : Lt2 p q) : keyCmp p.2 q.2 ≤ 0 := by
  rcases h with h | ⟨h, _⟩ <;> omega
/-- A column's entries stand together. -/
theorem col_between {a b c : Ent} (h : keyCmp a b ≤ 0) (k : keyCmp b c ≤ 0) (q : a.col = c.col) : b.col = c.col := by
  simp only [Ent.col, Prod.mk.injEq] at q ⊢
  obtain ⟨q1, q2, q3⟩ := q
  obtain ⟨h1, h⟩ := key_le h
  obtain ⟨k1, k⟩ := key_le k
  have n1 := cB_neg a.row b.row
  rw [← q1] at k1 k ⊢
  have e1 : b.row = a.row := cB_zero.1 (by omega)
  obtain ⟨h2, h⟩ := h e1.symm
  obtain ⟨k2, k⟩ := k e1
  have n2 := cB_neg a.fam b.fam
  rw [← q2] at k2 k ⊢
  have e2 : b.fam = a.fam := cB_zero.1 (by omega)
  obtain ⟨h3, h⟩ := h e2.symm
  obtain ⟨k3, k⟩ := k e2
  have n3 := cB_neg a.qual b.qual
  rw [← q3] at k3 k ⊢
  have e3 : b.qual = a.qual := cB_zero.1 (by omega)
  exact ⟨e1, e2, e3⟩
/-- Timestamps fall. -/
theorem ts_falls {a b : Ent} (h : keyCmp a b ≤ 0) (q : a.col = b.col) (ha : ¬ a.kind = 2) (hb : ¬ b.kind = 2) : b.ts ≤ a.ts := by
  simp only [Ent.col, Prod.mk.injEq] at q
  have hk : kindCmp a.kind b.kind = 0 := kindCmp_zero.2 ⟨fun h => absurd h ha, fun h => absurd h hb⟩
  have := (((((key_le h).2 q.1).2 q.2.1).2 q.2.2).2) hk
  unfold tsCmp at this
  (repeat' split at this) <;> omega
/-- What does away with a put of an older run comes before it. -/
theorem kill_lt2 {d x : Ent} {a b : Nat} (h : kills d x = true) (hab : a < b) (hx : x.kind = 0) : Lt2 (a, d) (b, x) := by
  unfold kills at h
  rw [Bool.and_eq_true, sameCol_iff] at h
  obtain ⟨⟨h1, h2, h3⟩, h4⟩ := h
  by_cases hd : d.kind = 2
  · left
    show keyCmp d x = -1
    unfold keyCmp
    rw [cB_zero.2 h1, cB_zero.2 h2, cB_zero.2 h3]
    have : kindCmp d.kind x.kind = -1 := by
      unfold kindCmp
      rw [if_pos hd, if_neg (by omega)]
    rw [this]
    simp [firstOf]
  · right
    refine ⟨keyCmp_zero.2 ⟨h1, h2, h3, ⟨fun q => absurd q hd, fun q => by have q' : x.kind = 2 := q; omega⟩, ?_⟩, hab⟩
    simpa [hd] using h4

theorem over_push {P : List (Nat × Ent)} {a b : Nat} {e x : Ent} (hx : x.kind = 0) (h : Lt2 (b, x) (a, e)) : Over (P ++ [(a, e)]) b x ↔ Over P b x := by
  constructor
  · rintro ⟨p, hp, h1, h2⟩
    rcases List.mem_append.1 hp with hp | hp
    · exact ⟨p, hp, h1, h2⟩
    · simp at hp
      subst hp
      exact absurd h (lt2_asymm (kill_lt2 h2 h1 hx))
  · rintro ⟨p, hp, h1, h2⟩
    exact ⟨p, List.mem_append_left _ hp, h1, h2⟩
theorem over_self {P : List (Nat × Ent)} {a : Nat} {e : Ent} : Over (P ++ [(a, e)]) a e ↔ Over P a e := by
  constructor
  · rintro ⟨p, hp, h1, h2⟩
    rcases List.mem_append.1 hp with hp | hp
    · exact ⟨p, hp, h1, h2⟩
    · simp at hp
      subst hp
      simp at h1
  · rintro ⟨p, hp, h1, h2⟩
    exact ⟨p, List.mem_append_left _ hp, h1, h2⟩
theorem shown_nil : Shown [] [] := ⟨List.Pairwise.nil, fun x => by simp⟩
theorem shown_skip {P : List (Nat × Ent)} {L : List Ent} {a : Nat} {e : Ent} (h : Shown P L) (hP : ∀ p ∈ P, Lt2 p (a, e)) (hn : ¬ (e.kind = 0 ∧ ¬ Over P a e)) : Shown (P ++ [(a, e)]) L := by
  refine ⟨h.1, fun x => (h.2 x).trans ⟨?_, ?_⟩⟩
  · rintro ⟨b, h1, h2, h3⟩
    exact ⟨b, List.mem_append_left _ h1, h2, fun q => h3 ((over_push h2 (hP _ h1)).1 q)⟩
  · rintro ⟨b, h1, h2, h3⟩
    rcases List.mem_append.1 h1 with h1 | h1
    · exact ⟨b, h1, h2, fun q => h3 ((over_push h2 (hP _ h1)).2 q)⟩
    · simp at h1
      obtain ⟨rfl, rfl⟩ := h1
      exact absurd ⟨h2, fun q => h3 (over_self.2 q)⟩ hn
theorem shown_put {P : List (Nat × Ent)} {L : List Ent} {a : Nat} {e : Ent} (h : Shown P L) (hP : ∀ p ∈ P, Lt2 p (a, e)) (h0 : e.kind = 0) (hn : ¬ Over P a e) : Shown (P ++ [(a, e)]) (L ++ [e]) := by
  refine ⟨List.pairwise_append.2 ⟨h.1, by simp, fun y hy z hz => ?_⟩, fun x => ?_⟩
  · simp at hz
    subst hz
    obtain ⟨b, h1, h2, h3⟩ := (h.2 y).1 hy
    rcases hP _ h1 with q | ⟨q, q'⟩
    · exact q
    · refine absurd ⟨(b, y), h1, q', ?_⟩ hn
      obtain ⟨k1, k2, k3, k4, k5⟩ := keyCmp_zero.1 q
      unfold kills
      have hk : ¬ y.kind = 2 := by omega
      simp at k1 k2 k3 k5
      simp [sameCol_iff, hk, k1, k2, k3, k5]
  · rw [List.mem_append, h.2 x]
    constructor
    · rintro (⟨b, h1, h2, h3⟩ | hx)
      · exact ⟨b, List.mem_append_left _ h1, h2, fun q => h3 ((over_push h2 (hP _ h1)).1 q)⟩
      · simp at hx
        subst hx
        exact ⟨a, by simp, h0, fun q => hn (over_self.1 q)⟩
    · rintro ⟨b, h1, h2, h3⟩
      rcases List.mem_append.1 h1 with h1 | h1
      · exact .inl ⟨b, h1, h2, fun q => h3 ((over_push h2 (hP _ h1)).2 q)⟩
      · simp at h1
        obtain ⟨rfl, rfl⟩ := h1
        exact .inr (by simp)

/-- The merger's memory of the column at hand, behind what came. -/
structure Mem (P : List (Nat × Ent)) (c : ByteArray × ByteArray × ByteArray) (ds : List (Nat × Int)) (dec : Bool) (ts : Int) : Prop where
  dels : ∀ d, d ∈ ds ↔ ∃ p ∈ P, p.2.kind = 2 ∧ p.2.col = c ∧ d = (p.1, p.2.ts)
  some : dec = true → ∃ p ∈ P, ¬ p.2.kind = 2 ∧ p.2.col = c ∧ p.2.ts = ts
  all : ∀ p ∈ P, ¬ p.2.kind = 2 → p.2.col = c → dec = true ∧ ts ≤ p.2.ts
  len : ds.length ≤ P.length
/-- It is the last one's column. -/
def Last (P : List (Nat × Ent)) (c : ByteArray × ByteArray × ByteArray) : Prop := ∀ p, P.getLast? = some p → p.2.col = c

theorem mem_nil (c : ByteArray × ByteArray × ByteArray) (ts : Int) : Mem [] c [] false ts := ⟨by simp, by simp, by simp, by simp⟩
theorem last_nil (c : ByteArray × ByteArray × ByteArray) : Last [] c := by intro p h; simp at h
theorem last_push (P : List (Nat × Ent)) (a : Nat) (e : Ent) : Last (P ++ [(a, e)]) e.col := by intro p h; simp at h; subst h; rfl
theorem col_fresh {P : List (Nat × Ent)} {c : ByteArray × ByteArray × ByteArray} {a : Nat} {e : Ent} (hl : Last P c) (hS : P.Pairwise Lt2) (hP : ∀ p ∈ P, Lt2 p (a, e)) (hc : ¬ e.col = c) : ∀ p ∈ P, ¬ p.2.col = e.col := by
  intro p hp hq
  obtain ⟨l, hll⟩ : ∃ l, P.getLast? = some l := by
    cases hg : P.getLast? with
    | none => rw [List.getLast?_eq_none_iff] at hg; subst hg; simp at hp
    | some l => exact ⟨l, rfl⟩
  have hm : l ∈ P := List.mem_of_getLast? hll
  have h1 : keyCmp p.2 l.2 ≤ 0 := by
    by_cases hpl : p = l
    · subst hpl; rw [keyCmp_self]; omega
    · obtain ⟨Q, hQ⟩ := List.getLast?_eq_some_iff.1 hll
      subst hQ
      rcases List.mem_append.1 hp with hp | hp
      · exact ((List.pairwise_append.1 hS).2.2 p hp l (by simp)).le
      · simp at hp; exact absurd hp hpl
  have := col_between h1 (hP l hm).le hq
  exact hc (this.symm.trans (hl l hll))
theorem mem_turn {P : List (Nat × Ent)} {c : ByteArray × ByteArray × ByteArray} {a : Nat} {e : Ent} (hl : Last P c) (hS : P.Pairwise Lt2) (hP : ∀ p ∈ P, Lt2 p (a, e)) (hc : ¬ e.col = c) (ts : Int) : Mem P e.col [] false ts := by
  have := col_fresh hl hS hP hc
  refine ⟨fun d => ⟨fun h => by simp at h, ?_⟩, by simp, fun p hp _ q => absurd q (this p hp), by simp⟩
  rintro ⟨p, hp, _, q, _⟩
  exact absurd q (this p hp)
theorem mem_del {P : List (Nat × Ent)} {ds : List (Nat × Int)} {dec : Bool} {ts : Int} {a : Nat} {e : Ent} (h : Mem P e.col ds dec ts) (h2 : e.kind = 2) : Mem (P ++ [(a, e)]) e.col (ds ++ [(a, e.ts)]) dec ts := by
  refine ⟨fun d => ?_, fun q => ?_, fun p hp hn hc => ?_, by simpa using h.len⟩
  · rw [List.mem_append, h.dels]
    constructor
    · rintro (⟨p, hp, q⟩ | hd)
      · exact ⟨p, List.mem_append_left _ hp, q⟩
      · simp at hd
        exact ⟨(a, e), by simp, h2, rfl, hd⟩
    · rintro ⟨p, hp, q1, q2, q3⟩
      rcases List.mem_append.1 hp with hp | hp
      · exact .inl ⟨p, hp, q1, q2, q3⟩
      · simp at hp
        subst hp
        exact .inr (by simpa using q3)
  · obtain ⟨p, hp, k⟩ := h.some q
    exact ⟨p, List.mem_append_left _ hp, k⟩
  · rcases List.mem_append.1 hp with hp | hp
    · exact h.all p hp hn hc
    · simp at hp
      subst hp
      exact absurd h2 hn
theorem mem_same {P : List (Nat × Ent)} {ds : List (Nat × Int)} {dec : Bool} {ts : Int} {a : Nat} {e : Ent} (h : Mem P e.col ds dec ts) (h2 : ¬ e.kind = 2) (hd : dec = true) (ht : ts = e.ts) : Mem (P ++ [(a, e)]) e.col ds dec ts := by
  refine ⟨fun d => ?_, fun q => ?_, fun p hp hn hc => ?_, by simpa using Nat.le_succ_of_le h.len⟩
  · rw [h.dels]
    constructor
    · rintro ⟨p, hp, q⟩
      exact ⟨p, List.mem_append_left _ hp, q⟩
    · rintro ⟨p, hp, q1, q2, q3⟩
      rcases List.mem_append.1 hp with hp | hp
      · exact ⟨p, hp, q1, q2, q3⟩
      · simp at hp
        subst hp
        exact absurd q1 h2
  · obtain ⟨p, hp, k⟩ := h.some q
    exact ⟨p, List.mem_append_left _ hp, k⟩
  · rcases List.mem_append.1 hp with hp | hp
    · exact h.all p hp hn hc
    · simp at hp
      subst hp
      exact ⟨hd, by simp [ht]⟩
theorem mem_new {P : List (Nat × Ent)} {ds : List (Nat × Int)} {dec : Bool} {ts : Int} {a : Nat} {e : Ent} (h : Mem P e.col ds dec ts) (hP : ∀ p ∈ P, Lt2 p (a, e)) (h2 : ¬ e.kind = 2) : Mem (P ++ [(a, e)]) e.col ds true e.ts := by
  refine ⟨fun d => ?_, fun q => ⟨(a, e), by simp, h2, rfl, rfl⟩, fun p hp hn hc => ⟨rfl, ?_⟩, by simpa using Nat.le_succ_of_le h.len⟩
  · rw [h.dels]
    constructor
    · rintro ⟨p, hp, q⟩
      exact ⟨p, List.mem_append_left _ hp, q⟩
    · rintro ⟨p, hp, q1, q2, q3⟩
      rcases List.mem_append.1 hp with hp | hp
      · exact ⟨p, hp, q1, q2, q3⟩
      · simp at hp
        subst hp
        exact absurd q1 h2
  · rcases List.mem_append.1 hp with hp | hp
    · exact ts_falls (hP p hp).le hc hn h2
    · simp at hp
      subst hp
      simp
/-- A newer run's entry at the same key decides. -/
theorem over_decided {P : List (Nat × Ent)} {ds : List (Nat × Int)} {dec : Bool} {ts : Int} {a : Nat} {e : Ent} (h : Mem P e.col ds dec ts) (hP : ∀ p ∈ P, Lt2 p (a, e)) (h2 : ¬ e.kind = 2) (hd : dec = true) (ht : ts = e.ts) : Over P a e := by
  obtain ⟨p, hp, k1, k2, k3⟩ := h.some hd
  simp only [Ent.col, Prod.mk.injEq] at k2
  have hz : keyCmp p.2 e = 0 := keyCmp_zero.2 ⟨k2.1, k2.2.1, k2.2.2, ⟨fun q => absurd q k1, fun q => absurd q h2⟩, by omega⟩
  refine ⟨p, hp, ?_, ?_⟩
  · rcases hP p hp with q | ⟨_, q⟩
    · have q' : keyCmp p.2 e = -1 := q
      omega
    · exact q
  · unfold kills
    simp [sameCol_iff, k1, k2]
    omega
def hides (ds : List (Nat × Int)) (ts : Int) (a : Nat) : Bool := ds.any fun d => decide (d.1 < a) && decide (ts ≤ d.2)
theorem over_hides {P : List (Nat × Ent)} {ds : List (Nat × Int)} {dec : Bool} {ts : Int} {a : Nat} {e : Ent} (h : Mem P e.col ds dec ts) (hP : ∀ p ∈ P, Lt2 p (a, e)) (h2 : ¬ e.kind = 2) (hd : ¬ (dec = true ∧ ts = e.ts)) : Over P a e ↔ hides ds e.ts a = true := by
  unfold hides
  rw [List.any_eq_true]
  constructor
  · rintro ⟨p, hp, h1, hk⟩
    have hk' := hk
    unfold kills at hk
    rw [Bool.and_eq_true, sameCol_col] at hk
    by_cases hp2 : p.2.kind = 2
    · refine ⟨(p.1, p.2.ts), (h.dels _).2 ⟨p, hp, hp2, hk.1, rfl⟩, ?_⟩
      have := hk.2
      simp [hp2] at this
      simp [h1, this]
    · exfalso
      have hts : p.2.ts = e.ts := by
        have := hk.2
        simpa [hp2] using this
      obtain ⟨hdec, hle⟩ := h.all p hp hp2 hk.1
      obtain ⟨y, hy, y1, y2, y3⟩ := h.some hdec
      have f1 := ts_falls (hP y hy).le y2 y1 h2
      have f1' : e.ts ≤ y.2.ts := f1
      exact hd ⟨hdec, by omega⟩
  · rintro ⟨d, hd1, hd2⟩
    obtain ⟨p, hp, q1, q2, rfl⟩ := (h.dels d).1 hd1
    simp at hd2
    refine ⟨p, hp, hd2.1, ?_⟩
    unfold kills
    rw [sameCol_col.2 q2]
    simp [q1, hd2.2]
/-- All that lies in the range has come. -/
theorem shown_all {rs : List (List Ent)} {inr : ByteArray → Bool} {P : List (Nat × Ent)} {L : List Ent} (h : Shown P L) (hP : ∀ a x, (a, x) ∈ P ↔ (∃ j, At rs a j x) ∧ inr x.row = true) : Mrg rs inr L := by
  have ho : ∀ a x, inr x.row = true → (Over P a x ↔ HidTo rs a x) := by
    intro a x hr
    constructor
    · rintro ⟨⟨b, d⟩, hp, h1, h2⟩
      obtain ⟨⟨j, es, k1, k2⟩, _⟩ := (hP b d).1 hp
      exact ⟨b, es, d, h1, k1, List.mem_of_getElem? k2, h2⟩
    · rintro ⟨b, es, d, h1, k1, k2, h2⟩
      obtain ⟨j, hj⟩ := List.getElem?_of_mem k2
      refine ⟨(b, d), (hP b d).2 ⟨⟨j, es, k1, hj⟩, ?_⟩, h1, h2⟩
      unfold kills at h2
      rw [Bool.and_eq_true, sameCol_iff] at h2
      rw [h2.1.1]; exact hr
  refine ⟨h.1, fun x => (h.2 x).trans ⟨?_, ?_⟩⟩
  · rintro ⟨a, h1, h2, h3⟩
    obtain ⟨⟨j, hj⟩, hr⟩ := (hP a x).1 h1
    exact ⟨a, j, hj, h2, hr, fun q => h3 ((ho a x hr).2 q)⟩
  · rintro ⟨a, j, hj, h2, hr, h3⟩
    exact ⟨a, (hP a x).2 ⟨⟨j, hj⟩, hr⟩, h2, fun q => h3 ((ho a x hr).1 q)⟩
end Go.Proofs.Ytnncedndlhfdkac

/-
  Cursors and their heap, without memory: what the least one gives next.
-/
namespace Go.Proofs.Ytnncedndlhfdkac
set_option linter.unusedVariables false
set_option linter.unusedSimpArgs false

/-- A cursor: its block, the entries that it holds, its place among them and its age. -/
structure Cu where
  blk : Nat
  r : Rm
  pos : Nat
  age : Nat
instance : Inhabited Cu := ⟨⟨0, ⟨0, 0, 0, []⟩, 0, 0⟩⟩
def Cu.head (c : Cu) : Ent := c.r.es[c.pos]?.getD zeroE
def Cu.rest (c : Cu) : List Ent := c.r.es.drop c.pos
theorem Cu.head_get {c : Cu} (h : c.pos < c.r.es.length) : c.r.es[c.pos]? = some c.head := by
  unfold Cu.head
  rw [List.getElem?_eq_getElem h]; rfl
theorem Cu.rest_cons {c : Cu} (h : c.pos < c.r.es.length) : c.rest = c.head :: c.r.es.drop (c.pos + 1) := by
  unfold Cu.rest
  obtain ⟨h1, h2⟩ := List.getElem?_eq_some_iff.1 (Cu.head_get h)
  rw [← h2]; exact List.drop_eq_getElem_cons h1
def lessC (a b : Cu) : Bool := if keyCmp a.head b.head = 0 then decide (a.age < b.age) else decide (keyCmp a.head b.head < 0)
/-- The heap's order, from the other side. -/
def gtC (a b : Cu) : Bool := lessC b a
theorem lessC_iff {a b : Cu} : lessC a b = true ↔ Lt2 (a.age, a.head) (b.age, b.head) := by
  unfold lessC Lt2
  rcases keyCmp_vals a.head b.head with h | h | h <;> simp [h]
theorem lessC_false {a b : Cu} : lessC a b = false ↔ ¬ Lt2 (a.age, a.head) (b.age, b.head) := by
  rw [← lessC_iff]; simp
theorem lt2_not_trans {p q r : Nat × Ent} (h : ¬ Lt2 p q) (k : ¬ Lt2 q r) : ¬ Lt2 p r := by
  intro hr
  by_cases hpq : p.1 = q.1
  · have h2 := keyCmp_neg p.2 q.2
    rcases keyCmp_vals p.2 q.2 with c | c | c
    · exact h (.inl c)
    · have e := keyCmp_congr c (c := r.2)
      refine k ?_
      rcases hr with g | ⟨g, g'⟩
      · exact .inl (by omega)
      · exact .inr ⟨by omega, by omega⟩
    · exact k (lt2_trans (.inl (by omega)) hr)
  · rcases lt2_total hpq with g | g
    · exact h g
    · exact k (lt2_trans g hr)
theorem swo_gtC : Go.Sort.SWO gtC where
  irrefl := fun x => lessC_false.2 (lt2_irrefl _)
  trans := fun x y z h k => by
    unfold gtC at *
    rw [lessC_iff] at *
    exact lt2_trans k h
  ntrans := fun x y z h k => by
    unfold gtC at *
    rw [lessC_false] at *
    exact lt2_not_trans k h

def sumL (l : List (Nat × List Ent)) : Nat := (l.map fun p => p.2.length).sum
/-- What came and what is still to come. -/
structure Flow (A : Nat → Ent → Prop) (N : Nat) (P : List (Nat × Ent)) (l : List (Nat × List Ent)) : Prop where
  sorted : P.Pairwise Lt2
  ahead : ∀ p ∈ P, ∀ c ∈ l, ∀ x ∈ c.2, Lt2 p (c.1, x)
  all : ∀ a x, A a x ↔ (a, x) ∈ P ∨ ∃ c ∈ l, c.1 = a ∧ x ∈ c.2
  ages : l.Pairwise fun c c' => c.1 ≠ c'.1
  ord : ∀ c ∈ l, Ord c.2
  count : P.length + sumL l = N
theorem Flow.perm {A : Nat → Ent → Prop} {N : Nat} {P : List (Nat × Ent)} {l m : List (Nat × List Ent)} (h : Flow A N P l) (hp : l.Perm m) : Flow A N P m where
  sorted := h.sorted
  ahead := fun p hp' c hc => h.ahead p hp' c (hp.mem_iff.2 hc)
  all := fun a x => (h.all a x).trans (by
    constructor
    · rintro (k | ⟨c, hc, k⟩)
      · exact .inl k
      · exact .inr ⟨c, hp.mem_iff.1 hc, k⟩
    · rintro (k | ⟨c, hc, k⟩)
      · exact .inl k
      · exact .inr ⟨c, hp.mem_iff.2 hc, k⟩)
  ages := (hp.pairwise_iff (fun h => Ne.symm h)).1 h.ages
  ord := fun c hc => h.ord c (hp.mem_iff.2 hc)
  count := by
    have : sumL m = sumL l := ((hp.map (fun p : Nat × List Ent => p.2.length)).sum_nat).symm
    rw [this]; exact h.count
theorem Flow.done {A : Nat → Ent → Prop} {N : Nat} {P : List (Nat × Ent)} (h : Flow A N P []) : ∀ a x, (a, x) ∈ P ↔ A a x := fun a x => by
  rw [h.all]; simp
theorem Flow.next {A : Nat → Ent → Prop} {N : Nat} {P : List (Nat × Ent)} {a : Nat} {e : Ent} {r : List Ent} {l : List (Nat × List Ent)} (h : Flow A N P ((a, e :: r) :: l)) : ∀ p ∈ P, Lt2 p (a, e) :=
  fun p hp => h.ahead p hp (a, e :: r) (by simp) e (by simp)
theorem Flow.step {A : Nat → Ent → Prop} {N : Nat} {P : List (Nat × Ent)} {a : Nat} {e : Ent} {r : List Ent} {l : List (Nat × List Ent)} (h : Flow A N P ((a, e :: r) :: l))
    (hm : ∀ c ∈ l, ∃ y ys, c.2 = y :: ys ∧ ¬ Lt2 (c.1, y) (a, e)) : Flow A N (P ++ [(a, e)]) ((a, r) :: l) where
  sorted := List.pairwise_append.2 ⟨h.sorted, by simp, fun p hp q hq => by simp at hq; subst hq; exact h.next p hp⟩
  ahead := fun p hp c hc x hx => by
    rcases List.mem_append.1 hp with hp | hp
    · rcases List.mem_cons.1 hc with rfl | hc
      · exact h.ahead p hp (a, e :: r) (by simp) x (List.mem_cons_of_mem _ hx)
      · exact h.ahead p hp c (List.mem_cons_of_mem _ hc) x hx
    · simp at hp
      subst hp
      have ho := List.pairwise_cons.1 (h.ord (a, e :: r) (by simp))
      rcases List.mem_cons.1 hc with rfl | hc
      · exact .inl (ho.1 x hx)
      · obtain ⟨y, ys, e1, e2⟩ := hm c hc
        have hne : ¬ a = c.1 := (List.pairwise_cons.1 h.ages).1 c hc
        have h1 : Lt2 (a, e) (c.1, y) := (lt2_total (p := (a, e)) (q := (c.1, y)) hne).resolve_right e2
        rw [e1] at hx
        rcases List.mem_cons.1 hx with rfl | hx
        · exact h1
        · have ho' := h.ord c (List.mem_cons_of_mem _ hc)
          rw [e1] at ho'
          exact lt2_trans h1 (.inl ((List.pairwise_cons.1 ho').1 x hx))
  all := fun b x => (h.all b x).trans (by
    constructor
    · rintro (k | ⟨c, hc, k1, k2⟩)
      · exact .inl (List.mem_append_left _ k)
      · rcases List.mem_cons.1 hc with rfl | hc
        · rcases List.mem_cons.1 k2 with rfl | k2
          · left; simp at k1; subst k1; simp
          · exact .inr ⟨(a, r), by simp, k1, k2⟩
        · exact .inr ⟨c, List.mem_cons_of_mem _ hc, k1, k2⟩
    · rintro (k | ⟨c, hc, k1, k2⟩)
      · rcases List.mem_append.1 k with k | k
        · exact .inl k
        · simp at k
          exact .inr ⟨(a, e :: r), by simp, k.1.symm, by simp [k.2]⟩
      · rcases List.mem_cons.1 hc with rfl | hc
        · exact .inr ⟨(a, e :: r), by simp, k1, List.mem_cons_of_mem _ k2⟩
        · exact .inr ⟨c, List.mem_cons_of_mem _ hc, k1, k2⟩)
  ages := List.pairwise_cons.2 ⟨fun c hc => (List.pairwise_cons.1 h.ages).1 c hc, (List.pairwise_cons.1 h.ages).2⟩
  ord := fun c hc => by
    rcases List.mem_cons.1 hc with rfl | hc
    · exact (List.pairwise_cons.1 (h.ord (a, e :: r) (by simp))).2
    · exact h.ord c (List.mem_cons_of_mem _ hc)
  count := by
    have := h.count
    simp [sumL] at this ⊢
    omega
theorem Flow.drop {A : Nat → Ent → Prop} {N : Nat} {P : List (Nat × Ent)} {a : Nat} {l : List (Nat × List Ent)} (h : Flow A N P ((a, []) :: l)) : Flow A N P l where
  sorted := h.sorted
  ahead := fun p hp c hc => h.ahead p hp c (List.mem_cons_of_mem _ hc)
  all := fun b x => (h.all b x).trans (by simp)
  ages := (List.pairwise_cons.1 h.ages).2
  ord := fun c hc => h.ord c (List.mem_cons_of_mem _ hc)
  count := by
    have := h.count
    simp [sumL] at this ⊢
    omega
end Go.Proofs.Ytnncedndlhfdkac

/-
  What has turned between two worlds.
-/
namespace Go.Proofs.Ytnncedndlhfdkac
open Go.ChangeShapes Go.WideShapes Go.ChangeAt Go.RowKit Go.Deep
set_option linter.unusedVariables false
set_option linter.unusedSimpArgs false

/-- From 'w' to 'w'': only what lies in blocks of 'S' has turned, and new blocks came. -/
structure Chg (S : Nat → Prop) (w w' : World) : Prop where
  os : w'.os = w.os
  tape : w'.tape = w.tape
  output : w'.output = w.output
  size : w.heap.size ≤ w'.heap.size
  block : ∀ k, k < w.heap.size → ¬ S k → w'.heap[k]? = w.heap[k]?
theorem Chg.refl (S : Nat → Prop) (w : World) : Chg S w w := ⟨rfl, rfl, rfl, Nat.le_refl _, fun _ _ _ => rfl⟩
theorem Chg.trans {S : Nat → Prop} {a b c : World} (h : Chg S a b) (k : Chg S b c) : Chg S a c :=
  ⟨k.os.trans h.os, k.tape.trans h.tape, k.output.trans h.output, Nat.le_trans h.size k.size, fun i hi hn => (k.block i (Nat.lt_of_lt_of_le hi h.size) hn).trans (h.block i hi hn)⟩
theorem Chg.mono {S T : Nat → Prop} {w w' : World} (h : Chg S w w') (hs : ∀ k, S k → T k) : Chg T w w' := ⟨h.os, h.tape, h.output, h.size, fun k hk hn => h.block k hk (fun q => hn (hs k q))⟩
theorem Chg.of_below {S : Nat → Prop} {w w' : World} (h : Below w.heap.size w w') : Chg S w w' := ⟨h.os, h.tape, h.output, h.size, fun k hk _ => h.block k hk⟩
theorem Chg.of_grown {S : Nat → Prop} {w w' : World} {row : Option Nat} (h : w.grownBy w' row) (hs : ∀ k, row = some k → S k) : Chg S w w' :=
  ⟨h.os, h.tape, h.output, h.size, fun k hk hn => h.block k hk (fun q => hn (hs k q.symm))⟩
theorem Chg.of_set {S : Nat → Prop} (w : World) (g o : Nat) (u : Value) (hs : S g) : Chg S w (w.setCell ⟨g, o, none⟩ u) := Chg.of_grown (grown_set w g o u) (fun k hk => by cases hk; exact hs)
theorem Chg.below {S : Nat → Prop} {B : Nat} {a w w' : World} (h : Below B a w) (k : Chg S w w') (hB : B ≤ w.heap.size) (hs : ∀ k, S k → B ≤ k) : Below B a w' :=
  h.trans ⟨k.os, k.tape, k.output, k.size, fun i hi => k.block i (by omega) (fun q => by have := hs i q; omega)⟩
theorem Chg.cell {S : Nat → Prop} {w w' : World} (h : Chg S w w') {p : Addr} (hp : p.block < w.heap.size) (hn : ¬ S p.block) : w'.cell? p = w.cell? p := World.cell?_of_block (w := w) (h.block p.block hp hn)
theorem Chg.frozen {S : Nat → Prop} {w w' : World} (h : Chg S w w') {p : Addr} (hp : p.block < w.heap.size) (hn : ¬ S p.block) : w'.frozen? p = w.frozen? p := World.frozen?_of_block (w := w) (h.block p.block hp hn)
theorem EntsAt.chg {S : Nat → Prop} {w w' : World} {b off : Nat} {es : List Ent} (h : EntsAt w b off es) (hb : Chg S w w') (hlt : b < w.heap.size) (hn : ¬ S b) : EntsAt w' b off es := by
  intro i e he
  have := h i e he
  refine ⟨?_, ?_, ?_, ?_, ?_, ?_⟩
  all_goals rw [hb.cell (by exact hlt) (by exact hn)]
  · exact this.1
  · exact this.2.1
  · exact this.2.2.1
  · exact this.2.2.2.1
  · exact this.2.2.2.2.1
  · exact this.2.2.2.2.2
theorem own_apart {w : World} {base e size : Nat} {v : Value} {n : Nat} {xs : List Value} {base' e' size' : Nat} {v' : Value} {n' : Nat} {xs' : List Value} (h : w.ownsRow base e size v n xs) (h' : w.ownsRow base' e' size' v' n' xs') (hne : e ≠ e') : ∀ k, v.ownBlock = some k → v'.ownBlock ≠ some k := by
  intro k hk hk'
  rcases h.2 with ⟨rfl, _⟩ | ⟨g1, cap1, cur, rfl, _, hc, _⟩
  · simp [Value.ownBlock] at hk
  · rcases h'.2 with ⟨rfl, _⟩ | ⟨g2, cap2, cur2, rfl, _, hc2, _⟩
    · simp [Value.ownBlock] at hk'
    · simp [Value.ownBlock] at hk hk'
      subst hk hk'
      rw [hc] at hc2
      simp at hc2
      exact hne hc2.2
theorem own_chg {S : Nat → Prop} {w w' : World} {base e size : Nat} {v : Value} {n : Nat} {xs : List Value} (h : w.ownsRow base e size v n xs) (hb : Chg S w w') (hn : ∀ k, v.ownBlock = some k → ¬ S k) : w'.ownsRow base e size v n xs := by
  refine ⟨h.1, ?_⟩
  rcases h.2 with hz | ⟨g, cap, cur, rfl, h1, hg, rest⟩
  · exact .inl hz
  · refine .inr ⟨g, cap, cur, rfl, h1, ?_, rest⟩
    have hlt : g < w.heap.size := by
      rcases Nat.lt_or_ge g w.heap.size with q | q
      · exact q
      · rw [Array.getElem?_eq_none q] at hg; cases hg
    rw [hb.block g hlt (hn g rfl)]; exact hg

end Go.Proofs.Ytnncedndlhfdkac

/-
  A run beside what is changed.
-/
namespace Go.Proofs.Ytnncedndlhfdkac
set_option linter.unusedVariables false
theorem Rm.at.chg {S : Nat → Prop} {w w' : World} {r : Rm} (h : r.at w) (hb : Chg S w w') (hn : ¬ S r.b) : r.at w' := ⟨h.ents.chg hb h.lt hn, by have := hb.size; have := h.lt; omega, h.len, h.cap⟩
end Go.Proofs.Ytnncedndlhfdkac

/-
  A cursor in memory: its entry, its age, its move.
-/
namespace Go.Proofs.Ytnncedndlhfdkac
open Go.ChangeShapes Go.WideShapes Go.ChangeAt Go.RowKit Go.Deep
set_option linter.unusedVariables false
set_option linter.unusedSimpArgs false

structure CuAt (w : World) (c : Cu) : Prop where
  slice : w.cell? ⟨c.blk, 0, none⟩ = some (.slice (some ⟨c.r.b, c.r.off, none⟩) c.r.es.length c.r.cap)
  pos : w.cell? ⟨c.blk, 1, none⟩ = some (.int .i64 c.pos)
  age : w.cell? ⟨c.blk, 2, none⟩ = some (.int .i64 c.age)
  free : ∀ j, w.frozen? ⟨c.blk, j, none⟩ = false
  lt : c.blk < w.heap.size
  ents : c.r.at w
  here : c.pos < c.r.es.length
  short : c.r.es.length ≤ 1048576
  young : c.age ≤ 1048576
theorem CuAt.below {w w' : World} {c : Cu} (h : CuAt w c) (hb : Below w.heap.size w w') : CuAt w' c where
  slice := by rw [hb.cell (p := ⟨c.blk, 0, none⟩) h.lt]; exact h.slice
  pos := by rw [hb.cell (p := ⟨c.blk, 1, none⟩) h.lt]; exact h.pos
  age := by rw [hb.cell (p := ⟨c.blk, 2, none⟩) h.lt]; exact h.age
  free := fun j => by rw [hb.frozen (p := ⟨c.blk, j, none⟩) h.lt]; exact h.free j
  lt := by have := hb.size; have := h.lt; omega
  ents := h.ents.below hb
  here := h.here
  short := h.short
  young := h.young

set_option maxHeartbeats 1000000 in
theorem entry_core (c : Cu) (w : World) (h : CuAt w c) :
    Calls Try.prog 149 #[.pointer (some ⟨c.blk, 0, none⟩)] w fun e w' => e = .returned c.head.v ∧ Below w.heap.size w w' := by
  obtain ⟨c0, c1, c2, c3, c4, c5⟩ := h.ents.ents c.pos c.head (Cu.head_get h.here)
  have hs := h.slice
  have hp := h.pos
  have hl := h.lt
  have hr := h.ents.lt
  have hh := h.here
  have z1 : (0 : Int) ≤ (c.pos : Int) := by omega
  have z2 : (c.pos : Int) < (c.r.es.length : Int) := by omega
  have n1 := World.new_ne w _ hs
  have n2 := World.new_ne w _ hp
  have n3 := World.new_ne w _ c0
  simp only at n1 n2 n3
  clear h
  unfold Ent.v
  generalize c.head = e at *
  obtain ⟨blk, ⟨rb, ro, rc, es⟩, pos, age⟩ := c
  simp only at *
  go_enter Try.func149, Try.ntmps149
  go_upto_region 1 with fail
  go_region_held3 (fun w' => w'.cell? ⟨blk, 0, none⟩ = some (.slice (some ⟨rb, ro, none⟩) es.length rc) ∧ w'.cell? ⟨blk, 1, none⟩ = some (.int .i64 pos) ∧ w'.cell? ⟨rb, ro + pos * 6, none⟩ = some (.string e.row) ∧ w'.cell? ⟨rb, ro + pos * 6 + 1, none⟩ = some (.string e.fam) ∧ w'.cell? ⟨rb, ro + pos * 6 + 2, none⟩ = some (.string e.qual) ∧
    w'.cell? ⟨rb, ro + pos * 6 + 3, none⟩ = some (.int .u64 e.ts) ∧ w'.cell? ⟨rb, ro + pos * 6 + 4, none⟩ = some (.int .i64 e.kind) ∧ w'.cell? ⟨rb, ro + pos * 6 + 5, none⟩ = some (.string e.val)) (go_keep) (fail)
  go_wp2
  refine bodyPost_ret (v := .agg #[.string e.row, .string e.fam, .string e.qual, .int .u64 e.ts, .int .i64 e.kind, .string e.val]) (by simp [results, Try.results149, go_sem]) rfl ⟨rfl, ?_⟩
  exact ((Below.refl _ _).alloc (Nat.le_refl _) _).drew

set_option maxHeartbeats 400000 in
theorem age_core (c : Cu) (w : World) (h : CuAt w c) :
    Calls Try.prog 148 #[.pointer (some ⟨c.blk, 0, none⟩)] w fun e w' => e = .returned (.int .i64 c.age) ∧ Below w.heap.size w w' := by
  have ha := h.age
  go_enter Try.func148, Try.ntmps148
  go_wp2
  go_ret
  exact ⟨rfl, Below.refl _ _⟩

theorem CuAt.chg {S : Nat → Prop} {w w' : World} {c : Cu} (h : CuAt w c) (hb : Chg S w w') (h1 : ¬ S c.blk) (h2 : ¬ S c.r.b) : CuAt w' c where
  slice := by rw [hb.cell (p := ⟨c.blk, 0, none⟩) h.lt h1]; exact h.slice
  pos := by rw [hb.cell (p := ⟨c.blk, 1, none⟩) h.lt h1]; exact h.pos
  age := by rw [hb.cell (p := ⟨c.blk, 2, none⟩) h.lt h1]; exact h.age
  free := fun j => by rw [hb.frozen (p := ⟨c.blk, j, none⟩) h.lt h1]; exact h.free j
  lt := by have := hb.size; have := h.lt; omega
  ents := h.ents.chg hb h2
  here := h.here
  short := h.short
  young := h.young

/-- The cursor, one further. -/
def Cu.on (c : Cu) : Cu := { c with pos := c.pos + 1 }
theorem CuAt.on {w : World} {c : Cu} (h : CuAt w c) (hb : ¬ c.r.b = c.blk) (hn : c.pos + 1 < c.r.es.length) : CuAt (w.setCell ⟨c.blk, 1, none⟩ (.int .i64 (c.pos + 1 : Nat))) c.on := by
  have hg : Chg (fun k => k = c.blk) w (w.setCell ⟨c.blk, 1, none⟩ (.int .i64 (c.pos + 1 : Nat))) := Chg.of_set w c.blk 1 _ rfl
  exact {
    slice := by
      show World.cell? _ ⟨c.blk, 0, none⟩ = _
      rw [World.cell?_setCell_other _ _ _ _ (by simp)]; exact h.slice
    pos := World.cell?_setCell_same _ _ _ h.pos
    age := by
      show World.cell? _ ⟨c.blk, 2, none⟩ = _
      rw [World.cell?_setCell_other _ _ _ _ (by simp)]; exact h.age
    free := fun j => by
      show World.frozen? _ ⟨c.blk, j, none⟩ = _
      rw [World.frozen?_setCell]; exact h.free j
    lt := by have := hg.size; have := h.lt; show c.blk < _; omega
    ents := h.ents.chg hg hb
    here := hn
    short := h.short
    young := h.young }

set_option maxHeartbeats 1000000 in
theorem advance_more (c : Cu) (w : World) (h : CuAt w c) (hn : c.pos + 1 < c.r.es.length) :
    Calls Try.prog 147 #[.pointer (some ⟨c.blk, 0, none⟩)] w fun e w' =>
      e = .returned (.bool true) ∧ ∃ w1, Below w.heap.size w w1 ∧ w' = w1.setCell ⟨c.blk, 1, none⟩ (.int .i64 (c.pos + 1 : Nat)) := by
  have hs := h.slice
  have hp := h.pos
  have hh := h.here
  have hq := h.short
  have hf := h.free 1
  clear h
  obtain ⟨blk, ⟨rb, ro, rc, es⟩, pos, age⟩ := c
  simp only at *
  have z : ¬ ((es.length : Int) ≤ (pos : Int) + 1) := by omega
  go_enter Try.func147, Try.ntmps147
  go_upto_region 1 with fail
  go_quiet (fail)
  go_wp2
  go_ret
  exact ⟨rfl, _, below_drewN (Below.refl _ _) _, rfl⟩
set_option maxHeartbeats 1000000 in
theorem advance_last (c : Cu) (w : World) (h : CuAt w c) (hn : ¬ c.pos + 1 < c.r.es.length) :
    Calls Try.prog 147 #[.pointer (some ⟨c.blk, 0, none⟩)] w fun e w' => e = .returned (.bool false) ∧ Below w.heap.size w w' := by
  have hs := h.slice
  have hp := h.pos
  have hh := h.here
  have hq := h.short
  clear h
  obtain ⟨blk, ⟨rb, ro, rc, es⟩, pos, age⟩ := c
  simp only at *
  have z : (es.length : Int) ≤ (pos : Int) + 1 := by omega
  go_enter Try.func147, Try.ntmps147
  go_upto_region 1 with fail
  go_quiet (fail)
  go_wp2
  go_ret
  exact ⟨rfl, below_drewN (Below.refl _ _) _⟩
end Go.Proofs.Ytnncedndlhfdkac

/-
  The heap of cursors in memory: its order, its exchange.
-/
namespace Go.Proofs.Ytnncedndlhfdkac
open Go.ChangeShapes Go.WideShapes Go.ChangeAt Go.RowKit Go.Deep
set_option linter.unusedVariables false
set_option linter.unusedSimpArgs false
set_option maxRecDepth 100000

abbrev ifc (c : Cu) : Value := .iface 117 (.pointer (some ⟨c.blk, 0, none⟩))
def OwnH (w : World) (base g cap : Nat) (d : Array Cu) : Prop := w.ownsRow base 83 1 (.slice (some ⟨g, 0, none⟩) d.size cap) d.size (d.toList.map ifc)
theorem OwnH.lt {w : World} {base g cap : Nat} {d : Array Cu} (h : OwnH w base g cap d) : base ≤ g ∧ g < w.heap.size := World.ownsRow.lt h g rfl
theorem OwnH.cell {w : World} {base g cap : Nat} {d : Array Cu} (h : OwnH w base g cap d) {i : Nat} (hi : i < d.size) : w.cell? ⟨g, i, none⟩ = some (ifc d[i]!) := by
  have := World.ownsRow.cellAt h i (by omega)
  rw [this, List.getElem?_map]
  simp [hi]
theorem OwnH.below {B : Nat} {w w' : World} {base g cap : Nat} {d : Array Cu} (h : OwnH w base g cap d) (hb : Below B w w') (hg : g < B) : OwnH w' base g cap d := by
  refine ⟨h.1, ?_⟩
  rcases h.2 with hn | ⟨g', cap', cur, hv, h1, h2, rest⟩
  · exact .inl hn
  · simp only [Value.slice.injEq, Option.some.injEq, Addr.mk.injEq, and_true, true_and] at hv
    obtain ⟨rfl, rfl⟩ := hv
    exact .inr ⟨g, cap, cur, rfl, h1, by rw [hb.block g hg]; exact h2, rest⟩

theorem Out.entry {w : World} {c : Cu} (h : CuAt w c) (n : Out w) : Calls Try.prog 149 #[.pointer (some ⟨c.blk, 0, none⟩)] n.u fun e w'' => e = .returned c.head.v ∧ ∃ m : Out w, w'' = m.u :=
  Calls.out_of (entry_core c n.u (h.below n.out))
theorem Out.age {w : World} {c : Cu} (h : CuAt w c) (n : Out w) : Calls Try.prog 148 #[.pointer (some ⟨c.blk, 0, none⟩)] n.u fun e w'' => e = .returned (.int .i64 c.age) ∧ ∃ m : Out w, w'' = m.u :=
  Calls.out_of (age_core c n.u (h.below n.out))
theorem meth_age (a : Addr) (w : World) : (method 300 117 (.pointer (some a)) "loop.example/s01854/impl.age").run Try.prog w = .ok (148, .pointer (some a)) w := by kernel_rfl
theorem meth_entry (a : Addr) (w : World) : (method 300 117 (.pointer (some a)) "loop.example/s01854/impl.entry").run Try.prog w = .ok (149, .pointer (some a)) w := by kernel_rfl

set_option maxHeartbeats 2000000 in
theorem less_core (base g cap : Nat) (d : Array Cu) (i j : Nat) (w : World) (hO : OwnH w base g cap d) (hC : ∀ c ∈ d, CuAt w c) (hi : i < d.size) (hj : j < d.size) :
    Calls Try.prog 145 #[.slice (some ⟨g, 0, none⟩) d.size cap, .int .i64 i, .int .i64 j] w fun e w' => e = .returned (.bool (lessC d[i]! d[j]!)) ∧ Below w.heap.size w w' := by
  have hg := hO.lt.2
  have HO : Hid (OwnH w base g cap d) := hO
  have HI : Hid (CuAt w d[i]!) := hC _ (by rw [getElem!_pos d i hi]; simp)
  have HJ : Hid (CuAt w d[j]!) := hC _ (by rw [getElem!_pos d j hj]; simp)
  have c1 : ∀ n : Out w, n.u.cell? ⟨g, i, none⟩ = some (ifc d[i]!) := fun n => (HO.out.below n.out hg).cell hi
  have c2 : ∀ n : Out w, n.u.cell? ⟨g, j, none⟩ = some (ifc d[j]!) := fun n => (HO.out.below n.out hg).cell hj
  clear hO hC
  obtain ⟨a, hai⟩ : ∃ a, Hid (d[i]! = a) := ⟨_, rfl⟩
  obtain ⟨b, hbj⟩ : ∃ b, Hid (d[j]! = b) := ⟨_, rfl⟩
  rw [hai.out] at HI c1 ⊢
  rw [hbj.out] at HJ c2 ⊢
  have z1 : (i : Int) < (d.size : Int) := by omega
  have z2 : (j : Int) < (d.size : Int) := by omega
  have inh : Nonempty (Out w) := ⟨⟨w, Below.refl _ _⟩⟩
  go_enter Try.func145, Try.ntmps145
  go_upto_region 1 with fail
  refine wp_region_out (by kernel_rfl) (by kernel_rfl) ?_
  have mE := meth_entry
  have mA := meth_age
  repeat (go_big_quiet_step ((first | (go_at_call 149; refine Out.entry ?_ _; first | exact HI.out | exact HJ.out) | (go_at_call 71; exact Calls.out_of (compare_any _ _ _)))))
  refine wpQuiet_nil ?_
  rintro wy ⟨⟨wx, hby⟩, rfl⟩
  have HI2 : Hid (CuAt wy a) := HI.out.below hby
  have HJ2 : Hid (CuAt wy b) := HJ.out.below hby
  have hsz := hby.size
  clear c1 c2
  by_cases hk : keyCmp a.head b.head = 0
  · have hl : lessC a b = decide (a.age < b.age) := by unfold lessC; rw [if_pos hk]
    have c1 : ∀ n : Out wy, n.u.cell? ⟨g, i, none⟩ = some (ifc d[i]!) := fun n => ((HO.out.below hby hg).below n.out (by omega)).cell hi
    have c2 : ∀ n : Out wy, n.u.cell? ⟨g, j, none⟩ = some (ifc d[j]!) := fun n => ((HO.out.below hby hg).below n.out (by omega)).cell hj
    rw [hai.out] at c1
    rw [hbj.out] at c2
    rw [hk]
    have inh2 : Nonempty (Out wy) := ⟨⟨wy, Below.refl _ _⟩⟩
    go_upto_region 4 with fail
    refine wp_region_out (by kernel_rfl) (by kernel_rfl) ?_
    repeat (go_big_quiet_step ((go_at_call 148; refine Out.age ?_ _; first | exact HI2.out | exact HJ2.out)))
    refine wpQuiet_nil ?_
    rintro wz ⟨⟨wv, hbz⟩, rfl⟩
    go_wp2_with fail
    go_ret
    exact ⟨by rw [hl]; simp, hby.trans (hbz.mono hsz)⟩
  · have hl : lessC a b = decide (keyCmp a.head b.head < 0) := by unfold lessC; rw [if_neg hk]
    go_wp2_with fail
    go_ret
    exact ⟨by rw [hl]; simp, hby⟩

theorem cell?_setCell_some {w : World} {p q : Addr} {x v : Value} (h : w.cell? q = some v) : ∃ v', (w.setCell p x).cell? q = some v' := by
  by_cases e : p = q
  · subst e; exact ⟨x, World.cell?_setCell_same w p x h⟩
  · exact ⟨v, (World.cell?_setCell_other w p q x e).trans h⟩

set_option maxHeartbeats 2000000 in
theorem swap_cells (g cap n i j : Nat) (x y : Value) (w : World) (hx : x.oneCell' = true) (hy : y.oneCell' = true) (hi : i < n) (hj : j < n) (ci : w.cell? ⟨g, i, none⟩ = some (.iface 117 x)) (cj : w.cell? ⟨g, j, none⟩ = some (.iface 117 y))
    (fi : w.frozen? ⟨g, i, none⟩ = false) (fj : w.frozen? ⟨g, j, none⟩ = false) :
    Calls Try.prog 146 #[.slice (some ⟨g, 0, none⟩) n cap, .int .i64 i, .int .i64 j] w fun e w' =>
      e = .returned (.tuple #[]) ∧ ∃ q, w' = ((w.setCell ⟨g, i, none⟩ (.iface 117 y)).setCell ⟨g, j, none⟩ (.iface 117 x)).drewN q := by
  obtain ⟨v', hy'⟩ := cell?_setCell_some (w := w) (p := ⟨g, i, none⟩) (x := .iface 117 y) (q := ⟨g, j, none⟩) cj
  have z1 : (i : Int) < (n : Int) := by omega
  have z2 : (j : Int) < (n : Int) := by omega
  go_enter Try.func146, Try.ntmps146
  go_wp2
  go_region
  all_goals (try go_wp2)
  all_goals go_end0
  all_goals exact ⟨rfl, 1, rfl⟩

theorem meth_len0 (a : Addr) (w : World) : (method 300 121 (.pointer (some a)) "Len").run Try.prog w = ((do let v ← loadVar 78 a; pure (42, v)) : Sem (FuncId × Value)).run Try.prog w := by kernel_rfl
end Go.Proofs.Ytnncedndlhfdkac

/-
  container/heap over the cursors: down.
-/
namespace Go.Proofs.Ytnncedndlhfdkac
open Go.ChangeShapes Go.WideShapes Go.ChangeAt Go.RowKit Go.Deep Go.Sort
set_option linter.unusedVariables false
set_option linter.unusedSimpArgs false
set_option maxRecDepth 100000

theorem load_heap (g : Nat) (v : Value) (w : World) (h : w.cell? ⟨g, 0, none⟩ = some v) : (loadVar 78 ⟨g, 0, none⟩).run Try.prog w = .ok v w := by
  have a1 : ∀ w, (isAgg 78).run Try.prog w = .ok false w := fun w => by kernel_rfl
  unfold loadVar
  simp [go_sem, h, a1]
theorem meth_less0 (a : Addr) (w : World) : (method 300 121 (.pointer (some a)) "Less").run Try.prog w = ((do let v ← loadVar 78 a; pure (145, v)) : Sem (FuncId × Value)).run Try.prog w := by kernel_rfl
theorem meth_swap0 (a : Addr) (w : World) : (method 300 121 (.pointer (some a)) "Swap").run Try.prog w = ((do let v ← loadVar 78 a; pure (146, v)) : Sem (FuncId × Value)).run Try.prog w := by kernel_rfl
theorem meth_pop (a : Addr) (w : World) : (method 300 121 (.pointer (some a)) "Pop").run Try.prog w = .ok (150, .pointer (some a)) w := by kernel_rfl
theorem meth_len {g : Nat} {v : Value} {w : World} (h : w.cell? ⟨g, 0, none⟩ = some v) : (method 300 121 (.pointer (some ⟨g, 0, none⟩)) "Len").run Try.prog w = .ok (42, v) w := by
  rw [meth_len0, Sem.run_bind, load_heap g v w h]; rfl
theorem meth_less {g : Nat} {v : Value} {w : World} (h : w.cell? ⟨g, 0, none⟩ = some v) : (method 300 121 (.pointer (some ⟨g, 0, none⟩)) "Less").run Try.prog w = .ok (145, v) w := by
  rw [meth_less0, Sem.run_bind, load_heap g v w h]; rfl
theorem meth_swap {g : Nat} {v : Value} {w : World} (h : w.cell? ⟨g, 0, none⟩ = some v) : (method 300 121 (.pointer (some ⟨g, 0, none⟩)) "Swap").run Try.prog w = .ok (146, v) w := by
  rw [meth_swap0, Sem.run_bind, load_heap g v w h]; rfl

theorem len_core (g : Option Addr) (n cap : Nat) (w : World) : Calls Try.prog 42 #[.slice g n cap] w fun e w' => e = .returned (.int .i64 n) ∧ w' = w := by
  go_enter Try.func42, Try.ntmps42
  go_wp2
  go_ret
  exact ⟨rfl, rfl⟩

/-- The heap in memory: its variable, its row, its cursors. -/
structure HeapW (w : World) (hp base g cap : Nat) (d : Array Cu) : Prop where
  hdr : w.cell? ⟨hp, 0, none⟩ = some (.slice (some ⟨g, 0, none⟩) d.size cap)
  free : ∀ j, w.frozen? ⟨hp, j, none⟩ = false
  lt : hp < w.heap.size
  ne : ¬ hp = g
  row : OwnH w base g cap d
  own : base ≤ hp
  cur : ∀ c ∈ d, CuAt w c
  low : ∀ c ∈ d, c.r.b < base
  high : ∀ c ∈ d, base ≤ c.blk ∧ ¬ c.blk = g ∧ ¬ c.blk = hp
theorem HeapW.below {w w' : World} {hp base g cap : Nat} {d : Array Cu} (h : HeapW w hp base g cap d) (hb : Below w.heap.size w w') : HeapW w' hp base g cap d where
  hdr := by rw [hb.cell (p := ⟨hp, 0, none⟩) h.lt]; exact h.hdr
  free := fun j => by rw [hb.frozen (p := ⟨hp, j, none⟩) h.lt]; exact h.free j
  lt := by have := hb.size; have := h.lt; omega
  ne := h.ne
  row := h.row.below hb h.row.lt.2
  own := h.own
  cur := fun c hc => (h.cur c hc).below hb
  low := h.low
  high := h.high
theorem HeapW.turn {w w' : World} {hp base g cap : Nat} {d d' : Array Cu} (h : HeapW w hp base g cap d) (hb : Chg (fun k => k = g) w w') (hO : OwnH w' base g cap d') (hs : d'.size = d.size) (hm : ∀ c ∈ d', c ∈ d) : HeapW w' hp base g cap d' where
  hdr := by rw [hb.cell (p := ⟨hp, 0, none⟩) h.lt h.ne, hs]; exact h.hdr
  free := fun j => by rw [hb.frozen (p := ⟨hp, j, none⟩) h.lt h.ne]; exact h.free j
  lt := by have := hb.size; have := h.lt; omega
  ne := h.ne
  row := hO
  own := h.own
  cur := fun c hc => (h.cur c (hm c hc)).chg hb (h.high c (hm c hc)).2.1 (fun q => by have h1 := h.low c (hm c hc); have h2 := h.row.lt.1; omega)
  low := fun c hc => h.low c (hm c hc)
  high := fun c hc => h.high c (hm c hc)

theorem mem_get {d : Array Cu} {i : Nat} (hi : i < d.size) : d[i]! ∈ d := by rw [getElem!_pos d i hi]; simp
theorem mem_swp {d : Array Cu} {i j : Nat} (hi : i < d.size) (hj : j < d.size) {c : Cu} (h : c ∈ swp d i j) : c ∈ d := by
  unfold swp at h
  rw [← Array.mem_toList_iff, Array.toList_setIfInBounds] at h
  rcases List.mem_or_eq_of_mem_set h with h | rfl
  · rw [Array.toList_setIfInBounds] at h
    rcases List.mem_or_eq_of_mem_set h with h | rfl
    · simpa using h
    · exact mem_get hj
  · exact mem_get hi
theorem size_swp (d : Array Cu) (i j : Nat) : (swp d i j).size = d.size := by simp [swp]
theorem OwnH.swapped {w : World} {base g cap : Nat} {d : Array Cu} (h : OwnH w base g cap d) {i j : Nat} : OwnH ((w.setCell ⟨g, i, none⟩ (ifc d[j]!)).setCell ⟨g, j, none⟩ (ifc d[i]!)) base g cap (swp d i j) := by
  have h1 := (World.ownsRow.stored h i (ifc d[j]!)).1
  have h2 := (World.ownsRow.stored h1 j (ifc d[i]!)).1
  unfold OwnH
  rw [size_swp]
  have : ((swp d i j).toList.map ifc) = ((d.toList.map ifc).set i (ifc d[j]!)).set j (ifc d[i]!) := by
    unfold Go.Sort.swp
    rw [Array.toList_setIfInBounds, Array.toList_setIfInBounds, List.map_set, List.map_set]
  rw [this]
  exact h2
theorem swap_core (hp base g cap : Nat) (d : Array Cu) (i j : Nat) (w : World) (h : HeapW w hp base g cap d) (hi : i < d.size) (hj : j < d.size) :
    Calls Try.prog 146 #[.slice (some ⟨g, 0, none⟩) d.size cap, .int .i64 i, .int .i64 j] w fun e w' => e = .returned (.tuple #[]) ∧ HeapW w' hp base g cap (swp d i j) ∧ Chg (fun k => k = g) w w' := by
  refine (swap_cells g cap d.size i j _ _ w rfl rfl hi hj (h.row.cell hi) (h.row.cell hj) (World.ownsRow.frozenAt h.row i) (World.ownsRow.frozenAt h.row j)).mono ?_
  rintro e w' ⟨he, q, rfl⟩
  have c1 : Chg (fun k => k = g) w ((w.setCell ⟨g, i, none⟩ (ifc d[j]!)).setCell ⟨g, j, none⟩ (ifc d[i]!)) := (Chg.of_set (S := fun k => k = g) w g i _ rfl).trans (Chg.of_set (S := fun k => k = g) _ g j _ rfl)
  have hb := below_drewN (Below.refl ((w.setCell ⟨g, i, none⟩ (ifc d[j]!)).setCell ⟨g, j, none⟩ (ifc d[i]!)).heap.size ((w.setCell ⟨g, i, none⟩ (ifc d[j]!)).setCell ⟨g, j, none⟩ (ifc d[i]!))) q
  have c2 := c1.trans (Chg.of_below hb)
  have hO : OwnH ((w.setCell ⟨g, i, none⟩ (ifc d[j]!)).setCell ⟨g, j, none⟩ (ifc d[i]!)) base g cap (swp d i j) := h.row.swapped
  exact ⟨he, h.turn c2 (hO.below hb hO.lt.2) (size_swp _ _ _) (fun c hc => mem_swp hi hj hc), c2⟩

theorem sift_none {n i : Nat} {d : Array Cu} (h : n ≤ 2 * i + 1) : siftDown gtC n 0 i d = d := by rw [siftDown, dif_pos (by omega)]
theorem sift_r_stop {n i : Nat} {d : Array Cu} (h : 2 * i + 2 < n) (h1 : lessC d[2 * i + 2]! d[2 * i + 1]! = true) (h2 : lessC d[2 * i + 2]! d[i]! = false) : siftDown gtC n 0 i d = d := by
  rw [siftDown, dif_neg (by omega)]
  simp only [Nat.zero_add, gtC]
  rw [if_pos (by simp [h1]; omega), if_pos (by simp [h2])]
theorem sift_r_go {n i : Nat} {d : Array Cu} (h : 2 * i + 2 < n) (h1 : lessC d[2 * i + 2]! d[2 * i + 1]! = true) (h2 : lessC d[2 * i + 2]! d[i]! = true) : siftDown gtC n 0 i d = siftDown gtC n 0 (2 * i + 2) (swp d i (2 * i + 2)) := by
  rw [siftDown, dif_neg (by omega)]
  simp only [Nat.zero_add, gtC]
  rw [if_pos (by simp [h1]; omega), if_neg (by simp [h2]), dif_pos h]
theorem sift_l_stop {n i : Nat} {d : Array Cu} (h : 2 * i + 1 < n) (h1 : 2 * i + 2 < n → lessC d[2 * i + 2]! d[2 * i + 1]! = false) (h2 : lessC d[2 * i + 1]! d[i]! = false) : siftDown gtC n 0 i d = d := by
  rw [siftDown, dif_neg (by omega)]
  simp only [Nat.zero_add, gtC]
  rw [if_neg (by simp; exact fun q => h1 (by omega)), if_pos (by simp [h2])]
theorem sift_l_go {n i : Nat} {d : Array Cu} (h : 2 * i + 1 < n) (h1 : 2 * i + 2 < n → lessC d[2 * i + 2]! d[2 * i + 1]! = false) (h2 : lessC d[2 * i + 1]! d[i]! = true) : siftDown gtC n 0 i d = siftDown gtC n 0 (2 * i + 1) (swp d i (2 * i + 1)) := by
  rw [siftDown, dif_neg (by omega)]
  simp only [Nat.zero_add, gtC]
  rw [if_neg (by simp; exact fun q => h1 (by omega)), if_neg (by simp [h2])]

theorem less_at (hp base g cap : Nat) (d : Array Cu) (a b : Int) (i j : Nat) (w : World) (h : HeapW w hp base g cap d) (ha : a = i) (hb : b = j) (hi : i < d.size) (hj : j < d.size) :
    Calls Try.prog 145 #[.slice (some ⟨g, 0, none⟩) d.size cap, .int .i64 a, .int .i64 b] w fun e w' => e = .returned (.bool (lessC d[i]! d[j]!)) ∧ HeapW w' hp base g cap d ∧ Chg (fun k => k = g) w w' := by
  subst ha hb
  exact (less_core base g cap d i j w h.row (fun c hc => h.cur c hc) hi hj).mono fun e w' ⟨he, hb⟩ => ⟨he, h.below hb, Chg.of_below hb⟩
theorem swap_at (hp base g cap : Nat) (d : Array Cu) (a b : Int) (i j : Nat) (w : World) (h : HeapW w hp base g cap d) (ha : a = i) (hb : b = j) (hi : i < d.size) (hj : j < d.size) :
    Calls Try.prog 146 #[.slice (some ⟨g, 0, none⟩) d.size cap, .int .i64 a, .int .i64 b] w fun e w' => e = .returned (.tuple #[]) ∧ HeapW w' hp base g cap (swp d i j) ∧ Chg (fun k => k = g) w w' := by
  subst ha hb
  exact swap_core hp base g cap d i j w h hi hj

/-- How the loop stands. -/
structure DownAt (hp base g cap n i0 : Nat) (d : Array Cu) (w : World) (i : Nat) (d' : Array Cu) (w' : World) : Prop where
  heap : HeapW w' hp base g cap d'
  same : siftDown gtC n 0 i d' = siftDown gtC n 0 i0 d
  size : d'.size = d.size
  chg : Chg (fun k => k = g) w w'

set_option maxHeartbeats 4000000 in
theorem down_core (hp base g cap n i0 : Nat) (d : Array Cu) (w : World) (h : HeapW w hp base g cap d) (hn : n ≤ d.size) (hsz : d.size ≤ 1048576) (hi0 : i0 ≤ 1048576) :
    Calls Try.prog 99 #[.iface 121 (.pointer (some ⟨hp, 0, none⟩)), .int .i64 i0, .int .i64 n] w fun e w' =>
      ∃ b, e = .returned (.bool b) ∧ HeapW w' hp base g cap (siftDown gtC n 0 i0 d) ∧ Chg (fun k => k = g) w w' := by
  have H0 : Hid (HeapW w hp base g cap d) := h
  clear h
  go_enter Try.func99, Try.ntmps99
  go_wp2_with fail
  go_loopw [7] (fun c wr => ∃ (i : Nat) (d' : Array Cu), i ≤ 1048576 ∧ c = .int .i64 i ∧ DownAt hp base g cap n i0 d w i d' wr) (fun c _ => 1048577 - (intOf c).toNat)
  case atStart => exact ⟨i0, d, hi0, rfl, H0.out, rfl, rfl, Chg.refl _ _⟩
  case round =>
    obtain ⟨i, d', hi, rfl, hD⟩ := hrel
    have HD : Hid (DownAt hp base g cap n i0 d w i d' wr) := hD
    have hs1 : n ≤ d'.size := by rw [hD.size]; exact hn
    have hs2 : d'.size ≤ 1048576 := by rw [hD.size]; exact hsz
    clear hD
    by_cases hc1 : n ≤ 2 * i + 1
    · have z : (n : Int) ≤ 2 * (i : Int) + 1 := by omega
      go_wp2_with fail
      go_ret
      refine ⟨_, rfl, ?_, HD.out.chg⟩
      rw [← HD.out.same, sift_none hc1]; exact HD.out.heap
    · have z : ¬ (n : Int) ≤ 2 * (i : Int) + 1 := by omega
      have hiA : i < d'.size := by omega
      have hlA : 2 * i + 1 < d'.size := by omega
      have m1 := meth_less HD.out.heap.hdr
      by_cases hc2 : 2 * i + 2 < n
      · have z2 : 2 * (i : Int) + 1 + 1 < (n : Int) := by omega
        have hrA : 2 * i + 2 < d'.size := by omega
        go_wp2_with fail
        refine (less_at hp base g cap d' _ _ (2 * i + 2) (2 * i + 1) _ HD.out.heap (by omega) (by omega) hrA hlA).mono ?_
        rintro e w1 ⟨rfl, hH1, hC1⟩
        have H1 : Hid (HeapW w1 hp base g cap d' ∧ Chg (fun k => k = g) w w1) := ⟨hH1, HD.out.chg.trans hC1⟩
        have m2 := meth_less hH1.hdr
        clear hH1 hC1 m1
        cases hL : lessC d'[2 * i + 2]! d'[2 * i + 1]!
        · go_wp2_with fail
          refine (less_at hp base g cap d' _ _ (2 * i + 1) i _ H1.out.1 (by omega) rfl hlA hiA).mono ?_
          rintro e w2 ⟨rfl, hH2, hC2⟩
          have H2 : Hid (HeapW w2 hp base g cap d' ∧ Chg (fun k => k = g) w w2) := ⟨hH2, H1.out.2.trans hC2⟩
          have m3 := meth_swap hH2.hdr
          clear hH2 hC2 m2
          cases hM : lessC d'[2 * i + 1]! d'[i]!
          · go_wp2_with fail
            go_ret
            refine ⟨_, rfl, ?_, H2.out.2⟩
            rw [← HD.out.same, sift_l_stop (by omega) (fun _ => hL) hM]; exact H2.out.1
          · go_wp2_with fail
            refine (swap_at hp base g cap d' _ _ i (2 * i + 1) _ H2.out.1 rfl (by omega) hiA hlA).mono ?_
            rintro e w3 ⟨rfl, hH3, hC3⟩
            have H3 : Hid (DownAt hp base g cap n i0 d w (2 * i + 1) (swp d' i (2 * i + 1)) w3) := ⟨hH3, by rw [← HD.out.same, sift_l_go (by omega) (fun _ => hL) hM], by rw [size_swp]; exact HD.out.size, H2.out.2.trans hC3⟩
            clear hH3 hC3 m3
            go_wp2_with fail
            go_roundw
            case rel => exact ⟨2 * i + 1, _, by omega, by go_num, H3.out⟩
            case measure => go_light; simp [intOf]; omega
        · go_wp2_with fail
          refine (less_at hp base g cap d' _ _ (2 * i + 2) i _ H1.out.1 (by omega) rfl hrA hiA).mono ?_
          rintro e w2 ⟨rfl, hH2, hC2⟩
          have H2 : Hid (HeapW w2 hp base g cap d' ∧ Chg (fun k => k = g) w w2) := ⟨hH2, H1.out.2.trans hC2⟩
          have m3 := meth_swap hH2.hdr
          clear hH2 hC2 m2
          cases hM : lessC d'[2 * i + 2]! d'[i]!
          · go_wp2_with fail
            go_ret
            refine ⟨_, rfl, ?_, H2.out.2⟩
            rw [← HD.out.same, sift_r_stop hc2 hL hM]; exact H2.out.1
          · go_wp2_with fail
            refine (swap_at hp base g cap d' _ _ i (2 * i + 2) _ H2.out.1 rfl (by omega) hiA hrA).mono ?_
            rintro e w3 ⟨rfl, hH3, hC3⟩
            have H3 : Hid (DownAt hp base g cap n i0 d w (2 * i + 2) (swp d' i (2 * i + 2)) w3) := ⟨hH3, by rw [← HD.out.same, sift_r_go hc2 hL hM], by rw [size_swp]; exact HD.out.size, H2.out.2.trans hC3⟩
            clear hH3 hC3 m3
            go_wp2_with fail
            go_roundw
            case rel => exact ⟨2 * i + 2, _, by omega, by go_num, H3.out⟩
            case measure => go_light; simp [intOf]; omega
      · have z2 : ¬ 2 * (i : Int) + 1 + 1 < (n : Int) := by omega
        go_wp2_with fail
        refine (less_at hp base g cap d' _ _ (2 * i + 1) i _ HD.out.heap (by omega) rfl hlA hiA).mono ?_
        rintro e w2 ⟨rfl, hH2, hC2⟩
        have H2 : Hid (HeapW w2 hp base g cap d' ∧ Chg (fun k => k = g) w w2) := ⟨hH2, HD.out.chg.trans hC2⟩
        have m3 := meth_swap hH2.hdr
        clear hH2 hC2 m1
        cases hM : lessC d'[2 * i + 1]! d'[i]!
        · go_wp2_with fail
          go_ret
          refine ⟨_, rfl, ?_, H2.out.2⟩
          rw [← HD.out.same, sift_l_stop (by omega) (fun q => absurd q hc2) hM]; exact H2.out.1
        · go_wp2_with fail
          refine (swap_at hp base g cap d' _ _ i (2 * i + 1) _ H2.out.1 rfl (by omega) hiA hlA).mono ?_
          rintro e w3 ⟨rfl, hH3, hC3⟩
          have H3 : Hid (DownAt hp base g cap n i0 d w (2 * i + 1) (swp d' i (2 * i + 1)) w3) := ⟨hH3, by rw [← HD.out.same, sift_l_go (by omega) (fun q => absurd q hc2) hM], by rw [size_swp]; exact HD.out.size, H2.out.2.trans hC3⟩
          clear hH3 hC3 m3
          go_wp2_with fail
          go_roundw
          case rel => exact ⟨2 * i + 1, _, by omega, by go_num, H3.out⟩
          case measure => go_light; simp [intOf]; omega
end Go.Proofs.Ytnncedndlhfdkac

/-
  container/heap over the cursors: Init, Fix at the top, Pop; the step.
-/
namespace Go.Proofs.Ytnncedndlhfdkac
open Go.ChangeShapes Go.WideShapes Go.ChangeAt Go.RowKit Go.Deep Go.Sort
set_option linter.unusedVariables false
set_option linter.unusedSimpArgs false
set_option maxRecDepth 100000

set_option maxHeartbeats 1000000 in
theorem up_zero (v : Value) (w : World) : Calls Try.prog 100 #[v, .int .i64 0] w fun e w' => e = .returned (.tuple #[]) ∧ w' = w := by
  go_enter Try.func100, Try.ntmps100
  go_wp2_with fail
  go_loopw [1] (fun c wr => c = .int .i64 0 ∧ wr = w) (fun _ _ => 0)
  case atStart => exact ⟨rfl, rfl⟩
  case round =>
    obtain ⟨rfl, rfl⟩ := hrel
    go_wp2_with fail
    go_end0
    exact ⟨rfl, rfl⟩

set_option maxHeartbeats 1000000 in
theorem fix_core (hp base g cap : Nat) (d : Array Cu) (w : World) (h : HeapW w hp base g cap d) (hsz : d.size ≤ 1048576) :
    Calls Try.prog 79 #[.iface 121 (.pointer (some ⟨hp, 0, none⟩)), .int .i64 0] w fun e w' =>
      e = .returned (.tuple #[]) ∧ HeapW w' hp base g cap (siftDown gtC d.size 0 0 d) ∧ Chg (fun k => k = g) w w' := by
  have H0 : Hid (HeapW w hp base g cap d) := h
  have m1 := meth_len h.hdr
  clear h
  go_enter Try.func79, Try.ntmps79
  go_wp2_with fail
  refine (len_core _ _ _ _).mono ?_
  rintro e w1 ⟨rfl, rfl⟩
  go_wp2_with fail
  refine (down_core hp base g cap d.size 0 d _ H0.out (Nat.le_refl _) hsz (by omega)).mono ?_
  rintro e w2 ⟨b, rfl, hH, hC⟩
  have H2 : Hid (HeapW w2 hp base g cap (siftDown gtC d.size 0 0 d) ∧ Chg (fun k => k = g) w1 w2) := ⟨hH, hC⟩
  clear hH hC m1
  cases b
  · go_wp2_with fail
    refine (up_zero _ _).mono ?_
    rintro e w3 ⟨rfl, rfl⟩
    go_wp2_with fail
    go_end0
    exact ⟨rfl, H2.out.1, H2.out.2⟩
  · go_wp2_with fail
    go_end0
    exact ⟨rfl, H2.out.1, H2.out.2⟩

/-- How the building stands. -/
structure BuildAt (hp base g cap : Nat) (d : Array Cu) (w : World) (k : Nat) (d' : Array Cu) (w' : World) : Prop where
  heap : HeapW w' hp base g cap d'
  same : heapBuild gtC d.size 0 k d' = heapBuild gtC d.size 0 (d.size / 2) d
  size : d'.size = d.size
  chg : Chg (fun k => k = g) w w'
theorem size_sift0 (n : Nat) : ∀ (m i : Nat) (d : Array Cu), n - i ≤ m → (siftDown gtC n 0 i d).size = d.size
  | 0, i, d, h => by rw [sift_none (by omega)]
  | m + 1, i, d, h => by
    by_cases h1 : n ≤ 2 * i + 1
    · rw [sift_none h1]
    · have hl : ∀ q : 2 * i + 2 < n → lessC d[2 * i + 2]! d[2 * i + 1]! = false, (siftDown gtC n 0 i d).size = d.size := fun q => by
        cases hM : lessC d[2 * i + 1]! d[i]!
        · rw [sift_l_stop (by omega) q hM]
        · rw [sift_l_go (by omega) q hM, size_sift0 n m _ _ (by omega), size_swp]
      by_cases h2 : 2 * i + 2 < n
      · cases hL : lessC d[2 * i + 2]! d[2 * i + 1]!
        · exact hl (fun _ => hL)
        · cases hM : lessC d[2 * i + 2]! d[i]!
          · rw [sift_r_stop h2 hL hM]
          · rw [sift_r_go h2 hL hM, size_sift0 n m _ _ (by omega), size_swp]
      · exact hl (fun q => absurd q h2)
theorem size_sift (n i : Nat) (d : Array Cu) : (siftDown gtC n 0 i d).size = d.size := size_sift0 n _ i d (Nat.le_refl _)

set_option maxHeartbeats 1000000 in
theorem init_core (hp base g cap : Nat) (d : Array Cu) (w : World) (h : HeapW w hp base g cap d) (hsz : d.size ≤ 1048576) :
    Calls Try.prog 76 #[.iface 121 (.pointer (some ⟨hp, 0, none⟩))] w fun e w' =>
      e = .returned (.tuple #[]) ∧ HeapW w' hp base g cap (heapBuild gtC d.size 0 (d.size / 2) d) ∧ Chg (fun k => k = g) w w' := by
  have H0 : Hid (HeapW w hp base g cap d) := h
  have m1 := meth_len h.hdr
  clear h
  go_enter Try.func76, Try.ntmps76
  go_wp2_with fail
  refine (len_core _ _ _ _).mono ?_
  rintro e w1 ⟨rfl, rfl⟩
  go_wp2_with fail
  go_loopw [3] (fun c wr => ∃ (k : Nat) (d' : Array Cu), k ≤ d.size / 2 ∧ c = .int .i64 ((k : Int) - 1) ∧ BuildAt hp base g cap d w1 k d' wr) (fun c _ => (intOf c + 1).toNat)
  case atStart => exact ⟨d.size / 2, d, Nat.le_refl _, by go_num, H0.out, rfl, rfl, Chg.refl _ _⟩
  case round =>
    obtain ⟨k, d', hk, rfl, hD⟩ := hrel
    have HD : Hid (BuildAt hp base g cap d w1 k d' wr) := hD
    have hs1 : d.size ≤ d'.size := by rw [hD.size]; omega
    have hs2 : d'.size ≤ 1048576 := by rw [hD.size]; exact hsz
    clear hD
    by_cases h0 : k = 0
    · subst h0
      go_wp2_with fail
      go_end0
      refine ⟨rfl, ?_, HD.out.chg⟩
      rw [← HD.out.same]; exact HD.out.heap
    · obtain ⟨j, rfl⟩ : ∃ j, k = j + 1 := ⟨k - 1, by omega⟩
      have e1 : (((j + 1 : Nat) : Int) - 1) = (j : Int) := by omega
      rw [e1]
      have zj : (0 : Int) ≤ (j : Int) := by omega
      clear e1
      go_wp2_with fail
      refine (down_core hp base g cap d.size j d' _ HD.out.heap hs1 hs2 (by omega)).mono ?_
      rintro e w2 ⟨b, rfl, hH, hC⟩
      have H2 : Hid (BuildAt hp base g cap d w1 j (siftDown gtC d.size 0 j d') w2) := ⟨hH, by rw [← HD.out.same]; rfl, by rw [size_sift]; exact HD.out.size, HD.out.chg.trans hC⟩
      clear hH hC
      go_wp2_with fail
      go_roundw
      case rel => exact ⟨j, _, by omega, by go_num, H2.out⟩
      case measure => go_light; simp [intOf]

theorem OwnH.popped {w : World} {base g cap : Nat} {d : Array Cu} (h : OwnH w base g cap d) : OwnH w base g cap d.pop := by
  rcases h.2 with ⟨hv, _⟩ | ⟨g', cap', cur, hv, h1, h2, h3, h4, h5, h6⟩
  · cases hv
  · simp only [Value.slice.injEq, Option.some.injEq, Addr.mk.injEq, and_true, true_and] at hv
    obtain ⟨rfl, rfl⟩ := hv
    refine ⟨by simp, .inr ⟨g, cap, cur, rfl, h1, h2, by simp; omega, h4, h5, ?_⟩⟩
    have e : (d.pop.toList.map ifc) = (d.toList.map ifc).take (d.size - 1) := by
      rw [Array.toList_pop, List.dropLast_eq_take, List.map_take]; simp
    rw [e, ← h6, List.take_take]
    congr 1
    simp
theorem mem_pop {d : Array Cu} {c : Cu} (h : c ∈ d.pop) : c ∈ d := by
  rw [← Array.mem_toList_iff, Array.toList_pop] at h
  have := List.dropLast_subset _ h
  simpa using this
theorem HeapW.pop {w : World} {hp base g cap : Nat} {d : Array Cu} (h : HeapW w hp base g cap d) : HeapW (w.setCell ⟨hp, 0, none⟩ (.slice (some ⟨g, 0, none⟩) (d.size - 1) cap)) hp base g cap d.pop := by
  have hg : Chg (fun k => k = hp) w (w.setCell ⟨hp, 0, none⟩ (.slice (some ⟨g, 0, none⟩) (d.size - 1) cap)) := Chg.of_set _ _ _ _ rfl
  exact {
    hdr := by rw [World.cell?_setCell_same _ _ _ h.hdr]; simp
    free := fun j => by rw [World.frozen?_setCell]; exact h.free j
    lt := by have := hg.size; have := h.lt; omega
    ne := h.ne
    row := World.ownsRow.kept h.row.popped (grown_set w hp 0 _) (.inr (fun q => h.ne (Option.some.inj q).symm))
    own := h.own
    cur := fun c hc => (h.cur c (mem_pop hc)).chg hg (h.high c (mem_pop hc)).2.2 (fun q => by have h1 := h.low c (mem_pop hc); have h2 := h.own; omega)
    low := fun c hc => h.low c (mem_pop hc)
    high := fun c hc => h.high c (mem_pop hc) }

set_option maxHeartbeats 1000000 in
theorem popM_core (hp base g cap : Nat) (d : Array Cu) (w : World) (h : HeapW w hp base g cap d) (h0 : 0 < d.size) (hsz : d.size ≤ 1048576) :
    Calls Try.prog 150 #[.pointer (some ⟨hp, 0, none⟩)] w fun e w' => (∃ v, e = .returned v) ∧ HeapW w' hp base g cap d.pop ∧ Chg (fun k => k = hp) w w' := by
  have hP : Hid (HeapW (w.setCell ⟨hp, 0, none⟩ (.slice (some ⟨g, 0, none⟩) (d.size - 1) cap)) hp base g cap d.pop) := h.pop
  have c0 := h.hdr
  have c1 := h.row.cell (i := d.size - 1) (by omega)
  have f0 := h.free 0
  have hcap : d.size ≤ cap := by
    rcases h.row.2 with ⟨hv, _⟩ | ⟨g', cap', cur, hv, h1, h2, h3, h4, h5, h6⟩
    · cases hv
    · simp only [Value.slice.injEq, Option.some.injEq, Addr.mk.injEq, and_true, true_and] at hv
      obtain ⟨rfl, rfl⟩ := hv
      exact h3
  generalize d[d.size - 1]! = c at c1
  clear h
  have hC : Hid (Chg (fun k => k = hp) w (w.setCell ⟨hp, 0, none⟩ (.slice (some ⟨g, 0, none⟩) (d.size - 1) cap))) := Chg.of_set _ _ _ _ rfl
  generalize hn : d.size = n at *
  obtain ⟨m, rfl⟩ : ∃ m, n = m + 1 := ⟨n - 1, by omega⟩
  have HN : Hid (d.size = m + 1) := hn
  clear hn
  simp only [Nat.add_sub_cancel] at *
  go_enter Try.func150, Try.ntmps150
  go_wp2
  go_ret
  exact ⟨⟨_, rfl⟩, hP.out, hC.out⟩

set_option maxHeartbeats 1000000 in
theorem pop_core (hp base g cap : Nat) (d : Array Cu) (w : World) (h : HeapW w hp base g cap d) (h0 : 0 < d.size) (hsz : d.size ≤ 1048576) :
    Calls Try.prog 80 #[.iface 121 (.pointer (some ⟨hp, 0, none⟩))] w fun e w' =>
      (∃ v, e = .returned v) ∧ HeapW w' hp base g cap (siftDown gtC (d.size - 1) 0 0 (swp d 0 (d.size - 1))).pop ∧ Chg (fun k => k = g ∨ k = hp) w w' := by
  have H0 : Hid (HeapW w hp base g cap d) := h
  have m1 := meth_len h.hdr
  have m2 := meth_swap h.hdr
  clear h
  have mP := fun w => meth_pop ⟨hp, 0, none⟩ w
  go_enter Try.func80, Try.ntmps80
  go_wp2_with fail
  refine (len_core _ _ _ _).mono ?_
  rintro e w1 ⟨rfl, rfl⟩
  go_wp2_with fail
  refine (swap_at hp base g cap d _ _ 0 (d.size - 1) _ H0.out rfl (by omega) h0 (by omega)).mono ?_
  rintro e w2 ⟨rfl, hH2, hC2⟩
  have H2 : Hid (HeapW w2 hp base g cap (swp d 0 (d.size - 1)) ∧ Chg (fun k => k = g) w1 w2) := ⟨hH2, hC2⟩
  clear hH2 hC2 m1 m2
  have e1 : (d.size : Int) - 1 = ((d.size - 1 : Nat) : Int) := by omega
  rw [e1]
  clear e1
  go_wp2_with fail
  refine (down_core hp base g cap (d.size - 1) 0 (swp d 0 (d.size - 1)) _ H2.out.1 (by rw [size_swp]; omega) (by rw [size_swp]; exact hsz) (by omega)).mono ?_
  rintro e w3 ⟨b, rfl, hH3, hC3⟩
  have H3 : Hid (HeapW w3 hp base g cap (siftDown gtC (d.size - 1) 0 0 (swp d 0 (d.size - 1))) ∧ Chg (fun k => k = g) w1 w3) := ⟨hH3, H2.out.2.trans hC3⟩
  clear hH3 hC3
  go_wp2_with fail
  refine (popM_core hp base g cap _ _ H3.out.1 (by rw [size_sift, size_swp]; exact h0) (by rw [size_sift, size_swp]; exact hsz)).mono ?_
  rintro e w4 ⟨⟨v, rfl⟩, hH4, hC4⟩
  have H4 : Hid (HeapW w4 hp base g cap (siftDown gtC (d.size - 1) 0 0 (swp d 0 (d.size - 1))).pop ∧ Chg (fun k => k = g ∨ k = hp) w1 w4) := ⟨hH4, (H3.out.2.mono (fun k q => .inl q)).trans (hC4.mono (fun k q => .inr q))⟩
  clear hH4 hC4
  go_wp2_with fail
  go_ret
  exact ⟨⟨_, rfl⟩, H4.out.1, H4.out.2⟩
end Go.Proofs.Ytnncedndlhfdkac

