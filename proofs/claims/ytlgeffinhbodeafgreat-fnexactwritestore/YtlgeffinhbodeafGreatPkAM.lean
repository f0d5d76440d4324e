import Derived.OwnWalk
import Derived.Test.YtlgeffinhbodeafGreatPkAL
import Derived.Test.YtlgeffinhbodeafGreatPkAI
import Derived.Test.YtlgeffinhbodeafGreatPkAK
import Derived.Test.YtlgeffinhbodeafGreatPkAD
import Derived.Test.YtlgeffinhbodeafGreatPkAG
/-
  impl's partWrites: the writes by the tablet that holds them.
-/
namespace Go.Proofs.YtlgeffinhbodeafGreat
open Go.ChangeShapes Go.WideShapes Go.ChangeAt Go.RowKit Go.Deep
set_option linter.unusedVariables false
set_option linter.unusedSimpArgs false
set_option maxRecDepth 100000

theorem Tryz.infoEntS : (Tryz.prog.info? 33).map (fun i => (i.zero, i.size, i.bytes)) = some (some (.slice none 0 0), 1, 24) := by kernel_rfl
theorem made_nil (n : Nat) : (madeCells #[Value.slice none 0 0] n).toList = List.replicate n (.slice none 0 0) := by
  apply List.ext_getElem?
  intro i
  rw [List.getElem?_replicate]
  by_cases hi : i < n
  · simp [madeCells, Nat.mod_one, hi]
  · rw [if_neg hi]
    simp [madeCells]
    omega
theorem PI.mono {base base' PB n : Nat} {ps : List (Value × List Ent)} {wr : World} (h : PI base PB n ps wr) (hb : base' ≤ base) : PI base' PB n ps wr :=
  ⟨h.len, row_mono h.row hb, fun p hp => row_mono (h.ents p hp) hb, h.apart⟩
/-- The parts hold what each tablet holds of the first writes. -/
def PartsOf (ts : List Tb) (ps : List (Value × List Ent)) (ws : List Ent) : Prop := ∀ (i : Nat) (p : Value × List Ent) (a : Tb), ps[i]? = some p → ts[i]? = some a → p.2 = partI ts i a ws
theorem PartsOf.zero (ts : List Tb) (n : Nat) : PartsOf ts (List.replicate n (.slice none 0 0, [])) [] := by
  intro i p a hp _
  have := List.eq_of_mem_replicate (List.mem_of_getElem? hp)
  rw [this]
  rfl
theorem PartsOf.step {ts : List Tb} {ps : List (Value × List Ent)} {ws : List Ent} {k : Nat} {e : Ent} (hg : GoodS ts) (h : PartsOf ts ps (ws.take k)) (he : ws[k]? = some e) {i : Nat} (hi : HoldAt ts e.row i) {p : Value × List Ent} (hp : ps[i]? = some p) (v : Value) : PartsOf ts (ps.set i (v, p.2 ++ [e])) (ws.take (k + 1)) := by
  intro j q a hq ha
  rw [List.getElem?_set] at hq
  by_cases ej : i = j
  · subst ej
    rw [if_pos rfl, if_pos (List.getElem?_eq_some_iff.1 hp).1] at hq
    obtain rfl := Option.some.inj hq
    show p.2 ++ [e] = _
    rw [h i p a hp ha]
    exact (inP_yes he ((hold_in hg ha e.row).2 hi)).symm
  · rw [if_neg ej] at hq
    rw [h j q a hq ha]
    refine (inP_no he ?_).symm
    cases hr : inR a.lo (hasN ts j) (hiN ts j) e.row with
    | false => rfl
    | true => exact absurd (hold_uniq hi ((hold_in hg ha e.row).1 hr)) ej
def PwPost (w : World) (ts : List Tb) (ws : List Ent) (e : Ending) (w' : World) : Prop := ∃ (PB : Nat) (ps : List (Value × List Ent)), e = .returned (.slice (some ⟨PB, 0, none⟩) ts.length ts.length) ∧ PI w.heap.size PB ts.length ps w' ∧ PartsOf ts ps ws ∧ Below w.heap.size w w'

set_option maxHeartbeats 8000000 in
theorem partWrites_core (b off cap : Nat) (ts : List Tm) (r : Rm) (w : World) (h : TmsAt w b off ts) (hB : b < w.heap.size) (hn : ts.length ≤ 1000) (hg : GoodS (tbs ts)) (hr : r.at w) (hrl : r.es.length ≤ 1048576) :
    Calls Tryz.prog 31 #[.agg #[.slice (some ⟨b, off, none⟩) ts.length cap], .slice (some ⟨r.b, r.off, none⟩) r.es.length r.cap] w fun e w' => PwPost w (tbs ts) r.es e w' := by
  obtain ⟨iE, hiE, hzE0, hzE1, hzE2⟩ := info_parts Tryz.infoEntS
  have HIE : Hid (Tryz.prog.info? 33 = some iE ∧ iE.zero = some (.slice none 0 0) ∧ iE.size = 1 ∧ iE.bytes = 24) := ⟨hiE, hzE0, hzE1, hzE2⟩
  clear hiE hzE0 hzE1 hzE2
  obtain ⟨Wa, hWa⟩ : ∃ Wa : World, Wa = w.alloc (Obj.cells #[.slice (some ⟨b, off, none⟩) ts.length cap] 30) := ⟨_, rfl⟩
  have hba : Below w.heap.size w Wa := by rw [hWa]; exact (Below.refl _ _).alloc (Nat.le_refl _) _
  have hza : Wa.heap.size = w.heap.size + 1 := by rw [hWa]; simp
  have HWa : Hid (∀ wx, Below Wa.heap.size Wa wx → wx.cell? ⟨w.heap.size, 0, none⟩ = some (.slice (some ⟨b, off, none⟩) ts.length cap) ∧ TmsAt wx b off ts ∧ b < wx.heap.size ∧ r.at wx) := by
    intro wx hx
    have sx := hx.size
    refine ⟨?_, (h.below hba hB).below hx (by omega), by omega, (hr.below hba).below hx⟩
    rw [hx.cell (p := ⟨w.heap.size, 0, none⟩) (by show w.heap.size < Wa.heap.size; omega), hWa]; simp [go_sem]
  have HG : Hid (GoodS (tbs ts)) := hg
  clear h hg hr
  obtain ⟨c0, _⟩ := HWa.out Wa (Below.refl _ _)
  go_enter Tryz.func31, Tryz.ntmps31
  go_upto_region 1 with fail
  rw [← hWa]
  clear hWa
  go_wp2_with (at_make; refine wpList_make_full _ rfl _ _ 64 rfl Wa.heap.size 33 iE _ 1 Tryz.underlying64 HIE.out.1 HIE.out.2.1 HIE.out.2.2.1 _ _ _ _ ts.length rfl rfl rfl rfl ?hb ?hm ?hs ?_)
  case hb => rw [HIE.out.2.2.2]; omega
  case hm => unfold maxLen; omega
  case hs => exact Nat.le_refl _
  intro w1 hown hgrow
  rw [made_nil] at hown
  have hb1 : Below Wa.heap.size Wa w1 := (Below.refl _ _).grown hgrow (Nat.le_refl _) (fun k hk => by cases hk)
  obtain ⟨PB, hPB⟩ : ∃ PB, PB = w.heap.size + 1 := ⟨_, rfl⟩
  obtain ⟨B0, hB0⟩ : ∃ B0, B0 = Wa.heap.size := ⟨_, rfl⟩
  have HP1 : Hid (PI B0 PB ts.length (List.replicate ts.length (.slice none 0 0, [])) w1) := by
    refine ⟨by simp, ?_, fun p hp => ?_, fun i j p q hp _ _ k hk => ?_⟩
    · rw [hPB, hB0, hza]; simpa [hza] using hown
    · have := List.eq_of_mem_replicate hp
      rw [this]
      exact World.ownsRow_nil ..
    · have := List.eq_of_mem_replicate (List.mem_of_getElem? hp)
      rw [this] at hk
      cases hk
  have HB : Hid (B0 = Wa.heap.size ∧ B0 = w.heap.size + 1) := ⟨hB0, by omega⟩
  rw [← hPB]
  clear hown hgrow hPB hB0 hza c0
  go_wp2_with fail
  go_loopw [15] (fun i wr => ∃ (k : Nat) (ps : List (Value × List Ent)), k ≤ r.es.length ∧ i = .int .i64 k ∧ Hid (PI B0 PB ts.length ps wr ∧ PartsOf (tbs ts) ps (r.es.take k)) ∧ Below Wa.heap.size Wa wr) (fun i _ => r.es.length - (intOf i).toNat)
  case atStart => exact ⟨0, _, Nat.zero_le _, rfl, ⟨HP1.out, PartsOf.zero _ _⟩, hb1⟩
  case round =>
    obtain ⟨k, ps, hk, rfl, HI, hb⟩ := hrel
    have hsz := hb.size
    by_cases hlt : k < r.es.length
    · obtain ⟨e, he⟩ : ∃ e, r.es[k]? = some e := ⟨_, List.getElem?_eq_getElem hlt⟩
      obtain ⟨i, hi⟩ := hold_ex HG.out e.row
      have hil : i < ts.length := by have := hi.1; rw [tbs_len] at this; exact this
      have HE : Hid (r.es[k]? = some e ∧ HoldAt (tbs ts) e.row i) := ⟨he, hi⟩
      obtain ⟨_, _, _, hra⟩ := HWa.out wr hb
      obtain ⟨e0, e1, e2, e3, e4, e5⟩ := hra.ents k e he
      obtain ⟨p, hp⟩ : ∃ p, ps[i]? = some p := ⟨_, List.getElem?_eq_getElem (by rw [HI.out.1.len]; exact hil)⟩
      obtain ⟨pa, pc, hpv⟩ := (HI.out.1.ents p (List.mem_of_getElem? hp)).form
      obtain ⟨pn, hpn⟩ : ∃ pn, pn = p.2.length := ⟨_, rfl⟩
      rw [← hpn] at hpv
      have HP : Hid (ps[i]? = some p ∧ p.1 = .slice pa pn pc ∧ p.2.length ≤ 1048576) := by
        refine ⟨hp, hpv, ?_⟩
        obtain ⟨a, ha⟩ : ∃ a, (tbs ts)[i]? = some a := ⟨_, List.getElem?_eq_getElem hi.1⟩
        rw [HI.out.2 i p a hp ha]
        refine Nat.le_trans (List.length_filter_le ..) ?_
        rw [List.length_take]; omega
      clear he hi hra hp hpv hpn
      have zk : (k : Int) < (r.es.length : Int) := by omega
      have zi : (i : Int) < (ts.length : Int) := by omega
      obtain ⟨W1, hW1⟩ : ∃ W1 : World, W1 = wr.alloc (Obj.cells #[.string e.row, .string e.fam, .string e.qual, .int .u64 e.ts, .int .i64 e.kind, .string e.val] 61) := ⟨_, rfl⟩
      have hbW1 : Below wr.heap.size wr W1 := by rw [hW1]; exact (Below.refl _ _).alloc (Nat.le_refl _) _
      have hzW1 : Hid (wr.heap.size < W1.heap.size) := by show _ < _; rw [hW1]; simp
      have HC : Hid (∀ wx, Below W1.heap.size W1 wx → (wx.cell? ⟨PB, i, none⟩ = some (.slice pa pn pc) ∧ wx.cell? ⟨wr.heap.size, 0, none⟩ = some (.string e.row) ∧ wx.cell? ⟨wr.heap.size, 1, none⟩ = some (.string e.fam) ∧ wx.cell? ⟨wr.heap.size, 2, none⟩ = some (.string e.qual) ∧ wx.cell? ⟨wr.heap.size, 3, none⟩ = some (.int .u64 e.ts) ∧ wx.cell? ⟨wr.heap.size, 4, none⟩ = some (.int .i64 e.kind) ∧ wx.cell? ⟨wr.heap.size, 5, none⟩ = some (.string e.val)) ∧ Below wr.heap.size wr wx) := by
        intro wx hx
        have hwx := hbW1.trans (hx.mono hbW1.size)
        have hq : ∀ j, wx.cell? ⟨wr.heap.size, j, none⟩ = W1.cell? ⟨wr.heap.size, j, none⟩ := fun j => hx.cell (p := ⟨wr.heap.size, j, none⟩) hzW1.out
        refine ⟨⟨?_, ?_, ?_, ?_, ?_, ?_, ?_⟩, hwx⟩
        · rw [((HI.out.1.below hwx).cell HP.out.1).1, HP.out.2.1]
        all_goals (rw [hq, hW1]; simp)
      have k1 : Below Wa.heap.size Wa W1 := hb.trans (hbW1.mono hsz)
      obtain ⟨c0, hT, hBb, _⟩ := HWa.out W1 k1
      have HT : Hid (TmsAt W1 b off ts) := hT
      clear hT
      obtain ⟨⟨_, d0, d1, d2, d3, d4, d5⟩, _⟩ := HC.out W1 (Below.refl _ _)
      go_upto_region 5 with fail
      rw [← hW1]
      clear hW1 e0 e1 e2 e3 e4 e5
      go_wp2_with fail
      refine (implHolder_core b off cap ts e.row i W1 HT.out hBb (by omega) HG.out HE.out.2).mono ?_
      rintro x u2 ⟨rfl, hb2⟩
      have k2 : Below Wa.heap.size Wa u2 := k1.trans (hb2.mono k1.size)
      clear c0 d0 d1 d2 d3 d4 d5
      have hS : (fun w' : World => w'.cell? ⟨PB, i, none⟩ = some (.slice pa pn pc) ∧ w'.cell? ⟨wr.heap.size, 0, none⟩ = some (.string e.row) ∧ w'.cell? ⟨wr.heap.size, 1, none⟩ = some (.string e.fam) ∧ w'.cell? ⟨wr.heap.size, 2, none⟩ = some (.string e.qual) ∧ w'.cell? ⟨wr.heap.size, 3, none⟩ = some (.int .u64 e.ts) ∧ w'.cell? ⟨wr.heap.size, 4, none⟩ = some (.int .i64 e.kind) ∧ w'.cell? ⟨wr.heap.size, 5, none⟩ = some (.string e.val)) u2.drew := (HC.out u2.drew hb2.drew).1
      go_upto_region 6 with fail
      refine wp_region_T 10 (fun w' : World => w'.cell? ⟨PB, i, none⟩ = some (.slice pa pn pc) ∧ w'.cell? ⟨wr.heap.size, 0, none⟩ = some (.string e.row) ∧ w'.cell? ⟨wr.heap.size, 1, none⟩ = some (.string e.fam) ∧ w'.cell? ⟨wr.heap.size, 2, none⟩ = some (.string e.qual) ∧ w'.cell? ⟨wr.heap.size, 3, none⟩ = some (.int .u64 e.ts) ∧ w'.cell? ⟨wr.heap.size, 4, none⟩ = some (.int .i64 e.kind) ∧ w'.cell? ⟨wr.heap.size, 5, none⟩ = some (.string e.val)) (by kernel_rfl) ?_
      refine anyT_take (i := 0) (v := ?vpa0) rfl (by kernel_rfl) (by kernel_rfl) (by kernel_rfl) (by kernel_rfl) (by decide) (fun _ _ _ h => h) (Or.inl ⟨by rfl, ?ypa0⟩) hS ?_
      case ypa0 => (intro wz hSw; (try dsimp only at hSw); go_simp; (try with_reducible rfl))
      try simp only [Act.put, List.setIfInBounds_toArray, List.set_cons_zero, List.set_cons_succ]
      refine anyT_take (i := 1) (v := ?vpa1) rfl (by kernel_rfl) (by kernel_rfl) (by kernel_rfl) (by kernel_rfl) (by decide) (fun _ _ _ h => h) (Or.inl ⟨by rfl, ?ypa1⟩) hS ?_
      case ypa1 => (intro wz hSw; (try dsimp only at hSw); go_simp; (try with_reducible rfl))
      try simp only [Act.put, List.setIfInBounds_toArray, List.set_cons_zero, List.set_cons_succ]
      refine anyT_take (i := 2) (v := ?vpa2) rfl (by kernel_rfl) (by kernel_rfl) (by kernel_rfl) (by kernel_rfl) (by decide) (fun _ _ _ h => h) (Or.inl ⟨by rfl, ?ypa2⟩) hS ?_
      case ypa2 => (intro wz hSw; (try dsimp only at hSw); go_simp; (try with_reducible rfl))
      try simp only [Act.put, List.setIfInBounds_toArray, List.set_cons_zero, List.set_cons_succ]
      refine anyT_take (i := 3) (v := ?vpa3) rfl (by kernel_rfl) (by kernel_rfl) (by kernel_rfl) (by kernel_rfl) (by decide) (fun _ _ _ h => h) (Or.inl ⟨by rfl, ?ypa3⟩) hS ?_
      case ypa3 => (intro wz hSw; (try dsimp only at hSw); go_simp; (try with_reducible rfl))
      try simp only [Act.put, List.setIfInBounds_toArray, List.set_cons_zero, List.set_cons_succ]
      refine anyT_take (i := 4) (v := ?vpa4) rfl (by kernel_rfl) (by kernel_rfl) (by kernel_rfl) (by kernel_rfl) (by decide) (fun _ _ _ h => h) (Or.inl ⟨by rfl, ?ypa4⟩) hS ?_
      case ypa4 => (intro wz hSw; (try dsimp only at hSw); go_simp; (try with_reducible rfl))
      try simp only [Act.put, List.setIfInBounds_toArray, List.set_cons_zero, List.set_cons_succ]
      refine anyT_take (i := 5) (v := ?vpa5) rfl (by kernel_rfl) (by kernel_rfl) (by kernel_rfl) (by kernel_rfl) (by decide) (fun _ _ _ h => h) (Or.inl ⟨by rfl, ?ypa5⟩) hS ?_
      case ypa5 => (intro wz hSw; (try dsimp only at hSw); go_simp; (try with_reducible rfl))
      try simp only [Act.put, List.setIfInBounds_toArray, List.set_cons_zero, List.set_cons_succ]
      refine anyT_take (i := 6) (v := ?vpa6) rfl (by kernel_rfl) (by kernel_rfl) (by kernel_rfl) (by kernel_rfl) (by decide) (fun _ _ _ h => h) (Or.inl ⟨by rfl, ?ypa6⟩) hS ?_
      case ypa6 => (intro wz hSw; (try dsimp only at hSw); go_simp; (try with_reducible rfl))
      try simp only [Act.put, List.setIfInBounds_toArray, List.set_cons_zero, List.set_cons_succ]
      refine anyT_one (i := 7) (by kernel_rfl) rfl (fun K hK => ?_)
      go_simp
      obtain ⟨W5, hW5⟩ : ∃ W5 : World, W5 = (u2.alloc (Obj.cells #[.string e.row, .string e.fam, .string e.qual, .int .u64 e.ts, .int .i64 e.kind, .string e.val] 61)).drew := ⟨_, rfl⟩
      have hb5 : Below u2.heap.size u2 W5 := by rw [hW5]; exact ((Below.refl _ _).alloc (Nat.le_refl _) _).drew
      have b15 : Below W1.heap.size W1 W5 := hb2.trans (hb5.mono hb2.size)
      have HE5 : Hid (EntsAt W5 u2.heap.size 0 [e] ∧ EntR W5 B0 (.slice pa pn pc) p.2 ∧ p.2.length + [e].length ≤ 2 ^ 30) := by
        have hwx := (HC.out W5 b15).2
        refine ⟨fun j x hj => ?_, ?_, ?_⟩
        · have hj0 : j = 0 := by have := (List.getElem?_eq_some_iff.1 hj).1; simp at this; omega
          subst hj0
          obtain rfl := Option.some.inj hj
          rw [hW5]
          refine ⟨?_, ?_, ?_, ?_, ?_, ?_⟩ <;> simp
        · have := (HI.out.1.below hwx).ents p (List.mem_of_getElem? HP.out.1)
          rw [HP.out.2.1] at this
          exact this
        · have := HP.out.2.2
          simp; omega
      have k5 : Below Wa.heap.size Wa W5 := k2.trans (hb5.mono k2.size)
      have s5 : B0 ≤ W5.heap.size := by have := HB.out.1; have := k5.size; omega
      rw [← hW5]
      refine hK.out _ _ (.inr (HC.out W5 b15).1) ?_
      clear hK hW5
      try simp only [Act.put, List.setIfInBounds_toArray, List.set_cons_zero, List.set_cons_succ]
      refine anyT_one (i := 8) (by kernel_rfl) rfl (fun K hK => ?_)
      refine step_append_entX _ (by rfl) _ _ (by rfl) B0 (.slice pa pn pc) p.2 u2.heap.size 0 1 1 [e] (by rfl) (by rfl) (by rfl) HE5.out.2.1 HE5.out.1 HE5.out.2.2 s5 ?_
      intro v' u3 hA
      obtain ⟨na, nc, hv'⟩ := hA.row.form
      obtain ⟨nn, hnn⟩ : ∃ nn, nn = (p.2 ++ [e]).length := ⟨_, rfl⟩
      rw [← hnn] at hv'
      subst hv'
      have HN : Hid (PI B0 PB ts.length (ps.set i (.slice na nn nc, p.2 ++ [e])) (u3.setCell ⟨PB, i, none⟩ (.slice na nn nc)) ∧ PartsOf (tbs ts) (ps.set i (.slice na nn nc, p.2 ++ [e])) (r.es.take (k + 1)) ∧ Below Wa.heap.size Wa (u3.setCell ⟨PB, i, none⟩ (.slice na nn nc))) := by
        have hwx := (HC.out W5 b15).2
        have hA' : AppN W5 u3 B0 p.1 (.slice na nn nc) p.2 [e] := by rw [HP.out.2.1]; exact hA
        refine ⟨HI.out.1.put hwx HP.out.1 hA', PartsOf.step HG.out HI.out.2 HE.out.1 HE.out.2 HP.out.1 _, ?_⟩
        have hpl := HI.out.1.lt
        have h9 : Below Wa.heap.size Wa u3 := k5.grown hA.grown k5.size (fun j hj => by
          have := (World.ownsRow.lt HE5.out.2.1 j hj).1
          have := HB.out.1
          omega)
        exact h9.setCell (by have := HB.out.1; show Wa.heap.size ≤ PB; omega) _
      have q9 : u3.cell? ⟨PB, i, none⟩ = some (.slice pa pn pc) ∧ u3.frozen? ⟨PB, i, none⟩ = false := by
        have hwx := (HC.out W5 b15).2
        have h2 := HI.out.1.below hwx
        have hrow3 := World.ownsRow.kept h2.row hA.grown (.inr (fun q => own_apart HE5.out.2.1 h2.row (by decide) PB (by rw [← q]; rfl) rfl))
        have hl : i < ts.length := hil
        refine ⟨?_, World.ownsRow.frozenAt hrow3 i⟩
        rw [World.ownsRow.cellAt hrow3 i (by omega), List.getElem?_map, HP.out.1]
        show some p.1 = _
        rw [HP.out.2.1]
      have q10 : u3.cell? ⟨wr.heap.size, 0, none⟩ = some (.string e.row) ∧ u3.cell? ⟨wr.heap.size, 1, none⟩ = some (.string e.fam) ∧ u3.cell? ⟨wr.heap.size, 2, none⟩ = some (.string e.qual) ∧ u3.cell? ⟨wr.heap.size, 3, none⟩ = some (.int .u64 e.ts) ∧ u3.cell? ⟨wr.heap.size, 4, none⟩ = some (.int .i64 e.kind) ∧ u3.cell? ⟨wr.heap.size, 5, none⟩ = some (.string e.val) := by
        have hcg : Chg (fun k => k < wr.heap.size) W5 u3 := Chg.of_grown hA.grown (fun j hj => by
          have h0 := HI.out.1.ents p (List.mem_of_getElem? HP.out.1)
          rw [HP.out.2.1] at h0
          exact (World.ownsRow.lt h0 j hj).2)
        have h1 := (HC.out W5 b15)
        have h2 : wr.heap.size < W5.heap.size := by have := h1.2.size; have := hb2.size; have := hb5.size; have := b15.size; have := hzW1.out; omega
        have hq : ∀ j, u3.cell? ⟨wr.heap.size, j, none⟩ = W5.cell? ⟨wr.heap.size, j, none⟩ := fun j => hcg.cell (p := ⟨wr.heap.size, j, none⟩) h2 (by show ¬ wr.heap.size < wr.heap.size; omega)
        rw [hq, hq, hq, hq, hq, hq]
        exact h1.1.2
      refine hK.out _ _ (.inr ⟨q9.1, q10⟩) ?_
      clear hK hA hnn
      try simp only [Act.put, List.setIfInBounds_toArray, List.set_cons_zero, List.set_cons_succ]
      refine anyT_one (i := 9) (by kernel_rfl) rfl (fun K hK => ?_)
      go_simp
      refine hK.out _ _ (.inr ⟨q9.1, q10⟩) ?_
      clear hK
      try simp only [Act.put, List.setIfInBounds_toArray, List.set_cons_zero, List.set_cons_succ]
      obtain ⟨q9a, q9b⟩ := q9
      refine anyT_one (i := 10) (by kernel_rfl) rfl (fun K hK => ?_)
      go_simp
      refine hK.out _ _ (.inl rfl) ?_
      clear hK
      try simp only [Act.put, List.setIfInBounds_toArray, List.set_cons_zero, List.set_cons_succ]
      refine anyT_done (by kernel_rfl) ?_
      go_wp2_with fail
      go_roundw
      case rel => exact ⟨k + 1, _, by omega, by go_num, ⟨HN.out.1, HN.out.2.1⟩, HN.out.2.2⟩
      case measure => simp [intOf]; omega
    · have zk : ¬ (k : Int) < (r.es.length : Int) := by omega
      have H : Hid (PI w.heap.size PB ts.length ps wr ∧ PartsOf (tbs ts) ps r.es) := by
        refine ⟨HI.out.1.mono (by have := HB.out.2; omega), ?_⟩
        have := HI.out.2
        rw [List.take_of_length_le (by omega)] at this
        exact this
      go_wp2_with fail
      go_ret
      exact ⟨PB, ps, by simp [tbs_len], by rw [tbs_len]; exact H.out.1, H.out.2, hba.trans (hb.mono (by have := HB.out; omega))⟩
end Go.Proofs.YtlgeffinhbodeafGreat

/-
  Tablets that are put together from parts of an argument and rows of the call's own, beside what turns.
-/
namespace Go.Proofs.YtlgeffinhbodeafGreat
open Go.ChangeShapes Go.WideShapes Go.ChangeAt Go.RowKit Go.Deep
set_option linter.unusedVariables false
set_option linter.unusedSimpArgs false

theorem InRms.chg {S : Nat → Prop} {w w' : World} {v : Value} {l : List Rm} (h : InRms w v l) (hc : Chg S w w') (hv : ∀ g n c, v = .slice (some g) n c → l ≠ [] → ¬ S g.block) (hl : ∀ r ∈ l, ¬ S r.b) : InRms w' v l := by
  rcases h with h | ⟨b, off, cap, hq, hE, hlt, h1, h2⟩
  · exact .inl h
  · by_cases hn : l = []
    · subst hn
      exact .inl ⟨_, _, hq, rfl⟩
    · refine .inr ⟨b, off, cap, hq, fun i r hi => ?_, by have := hc.size; omega, h1, h2⟩
      obtain ⟨k1, k2⟩ := hE i r hi
      exact ⟨by rw [hc.cell (p := ⟨b, off + i, none⟩) hlt (hv ⟨b, off, none⟩ _ _ hq hn)]; exact k1, k2.chg hc (hl r (List.mem_of_getElem? hi))⟩
/-- Blocks of a tablet: an argument's, or new ones that are not 'V's. -/
structure TyIn (A B : Nat) (V : Value) (w : World) (t : Ty) : Prop where
  ins : InRms w t.v t.l
  row : ∀ g n c, t.v = .slice (some g) n c → t.l ≠ [] → g.block < A ∨ (B ≤ g.block ∧ g.block < w.heap.size ∧ V.ownBlock ≠ some g.block)
  ents : ∀ r ∈ t.l, r.b < A ∨ (B ≤ r.b ∧ V.ownBlock ≠ some r.b)
  small : t.l.length ≤ 1048576 ∧ totM t.l ≤ 1048576
theorem InRms.blocks {w : World} {v : Value} {l : List Rm} (h : InRms w v l) : ∀ r ∈ l, r.b < w.heap.size := by
  intro r hr
  rcases h with ⟨_, _, _, rfl⟩ | ⟨b, off, cap, hq, hE, hlt, h1, h2⟩
  · simp at hr
  · obtain ⟨j, hj⟩ := List.getElem?_of_mem hr
    exact (hE j r hj).2.lt
theorem TyIn.below {A B : Nat} {V : Value} {w w' : World} {t : Ty} (h : TyIn A B V w t) (hb : Below w.heap.size w w') : TyIn A B V w' t :=
  ⟨h.ins.below hb, fun g n c hg hn => by
    rcases h.row g n c hg hn with q | ⟨q1, q2, q3⟩
    · exact .inl q
    · exact .inr ⟨q1, by have := hb.size; omega, q3⟩, h.ents, h.small⟩
/-- The row of tablets grown, its variable (at 'R', between the two) set. -/
theorem TyIn.step {A B R : Nat} {V V' : Value} {w w' : World} {t : Ty} (h : TyIn A B V w t) (hg : w.grownBy w' V.ownBlock) (hV : ∀ k, V.ownBlock = some k → B ≤ k) (hat : V'.ownBlock = V.ownBlock ∨ V'.ownBlock = some w.heap.size) (hA : A ≤ R) (hR : R < B) : TyIn A B V' (w'.setCell ⟨R, 0, none⟩ V') t := by
  have hc : Chg (fun k => V.ownBlock = some k ∨ k = R) w (w'.setCell ⟨R, 0, none⟩ V') := (Chg.of_grown hg (fun k hk => .inl hk)).trans (Chg.of_set _ _ _ _ (.inr rfl))
  have hs := hg.size
  have hAB : A ≤ B := by omega
  have hne : ∀ k, k < A ∨ (B ≤ k ∧ V.ownBlock ≠ some k) → ¬ (V.ownBlock = some k ∨ k = R) := fun k hk q => by
    rcases hk with hk | ⟨h1, h2⟩
    · rcases q with q | q
      · have := hV k q; omega
      · omega
    · rcases q with q | q
      · exact h2 q
      · omega
  have hnew : ∀ k, k < w.heap.size → V.ownBlock ≠ some k → V'.ownBlock ≠ some k := fun k hk h1 q => by
    rcases hat with e | e
    · rw [e] at q; exact h1 q
    · rw [e] at q; have := Option.some.inj q; omega
  refine ⟨h.ins.chg hc (fun g n c hv hl => hne _ ?_) (fun r hr => hne _ (h.ents r hr)), fun g n c hv hl => ?_, fun r hr => ?_, h.small⟩
  · rcases h.row g n c hv hl with q | ⟨q1, _, q3⟩
    · exact .inl q
    · exact .inr ⟨q1, q3⟩
  · rcases h.row g n c hv hl with q | ⟨q1, q2, q3⟩
    · exact .inl q
    · exact .inr ⟨q1, by simpa using Nat.lt_of_lt_of_le q2 hs, hnew _ q2 q3⟩
  · rcases h.ents r hr with q | ⟨q1, q3⟩
    · exact .inl q
    · exact .inr ⟨q1, hnew _ (h.ins.blocks r hr) q3⟩
/-- The store that impl writes, up to a tablet. -/
structure JW (A B WB : Nat) (ts : List Tm) (ws : List Ent) (k : Nat) (V : Value) (os : List Ty) (wr : World) : Prop where
  len : os.length = k
  row : wr.ownsRow B 56 2 V k (cellsP (os.map fun t => (t.lo, t.v)))
  ins : ∀ t ∈ os, TyIn A B V wr t
  tabs : ∀ (j : Nat) (a : Tb) (o : Ty), (tbs ts)[j]? = some a → os[j]? = some o → TabW (partI (tbs ts) j a ws) a o.tb
  full : ∀ (j : Nat) (a : Tb), j < k → (tbs ts)[j]? = some a → 0 < (partI (tbs ts) j a ws).length → a.rs.length ≠ 50
  box : wr.cell? ⟨WB, 0, none⟩ = some V
  fro : wr.frozen? ⟨WB, 0, none⟩ = false
  wb : A ≤ WB ∧ WB < B ∧ B ≤ wr.heap.size
theorem JW.below {A B WB : Nat} {ts : List Tm} {ws : List Ent} {k : Nat} {V : Value} {os : List Ty} {wr w' : World} (h : JW A B WB ts ws k V os wr) (hb : Below wr.heap.size wr w') : JW A B WB ts ws k V os w' := by
  have s := hb.size
  have o := h.wb
  exact ⟨h.len, own_chg (S := fun _ => False) h.row (Chg.of_below hb) (fun k _ q => q), fun t ht => (h.ins t ht).below hb, h.tabs, h.full, by rw [hb.cell (p := ⟨WB, 0, none⟩) (by show WB < _; omega)]; exact h.box, by rw [hb.frozen (p := ⟨WB, 0, none⟩) (by show WB < _; omega)]; exact h.fro, by omega⟩
theorem JW.snoc {A B WB : Nat} {ts : List Tm} {ws : List Ent} {k : Nat} {V V' : Value} {os : List Ty} {wr w2 w3 : World} (h : JW A B WB ts ws k V os wr) (hb : Below wr.heap.size wr w2) {t : Ty} {a : Tb} (ht : TyIn A B V w2 t) (ha : (tbs ts)[k]? = some a) (hw : TabW (partI (tbs ts) k a ws) a t.tb) (hf : 0 < (partI (tbs ts) k a ws).length → a.rs.length ≠ 50) (hA : AppT w2 w3 B V V' (os.map fun t => (t.lo, t.v)) [(t.lo, t.v)]) : JW A B WB ts ws (k + 1) V' (os ++ [t]) (w3.setCell ⟨WB, 0, none⟩ V') := by
  have h2 := h.below hb
  have o := h2.wb
  have hV : ∀ j, V.ownBlock = some j → B ≤ j := fun j hj => (World.ownsRow.lt h2.row j hj).1
  have hs := hA.grown.size
  have hrow : w3.ownsRow B 56 2 V' (k + 1) (cellsP ((os ++ [t]).map fun t => (t.lo, t.v))) := by
    have := hA.row
    rw [List.length_append, List.length_map, h.len] at this
    rw [List.map_append]
    exact this
  refine ⟨by rw [List.length_append, h.len]; rfl, row_set hrow WB 0 V' (by omega), fun x hx => ?_, fun j x y hx hy => ?_, fun j x hj hx => ?_, ?_, ?_, by simpa using (show A ≤ WB ∧ WB < B ∧ B ≤ w3.heap.size by omega)⟩
  · rcases List.mem_append.1 hx with q | q
    · exact (h2.ins x q).step hA.grown hV hA.blk o.1 o.2.1
    · simp at q
      subst q
      exact ht.step hA.grown hV hA.blk o.1 o.2.1
  · by_cases e : j < k
    · rw [List.getElem?_append_left (by rw [h.len]; exact e)] at hy
      exact h.tabs j x y hx hy
    · have hl := (List.getElem?_eq_some_iff.1 hy).1
      rw [List.length_append, h.len] at hl
      simp at hl
      have ej : j = k := by omega
      subst ej
      rw [List.getElem?_append_right (by rw [h.len]; exact Nat.le_refl _), h.len, Nat.sub_self] at hy
      obtain rfl := Option.some.inj hy
      rw [ha] at hx
      cases hx
      exact hw
  · by_cases e : j = k
    · subst e
      rw [ha] at hx
      cases hx
      exact hf
    · exact h.full j x (by omega) hx
  · have hc : Chg (fun q => V.ownBlock = some q) w2 w3 := Chg.of_grown hA.grown (fun q hq => hq)
    have : w3.cell? ⟨WB, 0, none⟩ = some V := by
      rw [hc.cell (p := ⟨WB, 0, none⟩) (by show WB < _; omega) (fun q => by have := hV WB q; omega)]; exact h2.box
    simp [go_sem, this]
  · have hc : Chg (fun q => V.ownBlock = some q) w2 w3 := Chg.of_grown hA.grown (fun q hq => hq)
    have : w3.frozen? ⟨WB, 0, none⟩ = false := by
      rw [hc.frozen (p := ⟨WB, 0, none⟩) (by show WB < _; omega) (fun q => by have := hV WB q; omega)]; exact h2.fro
    simpa using this
/-- All tablets written. -/
theorem JW.done {A B WB : Nat} {ts : List Tm} {ws : List Ent} {V : Value} {os : List Ty} {wr : World} (h : JW A B WB ts ws ts.length V os wr) (hg : GoodS (tbs ts)) (hw : GoodW ws) : WrT (tbs ts) ws (os.map Ty.tb) := by
  refine .inr ⟨hg, hw, .inr ⟨?_, by rw [List.length_map, tbs_len]; exact h.len, fun i a o ha ho => ?_⟩⟩
  · rintro ⟨i, a, ha, hp, h50⟩
    exact h.full i a (by have := (List.getElem?_eq_some_iff.1 ha).1; rw [tbs_len] at this; exact this) ha hp h50
  · rw [List.getElem?_map] at ho
    cases hq : os[i]? with
    | none => rw [hq] at ho; cases ho
    | some x =>
      rw [hq] at ho
      obtain rfl := Option.some.inj ho
      exact h.tabs i a x ha hq
end Go.Proofs.YtlgeffinhbodeafGreat

/-
  impl.WriteStore.
-/
namespace Go.Proofs.YtlgeffinhbodeafGreat
open Go.ChangeShapes Go.WideShapes Go.ChangeAt Go.RowKit Go.Deep
set_option linter.unusedVariables false
set_option linter.unusedSimpArgs false
set_option maxRecDepth 100000

/-- What impl.BuildRun answers (the contract alone: no sort is needed here). -/
def BuildW : Prop := ∀ (b off cap : Nat) (ws : List Ent) (w : World), EntsAt w b off ws → (∀ e ∈ ws, e.ok) → b < w.heap.size → ws.length ≤ cap → cap ≤ maxLen → ws.length ≤ 1048576 →
    Calls Tryz.prog 33 #[.slice (some ⟨b, off, none⟩) ws.length cap] w fun r w' =>
      ((¬ GoodW ws ∧ r = .returned (.agg #[.slice none 0 0])) ∨ (GoodW ws ∧ ∃ g cp R, r = .returned (.agg #[.slice (some ⟨g, 0, none⟩) R.length cp]) ∧ OwnE w' w.heap.size g cp R ∧ Kept ws ws.length R)) ∧ Below w.heap.size w w'
/-- BuildRun of one of the rows. -/
theorem build_part (hBuild : BuildW) {base PB n k : Nat} {ps : List (Value × List Ent)} {W1 : World} {p : Value × List Ent} {ws : List Ent} {pa : Option Addr} {pn pc : Nat} (hP : PI base PB n ps W1) (hp : ps[k]? = some p) (hv : p.1 = .slice pa pn pc) (hn : pn = p.2.length) (hpos : 0 < pn) (hsub : ∀ e ∈ p.2, e ∈ ws) (hlen : p.2.length ≤ ws.length) (hgw : GoodW ws) (hok : ∀ e ∈ ws, e.ok) (hpl : pn ≤ 1048576) :
    ∃ pg, pa = some ⟨pg, 0, none⟩ ∧ pc ≤ maxLen ∧ Hid (∀ wx, Below W1.heap.size W1 wx → Calls Tryz.prog 33 #[.slice (some ⟨pg, 0, none⟩) pn pc] wx fun e w' => ∃ (g cp rn : Nat) (R : List Ent), e = .returned (.agg #[.slice (some ⟨g, 0, none⟩) rn cp]) ∧ rn = R.length ∧ rn ≤ pn ∧ Hid (OwnE w' wx.heap.size g cp R ∧ Kept p.2 p.2.length R) ∧ Below wx.heap.size wx w') := by
  subst hn
  obtain ⟨pg, cp, hv2, hO⟩ := (hP.ents p (List.mem_of_getElem? hp)).own hpos
  rw [hv] at hv2
  simp only [Value.slice.injEq, true_and] at hv2
  obtain ⟨rfl, rfl⟩ := hv2
  refine ⟨pg, rfl, (OwnRow.caps hO).2, fun wx hx => ?_⟩
  have hO2 := hO.below hx hO.lt.2
  have hg2 : GoodW p.2 := ⟨Nat.le_trans hlen hgw.1, fun e he => hgw.2 e (hsub e he)⟩
  refine (hBuild pg 0 pc p.2 wx hO2.at (fun e he => hok e (hsub e he)) hO2.lt.2 (OwnRow.caps hO2).1 (OwnRow.caps hO2).2 hpl).mono ?_
  rintro e w' ⟨h2, hb2⟩
  rcases h2 with ⟨h2, _⟩ | ⟨_, g, c, R, rfl, hR, hK⟩
  · exact absurd hg2 h2
  · exact ⟨g, c, R.length, R, rfl, rfl, kept_len hK, ⟨hR, hK⟩, hb2⟩

/-- What WriteStore of impl hands back. -/
def WrIPost (w : World) (tb : List Tb) (ws : List Ent) (e : Ending) (w' : World) : Prop := ∃ out, WrT tb ws out ∧ CpIPost w out e w'

set_option maxHeartbeats 8000000 in
theorem implWrite_store (hBuild : BuildW) (b off cap : Nat) (ts : List Tm) (r : Rm) (w : World) (h : TmsAt w b off ts) (hok : okTs ts) (hB : b < w.heap.size) (hn : ts.length ≤ 1048576) (hcap : ts.length ≤ cap) (hcm : cap ≤ maxLen) (hs : ∀ t ∈ ts, t.l.length + totM t.l + r.es.length ≤ 1048576) (hr : r.at w) (hrok : ∀ e ∈ r.es, e.ok) (hrl : r.es.length ≤ 1048576) :
    Calls Tryz.prog 10 #[.agg #[.slice (some ⟨b, off, none⟩) ts.length cap], .slice (some ⟨r.b, r.off, none⟩) r.es.length r.cap] w fun e w' => WrIPost w (tbs ts) r.es e w' := by
  obtain ⟨Wa, hWa⟩ : ∃ Wa : World, Wa = (w.alloc (Obj.cells #[.slice (some ⟨b, off, none⟩) ts.length cap] 30)).alloc (Obj.cells #[.slice none 0 0] 30) := ⟨_, rfl⟩
  have hba : Below w.heap.size w Wa := by rw [hWa]; exact ((Below.refl _ _).alloc (Nat.le_refl _) _).alloc (by simp) _
  have hza : Wa.heap.size = w.heap.size + 1 + 1 := by rw [hWa]; simp
  have HWa : Hid (∀ wx, Below Wa.heap.size Wa wx → wx.cell? ⟨w.heap.size, 0, none⟩ = some (.slice (some ⟨b, off, none⟩) ts.length cap) ∧ wx.cell? ⟨w.heap.size + 1, 0, none⟩ = some (.slice none 0 0) ∧ wx.frozen? ⟨w.heap.size + 1, 0, none⟩ = false ∧ TmsAt wx b off ts ∧ b < wx.heap.size) := by
    intro wx hx
    have sx := hx.size
    refine ⟨?_, ?_, ?_, (h.below hba hB).below hx (by omega), by omega⟩
    · rw [hx.cell (p := ⟨w.heap.size, 0, none⟩) (by show w.heap.size < Wa.heap.size; omega), hWa]; simp [go_sem]
    · rw [hx.cell (p := ⟨w.heap.size + 1, 0, none⟩) (by show w.heap.size + 1 < Wa.heap.size; omega), hWa]; simp [go_sem]
    · rw [hx.frozen (p := ⟨w.heap.size + 1, 0, none⟩) (by show w.heap.size + 1 < Wa.heap.size; omega), hWa]; simp [go_sem]
  have HS : Hid (okTs ts ∧ ∀ t ∈ ts, t.l.length + totM t.l + r.es.length ≤ 1048576) := ⟨hok, hs⟩
  have HRa : Hid ((∀ wx, Below Wa.heap.size Wa wx → r.at wx) ∧ (∀ e ∈ r.es, e.ok)) := ⟨fun wx hx => (hr.below hba).below hx, hrok⟩
  have HSy : Hid (∀ t ∈ ts.map Tm.ty, t.l.length ≤ 1048576 ∧ totM t.l ≤ 1048576) := by
    intro t ht
    obtain ⟨u, hu, rfl⟩ := List.mem_map.1 ht
    have := hs u hu
    exact ⟨by show u.l.length ≤ 1048576; omega, by show totM u.l ≤ 1048576; omega⟩
  -- a copy of the store as it came
  have HCp : Hid (∀ W, Below Wa.heap.size Wa W → Calls Tryz.prog 30 #[.agg #[.slice (some ⟨b, off, none⟩) ts.length cap]] W fun e w' => ∃ (g cp : Nat) (xs : List Tx), e = .returned (.agg #[.slice (some ⟨g, 0, none⟩) xs.length cp]) ∧ w'.cell? ⟨w.heap.size + 1, 0, none⟩ = some (.slice none 0 0) ∧ w'.frozen? ⟨w.heap.size + 1, 0, none⟩ = false ∧ Hid (CpIPost w (tbs ts) (.returned (.agg #[.slice (some ⟨g, 0, none⟩) xs.length cp])) (w'.setCell ⟨w.heap.size + 1, 0, none⟩ (.slice (some ⟨g, 0, none⟩) xs.length cp)))) := by
    intro W hW
    obtain ⟨_, _, _, hT, hb'⟩ := HWa.out W hW
    have := implCopied_core b off cap (ts.map Tm.ty) W hT.tys hb' (by rw [List.length_map]; exact hn) HSy.out
    rw [List.length_map, tms_ty] at this
    refine this.mono ?_
    intro e w3 hp
    have sW := hW.size
    obtain ⟨g, cp, xs, rfl, hb3, hc⟩ := copy_in (w := w) (w.heap.size + 1) (hba.trans (hW.mono (by omega))) (by omega) (by omega) hp
    obtain ⟨_, q1, q2, _⟩ := HWa.out w3 (hW.trans (hb3.mono sW))
    exact ⟨g, cp, xs, rfl, q1, q2, hc⟩
  unfold maxLen at hcm
  clear h hok hs hr hrok
  obtain ⟨c0, _, _, hT0, hB0⟩ := HWa.out Wa (Below.refl _ _)
  have HT0 : Hid (TmsAt Wa b off ts) := hT0
  clear hT0
  go_enter Tryz.func10, Tryz.ntmps10
  go_upto_region 1 with fail
  rw [← hWa]
  clear hWa
  go_wp2_with fail
  refine (implValidStore_core b off cap ts _ HT0.out HS.out.1 hB0 hn).mono ?_
  rintro e w1 ⟨r1, rfl, hr1, hb1⟩
  have HR : Hid (r1 = true ↔ GoodS (tbs ts)) := hr1
  have s1 := hb1.size
  clear hr1 c0
  obtain ⟨c0, _, _, hT1, hB1⟩ := HWa.out w1 hb1
  have HT1 : Hid (TmsAt w1 b off ts) := hT1
  clear hT1
  cases r1
  case false =>
    have H : Hid (WrT (tbs ts) r.es (tbs ts)) := .inl ⟨fun q => Bool.noConfusion (HR.out.2 q.1), rfl⟩
    go_wp2_with fail
    refine (HCp.out _ hb1).mono ?_
    rintro e w3 ⟨g, cp, xs, rfl, q1, q2, hc⟩
    go_wp2_with fail
    exact bodyPost_ret (v := .agg #[.slice (some ⟨g, 0, none⟩) xs.length cp]) (by simp [results, Tryz.results10, go_sem, q1]) rfl ⟨_, H.out, hc.out⟩
  case true =>
  have HG : Hid (GoodS (tbs ts)) := HR.out.1 rfl
  have hn100 : ts.length ≤ 100 := by have := HG.out.le; rw [tbs_len] at this; exact this
  have HR1 : Hid (r.at w1) := HRa.out.1 w1 hb1
  go_wp2_with fail
  refine (validWrites_core r.b r.off r.cap r.es _ HR1.out.ents HRa.out.2 HR1.out.lt HR1.out.len HR1.out.cap).mono ?_
  rintro e w2 ⟨r2, rfl, hr2, hb2'⟩
  have HRw : Hid (r2 = true ↔ GoodW r.es) := hr2
  have hb2 : Below Wa.heap.size Wa w2 := hb1.trans (hb2'.mono s1)
  have s2 := hb2.size
  clear hr2 c0 hb2'
  obtain ⟨c0, _, _, hT2, hB2⟩ := HWa.out w2 hb2
  have HT2 : Hid (TmsAt w2 b off ts) := hT2
  clear hT2
  cases r2
  case false =>
    have H : Hid (WrT (tbs ts) r.es (tbs ts)) := .inl ⟨fun q => Bool.noConfusion (HRw.out.2 q.2), rfl⟩
    go_wp2_with fail
    refine (HCp.out _ hb2).mono ?_
    rintro e w3 ⟨g, cp, xs, rfl, q1, q2, hc⟩
    go_wp2_with fail
    exact bodyPost_ret (v := .agg #[.slice (some ⟨g, 0, none⟩) xs.length cp]) (by simp [results, Tryz.results10, go_sem, q1]) rfl ⟨_, H.out, hc.out⟩
  case true =>
  have HW : Hid (GoodW r.es) := HRw.out.1 rfl
  have HR2 : Hid (r.at w2) := HRa.out.1 w2 hb2
  go_wp2_with fail
  have hpw := partWrites_core b off cap ts r w2 HT2.out hB2 (by omega) HG.out HR2.out hrl
  refine hpw.mono ?_
  rintro e w3 ⟨PB, ps, rfl, hP, hPo, hb3'⟩
  have HP3 : Hid (PI w2.heap.size PB ts.length ps w3 ∧ PartsOf (tbs ts) ps r.es) := ⟨by rw [tbs_len] at hP; exact hP, hPo⟩
  have hb3 : Below Wa.heap.size Wa w3 := hb2.trans (hb3'.mono s2)
  clear hP hPo hpw c0
  rw [tbs_len]
  have s3 := hb3.size
  obtain ⟨W4, hW4⟩ : ∃ W4 : World, W4 = w3.alloc (Obj.cells #[.slice none 0 0] 30) := ⟨_, rfl⟩
  have hbW4 : Below w3.heap.size w3 W4 := by rw [hW4]; exact (Below.refl _ _).alloc (Nat.le_refl _) _
  obtain ⟨WB, hWB⟩ : ∃ WB, WB = w3.heap.size := ⟨_, rfl⟩
  obtain ⟨B1, hB1'⟩ : ∃ B1, B1 = W4.heap.size := ⟨_, rfl⟩
  have HJ0 : Hid (JW Wa.heap.size B1 WB ts r.es 0 (.slice none 0 0) [] W4) := by
    have hz4 : W4.heap.size = w3.heap.size + 1 := by rw [hW4]; simp
    refine ⟨rfl, World.ownsRow_nil .., fun t ht => by simp at ht, fun j a o _ ho => by simp at ho, fun j a hj => by omega, by rw [hWB, hW4]; simp, by rw [hWB, hW4]; simp, by omega⟩
  have HWB : Hid (WB = w3.heap.size ∧ ∀ wx, Below w3.heap.size w3 wx → Below Wa.heap.size Wa wx ∧ PI w2.heap.size PB ts.length ps wx) := ⟨hWB, fun wx hx => ⟨hb3.trans (hx.mono s3), HP3.out.1.below hx⟩⟩
  go_upto_region 5 with fail
  rw [← hW4, ← hWB]
  clear hW4 hWB hB1'
  obtain ⟨c0, _⟩ := HWa.out W4 (HWB.out.2 W4 hbW4).1
  go_wp2_with fail
  clear c0
  go_loopw [26] (fun i wr => ∃ (k : Nat) (V : Value) (os : List Ty), k ≤ ts.length ∧ i = .int .i64 k ∧ Hid (JW Wa.heap.size B1 WB ts r.es k V os wr) ∧ Below w3.heap.size w3 wr) (fun i _ => ts.length - (intOf i).toNat)
  case atStart => exact ⟨0, _, [], Nat.zero_le _, rfl, HJ0, hbW4⟩
  case round =>
    obtain ⟨k, V, os, hk, rfl, HJ, hb⟩ := hrel
    obtain ⟨kb, _⟩ := HWB.out.2 wr hb
    obtain ⟨c0, q1, q2, hT, hBw⟩ := HWa.out wr kb
    have HT : Hid (TmsAt wr b off ts) := hT
    clear hT
    by_cases hlt : k < ts.length
    · obtain ⟨t, ht⟩ : ∃ t, ts[k]? = some t := ⟨_, List.getElem?_eq_getElem hlt⟩
      obtain ⟨e0, e1, _⟩ := HT.out k t ht
      have HTN : Hid (ts[k]? = some t ∧ (tbs ts)[k]? = some t.tb) := ⟨ht, by rw [tbs_get, ht]; rfl⟩
      clear ht
      have zk : (k : Int) < (ts.length : Int) := by omega
      obtain ⟨p, hp⟩ : ∃ p, ps[k]? = some p := ⟨_, List.getElem?_eq_getElem (by rw [HP3.out.1.len]; exact hlt)⟩
      obtain ⟨pa, pc, hpv⟩ := (HP3.out.1.ents p (List.mem_of_getElem? hp)).form
      obtain ⟨pn, hpn⟩ : ∃ pn, pn = p.2.length := ⟨_, rfl⟩
      rw [← hpn] at hpv
      have HPk : Hid (ps[k]? = some p ∧ p.1 = .slice pa pn pc ∧ pn = p.2.length ∧ p.2 = partI (tbs ts) k t.tb r.es) := ⟨hp, hpv, hpn, HP3.out.2 k p _ hp HTN.out.2⟩
      clear hp hpv hpn
      have hpl : pn ≤ 1048576 := by
        rw [HPk.out.2.2.1, HPk.out.2.2.2]
        exact Nat.le_trans (List.length_filter_le ..) hrl
      have sB := HJ.out.wb.2.2
      obtain ⟨W1, hW1⟩ : ∃ W1 : World, W1 = wr.alloc (Obj.cells #[.string t.lo, .slice (some ⟨t.b, t.off, none⟩) t.l.length t.cap] 56) := ⟨_, rfl⟩
      have hbW1 : Below wr.heap.size wr W1 := by rw [hW1]; exact (Below.refl _ _).alloc (Nat.le_refl _) _
      have hzW1 : Hid (wr.heap.size < W1.heap.size) := by show _ < _; rw [hW1]; simp
      have t0 : W1.cell? ⟨wr.heap.size, 0, none⟩ = some (.string t.lo) := by rw [hW1]; simp
      have t1 : W1.cell? ⟨wr.heap.size, 1, none⟩ = some (.slice (some ⟨t.b, t.off, none⟩) t.l.length t.cap) := by rw [hW1]; simp
      have HF1 : Hid (W1.frozen? ⟨wr.heap.size, 1, none⟩ = false) := by show _ = false; rw [hW1]; simp
      have p0 : W1.cell? ⟨PB, k, none⟩ = some (.slice pa pn pc) := by
        have h1 := (((HWB.out.2 wr hb).2.below hbW1).cell HPk.out.1).1
        rw [HPk.out.2.1] at h1
        exact h1
      have HTa : Hid (t.at wr) := (HT.out k t HTN.out.1).2.2
      have sw3 := hb.size
      have b3W1 : Below w3.heap.size w3 W1 := hb.trans (hbW1.mono sw3)
      obtain ⟨c1, _⟩ := HWa.out W1 (HWB.out.2 W1 b3W1).1
      go_upto_region 8 with fail
      rw [← hW1]
      clear hW1 e0 e1 c0
      go_upto_if 36 with fail
      go_cut [] (fun wx => ∃ (va : Option Addr) (vn vc : Nat) (l' : List Rm), wx.cell? ⟨wr.heap.size, 0, none⟩ = some (.string t.lo) ∧ wx.cell? ⟨wr.heap.size, 1, none⟩ = some (.slice va vn vc) ∧ Hid (TyIn Wa.heap.size B1 V wx ⟨t.lo, .slice va vn vc, l'⟩ ∧ TabW (partI (tbs ts) k t.tb r.es) t.tb ⟨t.lo, esM l'⟩ ∧ (0 < (partI (tbs ts) k t.tb r.es).length → t.tb.rs.length ≠ 50)) ∧ Below wr.heap.size wr wx ∧ wr.heap.size < wx.heap.size)
      case first =>
        by_cases hpp : 0 < pn
        · have zp : (0 : Int) < (pn : Int) := by omega
          by_cases h50 : t.l.length = 50
          · have z50 : ((t.l.length : Int) == 50) = true := by rw [beq_iff_eq]; omega
            have H : Hid (WrT (tbs ts) r.es (tbs ts)) := .inr ⟨HG.out, HW.out, .inl ⟨⟨k, t.tb, HTN.out.2, by rw [← HPk.out.2.2.2, ← HPk.out.2.2.1]; exact hpp, by show (esM t.l).length = 50; rw [List.length_map]; exact h50⟩, rfl⟩⟩
            clear h50
            go_wp2_with fail
            refine (HCp.out _ (HWB.out.2 W1 b3W1).1).mono ?_
            rintro e w9 ⟨g, cp, xs, rfl, y1, y2, hc⟩
            go_wp2_with fail
            exact bodyPost_ret (v := .agg #[.slice (some ⟨g, 0, none⟩) xs.length cp]) (by simp [results, Tryz.results10, go_sem, y1]) rfl ⟨_, H.out, hc.out⟩
          have z50 : ((t.l.length : Int) == 50) = false := by rw [beq_eq_false_iff_ne]; omega
          have HF : Hid (t.tb.rs.length ≠ 50) := by show (esM t.l).length ≠ 50; rw [List.length_map]; exact h50
          clear h50
          have hPB : PB < wr.heap.size := by have := HP3.out.1.lt.2; omega
          have HKx : Hid (∀ wx, Below W1.heap.size W1 wx → wx.cell? ⟨PB, k, none⟩ = some (.slice pa pn pc) ∧ wx.cell? ⟨wr.heap.size, 1, none⟩ = some (.slice (some ⟨t.b, t.off, none⟩) t.l.length t.cap) ∧ wx.cell? ⟨wr.heap.size, 0, none⟩ = some (.string t.lo) ∧ wx.frozen? ⟨wr.heap.size, 1, none⟩ = false ∧ t.at wx) := by
            intro wx hx
            have hz := hzW1.out
            exact ⟨by rw [hx.cell (p := ⟨PB, k, none⟩) (by show PB < W1.heap.size; omega)]; exact p0, by rw [hx.cell (p := ⟨wr.heap.size, 1, none⟩) hz]; exact t1, by rw [hx.cell (p := ⟨wr.heap.size, 0, none⟩) hz]; exact t0, by rw [hx.frozen (p := ⟨wr.heap.size, 1, none⟩) hz]; exact HF1.out, (HTa.out.below hbW1).below hx⟩
          obtain ⟨pg, hpa, hpc, HBd⟩ := build_part hBuild (HWB.out.2 W1 b3W1).2 HPk.out.1 HPk.out.2.1 HPk.out.2.2.1 hpp (ws := r.es) (fun e he => by rw [HPk.out.2.2.2] at he; exact (List.mem_filter.1 he).1) (by rw [HPk.out.2.2.2]; exact List.length_filter_le ..) HW.out HRa.out.2 hpl
          subst hpa
          unfold maxLen at hpc
          have hsm := HS.out.2 t (List.mem_of_getElem? HTN.out.1)
          have hS : (fun w' : World => w'.cell? ⟨PB, k, none⟩ = some (.slice (some ⟨pg, 0, none⟩) pn pc) ∧ w'.cell? ⟨wr.heap.size, 1, none⟩ = some (.slice (some ⟨t.b, t.off, none⟩) t.l.length t.cap)) W1.drew := by
            obtain ⟨k0, k1, _⟩ := HKx.out W1.drew (Below.refl _ _).drew
            exact ⟨k0, k1⟩
          go_upto_region 11 with fail
          refine wp_region_T 11 (fun w' : World => w'.cell? ⟨PB, k, none⟩ = some (.slice (some ⟨pg, 0, none⟩) pn pc) ∧ w'.cell? ⟨wr.heap.size, 1, none⟩ = some (.slice (some ⟨t.b, t.off, none⟩) t.l.length t.cap)) (by kernel_rfl) ?_
          refine anyT_take (i := 0) (v := ?vq0) rfl (by kernel_rfl) (by kernel_rfl) (by kernel_rfl) (by kernel_rfl) (by decide) (fun _ _ _ h => h) (Or.inl ⟨by rfl, ?yq0⟩) hS ?_
          case yq0 => (intro wz hSw; (try dsimp only at hSw); go_simp; (try with_reducible rfl))
          try simp only [Act.put, List.setIfInBounds_toArray, List.set_cons_zero, List.set_cons_succ]
          refine anyT_take (i := 1) (v := ?vq1) rfl (by kernel_rfl) (by kernel_rfl) (by kernel_rfl) (by kernel_rfl) (by decide) (fun _ _ _ h => h) (Or.inl ⟨by rfl, ?yq1⟩) hS ?_
          case yq1 => (intro wz hSw; (try dsimp only at hSw); go_simp; (try with_reducible rfl))
          try simp only [Act.put, List.setIfInBounds_toArray, List.set_cons_zero, List.set_cons_succ]
          refine anyT_take (i := 2) (v := ?vq2) rfl (by kernel_rfl) (by kernel_rfl) (by kernel_rfl) (by kernel_rfl) (by decide) (fun _ _ _ h => h) (Or.inl ⟨by rfl, ?yq2⟩) hS ?_
          case yq2 => (intro wz hSw; (try dsimp only at hSw); go_simp; (try with_reducible rfl))
          try simp only [Act.put, List.setIfInBounds_toArray, List.set_cons_zero, List.set_cons_succ]
          refine anyT_take (i := 3) (v := ?vq3) rfl (by kernel_rfl) (by kernel_rfl) (by kernel_rfl) (by kernel_rfl) (by decide) (fun _ _ _ h => h) (Or.inl ⟨by rfl, ?yq3⟩) hS ?_
          case yq3 => (intro wz hSw; (try dsimp only at hSw); go_simp; (try with_reducible rfl))
          try simp only [Act.put, List.setIfInBounds_toArray, List.set_cons_zero, List.set_cons_succ]
          refine anyT_take (i := 6) (v := ?vq6) rfl (by kernel_rfl) (by kernel_rfl) (by kernel_rfl) (by kernel_rfl) (by decide) (fun _ _ _ h => h) (Or.inl ⟨by rfl, ?yq6⟩) hS ?_
          case yq6 => (intro wz hSw; (try dsimp only at hSw); go_simp; (try with_reducible rfl))
          try simp only [Act.put, List.setIfInBounds_toArray, List.set_cons_zero, List.set_cons_succ]
          refine anyT_take (i := 7) (v := ?vq7) rfl (by kernel_rfl) (by kernel_rfl) (by kernel_rfl) (by kernel_rfl) (by decide) (fun _ _ _ h => h) (Or.inl ⟨by rfl, ?yq7⟩) hS ?_
          case yq7 => (intro wz hSw; (try dsimp only at hSw); go_simp; (try with_reducible rfl))
          try simp only [Act.put, List.setIfInBounds_toArray, List.set_cons_zero, List.set_cons_succ]
          refine anyT_one (i := 4) (by kernel_rfl) rfl (fun K hK => ?_)
          go_simp
          go_at_call 33
          refine (HBd.out W1.drew (Below.refl _ _).drew).mono ?_
          rintro e w2b ⟨g2, cp2, rn, R, rfl, hrn, hrnl, hRK, hb2b⟩
          have HRN : Hid (rn = R.length) := hrn
          clear hrn
          have hbb : Below W1.heap.size W1 w2b := (Below.refl W1.heap.size W1).drew.trans (hb2b.mono (by simp))
          have sbb := hbb.size
          obtain ⟨a0, a1, _⟩ := HKx.out w2b hbb
          refine hK.out _ _ (.inr ⟨a0, a1⟩) ?_
          clear hK a0 a1
          try simp only [Act.put, List.setIfInBounds_toArray, List.set_cons_zero, List.set_cons_succ]
          refine anyT_one (i := 5) (by kernel_rfl) rfl (fun K hK => ?_)
          go_simp
          obtain ⟨W5, hW5⟩ : ∃ W5 : World, W5 = w2b.alloc (Obj.cells #[.slice (some ⟨g2, 0, none⟩) rn cp2] 58) := ⟨_, rfl⟩
          have hb5' : Below w2b.heap.size w2b W5 := by rw [hW5]; exact (Below.refl _ _).alloc (Nat.le_refl _) _
          have hb5 : Below W1.heap.size W1 W5 := hbb.trans (hb5'.mono sbb)
          have hz5 : W5.heap.size = w2b.heap.size + 1 := by rw [hW5]; simp
          have H5 : Hid (W5.cell? ⟨w2b.heap.size, 0, none⟩ = some (.slice (some ⟨g2, 0, none⟩) rn cp2)) := by show _ = _; rw [hW5]; simp
          obtain ⟨a0, a1, _⟩ := HKx.out W5 hb5
          rw [← hW5]
          refine hK.out _ _ (.inr ⟨a0, a1⟩) ?_
          clear hK a0 a1 hW5
          try simp only [Act.put, List.setIfInBounds_toArray, List.set_cons_zero, List.set_cons_succ]
          refine anyT_one (i := 8) (by kernel_rfl) rfl (fun K hK => ?_)
          go_simp
          obtain ⟨W6, hW6⟩ : ∃ W6 : World, W6 = W5.alloc (Obj.cells #[.slice (some ⟨w2b.heap.size, 0, none⟩) 1 1, .slice (some ⟨t.b, t.off, none⟩) t.l.length t.cap] 54) := ⟨_, rfl⟩
          have hb6' : Below W5.heap.size W5 W6 := by rw [hW6]; exact (Below.refl _ _).alloc (Nat.le_refl _) _
          have hb6 : Below W1.heap.size W1 W6 := hb5.trans (hb6'.mono hb5.size)
          have hz6 : W6.heap.size = w2b.heap.size + 1 + 1 := by rw [hW6]; simp [hz5]
          obtain ⟨rm, hrm⟩ : ∃ rm : Rm, rm = ⟨g2, 0, cp2, R⟩ := ⟨_, rfl⟩
          have HRM : Hid (∀ wx, Below W6.heap.size W6 wx → rm.at wx ∧ t.at wx) := by
            intro wx hx
            have h1 := hb5'.trans (hb6'.mono hb5'.size)
            have h2 := h1.trans (hx.mono h1.size)
            have hO := hRK.out.1.below h2 hRK.out.1.lt.2
            refine ⟨by rw [hrm]; exact ⟨hO.at, hO.lt.2, (OwnRow.caps hO).1, (OwnRow.caps hO).2⟩, (HKx.out wx (hb6.trans (hx.mono hb6.size))).2.2.2.2⟩
          have HPs : Hid (PtsAt W6 (w2b.heap.size + 1) [⟨w2b.heap.size, 0, 1, [rm.u]⟩, ⟨t.b, t.off, t.cap, t.l.map Rm.u⟩]) := by
            have h5 := H5.out
            have hta := (HRM.out W6 (Below.refl _ _)).2
            intro j x hx
            match j, hx with
            | 0, hx =>
              obtain rfl := Option.some.inj hx
              refine ⟨by rw [hW6, ← hz5]; simp, ⟨fun j u hu => ?_, fun u hu => ?_, by show w2b.heap.size < _; omega⟩⟩
              · have hj : j = 0 := by have := (List.getElem?_eq_some_iff.1 hu).1; simp at this; omega
                subst hj
                obtain rfl := Option.some.inj hu
                rw [hb6'.cell (p := ⟨w2b.heap.size, 0 + 0, none⟩) (by show w2b.heap.size < W5.heap.size; omega), hrm]
                rw [HRN.out] at h5
                exact h5
              · simp at hu; subst hu; rfl
            | 1, hx =>
              obtain rfl := Option.some.inj hx
              refine ⟨by rw [hW6, ← hz5]; simp, ⟨fun j u hu => ?_, fun u hu => ?_, hta.lt⟩⟩
              · rw [List.getElem?_map] at hu
                cases hq : t.l[j]? with
                | none => rw [hq] at hu; cases hu
                | some y => rw [hq] at hu; simp at hu; subst hu; exact (hta.rms j y hq).1
              · obtain ⟨y, _, rfl⟩ := List.mem_map.1 hu
                rfl
            | m + 2, hx => simp at hx
          have hall : allU [⟨w2b.heap.size, 0, 1, [rm.u]⟩, ⟨t.b, t.off, t.cap, t.l.map Rm.u⟩] = (rm :: t.l).map Rm.u := by simp [allU]
          obtain ⟨a0, a1, _⟩ := HKx.out W6 hb6
          rw [← hW6]
          refine hK.out _ _ (.inr ⟨a0, a1⟩) ?_
          clear hK a0 a1 hW6
          try simp only [Act.put, List.setIfInBounds_toArray, List.set_cons_zero, List.set_cons_succ]
          refine anyT_one (i := 9) (by kernel_rfl) rfl (fun K hK => ?_)
          go_simp

          go_at_call 32
          refine (concatR_core (w2b.heap.size + 1) _ _ HPs.out (by omega) (by rw [hall, List.length_map, List.length_cons]; omega) (by simp)).mono ?_
          rintro e w7 ⟨v, rfl, hOw7, hb7'⟩
          rw [hall, List.length_map] at hOw7
          obtain ⟨vg, vc, rfl, hvg⟩ : ∃ vg vc, v = .slice (some ⟨vg, 0, none⟩) (rm :: t.l).length vc ∧ W6.heap.size ≤ vg := by
            rcases hOw7.2 with ⟨_, q⟩ | ⟨g, cp, cur, q, q2, _⟩
            · simp at q
            · exact ⟨_, _, q, q2⟩
          obtain ⟨vn, hvn⟩ : ∃ vn, vn = (rm :: t.l).length := ⟨_, rfl⟩
          have hvgl := (World.ownsRow.lt hOw7 vg rfl).2
          have HIn : Hid (InRms w7 (.slice (some ⟨vg, 0, none⟩) (rm :: t.l).length vc) (rm :: t.l)) := by
            obtain ⟨k1, k2⟩ := HRM.out w7 hb7'
            refine inRms_cat hOw7 (fun y hy => ?_)
            rcases List.mem_cons.1 hy with rfl | hy
            · exact k1
            · obtain ⟨j, hj⟩ := List.getElem?_of_mem hy
              exact (k2.rms j y hj).2
          rw [← hvn] at HIn ⊢
          clear hvn
          have hb7 : Below W1.heap.size W1 w7 := hb6.trans (hb7'.mono hb6.size)
          have s7 := hb7.size
          obtain ⟨a0, a1, a2, a3, _⟩ := HKx.out w7 hb7
          refine hK.out _ _ (.inr ⟨a0, a1⟩) ?_
          clear hK hOw7
          try simp only [Act.put, List.setIfInBounds_toArray, List.set_cons_zero, List.set_cons_succ]
          refine anyT_take (i := 10) (v := ?vq10) rfl (by kernel_rfl) (by kernel_rfl) (by kernel_rfl) (by kernel_rfl) (by decide) (fun _ _ _ h => h) (Or.inl ⟨by rfl, ?yq10⟩) (show _ ∧ _ from ⟨a0, a1⟩) ?_
          case yq10 => (intro wz hSw; (try dsimp only at hSw); go_simp; (try with_reducible rfl))
          try simp only [Act.put, List.setIfInBounds_toArray, List.set_cons_zero, List.set_cons_succ]
          refine anyT_one (i := 11) (by kernel_rfl) rfl (fun K hK => ?_)
          go_simp
          refine hK.out _ _ (.inl rfl) ?_
          clear hK
          try simp only [Act.put, List.setIfInBounds_toArray, List.set_cons_zero, List.set_cons_succ]
          refine anyT_done (by kernel_rfl) ?_
          obtain ⟨W8, hW8⟩ : ∃ W8 : World, W8 = w7.setCell ⟨wr.heap.size, 1, none⟩ (.slice (some ⟨vg, 0, none⟩) vn vc) := ⟨_, rfl⟩
          have c80 : W8.cell? ⟨wr.heap.size, 0, none⟩ = some (.string t.lo) := by rw [hW8]; simp [go_sem, a1, a2]
          have c81 : W8.cell? ⟨wr.heap.size, 1, none⟩ = some (.slice (some ⟨vg, 0, none⟩) vn vc) := by rw [hW8]; simp [go_sem, a1, a2]
          have hb8 : Below wr.heap.size wr W8 := by rw [hW8]; exact (hbW1.trans (hb7.mono hbW1.size)).setCell (Nat.le_refl _) _
          have hz8 : wr.heap.size < W8.heap.size := by rw [hW8]; have := hzW1.out; simp; omega
          rw [← hW8]
          have HW8 : Hid (W8 = w7.setCell ⟨wr.heap.size, 1, none⟩ (.slice (some ⟨vg, 0, none⟩) vn vc)) := hW8
          clear a0 a1 a2 a3 hW8
          go_wp2_with fail
          go_meet
          have hVlt : ∀ q, V.ownBlock = some q → q < wr.heap.size := fun q hq => (World.ownsRow.lt HJ.out.row q hq).2
          have hg2 := hRK.out.1.lt
          have hz1 := hzW1.out
          have hdr : W1.drew.heap.size = W1.heap.size := by simp
          have hb6a := hb6.size
          refine ⟨_, _, _, rm :: t.l, c80, c81, ⟨⟨?_, fun g n c hg _ => ?_, fun x hx => ?_, ?_⟩, .inr ⟨by rw [← HPk.out.2.2.2, ← HPk.out.2.2.1]; exact hpp, R, by rw [← HPk.out.2.2.2]; exact hRK.out.2, by rw [hrm]; rfl⟩, fun _ => HF.out⟩, hb8, hz8⟩
          · rw [HW8.out]
            refine inRms_set HIn.out (fun g hg => .inl ?_) (fun y hy => ?_)
            · cases hg
              show vg ≠ wr.heap.size
              omega
            · rcases List.mem_cons.1 hy with rfl | hy
              · rw [hrm]
                show g2 ≠ _
                omega
              · obtain ⟨j, hj⟩ := List.getElem?_of_mem hy
                have := (HTa.out.rms j y hj).2.lt
                omega
          · cases hg
            refine .inr ⟨by show B1 ≤ vg; omega, ?_, fun q => by have := hVlt _ q; simp only at this; omega⟩
            show vg < W8.heap.size
            rw [HW8.out]
            simpa using hvgl
          · rcases List.mem_cons.1 hx with rfl | hx
            · rw [hrm]
              exact .inr ⟨by show B1 ≤ g2; omega, fun q => by have := hVlt _ q; simp only at this; omega⟩
            · obtain ⟨j, hj⟩ := List.getElem?_of_mem hx
              exact .inl ((((HWa.out Wa (Below.refl _ _)).2.2.2.1 k t HTN.out.1).2.2.rms j x hj).2.lt)
          · show (rm :: t.l).length ≤ _ ∧ totM (rm :: t.l) ≤ _
            have h1 : pn ≤ r.es.length := by rw [HPk.out.2.2.1, HPk.out.2.2.2]; exact List.length_filter_le ..
            have h2 : (rm :: t.l).length = t.l.length + 1 := rfl
            have h3 : totM (rm :: t.l) = R.length + totM t.l := by rw [hrm]; rfl
            have h4 := HRN.out
            omega
        · have zp : ¬ (0 : Int) < (pn : Int) := by omega
          go_wp2_with fail
          go_meet
          have hz : (partI (tbs ts) k t.tb r.es).length = 0 := by rw [← HPk.out.2.2.2, ← HPk.out.2.2.1]; omega
          have hsm := HS.out.2 t (List.mem_of_getElem? HTN.out.1)
          refine ⟨_, _, _, t.l, t0, t1, ⟨⟨(HTa.out.below hbW1).ins, fun g n c hg _ => ?_, fun x hx => ?_, by show t.l.length ≤ _ ∧ totM t.l ≤ _; omega⟩, .inl ⟨hz, rfl⟩, fun q => by omega⟩, hbW1, hzW1.out⟩
          · cases hg
            exact .inl (by have := (HWa.out Wa (Below.refl _ _)).2.2.2.1 k t HTN.out.1; exact this.2.2.lt)
          · obtain ⟨j, hj⟩ := List.getElem?_of_mem hx
            exact .inl ((((HWa.out Wa (Below.refl _ _)).2.2.2.1 k t HTN.out.1).2.2.rms j x hj).2.lt)
      case rest =>
        obtain ⟨va, vn, vc, l', t0', t1', HTy, hbx, hzx⟩ := hcut
        obtain ⟨xa, xn, xc, hVV⟩ : ∃ xa xn xc, V = .slice xa xn xc := by
          rcases HJ.out.row.2 with ⟨q, _⟩ | ⟨g', cap', cur, q, _⟩ <;> exact ⟨_, _, _, q⟩
        subst hVV
        clear t0 t1 p0 c1
        have HJx : Hid (JW Wa.heap.size B1 WB ts r.es k (.slice xa xn xc) os wc) := HJ.out.below hbx
        have x0 := HJx.out.box
        have HX4 : Hid ((wc.alloc (Obj.cells #[.string t.lo, .slice va vn vc] 56)).ownsRow B1 56 2 (.slice xa xn xc) (os.map fun t => (t.lo, t.v)).length (cellsP (os.map fun t => (t.lo, t.v)))) := by
          show World.ownsRow _ _ _ _ _ _ _
          rw [List.length_map, HJx.out.len]
          exact World.ownsRow.alloc HJx.out.row _
        have hol : Hid ((os.map fun t => (t.lo, t.v)).length + [(t.lo, Value.slice va vn vc)].length ≤ 2 ^ 30) := by
          show _ ≤ _
          have := HJx.out.len
          rw [List.length_map]; simp; omega
        have sBx := HJx.out.wb.2.2
        go_wp2_with (at_builtin; refine wpList_append_tabO _ rfl _ _ rfl B1 (.slice xa xn xc) (os.map fun t => (t.lo, t.v)) wc.heap.size 0 1 1 [(t.lo, .slice va vn vc)] rfl rfl rfl HX4.out two_cells_new ?h1 hol.out ?hb ?_)
        case h1 => first | rfl | (intro p hp; simp at hp; subst hp; rfl)
        case hb => first | omega | (simp; omega)
        intro v' w5 hA5
        obtain ⟨g5, cp5, rfl⟩ := hA5.form (.inr (by simp))
        obtain ⟨N5, hN5⟩ : ∃ N5, N5 = ((os.map fun t => (t.lo, t.v)) ++ [(t.lo, Value.slice va vn vc)]).length := ⟨_, rfl⟩
        rw [← hN5] at hA5 ⊢
        have ba : Below wc.heap.size wc (wc.alloc (Obj.cells #[.string t.lo, .slice va vn vc] 56)) := (Below.refl _ _).alloc (Nat.le_refl _) _
        have HN : Hid (JW Wa.heap.size B1 WB ts r.es (k + 1) (.slice (some ⟨g5, 0, none⟩) N5 cp5) (os ++ [⟨t.lo, .slice va vn vc, l'⟩]) (w5.setCell ⟨WB, 0, none⟩ (.slice (some ⟨g5, 0, none⟩) N5 cp5)) ∧ Below w3.heap.size w3 (w5.setCell ⟨WB, 0, none⟩ (.slice (some ⟨g5, 0, none⟩) N5 cp5))) := by
          refine ⟨HJx.out.snoc ba (HTy.out.1.below ba) HTN.out.2 HTy.out.2.1 HTy.out.2.2 hA5, ?_⟩
          have b0 : Below w3.heap.size w3 wc := hb.trans (hbx.mono sw3)
          have b1 := b0.trans (ba.mono b0.size)
          have h7 := HWB.out.1
          have h8 := HJx.out.wb
          refine (b1.grown hA5.grown b1.size (fun j hj => ?_)).setCell (by show w3.heap.size ≤ WB; omega) _
          have := (World.ownsRow.lt HX4.out j hj).1
          omega
        have z5 : w5.cell? ⟨WB, 0, none⟩ = some (.slice xa xn xc) ∧ w5.frozen? ⟨WB, 0, none⟩ = false := by
          have h8 := HJx.out.wb
          have hj := HJx.out.below ba
          have hc : Chg (fun q => (Value.slice xa xn xc).ownBlock = some q) (wc.alloc (Obj.cells #[.string t.lo, .slice va vn vc] 56)) w5 := Chg.of_grown hA5.grown (fun q hq => hq)
          have hlt' : WB < (wc.alloc (Obj.cells #[.string t.lo, .slice va vn vc] 56)).heap.size := by have := ba.size; omega
          have hnn : ¬ (Value.slice xa xn xc).ownBlock = some WB := fun q => by have := (World.ownsRow.lt HX4.out WB q).1; omega
          exact ⟨by rw [hc.cell (p := ⟨WB, 0, none⟩) hlt' hnn]; exact hj.box, by rw [hc.frozen (p := ⟨WB, 0, none⟩) hlt' hnn]; exact hj.fro⟩
        obtain ⟨z5a, z5b⟩ := z5
        clear hA5 hN5
        go_wp2_with fail
        go_roundw
        case rel => exact ⟨k + 1, _, _, by omega, by go_num, HN.out.1, HN.out.2⟩
        case measure => simp [intOf]; omega
    · have zk : ¬ (k : Int) < (ts.length : Int) := by omega
      obtain ⟨gv, cv, hVv⟩ : ∃ gv cv, V = .slice (some ⟨gv, 0, none⟩) os.length cv := by
        have h1 := HJ.out.len
        have h2 := HG.out.ne
        rw [tbs_len] at h2
        rcases HJ.out.row.2 with ⟨_, q⟩ | ⟨g', cap', cur, q, _⟩
        · omega
        · exact ⟨g', cap', by rw [h1]; exact q⟩
      subst hVv
      have x0 := HJ.out.box
      have HRow : Hid (OwnP wr B1 gv cv (os.map fun t => (t.lo, t.v))) := by
        have := HJ.out.row
        rw [← HJ.out.len] at this
        unfold Hid OwnP
        rw [List.length_map]
        exact this
      have HTy : Hid (TysAt wr gv 0 os) := by
        intro j u hu
        obtain ⟨a1, a2⟩ := HRow.out.cells (i := j) (p := (u.lo, u.v)) (by rw [List.getElem?_map, hu]; rfl)
        rw [Nat.zero_add]
        exact ⟨a1, a2, (HJ.out.ins u (List.mem_of_getElem? hu)).ins⟩
      have HD : Hid (WrT (tbs ts) r.es (os.map Ty.tb)) := by
        have hj := HJ.out
        rw [show k = ts.length by omega] at hj
        exact hj.done HG.out HW.out
      have hol : os.length ≤ 1048576 := by have := HJ.out.len; omega
      have HCo : Hid (Calls Tryz.prog 30 #[.agg #[.slice (some ⟨gv, 0, none⟩) os.length cv]] wr fun e w' => ∃ (g cp : Nat) (xs : List Tx), e = .returned (.agg #[.slice (some ⟨g, 0, none⟩) xs.length cp]) ∧ w'.cell? ⟨w.heap.size + 1, 0, none⟩ = some (.slice none 0 0) ∧ w'.frozen? ⟨w.heap.size + 1, 0, none⟩ = false ∧ Hid (CpIPost w (os.map Ty.tb) (.returned (.agg #[.slice (some ⟨g, 0, none⟩) xs.length cp])) (w'.setCell ⟨w.heap.size + 1, 0, none⟩ (.slice (some ⟨g, 0, none⟩) xs.length cp)))) := by
        refine (implCopied_core gv 0 cv os wr HTy.out HRow.out.lt.2 hol (fun t ht => (HJ.out.ins t ht).small)).mono ?_
        intro e w9 hp
        have sk := kb.size
        obtain ⟨g, cp, xs, rfl, hb9, hc⟩ := copy_in (w := w) (w.heap.size + 1) (hba.trans (kb.mono (by omega))) (by omega) (by omega) hp
        obtain ⟨_, y1, y2, _⟩ := HWa.out w9 (kb.trans (hb9.mono sk))
        exact ⟨g, cp, xs, rfl, y1, y2, hc⟩
      go_wp2_with fail
      refine HCo.out.mono ?_
      rintro e w9 ⟨g, cp, xs, rfl, y1, y2, hc⟩
      go_wp2_with fail
      exact bodyPost_ret (v := .agg #[.slice (some ⟨g, 0, none⟩) xs.length cp]) (by simp [results, Tryz.results10, go_sem, y1]) rfl ⟨_, HD.out, hc.out⟩
end Go.Proofs.YtlgeffinhbodeafGreat

/-
  WriteStore at a store and writes that the law has made; how much the answer holds.
-/
namespace Go.Proofs.YtlgeffinhbodeafGreat
open Go.ChangeShapes Go.WideShapes Go.ChangeAt Go.RowKit Go.Deep
set_option linter.unusedVariables false

theorem szR_flat : ∀ (rs : List (List Ent)), szR rs = rs.length + rs.flatten.length
  | [] => rfl
  | e :: rs => by
    have := szR_flat rs
    simp only [szR, List.length_cons, List.flatten_cons, List.length_append]
    omega
theorem szB_le {c : Nat} : ∀ (ts out : List Tb), out.length = ts.length → (∀ (i : Nat) (a o : Tb), ts[i]? = some a → out[i]? = some o → szR o.rs ≤ szR a.rs + c) → szB out ≤ szB ts + ts.length * c
  | [], [], _, _ => by simp [szB]
  | [], o :: out, h, _ => by simp at h
  | a :: ts, [], h, _ => by simp at h
  | a :: ts, o :: out, h, k => by
    have h1 := szB_le ts out (by simpa using h) (fun i x y hx hy => k (i + 1) x y (by simpa using hx) (by simpa using hy))
    have h2 := k 0 a o rfl rfl
    simp only [szB, List.length_cons, Nat.add_mul, Nat.one_mul]
    omega
theorem wrT_sz {ts out : List Tb} {ws : List Ent} (h : WrT ts ws out) : out.length = ts.length ∧ szB out ≤ szB ts + 1000100 ∧ ∀ o ∈ out, o.rs.length ≤ szB ts + ts.length ∧ o.rs.flatten.length ≤ szB ts + ws.length := by
  have hself : ∀ o ∈ ts, o.rs.length ≤ szB ts + ts.length ∧ o.rs.flatten.length ≤ szB ts + ws.length := fun o ho => by
    have h1 := szB_mem ho
    have h2 := szR_flat o.rs
    omega
  rcases h with ⟨_, rfl⟩ | ⟨hg, hw, ⟨_, rfl⟩ | ⟨_, hl, hT⟩⟩
  · exact ⟨rfl, by omega, hself⟩
  · exact ⟨rfl, by omega, hself⟩
  · have hp : ∀ i a, (partI ts i a ws).length ≤ ws.length := fun i a => List.length_filter_le ..
    refine ⟨hl, ?_, fun o ho => ?_⟩
    · have h1 := szB_le (c := 10001) ts out hl (fun i a o ha ho => by
        have h2 := (tabW_sz (hT i a o ha ho)).1
        have h3 := hp i a
        have h4 := hw.1
        omega)
      have h5 := hg.le
      omega
    · obtain ⟨i, hi⟩ := List.getElem?_of_mem ho
      have hil := (List.getElem?_eq_some_iff.1 hi).1
      have ha := List.getElem?_eq_getElem (show i < ts.length by omega)
      obtain ⟨_, h2, h3⟩ := tabW_sz (hT i _ o ha hi)
      have h4 := hp i (ts[i]'(by omega))
      have h5 := szB_mem (List.mem_of_getElem? ha)
      have h6 := szR_flat (ts[i]'(by omega)).rs
      omega
theorem wrT_ok {ts : List Tb} {ws : List Ent} {xs : List Tx} (h : WrT ts ws (xs.map Tx.tb)) (hn : ts.length + szB ts + ws.length ≤ 1048576) : ∀ t ∈ xs, totW t.rs ≤ 1048576 ∧ t.rs.length ≤ 1048576 := by
  intro t ht
  obtain ⟨h1, h2⟩ := (wrT_sz h).2.2 t.tb (List.mem_map.2 ⟨t, ht, rfl⟩)
  have h3 := szR_totW t.rs
  have h4 := szR_flat (t.rs.map Rw.es)
  simp only [Tx.tb, List.length_map] at h1 h2 h4
  omega
theorem implWrite_at (hBuild : BuildW) {w : World} {base g b2 ge c : Nat} {l : List Tw} {ts : List Tn} {es : List Ent} (h : OwnTabs w base g l) (hm : l.map Tw.tb = ts.map Tn.tb) (hok : okT ts) (he : OwnE w b2 ge c es) (hes : ∀ e ∈ es, e.ok) (hn : ts.length + totT ts + es.length ≤ 1048576) :
    Calls Tryz.prog 10 #[.agg #[.slice (some ⟨g, 0, none⟩) l.length l.length], .slice (some ⟨ge, 0, none⟩) es.length c] w fun e w' => WrIPost w (ts.map Tn.tb) es e w' := by
  have hl : l.length = ts.length := by have := congrArg List.length hm; simpa using this
  have h1 : szB (tbs (l.map Tw.tm)) + es.length ≤ 1048576 := by
    rw [tms_tns hm]
    have := szB_tn ts
    omega
  have := implWrite_store hBuild g 0 l.length (l.map Tw.tm) ⟨ge, 0, c, es⟩ w h.at (ok_tms hm hok h.short) h.lt.2 (by rw [List.length_map]; omega) (by rw [List.length_map]; exact Nat.le_refl _) (by unfold maxLen; omega) (fun t ht => by
    have k1 := szB_mem (List.mem_map.2 ⟨t, ht, rfl⟩ : t.tb ∈ (l.map Tw.tm).map Tm.tb)
    have k2 := szR_totM t.l
    unfold tbs at h1
    have k3 : szR t.tb.rs = szR (esM t.l) := rfl
    show t.l.length + totM t.l + es.length ≤ 1048576
    omega) ⟨he.at, he.lt.2, (OwnRow.caps he).1, (OwnRow.caps he).2⟩ hes (by show es.length ≤ 1048576; omega)
  rw [tms_tns hm, List.length_map] at this
  exact this
theorem specWrite_at {w : World} {base g b2 ge c : Nat} {l : List Tw} {ts : List Tn} {es : List Ent} (h : OwnTabs w base g l) (hm : l.map Tw.tb = ts.map Tn.tb) (hok : okT ts) (he : OwnE w b2 ge c es) (hes : ∀ e ∈ es, e.ok) (hn : ts.length + totT ts + es.length ≤ 1048576) :
    Calls Tryz.prog 7 #[.agg #[.slice (some ⟨g, 0, none⟩) l.length l.length], .slice (some ⟨ge, 0, none⟩) es.length c] w fun e w' => WrSPost w (ts.map Tn.tb) es e w' := by
  have hl : l.length = ts.length := by have := congrArg List.length hm; simpa using this
  have h1 : szB (tbs (l.map Tw.tm)) ≤ 1048576 := by
    rw [tms_tns hm]
    have := szB_tn ts
    omega
  have := specWrite_store g 0 l.length (l.map Tw.tm) ⟨ge, 0, c, es⟩ w h.at (ok_tms hm hok h.short) h.lt.2 (by rw [List.length_map]; omega) (tm_ok h1) ⟨he.at, he.lt.2, (OwnRow.caps he).1, (OwnRow.caps he).2⟩ hes (by show es.length ≤ 1048576; omega)
  rw [tms_tns hm, List.length_map] at this
  exact this
end Go.Proofs.YtlgeffinhbodeafGreat

