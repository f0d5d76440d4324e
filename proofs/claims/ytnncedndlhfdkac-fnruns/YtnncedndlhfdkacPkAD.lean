import Derived.Maps.AppendAt
import Derived.Deep.DeepCutAuto
import Derived.Deep.RegionWith
import Derived.Test.YtnncedndlhfdkacPkAC
import Derived.Test.YtnncedndlhfdkacPkAA
/-
  spec.BuildRun.
-/
namespace Go.Proofs.Ytnncedndlhfdkac
open Go.ChangeShapes Go.WideShapes Go.ChangeAt Go.RowKit Go.Deep
set_option linter.unusedVariables false

theorem ent_new (wx : World) (f : Ent) : EntsAt (wx.alloc (Obj.cells #[.string f.row, .string f.fam, .string f.qual, .int .u64 f.ts, .int .i64 f.kind, .string f.val] 63)) wx.heap.size 0 [f] := by
  intro j y hy
  obtain rfl : j = 0 := by
    have := (List.getElem?_eq_some_iff.1 hy).1
    simpa using this
  simp at hy
  subst hy
  simp

theorem OwnE.setBelow {w : World} {base g cap : Nat} {es : List Ent} (h : OwnE w base g cap es) (a : Addr) (ha : a.block < base) (u : Value) : OwnE (w.setCell a u) base g cap es := ownsRow_setCell_below h ha u

/-- The deletes of the column among the first 'j'. -/
def LargestTo (ws : List Ent) (e : Ent) (j : Nat) : Prop := ∀ i v, i < j → ws[i]? = some v → v.kind = 2 → sameCol v e = true → v.ts ≤ e.ts
theorem largest_of_to {ws : List Ent} {e : Ent} {j : Nat} (h : LargestTo ws e j) (hj : ws.length ≤ j) : Largest ws e := by
  intro v hv h1 h2
  obtain ⟨i, hi⟩ := List.getElem?_of_mem hv
  exact h i v (by have := (List.getElem?_eq_some_iff.1 hi).1; omega) hi h1 h2
theorem largestTo_succ {ws : List Ent} {e v : Ent} {j : Nat} (h : LargestTo ws e j) (hv : ws[j]? = some v) (hk : v.kind = 2 → sameCol v e = true → v.ts ≤ e.ts) : LargestTo ws e (j + 1) := by
  intro i u hi hu h1 h2
  by_cases e1 : i = j
  · subst e1
    rw [hv] at hu
    simp at hu
    subst hu
    exact hk h1 h2
  · exact h i u (by omega) hu h1 h2
theorem largestTo_bad {ws : List Ent} {e v : Ent} {j k : Nat} (hv : ws[j]? = some v) (h1 : v.kind = 2) (h2 : sameCol v e = true) (h3 : ¬ v.ts ≤ e.ts) (hk : j < k) : ¬ LargestTo ws e k := fun h => h3 (h j v hk hv h1 h2)
theorem largestTo_mono {ws : List Ent} {e : Ent} {j k : Nat} (h : LargestTo ws e k) (hj : j ≤ k) : LargestTo ws e j := fun i v hi => h i v (by omega)

set_option maxHeartbeats 4000000 in
theorem specBuild_core (b off cap : Nat) (ws : List Ent) (w : World) (hE : EntsAt w b off ws) (hok : ∀ e ∈ ws, e.ok) (hB : b < w.heap.size) (hlen : ws.length ≤ 1048576) :
    Calls Try.prog 28 #[.slice (some ⟨b, off, none⟩) ws.length cap] w fun r w' =>
      ∃ (g cp : Nat) (R : List Ent), r = .returned (.agg #[.slice (some ⟨g, 0, none⟩) R.length cp]) ∧ OwnE w' w.heap.size g cp R ∧ Below w.heap.size w w' ∧ R.length ≤ ws.length ∧ (GoodW ws → Kept ws ws.length R) ∧ (¬ GoodW ws → R = []) := by
  have HE : Hid (EntsAt w b off ws) := hE
  have HO : Hid (∀ e ∈ ws, e.ok) := hok
  clear hE hok
  obtain ⟨W0, hW0⟩ : ∃ W0 : World, W0 = (w.alloc (Obj.cells #[.slice none 0 0] 40)).alloc (Obj.cells #[] 63) := ⟨_, rfl⟩
  have hb0 : Below w.heap.size w W0 := by rw [hW0]; exact ((Below.refl _ _).alloc (Nat.le_refl _) _).alloc (by simp) _
  have hz0 : w.heap.size + 1 < W0.heap.size := by rw [hW0]; simp
  have ca : W0.cell? ⟨w.heap.size, 0, none⟩ = some (.slice none 0 0) := by rw [hW0]; simp
  have cf : W0.frozen? ⟨w.heap.size, 0, none⟩ = false := by rw [hW0]; simp
  have HS : Hid (OwnE W0 (w.heap.size + 1) (w.heap.size + 1) 0 []) := by
    show OwnE W0 (w.heap.size + 1) (w.heap.size + 1) 0 []
    have h := World.ownsRow_made (base := w.heap.size + 1) (e := 63) (size := 6) (w.alloc (Obj.cells #[.slice none 0 0] 40)) #[] 0 (by simp) (Nat.zero_le _) (by simp)
    rw [hW0]
    have h3 : ((w.alloc (Obj.cells #[.slice none 0 0] 40)).alloc (Obj.cells #[] 63)).ownsRow (w.heap.size + 1) 63 6 (.slice (some ⟨w.heap.size + 1, 0, none⟩) 0 0) 0 [] := by simpa using h
    exact h3
  have HE0 : Hid (EntsAt W0 b off ws) := HE.out.below hb0 hB
  go_enter Try.func28, Try.ntmps28
  go_wp2_with fail
  rw [← hW0]
  clear hW0
  refine (goodWrites_core b off cap ws _ HE0.out HO.out (by omega) hlen).mono ?_
  rintro e w1 ⟨r, rfl, hr, hb1⟩
  have HR : Hid (r = true ↔ GoodW ws) := hr
  clear hr
  have hs1 := hb1.size
  have ca1 : w1.cell? ⟨w.heap.size, 0, none⟩ = some (.slice none 0 0) := by rw [hb1.cell (p := ⟨w.heap.size, 0, none⟩) (by show w.heap.size < _; omega)]; exact ca
  have cf1 : w1.frozen? ⟨w.heap.size, 0, none⟩ = false := by rw [hb1.frozen (p := ⟨w.heap.size, 0, none⟩) (by show w.heap.size < _; omega)]; exact cf
  have HS1 : Hid (OwnE w1 (w.heap.size + 1) (w.heap.size + 1) 0 []) := HS.out.below hb1 (by omega)
  have HE1 : Hid (EntsAt w1 b off ws) := HE0.out.below hb1 (by omega)
  have k1 : Below w.heap.size w w1 := hb0.trans (hb1.mono (by omega))
  cases r
  · have HN : Hid (¬ GoodW ws) := fun h => Bool.noConfusion (HR.out.2 h)
    go_wp2_with fail
    refine bodyPost_ret (v := .agg #[.slice (some ⟨w.heap.size + 1, 0, none⟩) 0 0]) (by simp [results, Try.results28, go_sem, ca1]) rfl ⟨_, _, [], rfl, ?_, k1.setCell (by show w.heap.size ≤ w.heap.size; omega) _, by simp, fun h => absurd h HN.out, fun _ => rfl⟩
    exact (HS1.out.setBelow ⟨w.heap.size, 0, none⟩ (by show w.heap.size < _; omega) _).mono (by omega)
  have HG : Hid (GoodW ws) := HR.out.1 rfl
  clear HR
  go_wp2_with fail
  go_loopw [3, 4] (fun o i wr => ∃ (k g cp : Nat) (R : List Ent), k ≤ ws.length ∧ i = .int .i64 k ∧ o = .slice (some ⟨g, 0, none⟩) R.length cp ∧ OwnE wr (w.heap.size + 1) g cp R ∧ Kept ws k R ∧ R.length ≤ k ∧ Below w1.heap.size w1 wr) (fun _ i _ => ws.length - (intOf i).toNat)
  case atStart => exact ⟨0, _, 0, [], Nat.zero_le _, rfl, rfl, HS1.out, kept_zero ws, Nat.le_refl _, Below.refl _ _⟩
  case round =>
    obtain ⟨k, g, cp, R, hk, rfl, rfl, hO, hK, hRl, hb⟩ := hrel
    obtain ⟨wo, rfl⟩ : ∃ wo : World, wo = wr := ⟨_, rfl⟩
    have HK : Hid (OwnE wo (w.heap.size + 1) g cp R ∧ Kept ws k R) := ⟨hO, hK⟩
    have hg := hO.lt
    have hs := hb.size
    clear hO hK
    by_cases hlt : k < ws.length
    · obtain ⟨e, he⟩ : ∃ e, ws[k]? = some e := ⟨_, List.getElem?_eq_getElem hlt⟩
      have HEo : Hid (EntsAt wo b off ws) := HE1.out.below hb (by omega)
      obtain ⟨c0, c1, c2, c3, c4, c5⟩ := HEo.out k e he
      have HKe : Hid (ws[k]? = some e) := he
      clear he
      obtain ⟨W1, hW1⟩ : ∃ W1 : World, W1 = wo.alloc (Obj.cells #[.string e.row, .string e.fam, .string e.qual, .int .u64 e.ts, .int .i64 e.kind, .string e.val] 63) := ⟨_, rfl⟩
      have hbW : Below wo.heap.size wo W1 := by rw [hW1]; exact (Below.refl _ _).alloc (Nat.le_refl _) _
      have hzW : wo.heap.size < W1.heap.size := by rw [hW1]; simp
      have HN1 : Hid (EntsAt W1 wo.heap.size 0 [e]) := by show EntsAt W1 wo.heap.size 0 [e]; rw [hW1]; exact ent_new wo e
      have HEW : Hid (EntsAt W1 b off ws) := HEo.out.below hbW (by omega)
      cases g2 : (e.kind != 2)
      · have hk2 : e.kind = 2 := by simpa using g2
        have HK2 : Hid (e.kind = 2) := hk2
        clear hk2
        go_wp2_with fail
        rw [← hW1]
        clear hW1 c0 c1 c2 c3 c4 c5
        go_loopw [6, 7] (fun l i wr => ∃ (j : Nat) (lb : Bool), j ≤ ws.length ∧ i = .int .i64 j ∧ l = .bool lb ∧ (lb = true ↔ LargestTo ws e j) ∧ Below W1.heap.size W1 wr) (fun _ i _ => ws.length - (intOf i).toNat)
        case atStart => exact ⟨0, true, Nat.zero_le _, rfl, rfl, iffT (fun i v hi => by omega), Below.refl _ _⟩
        case round =>
          obtain ⟨j, lb, hj, rfl, rfl, hl, hbi⟩ := hrel
          have HL : Hid (lb = true ↔ LargestTo ws e j) := hl
          clear hl
          have hsi := hbi.size
          have hzw : wo.heap.size < wr.heap.size := by omega
          by_cases hjl : j < ws.length
          · obtain ⟨v, hv⟩ : ∃ v, ws[j]? = some v := ⟨_, List.getElem?_eq_getElem hjl⟩
            obtain ⟨c0, c1, c2, c3, c4, c5⟩ := HEW.out.below hbi (by omega) j v hv
            obtain ⟨d0, d1, d2, d3, d4, d5⟩ := HN1.out.below hbi (by omega) 0 e rfl
            simp only [Nat.zero_add, Nat.zero_mul] at d0 d1 d2 d3 d4 d5
            have HVj : Hid (ws[j]? = some v) := hv
            clear hv
            have hb7 : Below W1.heap.size W1 (wr.alloc (Obj.cells #[.string v.row, .string v.fam, .string v.qual, .int .u64 v.ts, .int .i64 v.kind, .string v.val] 63)) := hbi.alloc hbi.size _
            cases gv : (v.kind == 2)
            · have HL' : Hid (lb = true ↔ LargestTo ws e (j + 1)) := ⟨fun h => largestTo_succ (HL.out.1 h) HVj.out (fun q => by simp at gv; exact absurd q gv), fun h => HL.out.2 (largestTo_mono h (by omega))⟩
              go_wp2_with fail
              go_roundw
              case rel => exact ⟨j + 1, lb, by omega, by go_num, rfl, HL'.out, hb7⟩
              case measure => go_light; simp [intOf]; omega
            · have HV2 : Hid (v.kind = 2) := by show v.kind = 2; simpa using gv
              go_wp2_with fail
              refine (sameColumn_any v e _).mono ?_
              rintro e' w8 ⟨rfl, hb8⟩
              have hb9 := hb7.trans (hb8.mono (by simp; omega))
              obtain ⟨hc8, hf8⟩ := bcell hb8
              have hs8 := hb8.size
              have cw : ∀ o, w8.cell? ⟨wo.heap.size, o, none⟩ = wr.cell? ⟨wo.heap.size, o, none⟩ := fun o => by
                rw [hc8 _ _ (by simp; omega), World.cell?_alloc_past _ _ _ hzw]
              cases hsc : sameCol v e
              · have HL' : Hid (lb = true ↔ LargestTo ws e (j + 1)) := ⟨fun h => largestTo_succ (HL.out.1 h) HVj.out (fun _ q => by rw [hsc] at q; cases q), fun h => HL.out.2 (largestTo_mono h (by omega))⟩
                go_wp2_with fail
                go_roundw
                case rel => exact ⟨j + 1, lb, by omega, by go_num, rfl, HL'.out, hb9⟩
                case measure => go_light; simp [intOf]; omega
              · by_cases ht : e.ts < v.ts
                · have HL' : Hid (false = true ↔ LargestTo ws e (j + 1)) := iffF (largestTo_bad HVj.out HV2.out hsc (by omega) (by omega))
                  go_wp2_with fail
                  go_roundw
                  case rel => exact ⟨j + 1, false, by omega, by go_num, rfl, HL'.out, hb9⟩
                  case measure => go_light; simp [intOf]; omega
                · have HL' : Hid (lb = true ↔ LargestTo ws e (j + 1)) := ⟨fun h => largestTo_succ (HL.out.1 h) HVj.out (fun _ _ => by omega), fun h => HL.out.2 (largestTo_mono h (by omega))⟩
                  go_wp2_with fail
                  go_roundw
                  case rel => exact ⟨j + 1, lb, by omega, by go_num, rfl, HL'.out, hb9⟩
                  case measure => go_light; simp [intOf]; omega
          · have HLL : Hid (lb = true ↔ Largest ws e) := ⟨fun h => largest_of_to (HL.out.1 h) (by omega), fun h => HL.out.2 (fun i v hi hv => h v (List.mem_of_getElem? hv))⟩
            have hb3 : Below w1.heap.size w1 wr := (hb.trans (hbW.mono (by omega))).trans (hbi.mono (by omega))
            have HK3 : Hid (OwnE wr (w.heap.size + 1) g cp R) := (HK.out.1.below hbW hg.2).below hbi (by omega)
            cases lb
            · have HS' : Hid (Kept ws (k + 1) R) := kept_skip HK.out.2 HKe.out (fun h => by
                rcases h with h | h
                · exact h.1 HK2.out
                · exact Bool.noConfusion (HLL.out.2 h.2))
              go_wp2_with fail
              go_roundw
              case rel => exact ⟨k + 1, g, cp, R, by omega, by go_num, rfl, HK3.out, HS'.out, by omega, hb3⟩
              case measure => go_light; simp [intOf]; omega
            · have HS' : Hid (Kept ws (k + 1) (into R e)) := kept_step HG.out.2 HK.out.2 HKe.out (.inr ⟨HK2.out, HLL.out.1 rfl⟩)
              obtain ⟨d0, d1, d2, d3, d4, d5⟩ := HN1.out.below hbi (by omega) 0 e rfl
              simp only [Nat.zero_add, Nat.zero_mul] at d0 d1 d2 d3 d4 d5
              go_wp2_with fail
              refine (into_core g 0 cp R e _ HK3.out.at (by have := HK3.out.lt; omega) (by omega)).mono ?_
              rintro e' w3 ⟨g', cp', rfl, hO', hb4⟩
              have HO' : Hid (OwnE w3 wr.heap.size g' cp' (into R e)) := hO'
              have hlen' := length_into R e
              have hb5 := hb3.trans (hb4.mono (by omega))
              clear hO'
              go_wp2_with fail
              go_roundw
              case rel => exact ⟨k + 1, g', cp', into R e, by omega, by go_num, rfl, HO'.out.mono (by omega), HS'.out, by omega, hb5⟩
              case measure => go_light; simp [intOf]; omega
      · have HK2 : Hid (¬ e.kind = 2) := by show ¬ e.kind = 2; simpa using g2
        go_wp2_with fail
        rw [← hW1]
        clear hW1 c0 c1 c2 c3 c4 c5
        refine (stands_core b off cap ws k e _ HEW.out (by omega) HKe.out hlen).mono ?_
        rintro e' w2 ⟨s, rfl, hst, hb2⟩
        have HST : Hid (s = true ↔ Stands ws k) := hst
        clear hst
        have hs2 := hb2.size
        have hb3 : Below w1.heap.size w1 w2 := (hb.trans (hbW.mono (by omega))).trans (hb2.mono (by omega))
        have HK3 : Hid (OwnE w2 (w.heap.size + 1) g cp R) := (HK.out.1.below hbW hg.2).below hb2 (by omega)
        cases s
        · have HS' : Hid (Kept ws (k + 1) R) := kept_skip HK.out.2 HKe.out (fun h => by
            rcases h with h | h
            · exact Bool.noConfusion (HST.out.2 h.2)
            · exact HK2.out h.1)
          go_wp2_with fail
          go_roundw
          case rel => exact ⟨k + 1, g, cp, R, by omega, by go_num, rfl, HK3.out, HS'.out, by omega, hb3⟩
          case measure => go_light; simp [intOf]; omega
        · have HS' : Hid (Kept ws (k + 1) (into R e)) := kept_step HG.out.2 HK.out.2 HKe.out (.inl ⟨HK2.out, HST.out.1 rfl⟩)
          obtain ⟨d0, d1, d2, d3, d4, d5⟩ := HN1.out.below hb2 (by omega) 0 e rfl
          simp only [Nat.zero_add, Nat.zero_mul] at d0 d1 d2 d3 d4 d5
          go_wp2_with fail
          refine (into_core g 0 cp R e _ HK3.out.at (by have := HK3.out.lt; omega) (by omega)).mono ?_
          rintro e' w3 ⟨g', cp', rfl, hO', hb4⟩
          have HO' : Hid (OwnE w3 w2.heap.size g' cp' (into R e)) := hO'
          have hlen' := length_into R e
          have hb5 := hb3.trans (hb4.mono (by omega))
          clear hO'
          go_wp2_with fail
          go_roundw
          case rel => exact ⟨k + 1, g', cp', into R e, by omega, by go_num, rfl, HO'.out.mono (by omega), HS'.out, by omega, hb5⟩
          case measure => go_light; simp [intOf]; omega
    · have hkk : k = ws.length := by omega
      have ca2 : wo.cell? ⟨w.heap.size, 0, none⟩ = some (.slice none 0 0) := by rw [hb.cell (p := ⟨w.heap.size, 0, none⟩) (by show w.heap.size < _; omega)]; exact ca1
      have cf2 : wo.frozen? ⟨w.heap.size, 0, none⟩ = false := by rw [hb.frozen (p := ⟨w.heap.size, 0, none⟩) (by show w.heap.size < _; omega)]; exact cf1
      have HKK : Hid (Kept ws ws.length R) := by show Kept ws ws.length R; rw [← hkk]; exact HK.out.2
      go_wp2_with fail
      refine bodyPost_ret (v := .agg #[.slice (some ⟨g, 0, none⟩) R.length cp]) (by simp [results, Try.results28, go_sem, ca2]) rfl ⟨_, _, R, rfl, ?_, (k1.trans (hb.mono (by omega))).setCell (by show w.heap.size ≤ w.heap.size; omega) _, by omega, fun _ => HKK.out, fun h => absurd HG.out h⟩
      exact (HK.out.1.setBelow ⟨w.heap.size, 0, none⟩ (by show w.heap.size < _; omega) _).mono (by omega)
end Go.Proofs.Ytnncedndlhfdkac

/-
  The draws: their beginning, sizes, one run.
-/
namespace Go.Proofs.Ytnncedndlhfdkac
open Go.ChangeShapes Go.WideShapes Go.ChangeAt Go.RowKit Go.Deep
set_option linter.unusedVariables false
set_option linter.unusedSimpArgs false
set_option maxRecDepth 100000

set_option maxHeartbeats 400000 in
theorem size_core (a : Option Addr) (n cap : Nat) (w : World) (hn : n ≤ 1048576) :
    Calls Try.prog 54 #[.slice a n cap] w fun e w' => ∃ k : Nat, e = .returned (.int .i64 k) ∧ k ≤ 22 ∧ w' = w := by
  by_cases hb : (22 : Int) < 8 + (n : Int) / 16
  · go_enter Try.func54, Try.ntmps54
    go_wp2_with fail
    go_ret
    exact ⟨22, rfl, Nat.le_refl _, rfl⟩
  · obtain ⟨k, hk⟩ : ∃ k : Nat, (8 : Int) + (n : Int) / 16 = (k : Int) := ⟨8 + n / 16, by omega⟩
    have hk2 : k ≤ 22 := by omega
    go_enter Try.func54, Try.ntmps54
    go_wp2_with fail
    go_ret
    exact ⟨k, rfl, hk2, rfl⟩

set_option maxHeartbeats 1000000 in
theorem run_core (base cb : Nat) (bv : Value) (n : Nat) (most : Nat) (w : World) (h : DrawAt base cb bv n w) (hm : most ≤ 100) :
    Calls Try.prog 58 #[.pointer (some ⟨cb, 0, none⟩), .int .i64 most] w fun r w' => ∃ (g cp : Nat) (es : List Ent), r = .returned (.agg #[.slice (some ⟨g, 0, none⟩) es.length cp]) ∧ es.length ≤ 100 ∧ LInv base cb bv n w g cp es w' := by
  have hlt := h.lt
  have hbase := h.base
  obtain ⟨Wa, hWa⟩ : ∃ Wa : World, Wa = w.alloc (Obj.cells #[.slice none 0 0] 40) := ⟨_, rfl⟩
  have hba : Below w.heap.size w Wa := by rw [hWa]; exact (Below.refl _ _).alloc (Nat.le_refl _) _
  have hza : Wa.heap.size = w.heap.size + 1 := by rw [hWa]; simp
  have HRes : Hid (Wa.cell? ⟨w.heap.size, 0, none⟩ = some (.slice none 0 0) ∧ Wa.frozen? ⟨w.heap.size, 0, none⟩ = false) := by
    rw [hWa]
    exact ⟨by simp, World.ownsRow.frozenAt (World.ownsRow_lit (base := 0) (e := 40) (size := 1) w #[.slice none 0 0] 1 (Nat.zero_le _) (by decide) rfl) 0⟩
  have HD : Hid (DrawAt base cb bv n Wa) := h.below hba
  clear h
  go_enter Try.func58, Try.ntmps58
  go_wp2_with fail
  rw [← hWa]
  clear hWa
  refine (writes_core base cb bv n most _ HD.out hm).mono ?_
  rintro e w1 ⟨g1, cp1, ws, rfl, hwl, hL1⟩
  have HL1 : Hid (LInv base cb bv n Wa g1 cp1 ws w1) := hL1
  have hg1 := hL1.row.lt
  clear hL1
  go_wp2_with fail
  refine (specBuild_core g1 0 cp1 ws _ HL1.out.row.at (fun e he => (HL1.out.ok e he).ok) hg1.2 (by omega)).mono ?_
  rintro e w2 ⟨g2, cp2, R, rfl, hO2, hb2, hRl, hK, hN⟩
  have hg2 := hO2.lt
  have hs1 := HL1.out.c.size
  have hok : ∀ e ∈ R, e.small := by
    intro e he
    by_cases hg : GoodW ws
    · obtain ⟨i, _, hi, _⟩ := ((hK hg).2 e).1 he
      exact HL1.out.ok e (List.mem_of_getElem? hi)
    · rw [hN hg] at he; simp at he
  have hC2 : Chg (fun k => k = cb) w w2 := ((Chg.of_below hba).trans HL1.out.c).trans (Chg.of_below hb2)
  have s2 := hb2.size
  have hne : ¬ w.heap.size = cb := by omega
  have r2 : w2.cell? ⟨w.heap.size, 0, none⟩ = some (.slice none 0 0) := by
    rw [hb2.cell (p := ⟨w.heap.size, 0, none⟩) (by show w.heap.size < w1.heap.size; omega), HL1.out.c.cell (p := ⟨w.heap.size, 0, none⟩) (by show w.heap.size < Wa.heap.size; omega) hne]; exact HRes.out.1
  have f2 : w2.frozen? ⟨w.heap.size, 0, none⟩ = false := by
    rw [hb2.frozen (p := ⟨w.heap.size, 0, none⟩) (by show w.heap.size < w1.heap.size; omega), HL1.out.c.frozen (p := ⟨w.heap.size, 0, none⟩) (by show w.heap.size < Wa.heap.size; omega) hne]; exact HRes.out.2
  have HFin : Hid (LInv base cb bv n w g2 cp2 R (w2.setCell ⟨w.heap.size, 0, none⟩ (.slice (some ⟨g2, 0, none⟩) R.length cp2)) ∧ R.length ≤ 100) := by
    have hcg : Chg (fun k => k = w.heap.size) w2 (w2.setCell ⟨w.heap.size, 0, none⟩ (.slice (some ⟨g2, 0, none⟩) R.length cp2)) := Chg.of_set _ _ _ _ rfl
    refine ⟨⟨?_, hok, ((HL1.out.d.below hb2).chg hcg (by omega) (fun k q => by omega)), ?_, hlt.2, hbase⟩, by omega⟩
    · exact OwnE.mono (own_chg hO2 hcg (fun k q => by simp [Value.ownBlock] at q; subst q; omega)) (by omega)
    · exact Chg.grown_new hC2 (grown_set w2 w.heap.size 0 _) (fun k hk => by cases hk; exact Nat.le_refl _)
  clear hO2 hK hN hok hC2
  go_wp2_with fail
  exact bodyPost_ret (v := .agg #[.slice (some ⟨g2, 0, none⟩) R.length cp2]) (by simp [results, Try.results58, go_sem, World.cell?_setCell_same _ _ _ r2]) rfl ⟨g2, cp2, R, rfl, HFin.out.2, HFin.out.1⟩
end Go.Proofs.Ytnncedndlhfdkac

/-
  The draws: an entry spoilt.
-/
namespace Go.Proofs.Ytnncedndlhfdkac
open Go.ChangeShapes Go.WideShapes Go.ChangeAt Go.RowKit Go.Deep
set_option linter.unusedVariables false
set_option linter.unusedSimpArgs false
set_option maxRecDepth 100000

theorem WInv.below {base cb : Nat} {bv : Value} {n : Nat} {w : World} {eb rb : Nat} {f : Ent} {wr w1 : World} (h : WInv base cb bv n w eb rb f wr) (hb : Below wr.heap.size wr w1) : WInv base cb bv n w eb rb f w1 := h.call ⟨h.d.below hb, Chg.of_below hb⟩
set_option maxHeartbeats 8000000 in
theorem spoilE_core (base cb : Nat) (bv : Value) (n : Nat) (f : Ent) (w : World) (h : DrawAt base cb bv n w) (hf : f.small) :
    Calls Try.prog 84 #[.pointer (some ⟨cb, 0, none⟩), .agg #[.string f.row, .string f.fam, .string f.qual, .int .u64 f.ts, .int .i64 f.kind, .string f.val]] w fun r w' => ∃ e : Ent, r = .returned e.v ∧ e.small ∧ Drew base cb bv n w w' := by
  have hlt := h.lt
  have hbase := h.base
  have HS : Hid f.small := hf
  obtain ⟨Wa, hWa⟩ : ∃ Wa : World, Wa = w.alloc (Obj.cells #[.string f.row, .string f.fam, .string f.qual, .int .u64 f.ts, .int .i64 f.kind, .string f.val] 63) := ⟨_, rfl⟩
  have hba : Below w.heap.size w Wa := by rw [hWa]; exact (Below.refl _ _).alloc (Nat.le_refl _) _
  have hza : Wa.heap.size = w.heap.size + 1 := by rw [hWa]; simp
  obtain ⟨Wb, hWb⟩ : ∃ Wb : World, Wb = Wa.alloc (Obj.cells #[.string ⟨#[]⟩, .string ⟨#[]⟩, .string ⟨#[]⟩, .int .u64 0, .int .i64 0, .string ⟨#[]⟩] 63) := ⟨_, rfl⟩
  have hbb : Below Wa.heap.size Wa Wb := by rw [hWb]; exact (Below.refl _ _).alloc (Nat.le_refl _) _
  have H0 : Hid (WInv base cb bv n w w.heap.size (w.heap.size + 1) f Wb) := by
    refine ⟨?_, ?_, by omega, (h.below hba).below hbb, (Chg.of_below hba).trans (Chg.of_below hbb), hlt.2, hbase⟩
    · have : OwnE Wa w.heap.size w.heap.size 1 [f] := by rw [hWa]; exact ownE_new w w.heap.size f (Nat.le_refl _)
      exact this.below hbb (by omega)
    · rw [hWb, ← hza]; exact ownE_new Wa w.heap.size zeroE (by omega)
  clear h hlt hf
  go_enter Try.func84, Try.ntmps84
  go_wp2_with fail
  rw [← hWa, ← hWb]
  clear hWa hWb hba hbb hza
  generalize w.heap.size + 1 = rb at *
  refine (below_core base cb bv n 7 _ H0.out.d (by omega) (by omega)).mono ?_
  rintro e w5 ⟨x, rfl, hx0, hx1, hd5⟩
  have H5 : Hid (WInv base cb bv n w w.heap.size rb f w5) := H0.out.call hd5
  clear hd5
  have hx : x = 0 ∨ x = 1 ∨ x = 2 ∨ x = 3 ∨ x = 4 ∨ x = 5 ∨ x = 6 := by omega
  clear hx0 hx1
  rcases hx with rfl | rfl | rfl | rfl | rfl | rfl | rfl
  · obtain ⟨⟨c0, c1, c2, c3, c4, c5⟩, f1⟩ := H5.out.cells
    have g0 := f1 0
    obtain ⟨W7, hW7⟩ : ∃ W7 : World, W7 = w5.setCell ⟨w.heap.size, 0, none⟩ (.string ⟨#[]⟩) := ⟨_, rfl⟩
    have H7 : Hid (WInv base cb bv n w w.heap.size rb ⟨⟨#[]⟩, f.fam, f.qual, f.ts, f.kind, f.val⟩ W7 ∧ (⟨⟨#[]⟩, f.fam, f.qual, f.ts, f.kind, f.val⟩ : Ent).small) := ⟨by rw [hW7]; exact H5.out.set 0 _ _ (by omega) rfl, ⟨by show (0 : Nat) ≤ 1000; omega, HS.out.fam, HS.out.qual, HS.out.val, HS.out.ts, HS.out.kind⟩⟩
    clear f1
    go_upto_region 4 with fail
    rw [← hW7]
    clear hW7 c0 c1 c2 c3 c4 c5 g0
    obtain ⟨⟨k0, k1, k2, k3, k4, k5⟩, _⟩ := H7.out.1.cells
    obtain ⟨⟨l0, l1, l2, l3, l4, l5⟩, lf, _⟩ := H7.out.1.back
    simp only at k0 k1 k2 k3 k4 k5
    obtain ⟨W9, hW9⟩ : ∃ W9 : World, W9 = ((((((W7.setCell ⟨rb, 0, none⟩ (.string (⟨⟨#[]⟩, f.fam, f.qual, f.ts, f.kind, f.val⟩ : Ent).row)).setCell ⟨rb, 1, none⟩ (.string (⟨⟨#[]⟩, f.fam, f.qual, f.ts, f.kind, f.val⟩ : Ent).fam)).setCell ⟨rb, 2, none⟩ (.string (⟨⟨#[]⟩, f.fam, f.qual, f.ts, f.kind, f.val⟩ : Ent).qual)).setCell ⟨rb, 3, none⟩ (.int .u64 (⟨⟨#[]⟩, f.fam, f.qual, f.ts, f.kind, f.val⟩ : Ent).ts)).setCell ⟨rb, 4, none⟩ (.int .i64 (⟨⟨#[]⟩, f.fam, f.qual, f.ts, f.kind, f.val⟩ : Ent).kind)).setCell ⟨rb, 5, none⟩ (.string (⟨⟨#[]⟩, f.fam, f.qual, f.ts, f.kind, f.val⟩ : Ent).val)) := ⟨_, rfl⟩
    obtain ⟨⟨p0, p1, p2, p3, p4, p5⟩, hdr⟩ := H7.out.1.back.2.2 W9 hW9
    have HR : Hid ((⟨⟨#[]⟩, f.fam, f.qual, f.ts, f.kind, f.val⟩ : Ent).small ∧ Drew base cb bv n w W9) := ⟨H7.out.2, hdr⟩
    clear hdr
    simp only at p0 p1 p2 p3 p4 p5 hW9
    go_wp2_with fail
    rw [← hW9]
    exact bodyPost_ret (v := (⟨⟨#[]⟩, f.fam, f.qual, f.ts, f.kind, f.val⟩ : Ent).v) (by simp [results, Try.results84, go_sem, p0, p1, p2, p3, p4, p5]) rfl ⟨⟨⟨#[]⟩, f.fam, f.qual, f.ts, f.kind, f.val⟩, rfl, HR.out.1, HR.out.2⟩
  · go_wp2_with fail
    refine (many_core 98 65 _ (by omega)).mono ?_
    rintro e w6 ⟨s6, rfl, hs6, hb6⟩
    have H6 : Hid (WInv base cb bv n w w.heap.size rb f w6) := H5.out.below hb6
    clear hb6
    obtain ⟨⟨c0, c1, c2, c3, c4, c5⟩, f1⟩ := H6.out.cells
    have g0 := f1 0
    obtain ⟨W7, hW7⟩ : ∃ W7 : World, W7 = w6.setCell ⟨w.heap.size, 0, none⟩ (.string s6) := ⟨_, rfl⟩
    have H7 : Hid (WInv base cb bv n w w.heap.size rb ⟨s6, f.fam, f.qual, f.ts, f.kind, f.val⟩ W7 ∧ (⟨s6, f.fam, f.qual, f.ts, f.kind, f.val⟩ : Ent).small) := ⟨by rw [hW7]; exact H6.out.set 0 _ _ (by omega) rfl, ⟨hs6, HS.out.fam, HS.out.qual, HS.out.val, HS.out.ts, HS.out.kind⟩⟩
    clear f1
    go_upto_region 6 with fail
    rw [← hW7]
    clear hW7 c0 c1 c2 c3 c4 c5 g0
    obtain ⟨⟨k0, k1, k2, k3, k4, k5⟩, _⟩ := H7.out.1.cells
    obtain ⟨⟨l0, l1, l2, l3, l4, l5⟩, lf, _⟩ := H7.out.1.back
    simp only at k0 k1 k2 k3 k4 k5
    obtain ⟨W9, hW9⟩ : ∃ W9 : World, W9 = ((((((W7.setCell ⟨rb, 0, none⟩ (.string (⟨s6, f.fam, f.qual, f.ts, f.kind, f.val⟩ : Ent).row)).setCell ⟨rb, 1, none⟩ (.string (⟨s6, f.fam, f.qual, f.ts, f.kind, f.val⟩ : Ent).fam)).setCell ⟨rb, 2, none⟩ (.string (⟨s6, f.fam, f.qual, f.ts, f.kind, f.val⟩ : Ent).qual)).setCell ⟨rb, 3, none⟩ (.int .u64 (⟨s6, f.fam, f.qual, f.ts, f.kind, f.val⟩ : Ent).ts)).setCell ⟨rb, 4, none⟩ (.int .i64 (⟨s6, f.fam, f.qual, f.ts, f.kind, f.val⟩ : Ent).kind)).setCell ⟨rb, 5, none⟩ (.string (⟨s6, f.fam, f.qual, f.ts, f.kind, f.val⟩ : Ent).val)) := ⟨_, rfl⟩
    obtain ⟨⟨p0, p1, p2, p3, p4, p5⟩, hdr⟩ := H7.out.1.back.2.2 W9 hW9
    have HR : Hid ((⟨s6, f.fam, f.qual, f.ts, f.kind, f.val⟩ : Ent).small ∧ Drew base cb bv n w W9) := ⟨H7.out.2, hdr⟩
    clear hdr
    simp only at p0 p1 p2 p3 p4 p5 hW9
    go_wp2_with fail
    rw [← hW9]
    exact bodyPost_ret (v := (⟨s6, f.fam, f.qual, f.ts, f.kind, f.val⟩ : Ent).v) (by simp [results, Try.results84, go_sem, p0, p1, p2, p3, p4, p5]) rfl ⟨⟨s6, f.fam, f.qual, f.ts, f.kind, f.val⟩, rfl, HR.out.1, HR.out.2⟩
  · go_wp2_with fail
    refine (many_core 102 17 _ (by omega)).mono ?_
    rintro e w6 ⟨s6, rfl, hs6, hb6⟩
    have H6 : Hid (WInv base cb bv n w w.heap.size rb f w6) := H5.out.below hb6
    clear hb6
    obtain ⟨⟨c0, c1, c2, c3, c4, c5⟩, f1⟩ := H6.out.cells
    have g0 := f1 1
    obtain ⟨W7, hW7⟩ : ∃ W7 : World, W7 = w6.setCell ⟨w.heap.size, 1, none⟩ (.string s6) := ⟨_, rfl⟩
    have H7 : Hid (WInv base cb bv n w w.heap.size rb ⟨f.row, s6, f.qual, f.ts, f.kind, f.val⟩ W7 ∧ (⟨f.row, s6, f.qual, f.ts, f.kind, f.val⟩ : Ent).small) := ⟨by rw [hW7]; exact H6.out.set 1 _ _ (by omega) rfl, ⟨HS.out.row, hs6, HS.out.qual, HS.out.val, HS.out.ts, HS.out.kind⟩⟩
    clear f1
    go_upto_region 8 with fail
    rw [← hW7]
    clear hW7 c0 c1 c2 c3 c4 c5 g0
    obtain ⟨⟨k0, k1, k2, k3, k4, k5⟩, _⟩ := H7.out.1.cells
    obtain ⟨⟨l0, l1, l2, l3, l4, l5⟩, lf, _⟩ := H7.out.1.back
    simp only at k0 k1 k2 k3 k4 k5
    obtain ⟨W9, hW9⟩ : ∃ W9 : World, W9 = ((((((W7.setCell ⟨rb, 0, none⟩ (.string (⟨f.row, s6, f.qual, f.ts, f.kind, f.val⟩ : Ent).row)).setCell ⟨rb, 1, none⟩ (.string (⟨f.row, s6, f.qual, f.ts, f.kind, f.val⟩ : Ent).fam)).setCell ⟨rb, 2, none⟩ (.string (⟨f.row, s6, f.qual, f.ts, f.kind, f.val⟩ : Ent).qual)).setCell ⟨rb, 3, none⟩ (.int .u64 (⟨f.row, s6, f.qual, f.ts, f.kind, f.val⟩ : Ent).ts)).setCell ⟨rb, 4, none⟩ (.int .i64 (⟨f.row, s6, f.qual, f.ts, f.kind, f.val⟩ : Ent).kind)).setCell ⟨rb, 5, none⟩ (.string (⟨f.row, s6, f.qual, f.ts, f.kind, f.val⟩ : Ent).val)) := ⟨_, rfl⟩
    obtain ⟨⟨p0, p1, p2, p3, p4, p5⟩, hdr⟩ := H7.out.1.back.2.2 W9 hW9
    have HR : Hid ((⟨f.row, s6, f.qual, f.ts, f.kind, f.val⟩ : Ent).small ∧ Drew base cb bv n w W9) := ⟨H7.out.2, hdr⟩
    clear hdr
    simp only at p0 p1 p2 p3 p4 p5 hW9
    go_wp2_with fail
    rw [← hW9]
    exact bodyPost_ret (v := (⟨f.row, s6, f.qual, f.ts, f.kind, f.val⟩ : Ent).v) (by simp [results, Try.results84, go_sem, p0, p1, p2, p3, p4, p5]) rfl ⟨⟨f.row, s6, f.qual, f.ts, f.kind, f.val⟩, rfl, HR.out.1, HR.out.2⟩
  · obtain ⟨⟨c0, c1, c2, c3, c4, c5⟩, f1⟩ := H5.out.cells
    have g0 := f1 4
    obtain ⟨W7, hW7⟩ : ∃ W7 : World, W7 = w5.setCell ⟨w.heap.size, 4, none⟩ (.int .i64 3) := ⟨_, rfl⟩
    have H7 : Hid (WInv base cb bv n w w.heap.size rb ⟨f.row, f.fam, f.qual, f.ts, 3, f.val⟩ W7 ∧ (⟨f.row, f.fam, f.qual, f.ts, 3, f.val⟩ : Ent).small) := ⟨by rw [hW7]; exact H5.out.set 4 _ _ (by omega) rfl, ⟨HS.out.row, HS.out.fam, HS.out.qual, HS.out.val, HS.out.ts, by simp⟩⟩
    clear f1
    go_upto_region 10 with fail
    rw [← hW7]
    clear hW7 c0 c1 c2 c3 c4 c5 g0
    obtain ⟨⟨k0, k1, k2, k3, k4, k5⟩, _⟩ := H7.out.1.cells
    obtain ⟨⟨l0, l1, l2, l3, l4, l5⟩, lf, _⟩ := H7.out.1.back
    simp only at k0 k1 k2 k3 k4 k5
    obtain ⟨W9, hW9⟩ : ∃ W9 : World, W9 = ((((((W7.setCell ⟨rb, 0, none⟩ (.string (⟨f.row, f.fam, f.qual, f.ts, 3, f.val⟩ : Ent).row)).setCell ⟨rb, 1, none⟩ (.string (⟨f.row, f.fam, f.qual, f.ts, 3, f.val⟩ : Ent).fam)).setCell ⟨rb, 2, none⟩ (.string (⟨f.row, f.fam, f.qual, f.ts, 3, f.val⟩ : Ent).qual)).setCell ⟨rb, 3, none⟩ (.int .u64 (⟨f.row, f.fam, f.qual, f.ts, 3, f.val⟩ : Ent).ts)).setCell ⟨rb, 4, none⟩ (.int .i64 (⟨f.row, f.fam, f.qual, f.ts, 3, f.val⟩ : Ent).kind)).setCell ⟨rb, 5, none⟩ (.string (⟨f.row, f.fam, f.qual, f.ts, 3, f.val⟩ : Ent).val)) := ⟨_, rfl⟩
    obtain ⟨⟨p0, p1, p2, p3, p4, p5⟩, hdr⟩ := H7.out.1.back.2.2 W9 hW9
    have HR : Hid ((⟨f.row, f.fam, f.qual, f.ts, 3, f.val⟩ : Ent).small ∧ Drew base cb bv n w W9) := ⟨H7.out.2, hdr⟩
    clear hdr
    simp only at p0 p1 p2 p3 p4 p5 hW9
    go_wp2_with fail
    rw [← hW9]
    exact bodyPost_ret (v := (⟨f.row, f.fam, f.qual, f.ts, 3, f.val⟩ : Ent).v) (by simp [results, Try.results84, go_sem, p0, p1, p2, p3, p4, p5]) rfl ⟨⟨f.row, f.fam, f.qual, f.ts, 3, f.val⟩, rfl, HR.out.1, HR.out.2⟩
  · go_wp2_with fail
    refine (many_core 118 201 _ (by omega)).mono ?_
    rintro e w6 ⟨s6, rfl, hs6, hb6⟩
    have H6 : Hid (WInv base cb bv n w w.heap.size rb f w6) := H5.out.below hb6
    clear hb6
    obtain ⟨⟨c0, c1, c2, c3, c4, c5⟩, f1⟩ := H6.out.cells
    have g0 := f1 5
    obtain ⟨W7, hW7⟩ : ∃ W7 : World, W7 = w6.setCell ⟨w.heap.size, 5, none⟩ (.string s6) := ⟨_, rfl⟩
    have H7 : Hid (WInv base cb bv n w w.heap.size rb ⟨f.row, f.fam, f.qual, f.ts, f.kind, s6⟩ W7 ∧ (⟨f.row, f.fam, f.qual, f.ts, f.kind, s6⟩ : Ent).small) := ⟨by rw [hW7]; exact H6.out.set 5 _ _ (by omega) rfl, ⟨HS.out.row, HS.out.fam, HS.out.qual, hs6, HS.out.ts, HS.out.kind⟩⟩
    clear f1
    go_upto_region 12 with fail
    rw [← hW7]
    clear hW7 c0 c1 c2 c3 c4 c5 g0
    obtain ⟨⟨k0, k1, k2, k3, k4, k5⟩, _⟩ := H7.out.1.cells
    obtain ⟨⟨l0, l1, l2, l3, l4, l5⟩, lf, _⟩ := H7.out.1.back
    simp only at k0 k1 k2 k3 k4 k5
    obtain ⟨W9, hW9⟩ : ∃ W9 : World, W9 = ((((((W7.setCell ⟨rb, 0, none⟩ (.string (⟨f.row, f.fam, f.qual, f.ts, f.kind, s6⟩ : Ent).row)).setCell ⟨rb, 1, none⟩ (.string (⟨f.row, f.fam, f.qual, f.ts, f.kind, s6⟩ : Ent).fam)).setCell ⟨rb, 2, none⟩ (.string (⟨f.row, f.fam, f.qual, f.ts, f.kind, s6⟩ : Ent).qual)).setCell ⟨rb, 3, none⟩ (.int .u64 (⟨f.row, f.fam, f.qual, f.ts, f.kind, s6⟩ : Ent).ts)).setCell ⟨rb, 4, none⟩ (.int .i64 (⟨f.row, f.fam, f.qual, f.ts, f.kind, s6⟩ : Ent).kind)).setCell ⟨rb, 5, none⟩ (.string (⟨f.row, f.fam, f.qual, f.ts, f.kind, s6⟩ : Ent).val)) := ⟨_, rfl⟩
    obtain ⟨⟨p0, p1, p2, p3, p4, p5⟩, hdr⟩ := H7.out.1.back.2.2 W9 hW9
    have HR : Hid ((⟨f.row, f.fam, f.qual, f.ts, f.kind, s6⟩ : Ent).small ∧ Drew base cb bv n w W9) := ⟨H7.out.2, hdr⟩
    clear hdr
    simp only at p0 p1 p2 p3 p4 p5 hW9
    go_wp2_with fail
    rw [← hW9]
    exact bodyPost_ret (v := (⟨f.row, f.fam, f.qual, f.ts, f.kind, s6⟩ : Ent).v) (by simp [results, Try.results84, go_sem, p0, p1, p2, p3, p4, p5]) rfl ⟨⟨f.row, f.fam, f.qual, f.ts, f.kind, s6⟩, rfl, HR.out.1, HR.out.2⟩
  · have hA := H5.out.set 4 ⟨f.row, f.fam, f.qual, f.ts, 1, f.val⟩ (.int .i64 1) (by omega) rfl
    obtain ⟨⟨_, _, _, _, c4, _⟩, f1⟩ := H5.out.cells
    obtain ⟨⟨_, _, _, _, _, c5⟩, f2⟩ := hA.cells
    have g4 := f1 4
    have g5 := f2 5
    simp only at c5
    obtain ⟨W7, hW7⟩ : ∃ W7 : World, W7 = (w5.setCell ⟨w.heap.size, 4, none⟩ (.int .i64 1)).setCell ⟨w.heap.size, 5, none⟩ (.string ⟨#[120]⟩) := ⟨_, rfl⟩
    have H7 : Hid (WInv base cb bv n w w.heap.size rb ⟨f.row, f.fam, f.qual, f.ts, 1, ⟨#[120]⟩⟩ W7 ∧ (⟨f.row, f.fam, f.qual, f.ts, 1, ⟨#[120]⟩⟩ : Ent).small) := ⟨by rw [hW7]; exact hA.set 5 _ _ (by omega) rfl, ⟨HS.out.row, HS.out.fam, HS.out.qual, by show (1 : Nat) ≤ 1000; omega, HS.out.ts, by simp⟩⟩
    clear hA f1 f2
    go_upto_region 15 with fail
    rw [← hW7]
    clear hW7 c4 c5 g4 g5
    obtain ⟨⟨k0, k1, k2, k3, k4, k5⟩, _⟩ := H7.out.1.cells
    obtain ⟨⟨l0, l1, l2, l3, l4, l5⟩, lf, _⟩ := H7.out.1.back
    simp only at k0 k1 k2 k3 k4 k5
    obtain ⟨W9, hW9⟩ : ∃ W9 : World, W9 = ((((((W7.setCell ⟨rb, 0, none⟩ (.string (⟨f.row, f.fam, f.qual, f.ts, 1, ⟨#[120]⟩⟩ : Ent).row)).setCell ⟨rb, 1, none⟩ (.string (⟨f.row, f.fam, f.qual, f.ts, 1, ⟨#[120]⟩⟩ : Ent).fam)).setCell ⟨rb, 2, none⟩ (.string (⟨f.row, f.fam, f.qual, f.ts, 1, ⟨#[120]⟩⟩ : Ent).qual)).setCell ⟨rb, 3, none⟩ (.int .u64 (⟨f.row, f.fam, f.qual, f.ts, 1, ⟨#[120]⟩⟩ : Ent).ts)).setCell ⟨rb, 4, none⟩ (.int .i64 (⟨f.row, f.fam, f.qual, f.ts, 1, ⟨#[120]⟩⟩ : Ent).kind)).setCell ⟨rb, 5, none⟩ (.string (⟨f.row, f.fam, f.qual, f.ts, 1, ⟨#[120]⟩⟩ : Ent).val)) := ⟨_, rfl⟩
    obtain ⟨⟨p0, p1, p2, p3, p4, p5⟩, hdr⟩ := H7.out.1.back.2.2 W9 hW9
    have HR : Hid ((⟨f.row, f.fam, f.qual, f.ts, 1, ⟨#[120]⟩⟩ : Ent).small ∧ Drew base cb bv n w W9) := ⟨H7.out.2, hdr⟩
    clear hdr
    simp only at p0 p1 p2 p3 p4 p5 hW9
    go_wp2_with fail
    rw [← hW9]
    exact bodyPost_ret (v := (⟨f.row, f.fam, f.qual, f.ts, 1, ⟨#[120]⟩⟩ : Ent).v) (by simp [results, Try.results84, go_sem, p0, p1, p2, p3, p4, p5]) rfl ⟨⟨f.row, f.fam, f.qual, f.ts, 1, ⟨#[120]⟩⟩, rfl, HR.out.1, HR.out.2⟩
  · go_wp2_with fail
    refine (many_core 113 65 _ (by omega)).mono ?_
    rintro e w6 ⟨s6, rfl, hs6, hb6⟩
    have H6 : Hid (WInv base cb bv n w w.heap.size rb f w6) := H5.out.below hb6
    clear hb6
    obtain ⟨⟨c0, c1, c2, c3, c4, c5⟩, f1⟩ := H6.out.cells
    have g0 := f1 2
    obtain ⟨W7, hW7⟩ : ∃ W7 : World, W7 = w6.setCell ⟨w.heap.size, 2, none⟩ (.string s6) := ⟨_, rfl⟩
    have H7 : Hid (WInv base cb bv n w w.heap.size rb ⟨f.row, f.fam, s6, f.ts, f.kind, f.val⟩ W7 ∧ (⟨f.row, f.fam, s6, f.ts, f.kind, f.val⟩ : Ent).small) := ⟨by rw [hW7]; exact H6.out.set 2 _ _ (by omega) rfl, ⟨HS.out.row, HS.out.fam, hs6, HS.out.val, HS.out.ts, HS.out.kind⟩⟩
    clear f1
    go_upto_region 17 with fail
    rw [← hW7]
    clear hW7 c0 c1 c2 c3 c4 c5 g0
    obtain ⟨⟨k0, k1, k2, k3, k4, k5⟩, _⟩ := H7.out.1.cells
    obtain ⟨⟨l0, l1, l2, l3, l4, l5⟩, lf, _⟩ := H7.out.1.back
    simp only at k0 k1 k2 k3 k4 k5
    obtain ⟨W9, hW9⟩ : ∃ W9 : World, W9 = ((((((W7.setCell ⟨rb, 0, none⟩ (.string (⟨f.row, f.fam, s6, f.ts, f.kind, f.val⟩ : Ent).row)).setCell ⟨rb, 1, none⟩ (.string (⟨f.row, f.fam, s6, f.ts, f.kind, f.val⟩ : Ent).fam)).setCell ⟨rb, 2, none⟩ (.string (⟨f.row, f.fam, s6, f.ts, f.kind, f.val⟩ : Ent).qual)).setCell ⟨rb, 3, none⟩ (.int .u64 (⟨f.row, f.fam, s6, f.ts, f.kind, f.val⟩ : Ent).ts)).setCell ⟨rb, 4, none⟩ (.int .i64 (⟨f.row, f.fam, s6, f.ts, f.kind, f.val⟩ : Ent).kind)).setCell ⟨rb, 5, none⟩ (.string (⟨f.row, f.fam, s6, f.ts, f.kind, f.val⟩ : Ent).val)) := ⟨_, rfl⟩
    obtain ⟨⟨p0, p1, p2, p3, p4, p5⟩, hdr⟩ := H7.out.1.back.2.2 W9 hW9
    have HR : Hid ((⟨f.row, f.fam, s6, f.ts, f.kind, f.val⟩ : Ent).small ∧ Drew base cb bv n w W9) := ⟨H7.out.2, hdr⟩
    clear hdr
    simp only at p0 p1 p2 p3 p4 p5 hW9
    go_wp2_with fail
    rw [← hW9]
    exact bodyPost_ret (v := (⟨f.row, f.fam, s6, f.ts, f.kind, f.val⟩ : Ent).v) (by simp [results, Try.results84, go_sem, p0, p1, p2, p3, p4, p5]) rfl ⟨⟨f.row, f.fam, s6, f.ts, f.kind, f.val⟩, rfl, HR.out.1, HR.out.2⟩
end Go.Proofs.Ytnncedndlhfdkac

/-
  The draws: a run spoilt.
-/
namespace Go.Proofs.Ytnncedndlhfdkac
open Go.ChangeShapes Go.WideShapes Go.ChangeAt Go.RowKit Go.Deep
set_option linter.unusedVariables false
set_option linter.unusedSimpArgs false
set_option maxRecDepth 100000

theorem cells_of_ents {w : World} {b off : Nat} {es : List Ent} (h : EntsAt w b off es) : ∀ j u, (cellsE es)[j]? = some u → w.cell? ((⟨b, off, none⟩ : Addr).add j) = some u := by
  intro j u hu
  have hj : j < es.length * 6 := by rw [← length_cellsE]; exact (List.getElem?_eq_some_iff.1 hu).1
  obtain ⟨e, he⟩ : ∃ e, es[j / 6]? = some e := ⟨_, List.getElem?_eq_getElem (by omega)⟩
  have hg := cellsE_get es (j / 6) e he (j % 6) (Nat.mod_lt _ (by omega))
  rw [show j / 6 * 6 + j % 6 = j by omega, hu] at hg
  obtain ⟨c0, c1, c2, c3, c4, c5⟩ := h (j / 6) e he
  rw [Addr.add_mid, show off + j = off + j / 6 * 6 + j % 6 by omega]
  have hm : j % 6 < 6 := Nat.mod_lt _ (by omega)
  generalize j % 6 = m at *
  match m, hm, hg with
  | 0, _, hg => rw [Nat.add_zero, c0, hg]; rfl
  | 1, _, hg => rw [c1, hg]; rfl
  | 2, _, hg => rw [c2, hg]; rfl
  | 3, _, hg => rw [c3, hg]; rfl
  | 4, _, hg => rw [c4, hg]; rfl
  | 5, _, hg => rw [c5, hg]; rfl
theorem one_cells (es : List Ent) : ∀ u ∈ cellsE es, u.oneCell' = true := by
  intro u hu
  unfold cellsE at hu
  obtain ⟨e, _, he⟩ := List.mem_flatMap.1 hu
  simp at he
  rcases he with rfl | rfl | rfl | rfl | rfl | rfl <;> rfl
/-- Entries appended to a row of the call's own. -/
theorem wpList_append_ents {ops : Array Oper} {rest : List Oper} {o : Oper} {a : Act} {Q : Exit → Act → World → Prop} (w : World) (hgd : o.guard = none) (s x : Operand)
    (ho : o.op = .call { callee := .builtin .append, args := #[s, x], argTypes := #[38, 38] })
    (base g cp n b off m cx : Nat) (fs es : List Ent) (hs : a.eval s = .slice (some ⟨g, 0, none⟩) n cp) (hx : a.eval x = .slice (some ⟨b, off, none⟩) m cx) (hn : n = fs.length) (hm : m = es.length) (hO : OwnE w base g cp fs)
    (hc : EntsAt w b off es) (hlen : fs.length + es.length ≤ 2 ^ 30) (hbase : base ≤ w.heap.size)
    (h : ∀ g' cp' w', OwnE w' base g' cp' (fs ++ es) → w.grownBy w' (some g) → wpList Try.prog ops Q rest (a.put o.dst (.slice (some ⟨g', 0, none⟩) (n + m) cp')) w') : wpList Try.prog ops Q (o :: rest) a w := by
  subst hn hm
  obtain ⟨i, hi, hz0, hz1, hz2⟩ := info_parts Try.infoEnt
  refine wpList_append_own_at w hgd s x 38 ho base 63 i _ 6 80 Try.underlying38 hi hz0 hz1 hz2 rfl (by decide) (.slice (some ⟨g, 0, none⟩) fs.length cp) fs.length (cellsE fs) hs hO ⟨b, off, none⟩ es.length cx (cellsE es) hx (length_cellsE es) (cells_of_ents hc) (one_cells es) ?_ ?_ hbase ?_
  · unfold maxLen; omega
  · omega
  · intro v' w' hO' hgr hnil _
    rcases hO'.2 with ⟨h0, _⟩ | ⟨g', cap', cur, hv, _, _, hn, hcap, _, _⟩
    · have := (hnil.1 h0).1
      cases this
    · subst hv
      refine h g' cap' w' ?_ hgr
      unfold OwnE
      rw [List.length_append, cellsE_append]
      exact hO'

/-- What a spoilt run may be. -/
structure SpoilOf (w : World) (b : Nat) (es : List Ent) (r : Rm) (w' : World) : Prop where
  at_ : r.at w'
  ok : ∀ e ∈ r.es, e.small
  len : r.es.length ≤ es.length + 1
  blk : r.b = b ∨ w.heap.size ≤ r.b
theorem mem_set_small {fs : List Ent} {i : Nat} {e' : Ent} (h : ∀ e ∈ fs, e.small) (he : e'.small) : ∀ e ∈ fs.set i e', e.small := by
  intro e hm
  rcases List.mem_or_eq_of_mem_set hm with q | rfl
  · exact h e q
  · exact he
theorem LInv.turn {base cb : Nat} {bv : Value} {n : Nat} {w : World} {g cp : Nat} {es fs : List Ent} {wr w' : World} (h : LInv base cb bv n w g cp es wr) (hc : Chg (fun k => k = g) wr w') (hO : OwnE w' w.heap.size g cp fs) (hok : ∀ e ∈ fs, e.small) : LInv base cb bv n w g cp fs w' := by
  have hl := h.row.lt
  have hcb := h.lt
  have hbb := h.hb
  refine ⟨hO, hok, h.d.chg hc (by omega) (fun k q => by omega), ?_, h.lt, h.hb⟩
  exact ⟨hc.os.trans h.c.os, hc.tape.trans h.c.tape, hc.output.trans h.c.output, Nat.le_trans h.c.size hc.size, fun k hk hn => (hc.block k (Nat.lt_of_lt_of_le hk h.c.size) (by omega)).trans (h.c.block k hk hn)⟩
theorem LInv.put {base cb : Nat} {bv : Value} {n : Nat} {w : World} {g cp : Nat} {es : List Ent} {wr : World} (h : LInv base cb bv n w g cp es wr) (i : Nat) (x e : Ent) (hx : es[i]? = some x) (he : e.small) :
    LInv base cb bv n w g cp (es.set i e) ((((((wr.setCell ⟨g, i * 6, none⟩ (.string e.row)).setCell ⟨g, i * 6 + 1, none⟩ (.string e.fam)).setCell ⟨g, i * 6 + 2, none⟩ (.string e.qual)).setCell ⟨g, i * 6 + 3, none⟩ (.int .u64 e.ts)).setCell ⟨g, i * 6 + 4, none⟩ (.int .i64 e.kind)).setCell ⟨g, i * 6 + 5, none⟩ (.string e.val)) := by
  refine h.turn ?_ (h.row.put i x e hx) (mem_set_small h.ok he)
  exact (((((Chg.of_set (S := fun k => k = g) _ _ _ _ rfl).trans (Chg.of_set (S := fun k => k = g) _ _ _ _ rfl)).trans (Chg.of_set (S := fun k => k = g) _ _ _ _ rfl)).trans (Chg.of_set (S := fun k => k = g) _ _ _ _ rfl)).trans (Chg.of_set (S := fun k => k = g) _ _ _ _ rfl)).trans (Chg.of_set (S := fun k => k = g) _ _ _ _ rfl)
theorem LInv.at6 {base cb : Nat} {bv : Value} {n : Nat} {w : World} {g cp : Nat} {es : List Ent} {wr : World} (h : LInv base cb bv n w g cp es wr) (i : Nat) (x : Ent) (hx : es[i]? = some x) :
    (wr.cell? ⟨g, i * 6, none⟩ = some (.string x.row) ∧ wr.cell? ⟨g, i * 6 + 1, none⟩ = some (.string x.fam) ∧ wr.cell? ⟨g, i * 6 + 2, none⟩ = some (.string x.qual) ∧ wr.cell? ⟨g, i * 6 + 3, none⟩ = some (.int .u64 x.ts) ∧ wr.cell? ⟨g, i * 6 + 4, none⟩ = some (.int .i64 x.kind) ∧ wr.cell? ⟨g, i * 6 + 5, none⟩ = some (.string x.val)) ∧ ∀ j, wr.frozen? ⟨g, j, none⟩ = false := by
  have := h.row.at i x hx
  simp only [Nat.zero_add] at this
  exact ⟨this, fun j => World.ownsRow.frozenAt h.row j⟩

theorem YInv.put {base cb : Nat} {bv : Value} {n : Nat} {w : World} {g cp : Nat} {es : List Ent} {vb : Nat} {f : Ent} {wr : World} (h : YInv base cb bv n w g cp es vb f wr) (i : Nat) (x e : Ent) (hx : es[i]? = some x) (he : e.small) :
    YInv base cb bv n w g cp (es.set i e) vb f ((((((wr.setCell ⟨g, i * 6, none⟩ (.string e.row)).setCell ⟨g, i * 6 + 1, none⟩ (.string e.fam)).setCell ⟨g, i * 6 + 2, none⟩ (.string e.qual)).setCell ⟨g, i * 6 + 3, none⟩ (.int .u64 e.ts)).setCell ⟨g, i * 6 + 4, none⟩ (.int .i64 e.kind)).setCell ⟨g, i * 6 + 5, none⟩ (.string e.val)) := by
  refine { h.toLInv.put i x e hx he with
    var := own_chg h.var (S := fun k => k = g) ?_ (fun k q => by simp [Value.ownBlock] at q; subst q; exact fun q => h.ne q.symm)
    ne := h.ne }
  exact (((((Chg.of_set (S := fun k => k = g) _ _ _ _ rfl).trans (Chg.of_set (S := fun k => k = g) _ _ _ _ rfl)).trans (Chg.of_set (S := fun k => k = g) _ _ _ _ rfl)).trans (Chg.of_set (S := fun k => k = g) _ _ _ _ rfl)).trans (Chg.of_set (S := fun k => k = g) _ _ _ _ rfl)).trans (Chg.of_set (S := fun k => k = g) _ _ _ _ rfl)
theorem LInv.push {base cb : Nat} {bv : Value} {n : Nat} {w : World} {g cp : Nat} {es : List Ent} {f : Ent} {wr w' : World} {o : Obj} (h : LInv base cb bv n w g cp es wr) (hf : f.small) {g' cp' : Nat} (hO : OwnE w' w.heap.size g' cp' (es ++ [f])) (hgr : (wr.alloc o).grownBy w' (some g)) : LInv base cb bv n w g' cp' (es ++ [f]) w' := by
  have hb : Below wr.heap.size wr (wr.alloc o) := (Below.refl _ _).alloc (Nat.le_refl _) _
  have hl := h.row.lt
  have hcb := h.lt
  have hbb := h.hb
  refine ⟨hO, fun e he => ?_, ?_, ?_, h.lt, h.hb⟩
  · rcases List.mem_append.1 he with q | q
    · exact h.ok e q
    · simp at q; subst q; exact hf
  · exact (h.d.below hb).chg (Chg.of_grown (S := fun k => k = g) hgr (fun k hk => by cases hk; rfl)) (by omega) (fun k q => by omega)
  · exact Chg.grown_new (h.c.trans (Chg.of_below hb)) hgr (fun k hk => by cases hk; exact hl.1)
theorem LInv.set {base cb : Nat} {bv : Value} {n : Nat} {w : World} {g cp : Nat} {es : List Ent} {wr : World} (h : LInv base cb bv n w g cp es wr) (k j : Nat) (e e' : Ent) (u : Value) (hk : es[k]? = some e) (hj : j < 6) (hc : e'.cells = e.cells.set j u) (hs : e'.small) : LInv base cb bv n w g cp (es.set k e') (wr.setCell ⟨g, k * 6 + j, none⟩ u) :=
  h.turn (Chg.of_set (S := fun k => k = g) _ _ _ _ rfl) (h.row.set k j e e' u hk hj hc) (mem_set_small h.ok hs)

set_option maxHeartbeats 8000000 in
theorem spoilR_core (base cb : Nat) (bv : Value) (n : Nat) (r : Rm) (w : World) (h : DrawAt base cb bv n w) (hr : r.at w) (hok : ∀ e ∈ r.es, e.small) (hl : r.es.length ≤ 100000) (hrb : ¬ r.b = cb) :
    Calls Try.prog 56 #[.pointer (some ⟨cb, 0, none⟩), .agg #[.slice (some ⟨r.b, r.off, none⟩) r.es.length r.cap]] w fun x w' => ∃ r' : Rm, x = .returned (.agg #[.slice (some ⟨r'.b, r'.off, none⟩) r'.es.length r'.cap]) ∧ SpoilOf w r.b r.es r' w' ∧ Drew base cb bv n w w' := by
  have hlt := h.lt
  have hbase := h.base
  obtain ⟨Wa, hWa⟩ : ∃ Wa : World, Wa = w.alloc (Obj.cells #[.slice (some ⟨r.b, r.off, none⟩) r.es.length r.cap] 40) := ⟨_, rfl⟩
  have hba : Below w.heap.size w Wa := by rw [hWa]; exact (Below.refl _ _).alloc (Nat.le_refl _) _
  have hza : Wa.heap.size = w.heap.size + 1 := by rw [hWa]; simp
  obtain ⟨Wb, hWb⟩ : ∃ Wb : World, Wb = Wa.alloc (Obj.cells #[.slice none 0 0] 40) := ⟨_, rfl⟩
  have hbb : Below Wa.heap.size Wa Wb := by rw [hWb]; exact (Below.refl _ _).alloc (Nat.le_refl _) _
  have hzb : Wb.heap.size = w.heap.size + 1 + 1 := by rw [hWb]; simp [hza]
  have kb : Below w.heap.size w Wb := hba.trans (hbb.mono (by omega))
  have HV : Hid (Wb.cell? ⟨w.heap.size, 0, none⟩ = some (.slice (some ⟨r.b, r.off, none⟩) r.es.length r.cap) ∧ Wb.cell? ⟨w.heap.size + 1, 0, none⟩ = some (.slice none 0 0) ∧ Wb.frozen? ⟨w.heap.size + 1, 0, none⟩ = false) := by
    refine ⟨?_, ?_, ?_⟩
    · rw [hbb.cell (p := ⟨w.heap.size, 0, none⟩) (by show w.heap.size < Wa.heap.size; omega), hWa]; simp
    · rw [hWb, ← hza]; simp
    · rw [hWb, ← hza]
      exact World.ownsRow.frozenAt (World.ownsRow_lit (base := 0) (e := 40) (size := 1) Wa #[.slice none 0 0] 1 (Nat.zero_le _) (by decide) rfl) 0
  obtain ⟨Wc, hWc⟩ : ∃ Wc : World, Wc = Wb.alloc (Obj.cells #[] 63) := ⟨_, rfl⟩
  have hbc : Below Wb.heap.size Wb Wc := by rw [hWc]; exact (Below.refl _ _).alloc (Nat.le_refl _) _
  have HL : Hid (LInv base cb bv n Wb (w.heap.size + 1 + 1) 0 [] Wc) := by
    refine ⟨?_, fun e he => by simp at he, (h.below kb).below hbc, Chg.of_below hbc, by omega, by omega⟩
    rw [hWc, ← hzb]
    exact World.ownsRow_made Wb #[] 0 (Nat.le_refl _) (Nat.zero_le _) (by simp)
  have HR : Hid (r.at Wc ∧ (∀ e ∈ r.es, e.small)) := ⟨(hr.below kb).below hbc, hok⟩
  have hrl := hr.lt
  have cv : Wc.cell? ⟨w.heap.size, 0, none⟩ = some (.slice (some ⟨r.b, r.off, none⟩) r.es.length r.cap) := by rw [hbc.cell (p := ⟨w.heap.size, 0, none⟩) (by show w.heap.size < Wb.heap.size; omega)]; exact HV.out.1
  clear h hok
  have HZ : Hid (Wb.heap.size = w.heap.size + 1 + 1) := hzb
  have fin : ∀ (g cp : Nat) (es : List Ent) (wr : World), LInv base cb bv n Wb g cp es wr → es.length ≤ r.es.length + 1 → ∃ r' : Rm, Ending.returned (Value.agg #[.slice (some ⟨g, 0, none⟩) es.length cp]) = .returned (.agg #[.slice (some ⟨r'.b, r'.off, none⟩) r'.es.length r'.cap]) ∧ SpoilOf w r.b r.es r' (wr.setCell ⟨w.heap.size + 1, 0, none⟩ (.slice (some ⟨g, 0, none⟩) es.length cp)) ∧ Drew base cb bv n w (wr.setCell ⟨w.heap.size + 1, 0, none⟩ (.slice (some ⟨g, 0, none⟩) es.length cp)) := by
    intro g cp es wr hL hn
    have hg := hL.row.lt
    have hcg : Chg (fun k => k = w.heap.size + 1) wr (wr.setCell ⟨w.heap.size + 1, 0, none⟩ (.slice (some ⟨g, 0, none⟩) es.length cp)) := Chg.of_set _ _ _ _ rfl
    have hO : OwnE (wr.setCell ⟨w.heap.size + 1, 0, none⟩ (.slice (some ⟨g, 0, none⟩) es.length cp)) Wb.heap.size g cp es := own_chg hL.row hcg (fun k q => by simp [Value.ownBlock] at q; subst q; omega)
    have hcap : es.length ≤ cp ∧ cp ≤ maxLen := by
      rcases hO.2 with ⟨h0, _⟩ | ⟨g', cap', cur, hv, _, _, hn, hcap, _, _⟩
      · cases h0
      · simp only [Value.slice.injEq, Option.some.injEq, Addr.mk.injEq, and_true, true_and] at hv
        obtain ⟨rfl, rfl⟩ := hv
        exact ⟨hn, hcap⟩
    refine ⟨⟨g, 0, cp, es⟩, rfl, ⟨⟨hO.at, hO.lt.2, hcap.1, hcap.2⟩, hL.ok, hn, .inr (by show w.heap.size ≤ g; omega)⟩, hL.d.chg hcg (by omega) (fun k q => by omega), ?_⟩
    exact Chg.grown_new ((Chg.of_below kb).trans hL.c) (grown_set wr (w.heap.size + 1) 0 _) (fun k hk => by cases hk; omega)
  have HFin : Hid (∀ (g cp : Nat) (es : List Ent) (wr : World), LInv base cb bv n Wb g cp es wr → es.length ≤ r.es.length + 1 → ∃ r' : Rm, Ending.returned (Value.agg #[.slice (some ⟨g, 0, none⟩) es.length cp]) = .returned (.agg #[.slice (some ⟨r'.b, r'.off, none⟩) r'.es.length r'.cap]) ∧ SpoilOf w r.b r.es r' (wr.setCell ⟨w.heap.size + 1, 0, none⟩ (.slice (some ⟨g, 0, none⟩) es.length cp)) ∧ Drew base cb bv n w (wr.setCell ⟨w.heap.size + 1, 0, none⟩ (.slice (some ⟨g, 0, none⟩) es.length cp))) := fin
  have hrs : ∀ wr, Chg (fun k => k = cb) Wb wr → wr.cell? ⟨w.heap.size + 1, 0, none⟩ = some (.slice none 0 0) ∧ wr.frozen? ⟨w.heap.size + 1, 0, none⟩ = false := fun wr hc => by
    rw [hc.cell (p := ⟨w.heap.size + 1, 0, none⟩) (by show w.heap.size + 1 < Wb.heap.size; omega) (by show ¬ w.heap.size + 1 = cb; omega), hc.frozen (p := ⟨w.heap.size + 1, 0, none⟩) (by show w.heap.size + 1 < Wb.heap.size; omega) (by show ¬ w.heap.size + 1 = cb; omega)]
    exact HV.out.2
  have HRs : Hid (∀ wr, Chg (fun k => k = cb) Wb wr → wr.cell? ⟨w.heap.size + 1, 0, none⟩ = some (.slice none 0 0) ∧ wr.frozen? ⟨w.heap.size + 1, 0, none⟩ = false) := hrs
  clear fin hrs
  go_enter Try.func56, Try.ntmps56
  have HWs : Hid (Wa = w.alloc (Obj.cells #[.slice (some ⟨r.b, r.off, none⟩) r.es.length r.cap] 40) ∧ Wb = Wa.alloc (Obj.cells #[.slice none 0 0] 40) ∧ Wc = Wb.alloc (Obj.cells #[] 63)) := ⟨hWa, hWb, hWc⟩
  clear hWa hWb hWc hza hzb
  go_wp2_with (at_builtin; refine wpList_append_ents _ rfl _ _ rfl Wb.heap.size (w.heap.size + 1 + 1) 0 0 r.b r.off r.es.length r.cap [] r.es rfl rfl rfl rfl ?hO ?hc ?hl ?hb ?_)
  case hO => rw [← HWs.out.1, ← HWs.out.2.1, ← HWs.out.2.2]; exact HL.out.row
  case hc => rw [← HWs.out.1, ← HWs.out.2.1, ← HWs.out.2.2]; exact HR.out.1.ents
  case hl => simp; omega
  case hb => rw [← HWs.out.1, ← HWs.out.2.1, ← HWs.out.2.2]; exact hbc.size
  rw [← HWs.out.1, ← HWs.out.2.1, ← HWs.out.2.2]
  clear HWs
  intro g cp w1 hO1 hgr1
  have H1 : Hid (LInv base cb bv n Wb g cp r.es w1) := by
    have hs := hbc.size
    have hz := HZ.out
    refine ⟨hO1, HR.out.2, HL.out.d.chg (Chg.of_grown (S := fun k => k = w.heap.size + 1 + 1) hgr1 (fun k hk => by cases hk; rfl)) (by omega) (fun k q => by omega), Chg.grown_new HL.out.c hgr1 (fun k hk => by cases hk; omega), HL.out.lt, HL.out.hb⟩
  clear hO1 hgr1 HL
  by_cases h0 : r.es.length = 0
  · have zl : (r.es.length : Int) = 0 := by omega
    have hc1 := H1.out.c
    have HS : Hid (w1.cell? ⟨w.heap.size + 1, 0, none⟩ = some (.slice none 0 0) ∧ w1.frozen? ⟨w.heap.size + 1, 0, none⟩ = false ∧ w1.cell? ⟨w.heap.size, 0, none⟩ = some (.slice (some ⟨r.b, r.off, none⟩) r.es.length r.cap)) := by
      have hz := HZ.out
      refine ⟨(HRs.out w1 hc1).1, (HRs.out w1 hc1).2, ?_⟩
      rw [hc1.cell (p := ⟨w.heap.size, 0, none⟩) (by show w.heap.size < Wb.heap.size; omega) (by show ¬ w.heap.size = cb; omega)]; exact HV.out.1
    obtain ⟨s1, s2, s3⟩ := HS.out
    obtain ⟨W9, hW9⟩ : ∃ W9 : World, W9 = w1.setCell ⟨w.heap.size + 1, 0, none⟩ (.slice (some ⟨r.b, r.off, none⟩) r.es.length r.cap) := ⟨_, rfl⟩
    have HE : Hid (SpoilOf w r.b r.es r W9 ∧ Drew base cb bv n w W9) := by
      have hcg : Chg (fun k => k = w.heap.size + 1) w1 W9 := by rw [hW9]; exact Chg.of_set _ _ _ _ rfl
      refine ⟨⟨⟨?_, ?_, hr.len, hr.cap⟩, HR.out.2, by omega, .inl rfl⟩, H1.out.d.chg hcg (by omega) (fun k q => by omega), ?_⟩
      · refine EntsAt.chg (EntsAt.chg ((hr.below kb).ents) hc1 ?_ ?_) hcg ?_ ?_
        · have := kb.size; omega
        · exact hrb
        · have := kb.size; have := hc1.size; omega
        · show ¬ r.b = w.heap.size + 1; omega
      · have := hcg.size; have := hc1.size; have := kb.size; omega
      · rw [hW9]; exact Chg.grown_new ((Chg.of_below kb).trans hc1) (grown_set w1 (w.heap.size + 1) 0 _) (fun k hk => by cases hk; omega)
    have p9 : W9.cell? ⟨w.heap.size + 1, 0, none⟩ = some (.slice (some ⟨r.b, r.off, none⟩) r.es.length r.cap) := by rw [hW9]; exact World.cell?_setCell_same _ _ _ s1
    clear hr h0 hrl hba hbb kb hbc hlt hbase hrb HRs HV HR HZ H1 hc1 HFin
    go_wp2_with fail
    rw [← hW9]
    exact bodyPost_ret (v := .agg #[.slice (some ⟨r.b, r.off, none⟩) r.es.length r.cap]) (by simp [results, Try.results56, go_sem, p9]) rfl ⟨r, rfl, HE.out⟩
  · clear cv
    have zl : ¬ (r.es.length : Int) = 0 := by omega
    go_wp2_with fail
    refine (below_core base cb bv n r.es.length w1 H1.out.d (by omega) (by omega)).mono ?_
    rintro e w2 ⟨i, rfl, hi0, hi1, hd2⟩
    obtain ⟨i, rfl⟩ := Int.eq_ofNat_of_zero_le hi0
    have hi : i < r.es.length := by omega
    clear hi0
    have H2 : Hid (LInv base cb bv n Wb g cp r.es w2) := H1.out.call hd2
    clear hd2 H1
    go_wp2_with fail
    refine (below_core base cb bv n 4 w2 H2.out.d (by omega) (by omega)).mono ?_
    rintro e w3 ⟨k, rfl, hk0, hk1, hd3⟩
    have H3 : Hid (LInv base cb bv n Wb g cp r.es w3) := H2.out.call hd3
    clear hd3 H2
    have hk : k = 0 ∨ k = 1 ∨ k = 2 ∨ k = 3 := by omega
    clear hk0 hk1
    obtain ⟨x, hx⟩ : ∃ x, r.es[i]? = some x := ⟨_, List.getElem?_eq_getElem hi⟩
    have HX : Hid (r.es[i]? = some x ∧ x.small) := ⟨hx, HR.out.2 x (List.mem_of_getElem? hx)⟩
    clear hx
    have hcp : r.es.length ≤ cp ∧ r.es.length ≤ maxLen := by
      rcases H3.out.row.2 with ⟨h0, _⟩ | ⟨g', cap', cur, hv, _, _, hn, hcap, _, _⟩
      · cases h0
      · simp only [Value.slice.injEq, Option.some.injEq, Addr.mk.injEq, and_true, true_and] at hv
        obtain ⟨rfl, rfl⟩ := hv
        exact ⟨hn, by omega⟩
    have HN : Hid (base ≤ cb ∧ cb < w.heap.size ∧ base ≤ w.heap.size ∧ r.b < w.heap.size ∧ i < r.es.length ∧ r.es.length ≤ 100000 ∧ r.es.length ≤ cp ∧ r.es.length ≤ maxLen ∧ ¬ r.b = cb) := ⟨hlt.1, hlt.2, hbase, hrl, hi, hl, hcp.1, hcp.2, hrb⟩
    clear hl hr h0 hrl hba hbb kb hbc hlt hbase zl hi hcp hrb
    generalize hmm : r.es.length = m at *
    have HM : Hid (r.es.length = m) := hmm
    clear hmm
    have HFn : Hid (∀ (g cp : Nat) (es : List Ent) (m' : Nat) (wr : World), m' = es.length → LInv base cb bv n Wb g cp es wr → m' ≤ m + 1 → ∃ r' : Rm, Ending.returned (Value.agg #[.slice (some ⟨g, 0, none⟩) m' cp]) = .returned (.agg #[.slice (some ⟨r'.b, r'.off, none⟩) r'.es.length r'.cap]) ∧ SpoilOf w r.b r.es r' (wr.setCell ⟨w.heap.size + 1, 0, none⟩ (.slice (some ⟨g, 0, none⟩) m' cp)) ∧ Drew base cb bv n w (wr.setCell ⟨w.heap.size + 1, 0, none⟩ (.slice (some ⟨g, 0, none⟩) m' cp))) := by
      rintro g cp es m' wr rfl hL h1; exact HFin.out g cp es wr hL h1
    clear HFin
    rcases hk with rfl | rfl | rfl | rfl
    · obtain ⟨⟨c0, c1, c2, c3, c4, c5⟩, _⟩ := H3.out.at6 i x HX.out.1
      go_wp2_with fail
      refine (spoilE_core base cb bv n x w3 H3.out.d HX.out.2).mono ?_
      rintro e w4 ⟨y, rfl, hy, hd4⟩
      have H4 : Hid (LInv base cb bv n Wb g cp r.es w4 ∧ y.small) := ⟨H3.out.call hd4, hy⟩
      clear hd4 hy c0 c1 c2 c3 c4 c5
      obtain ⟨⟨c0, c1, c2, c3, c4, c5⟩, f1⟩ := H4.out.1.at6 i x HX.out.1
      have f00 := f1 (i * 6)
      have f01 := f1 (i * 6 + 1)
      have f02 := f1 (i * 6 + 2)
      have f03 := f1 (i * 6 + 3)
      have f04 := f1 (i * 6 + 4)
      have f05 := f1 (i * 6 + 5)
      obtain ⟨W5, hW5⟩ : ∃ W5 : World, W5 = ((((((w4.setCell ⟨g, i * 6, none⟩ (.string y.row)).setCell ⟨g, i * 6 + 1, none⟩ (.string y.fam)).setCell ⟨g, i * 6 + 2, none⟩ (.string y.qual)).setCell ⟨g, i * 6 + 3, none⟩ (.int .u64 y.ts)).setCell ⟨g, i * 6 + 4, none⟩ (.int .i64 y.kind)).setCell ⟨g, i * 6 + 5, none⟩ (.string y.val)) := ⟨_, rfl⟩
      have H5 : Hid (LInv base cb bv n Wb g cp (r.es.set i y) W5) := by show LInv base cb bv n Wb g cp (r.es.set i y) W5; rw [hW5]; exact H4.out.1.put i x y HX.out.1 H4.out.2
      clear f1
      go_upto_region 9 with fail
      rw [← hW5]
      clear hW5 c0 c1 c2 c3 c4 c5 f00 f01 f02 f03 f04 f05 H4
      obtain ⟨rc, rf⟩ := HRs.out W5 H5.out.c
      obtain ⟨W9, hW9⟩ : ∃ W9 : World, W9 = W5.setCell ⟨w.heap.size + 1, 0, none⟩ (.slice (some ⟨g, 0, none⟩) m cp) := ⟨_, rfl⟩
      have HE : Hid (∃ r' : Rm, Ending.returned (Value.agg #[.slice (some ⟨g, 0, none⟩) m cp]) = .returned (.agg #[.slice (some ⟨r'.b, r'.off, none⟩) r'.es.length r'.cap]) ∧ SpoilOf w r.b r.es r' W9 ∧ Drew base cb bv n w W9) := by rw [hW9]; exact HFn.out _ _ (r.es.set i y) _ _ (by rw [List.length_set, HM.out]) H5.out (by omega)
      have p9 : W9.cell? ⟨w.heap.size + 1, 0, none⟩ = some (.slice (some ⟨g, 0, none⟩) m cp) := by rw [hW9]; exact World.cell?_setCell_same _ _ _ rc
      clear HFn HRs HV HR HX HZ H3
      go_wp2_with fail
      rw [← hW9]
      exact bodyPost_ret (v := .agg #[.slice (some ⟨g, 0, none⟩) m cp]) (by simp [results, Try.results56, go_sem, p9]) rfl HE.out
    · obtain ⟨z, hz⟩ : ∃ z, r.es[0]? = some z := ⟨_, List.getElem?_eq_getElem (by have := HM.out; omega)⟩
      have HZ0 : Hid (r.es[0]? = some z ∧ z.small) := ⟨hz, HR.out.2 z (List.mem_of_getElem? hz)⟩
      clear hz
      obtain ⟨W4, hW4⟩ : ∃ W4 : World, W4 = w3.alloc (Obj.cells #[.string z.row, .string z.fam, .string z.qual, .int .u64 z.ts, .int .i64 z.kind, .string z.val] 63) := ⟨_, rfl⟩
      obtain ⟨⟨k0, k1, k2, k3, k4, k5⟩, _⟩ := H3.out.at6 0 z HZ0.out.1
      simp only [Nat.zero_mul, Nat.zero_add] at k0 k1 k2 k3 k4 k5
      have H4 : Hid (YInv base cb bv n Wb g cp r.es w3.heap.size z W4) := by show YInv base cb bv n Wb g cp r.es w3.heap.size z W4; rw [hW4]; exact H3.out.make z
      go_upto_region 11 with fail
      rw [← hW4]
      clear hW4 k0 k1 k2 k3 k4 k5
      generalize w3.heap.size = vb at *
      obtain ⟨⟨c0, c1, c2, c3, c4, c5⟩, f1⟩ := H4.out.at6 i x HX.out.1
      obtain ⟨⟨k0, k1, k2, k3, k4, k5⟩, _⟩ := H4.out.at6 0 z HZ0.out.1
      simp only [Nat.zero_mul, Nat.zero_add] at k0 k1 k2 k3 k4 k5
      have f00 := f1 0
      have f01 := f1 1
      have f02 := f1 2
      have f03 := f1 3
      have f04 := f1 4
      have f05 := f1 5
      obtain ⟨W5, hW5⟩ : ∃ W5 : World, W5 = ((((((W4.setCell ⟨g, 0, none⟩ (.string x.row)).setCell ⟨g, 1, none⟩ (.string x.fam)).setCell ⟨g, 2, none⟩ (.string x.qual)).setCell ⟨g, 3, none⟩ (.int .u64 x.ts)).setCell ⟨g, 4, none⟩ (.int .i64 x.kind)).setCell ⟨g, 5, none⟩ (.string x.val)) := ⟨_, rfl⟩
      have H5 : Hid (YInv base cb bv n Wb g cp (r.es.set 0 x) vb z W5) := by
        have := H4.out.put 0 z x HZ0.out.1 HX.out.2
        simp only [Nat.zero_mul, Nat.zero_add] at this
        rw [← hW5] at this
        exact this
      clear f1
      go_upto_region 12 with fail
      rw [← hW5]
      clear hW5 c0 c1 c2 c3 c4 c5 k0 k1 k2 k3 k4 k5 f00 f01 f02 f03 f04 f05 H4
      obtain ⟨x2, hx2⟩ : ∃ x2, (r.es.set 0 x)[i]? = some x2 := ⟨_, List.getElem?_eq_getElem (by rw [List.length_set, HM.out]; omega)⟩
      have HX2 : Hid ((r.es.set 0 x)[i]? = some x2) := hx2
      clear hx2
      obtain ⟨⟨c0, c1, c2, c3, c4, c5⟩, f1⟩ := H5.out.at6 i x2 HX2.out
      obtain ⟨⟨k0, k1, k2, k3, k4, k5⟩, _⟩ := H5.out.cells
      have f00 := f1 (i * 6)
      have f01 := f1 (i * 6 + 1)
      have f02 := f1 (i * 6 + 2)
      have f03 := f1 (i * 6 + 3)
      have f04 := f1 (i * 6 + 4)
      have f05 := f1 (i * 6 + 5)
      obtain ⟨W6, hW6⟩ : ∃ W6 : World, W6 = ((((((W5.setCell ⟨g, i * 6, none⟩ (.string z.row)).setCell ⟨g, i * 6 + 1, none⟩ (.string z.fam)).setCell ⟨g, i * 6 + 2, none⟩ (.string z.qual)).setCell ⟨g, i * 6 + 3, none⟩ (.int .u64 z.ts)).setCell ⟨g, i * 6 + 4, none⟩ (.int .i64 z.kind)).setCell ⟨g, i * 6 + 5, none⟩ (.string z.val)) := ⟨_, rfl⟩
      have H6 : Hid (LInv base cb bv n Wb g cp ((r.es.set 0 x).set i z) W6) := by show LInv base cb bv n Wb g cp ((r.es.set 0 x).set i z) W6; rw [hW6]; exact H5.out.toLInv.put i x2 z HX2.out HZ0.out.2
      clear f1
      go_upto_region 13 with fail
      rw [← hW6]
      clear hW6 c0 c1 c2 c3 c4 c5 k0 k1 k2 k3 k4 k5 f00 f01 f02 f03 f04 f05 H5 HX2 HZ0
      obtain ⟨rc, rf⟩ := HRs.out W6 H6.out.c
      obtain ⟨W9, hW9⟩ : ∃ W9 : World, W9 = W6.setCell ⟨w.heap.size + 1, 0, none⟩ (.slice (some ⟨g, 0, none⟩) m cp) := ⟨_, rfl⟩
      have HE : Hid (∃ r' : Rm, Ending.returned (Value.agg #[.slice (some ⟨g, 0, none⟩) m cp]) = .returned (.agg #[.slice (some ⟨r'.b, r'.off, none⟩) r'.es.length r'.cap]) ∧ SpoilOf w r.b r.es r' W9 ∧ Drew base cb bv n w W9) := by rw [hW9]; exact HFn.out _ _ ((r.es.set 0 x).set i z) _ _ (by rw [List.length_set, List.length_set, HM.out]) H6.out (by omega)
      have p9 : W9.cell? ⟨w.heap.size + 1, 0, none⟩ = some (.slice (some ⟨g, 0, none⟩) m cp) := by rw [hW9]; exact World.cell?_setCell_same _ _ _ rc
      clear HFn HRs HV HR HX HZ H3
      go_wp2_with fail
      rw [← hW9]
      exact bodyPost_ret (v := .agg #[.slice (some ⟨g, 0, none⟩) m cp]) (by simp [results, Try.results56, go_sem, p9]) rfl HE.out
    · obtain ⟨⟨c0, c1, c2, c3, c4, c5⟩, _⟩ := H3.out.at6 i x HX.out.1
      have hgX := H3.out.row.lt
      have hsX := H3.out.c.size
      have HKl : Hid (m = r.es.length) := HM.out.symm
      have HN2 : Hid (m ≤ 100000) := HN.out.2.2.2.2.2.1
      go_wp2_with (at_builtin; refine wpList_append_ent _ rfl _ _ rfl Wb.heap.size g cp _ _ r.es x rfl rfl HKl.out ?hO ?hc ?hl ?hb ?_)
      case hO => exact H3.out.row.below ((Below.refl _ _).alloc (Nat.le_refl _) _) (by omega)
      case hc => exact ent_new w3 x
      case hl => rw [← HKl.out]; have := HN2.out; omega
      case hb => first | (simp; omega) | omega
      intro g' cp' w4 hO' hgr
      have H6 : Hid (LInv base cb bv n Wb g' cp' (r.es ++ [x]) w4) := H3.out.push HX.out.2 hO' hgr
      clear hO' hgr c0 c1 c2 c3 c4 c5 hgX hsX HKl
      obtain ⟨rc, rf⟩ := HRs.out w4 H6.out.c
      obtain ⟨W9, hW9⟩ : ∃ W9 : World, W9 = w4.setCell ⟨w.heap.size + 1, 0, none⟩ (.slice (some ⟨g', 0, none⟩) (m + 1) cp') := ⟨_, rfl⟩
      have HE : Hid (∃ r' : Rm, Ending.returned (Value.agg #[.slice (some ⟨g', 0, none⟩) (m + 1) cp']) = .returned (.agg #[.slice (some ⟨r'.b, r'.off, none⟩) r'.es.length r'.cap]) ∧ SpoilOf w r.b r.es r' W9 ∧ Drew base cb bv n w W9) := by rw [hW9]; exact HFn.out _ _ (r.es ++ [x]) _ _ (by simp [HM.out]) H6.out (by omega)
      have p9 : W9.cell? ⟨w.heap.size + 1, 0, none⟩ = some (.slice (some ⟨g', 0, none⟩) (m + 1) cp') := by rw [hW9]; exact World.cell?_setCell_same _ _ _ rc
      clear HFn HRs HV HR HX HZ H3
      go_wp2_with fail
      rw [← hW9]
      exact bodyPost_ret (v := .agg #[.slice (some ⟨g', 0, none⟩) (m + 1) cp']) (by simp [results, Try.results56, go_sem, p9]) rfl HE.out
    · go_wp2_with fail
      refine (below_core base cb bv n 3 w3 H3.out.d (by omega) (by omega)).mono ?_
      rintro e w4 ⟨q, rfl, hq0, hq1, hd4⟩
      have H4 : Hid (LInv base cb bv n Wb g cp r.es w4 ∧ 0 ≤ q ∧ q < 3) := ⟨H3.out.call hd4, hq0, hq1⟩
      clear hd4 hq0 hq1
      have H5 : Hid (LInv base cb bv n Wb g cp (r.es.set i { x with kind := q }) (w4.setCell ⟨g, i * 6 + 4, none⟩ (.int .i64 q))) := H4.out.1.set i 4 x { x with kind := q } (.int .i64 q) HX.out.1 (by omega) rfl ⟨HX.out.2.row, HX.out.2.fam, HX.out.2.qual, HX.out.2.val, HX.out.2.ts, by have := H4.out.2; show 0 ≤ q ∧ q ≤ 3; omega⟩
      have HX2 : Hid ((r.es.set i { x with kind := q })[i]? = some { x with kind := q }) := by show (r.es.set i { x with kind := q })[i]? = some { x with kind := q }; rw [List.getElem?_set_self (by have := HM.out; omega)]
      obtain ⟨⟨c0, c1, c2, c3, c4, c5⟩, f1⟩ := H4.out.1.at6 i x HX.out.1
      have f04 := f1 (i * 6 + 4)
      obtain ⟨W5, hW5⟩ : ∃ W5 : World, W5 = w4.setCell ⟨g, i * 6 + 4, none⟩ (.int .i64 q) := ⟨_, rfl⟩
      rw [← hW5] at H5
      clear f1
      go_upto_region 17 with fail
      rw [← hW5]
      clear hW5 c0 c1 c2 c3 c4 c5 f04
      obtain ⟨⟨c0, c1, c2, c3, c4, c5⟩, f1⟩ := H5.out.at6 i _ HX2.out
      have f05 := f1 (i * 6 + 5)
      obtain ⟨W6, hW6⟩ : ∃ W6 : World, W6 = W5.setCell ⟨g, i * 6 + 5, none⟩ (.string ⟨#[]⟩) := ⟨_, rfl⟩
      have H6 : Hid (LInv base cb bv n Wb g cp ((r.es.set i { x with kind := q }).set i { x with kind := q, val := ⟨#[]⟩ }) W6) := by
        show LInv base cb bv n Wb g cp ((r.es.set i { x with kind := q }).set i { x with kind := q, val := ⟨#[]⟩ }) W6
        rw [hW6]
        exact H5.out.set i 5 _ { x with kind := q, val := ⟨#[]⟩ } (.string ⟨#[]⟩) HX2.out (by omega) rfl ⟨HX.out.2.row, HX.out.2.fam, HX.out.2.qual, by show (0 : Nat) ≤ 1000; omega, HX.out.2.ts, by have := H4.out.2; show 0 ≤ q ∧ q ≤ 3; omega⟩
      clear f1
      go_upto_region 18 with fail
      rw [← hW6]
      clear hW6 c0 c1 c2 c3 c4 c5 f05 H5 HX2 H4
      obtain ⟨rc, rf⟩ := HRs.out W6 H6.out.c
      obtain ⟨W9, hW9⟩ : ∃ W9 : World, W9 = W6.setCell ⟨w.heap.size + 1, 0, none⟩ (.slice (some ⟨g, 0, none⟩) m cp) := ⟨_, rfl⟩
      have HE : Hid (∃ r' : Rm, Ending.returned (Value.agg #[.slice (some ⟨g, 0, none⟩) m cp]) = .returned (.agg #[.slice (some ⟨r'.b, r'.off, none⟩) r'.es.length r'.cap]) ∧ SpoilOf w r.b r.es r' W9 ∧ Drew base cb bv n w W9) := by rw [hW9]; exact HFn.out _ _ ((r.es.set i { x with kind := q }).set i { x with kind := q, val := ⟨#[]⟩ }) _ _ (by rw [List.length_set, List.length_set, HM.out]) H6.out (by omega)
      have p9 : W9.cell? ⟨w.heap.size + 1, 0, none⟩ = some (.slice (some ⟨g, 0, none⟩) m cp) := by rw [hW9]; exact World.cell?_setCell_same _ _ _ rc
      clear HFn HRs HV HR HX HZ H3
      go_wp2_with fail
      rw [← hW9]
      exact bodyPost_ret (v := .agg #[.slice (some ⟨g, 0, none⟩) m cp]) (by simp [results, Try.results56, go_sem, p9]) rfl HE.out
end Go.Proofs.Ytnncedndlhfdkac

/-
  Runs in memory, one behind another.
-/
namespace Go.Proofs.Ytnncedndlhfdkac
open Go.ChangeShapes Go.WideShapes Go.ChangeAt Go.RowKit Go.Deep
set_option linter.unusedVariables false
set_option linter.unusedSimpArgs false

/-- A run: the slice that it holds, and what that reads as. -/
structure Rn where
  u : Value
  es : List Ent
def RunsAt (w : World) (b off : Nat) (rs : List Rn) : Prop := ∀ i r, rs[i]? = some r → w.cell? ⟨b, off + i, none⟩ = some r.u ∧ InEnts w r.u r.es
theorem RunsAt.below {w w' : World} {b off : Nat} {rs : List Rn} (h : RunsAt w b off rs) (hb : Below w.heap.size w w') (hlt : b < w.heap.size) : RunsAt w' b off rs := by
  intro i r hr
  obtain ⟨h1, h2⟩ := h i r hr
  exact ⟨by rw [hb.cell (p := ⟨b, off + i, none⟩) (by exact hlt)]; exact h1, h2.below hb (Nat.le_refl _)⟩
def InRuns (w : World) (v : Value) (rs : List Rn) : Prop :=
  (∃ a cap, v = .slice a 0 cap ∧ rs = []) ∨ ∃ b off cap, v = .slice (some ⟨b, off, none⟩) rs.length cap ∧ RunsAt w b off rs ∧ b < w.heap.size ∧ rs.length ≤ cap ∧ cap ≤ maxLen
theorem InRuns.below {w w' : World} {v : Value} {rs : List Rn} (h : InRuns w v rs) (hb : Below w.heap.size w w') : InRuns w' v rs := by
  rcases h with h | ⟨b, off, cap, hv, hE, hlt, h1, h2⟩
  · exact .inl h
  · exact .inr ⟨b, off, cap, hv, hE.below hb hlt, by have := hb.size; omega, h1, h2⟩
theorem InEnts.ucells {w : World} {v : Value} {es : List Ent} (h : InEnts w v es) : v.cells = #[v] := by
  rcases h with ⟨a, cap, rfl, _⟩ | ⟨b, off, cap, rfl, _⟩ <;> rfl
def okR (rs : List Rn) : Prop := ∀ r ∈ rs, ∀ e ∈ r.es, e.ok
/-- How many entries there are. -/
def tot : List Rn → Nat
  | [] => 0
  | r :: rs => r.es.length + tot rs
theorem tot_append : ∀ (a b : List Rn), tot (a ++ b) = tot a + tot b
  | [], b => by simp [tot]
  | r :: a, b => by simp [tot, tot_append a b]; omega
theorem tot_take {rs : List Rn} {k : Nat} {r : Rn} (h : rs[k]? = some r) : tot (rs.take (k + 1)) = tot (rs.take k) + r.es.length := by
  rw [List.take_add_one, h, tot_append]; simp [tot]
theorem tot_le (rs : List Rn) (k : Nat) : tot (rs.take k) ≤ tot rs := by
  have h := tot_append (rs.take k) (rs.drop k)
  rw [List.take_append_drop] at h
  omega
theorem tot_mem {rs : List Rn} {k : Nat} {r : Rn} (h : rs[k]? = some r) : r.es.length ≤ tot rs := by
  have h1 := tot_take h
  have h2 := tot_le rs (k + 1)
  omega

set_option maxRecDepth 100000 in
theorem runs_of_trod {H : Type} {enc : TypeId × Value → H} {w : World} {base : Nat} {held : Bool} {fuel : Nat} {v : Value} {x : DataW H × List MemPlace}
    (h : DataW.trod enc Try.prog w base (fun _ => true) held fuel 22 [v] = some x) : ∃ rs : List Rn, InRuns w v rs ∧ okR rs := by
  have h1 : Try.prog.cellsOf 59 = 1 := by kernel_rfl
  have h2 : Try.prog.cellsOf 57 = 1 := by kernel_rfl
  rcases open_slice Try.underlying22 h with ⟨hcs, _⟩ | ⟨a, len, cap, m, n, D, Pl, hcs, hba, hl, hm, hmm, _, hel⟩
  · simp only [List.cons.injEq, and_true] at hcs
    exact ⟨[], .inl ⟨none, 0, hcs, rfl⟩, by simp [okR]⟩
  · simp only [List.cons.injEq, and_true] at hcs
    subst hcs
    rw [if_pos rfl] at hmm
    subst hmm
    have hel1 : ∀ i, i < m → ∃ cs', w.cells? base (a.add (i * 1)) 1 = some cs' ∧ DataW.trod enc Try.prog w base (fun _ => true) held n 59 cs' = some (D i, Pl i) := fun i hi => by
      have := hel i hi
      rw [h1] at this
      exact this
    clear hel
    have HM : Hid (m ≤ maxLen) := hm
    clear hm
    by_cases h0 : len = 0
    · subst h0; exact ⟨[], .inl ⟨_, _, rfl, rfl⟩, by simp [okR]⟩
    · obtain ⟨b, off, spot⟩ := a
      have hspot : spot = none := by
        obtain ⟨cs', hc, _⟩ := hel1 0 (by omega)
        obtain ⟨_, hlen, hget⟩ := World.cells?_some hc
        have h1 := hget 0 (by omega)
        have h2 : (w.cell? ((Addr.add ⟨b, off, spot⟩ (0 * 1)).add 0)).isSome = true := by rw [h1]; simp; omega
        obtain ⟨u, hu⟩ := Option.isSome_iff_exists.1 h2
        simpa [Addr.add] using World.cell?_spot hu
      subst hspot
      obtain ⟨rs, hrs, hp⟩ := list_of_forall (P := fun i (r : Rn) => (∀ e ∈ r.es, e.ok) ∧ (w.cell? ⟨b, off + i, none⟩ = some r.u ∧ InEnts w r.u r.es)) len (fun i hi => by
        obtain ⟨cs', hc, ht⟩ := hel1 i (by omega)
        obtain ⟨_, hlen, hget⟩ := World.cells?_some hc
        obtain ⟨y0, n', _, hl', h0'⟩ := trod_struct1 Try.underlying59 ht
        rw [h1] at hl'
        match cs', hl' with
        | [u], _ =>
          simp [h2] at h0'
          obtain ⟨es, he, ok⟩ := ents_of_trod h0'
          refine ⟨⟨u, es⟩, ok, ?_, he⟩
          simpa [Addr.add_mid] using hget 0 (by omega))
      have hlt : b < w.heap.size := by
        obtain ⟨cs', hc, _⟩ := hel1 0 (by omega)
        simpa [Addr.add] using World.cells?_block hc (by omega)
      subst hrs
      refine ⟨rs, .inr ⟨b, off, m, rfl, fun i e he => (hp i e he).2, hlt, hl, HM.out⟩, fun e he => ?_⟩
      obtain ⟨i, hi⟩ := List.getElem?_of_mem he
      exact (hp i e hi).1

set_option maxHeartbeats 1000000 in
theorem szRunS_any (v : Value) (rs : List Rn) (left : Int) (w : World) (h : InRuns w v rs) (hok : okR rs) (h0 : 0 ≤ left) (h1 : left ≤ 2 ^ 40) :
    Calls Try.prog 7 #[v, .int .i64 left] w fun e w' =>
      ∃ x, e = .returned (.int .i64 x) ∧ (x = -1 ∨ (0 ≤ x ∧ x + rs.length + tot rs ≤ left)) ∧ Below w.heap.size w w' := by
  rcases h with ⟨a, cap, rfl, rfl⟩ | ⟨b, off, cap, rfl, hE, hB, hlen, hcap⟩
  · go_enter Try.func7, Try.ntmps7
    go_wp2
    go_loopw [1, 5] (fun l i wr => l = .int .i64 left ∧ i = .int .i64 0 ∧ Below w.heap.size w wr) (fun _ i _ => 0)
    case atStart => exact ⟨rfl, rfl, Below.refl _ _⟩
    case round =>
      obtain ⟨rfl, rfl, hb⟩ := hrel
      go_wp2_with fail
      go_ret
      exact ⟨_, rfl, .inr ⟨h0, by simp [tot]⟩, hb⟩
  · have HE : Hid (RunsAt w b off rs) := hE
    have HO : Hid (okR rs) := hok
    clear hE hok
    unfold maxLen at hcap
    by_cases hle : left < rs.length
    · have hle' : left - rs.length < 0 := by omega
      go_enter Try.func7, Try.ntmps7
      go_wp2
      go_ret
      exact ⟨_, rfl, .inl rfl, Below.refl _ _⟩
    have hle' : 0 ≤ left - rs.length := by omega
    go_enter Try.func7, Try.ntmps7
    go_wp2
    go_loopw [1, 5] (fun l i wr => ∃ (k : Nat) (x : Int), k ≤ rs.length ∧ i = .int .i64 k ∧ l = .int .i64 x ∧ 0 ≤ x ∧ x + rs.length + tot (rs.take k) ≤ left ∧ Below w.heap.size w wr) (fun _ i _ => rs.length - (intOf i).toNat)
    case atStart => exact ⟨0, _, Nat.zero_le _, rfl, rfl, hle', by simp [tot], Below.refl _ _⟩
    case round =>
      obtain ⟨k, x, hk, rfl, rfl, hx0, hx1, hb⟩ := hrel
      have hsz := hb.size
      have HX : Hid (x + rs.length + tot (rs.take k) ≤ left) := hx1
      have hxl : x ≤ left := by omega
      clear hx1
      by_cases hlt : k < rs.length
      · obtain ⟨r, hr⟩ : ∃ r, rs[k]? = some r := ⟨_, List.getElem?_eq_getElem hlt⟩
        obtain ⟨c0, hin⟩ := (HE.out.below hb hB) k r hr
        have HR : Hid (rs[k]? = some r ∧ InEnts wr r.u r.es) := ⟨hr, hin⟩
        clear hr hin
        go_wp2_with fail
        refine (szRun_any r.u r.es _ _ HR.out.2 (HO.out r (List.mem_of_getElem? HR.out.1)) hx0 (by omega)).mono ?_
        rintro e w1 ⟨y, rfl, hy, hb1⟩
        have hb2 := hb.trans (hb1.mono hsz)
        clear c0 hb1
        by_cases hy0 : y < 0
        · clear hy
          go_wp2_with fail
          go_ret
          exact ⟨_, rfl, .inl rfl, hb2⟩
        · have hy1 : 0 ≤ y := by omega
          have HY : Hid (y + rs.length + tot (rs.take (k + 1)) ≤ left) := by
            have h1 := tot_take HR.out.1
            have h2 := HX.out
            show y + rs.length + tot (rs.take (k + 1)) ≤ left
            omega
          clear hy
          go_wp2_with fail
          go_roundw
          case rel => exact ⟨k + 1, y, by omega, by go_num, rfl, hy1, HY.out, hb2⟩
          case measure => simp [intOf]; omega
      · have HY : Hid (x + rs.length + tot rs ≤ left) := by
          have h2 := HX.out
          rw [List.take_of_length_le (by omega)] at h2
          exact h2
        go_wp2
        go_ret
        exact ⟨_, rfl, .inr ⟨hx0, HY.out⟩, hb⟩

/-! ### Runs of the call's own -/

/-- The runs' slices. -/
def usOf (l : List (Nat × List Ent)) : List Value := l.map fun p => .slice (some ⟨p.1, 0, none⟩) p.2.length p.2.length
def rnsOf (l : List (Nat × List Ent)) : List Rn := l.map fun p => ⟨.slice (some ⟨p.1, 0, none⟩) p.2.length p.2.length, p.2⟩
def esOf (rs : List Rn) : List (List Ent) := rs.map Rn.es
/-- Rows of the call's own, in blocks that rise. -/
def OwnRs (w : World) (base : Nat) (l : List (Nat × List Ent)) : Prop := l.Pairwise (fun p q => p.1 < q.1) ∧ ∀ p ∈ l, OwnE w base p.1 p.2.length p.2
/-- The row of the runs itself. -/
def OwnR (w : World) (base g : Nat) (us : List Value) : Prop := w.ownsRow base 40 1 (.slice (some ⟨g, 0, none⟩) us.length us.length) us.length us
theorem OwnR.lt {w : World} {base g : Nat} {us : List Value} (h : OwnR w base g us) : base ≤ g ∧ g < w.heap.size := World.ownsRow.lt h g rfl
theorem OwnR.below {B : Nat} {w w' : World} {base g : Nat} {us : List Value} (h : OwnR w base g us) (hb : Below B w w') (hg : g < B) : OwnR w' base g us := by
  refine ⟨h.1, ?_⟩
  rcases h.2 with hn | ⟨g', cap', cur, hv, h1, h2, rest⟩
  · exact .inl hn
  · simp only [Value.slice.injEq, Option.some.injEq, Addr.mk.injEq, and_true, true_and] at hv
    obtain ⟨rfl, hc⟩ := hv
    exact .inr ⟨g, cap', cur, by rw [hc], h1, by rw [hb.block g hg]; exact h2, rest⟩
theorem OwnR.set {w : World} {base g : Nat} {us : List Value} (h : OwnR w base g us) (k : Nat) (u : Value) : OwnR (w.setCell ⟨g, k, none⟩ u) base g (us.set k u) := by
  have := (World.ownsRow.stored h k u).1
  unfold OwnR
  rw [List.length_set]
  exact this
theorem OwnR.cell {w : World} {base g : Nat} {us : List Value} (h : OwnR w base g us) {k : Nat} {u : Value} (hu : us[k]? = some u) : w.cell? ⟨g, k, none⟩ = some u := by
  have hk : k < us.length := (List.getElem?_eq_some_iff.1 hu).1
  exact (World.ownsRow.cellAt h k (by omega)).trans hu
theorem OwnE.setNe {w : World} {base g cap : Nat} {es : List Ent} (h : OwnE w base g cap es) (g' k : Nat) (u : Value) (hne : g ≠ g') : OwnE (w.setCell ⟨g', k, none⟩ u) base g cap es :=
  World.ownsRow.kept h (grown_set w g' k u) (.inr (fun q => hne (Option.some.inj q)))

theorem Try.infoRun : (Try.prog.info? 40).map (fun i => (i.zero, i.size, i.bytes)) = some (some (.agg #[.slice none 0 0]), 1, 24) := by kernel_rfl
theorem made_runs (n : Nat) : (madeCells #[.slice none 0 0] n).toList = List.replicate n (.slice none 0 0) := by
  apply List.ext_getElem?
  intro j
  by_cases hj : j < n
  · simp [madeCells, hj, Nat.mod_one]
  · simp [madeCells, hj]
theorem usOf_get {l : List (Nat × List Ent)} {i : Nat} {p : Nat × List Ent} (h : l[i]? = some p) : (usOf l)[i]? = some (.slice (some ⟨p.1, 0, none⟩) p.2.length p.2.length) := by
  unfold usOf; rw [List.getElem?_map, h]; rfl
theorem inRuns_own {w : World} {base g : Nat} {l : List (Nat × List Ent)} (h : OwnR w base g (usOf l)) (hr : OwnRs w base l) (hl : l.length ≤ maxLen) (hc : ∀ p ∈ l, p.2.length ≤ maxLen) :
    InRuns w (.slice (some ⟨g, 0, none⟩) l.length l.length) (rnsOf l) := by
  refine .inr ⟨g, 0, l.length, by simp [rnsOf], fun i r hi => ?_, h.lt.2, by simp [rnsOf], hl⟩
  unfold rnsOf at hi
  rw [List.getElem?_map] at hi
  cases hp : l[i]? with
  | none => rw [hp] at hi; cases hi
  | some p =>
    rw [hp] at hi
    simp at hi
    subst hi
    have hm := List.mem_of_getElem? hp
    refine ⟨?_, InEnts.own (hr.2 p hm) (Nat.le_refl _) (hc p hm)⟩
    rw [Nat.zero_add]
    exact h.cell (usOf_get hp)
end Go.Proofs.Ytnncedndlhfdkac

/-
  A run beside what is changed.
-/
namespace Go.Proofs.Ytnncedndlhfdkac
set_option linter.unusedVariables false
theorem Rm.at.chg {S : Nat → Prop} {w w' : World} {r : Rm} (h : r.at w) (hb : Chg S w w') (hn : ¬ S r.b) : r.at w' := ⟨h.ents.chg hb h.lt hn, by have := hb.size; have := h.lt; omega, h.len, h.cap⟩
end Go.Proofs.Ytnncedndlhfdkac

