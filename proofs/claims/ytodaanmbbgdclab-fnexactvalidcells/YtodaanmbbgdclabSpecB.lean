/-
  spec.BuildRun.
-/
import Derived.Test.YtodaanmbbgdclabKept
namespace Go.Proofs.Ytodaanmbbgdclab
open Go.ChangeShapes Go.WideShapes Go.ChangeAt Go.RowKit Go.Deep
set_option linter.unusedVariables false

theorem ent_new (wx : World) (f : Ent) : EntsAt (wx.alloc (Obj.cells #[.string f.row, .string f.fam, .string f.qual, .int .u64 f.ts, .int .i64 f.kind, .string f.val] 49)) wx.heap.size 0 [f] := by
  intro j y hy
  obtain rfl : j = 0 := by
    have := (List.getElem?_eq_some_iff.1 hy).1
    simpa using this
  simp at hy
  subst hy
  simp

theorem OwnE.setBelow {w : World} {base g cap : Nat} {es : List Ent} (h : OwnE w base g cap es) (a : Addr) (ha : a.block < base) (u : Value) : OwnE (w.setCell a u) base g cap es := ownsRow_setCell_below h ha u

/-- The deletes of the column among the first 'j'. -/
def LargestTo (ws : List Ent) (e : Ent) (j : Nat) : Prop := ∀ i v, i < j → ws[i]? = some v → v.kind = 2 → sameCol v e = true → v.ts ≤ e.ts
theorem largest_of_to {ws : List Ent} {e : Ent} {j : Nat} (h : LargestTo ws e j) (hj : ws.length ≤ j) : Largest ws e := by
  intro v hv h1 h2
  obtain ⟨i, hi⟩ := List.getElem?_of_mem hv
  exact h i v (by have := (List.getElem?_eq_some_iff.1 hi).1; omega) hi h1 h2
theorem largestTo_succ {ws : List Ent} {e v : Ent} {j : Nat} (h : LargestTo ws e j) (hv : ws[j]? = some v) (hk : v.kind = 2 → sameCol v e = true → v.ts ≤ e.ts) : LargestTo ws e (j + 1) := by
  intro i u hi hu h1 h2
  by_cases e1 : i = j
  · subst e1
    rw [hv] at hu
    simp at hu
    subst hu
    exact hk h1 h2
  · exact h i u (by omega) hu h1 h2
theorem largestTo_bad {ws : List Ent} {e v : Ent} {j k : Nat} (hv : ws[j]? = some v) (h1 : v.kind = 2) (h2 : sameCol v e = true) (h3 : ¬ v.ts ≤ e.ts) (hk : j < k) : ¬ LargestTo ws e k := fun h => h3 (h j v hk hv h1 h2)
theorem largestTo_mono {ws : List Ent} {e : Ent} {j k : Nat} (h : LargestTo ws e k) (hj : j ≤ k) : LargestTo ws e j := fun i v hi => h i v (by omega)

set_option maxHeartbeats 4000000 in
theorem specBuild_core (b off cap : Nat) (ws : List Ent) (w : World) (hE : EntsAt w b off ws) (hok : ∀ e ∈ ws, e.ok) (hB : b < w.heap.size) (hlen : ws.length ≤ 1048576) :
    Calls Try.prog 17 #[.slice (some ⟨b, off, none⟩) ws.length cap] w fun r w' =>
      ∃ (g cp : Nat) (R : List Ent), r = .returned (.agg #[.slice (some ⟨g, 0, none⟩) R.length cp]) ∧ OwnE w' w.heap.size g cp R ∧ Below w.heap.size w w' ∧ R.length ≤ ws.length ∧ (GoodW ws → Kept ws ws.length R) ∧ (¬ GoodW ws → R = []) := by
  have HE : Hid (EntsAt w b off ws) := hE
  have HO : Hid (∀ e ∈ ws, e.ok) := hok
  clear hE hok
  obtain ⟨W0, hW0⟩ : ∃ W0 : World, W0 = (w.alloc (Obj.cells #[.slice none 0 0] 29)).alloc (Obj.cells #[] 49) := ⟨_, rfl⟩
  have hb0 : Below w.heap.size w W0 := by rw [hW0]; exact ((Below.refl _ _).alloc (Nat.le_refl _) _).alloc (by simp) _
  have hz0 : w.heap.size + 1 < W0.heap.size := by rw [hW0]; simp
  have ca : W0.cell? ⟨w.heap.size, 0, none⟩ = some (.slice none 0 0) := by rw [hW0]; simp
  have cf : W0.frozen? ⟨w.heap.size, 0, none⟩ = false := by rw [hW0]; simp
  have HS : Hid (OwnE W0 (w.heap.size + 1) (w.heap.size + 1) 0 []) := by
    show OwnE W0 (w.heap.size + 1) (w.heap.size + 1) 0 []
    have h := World.ownsRow_made (base := w.heap.size + 1) (e := 49) (size := 6) (w.alloc (Obj.cells #[.slice none 0 0] 29)) #[] 0 (by simp) (Nat.zero_le _) (by simp)
    rw [hW0]
    have h3 : ((w.alloc (Obj.cells #[.slice none 0 0] 29)).alloc (Obj.cells #[] 49)).ownsRow (w.heap.size + 1) 49 6 (.slice (some ⟨w.heap.size + 1, 0, none⟩) 0 0) 0 [] := by simpa using h
    exact h3
  have HE0 : Hid (EntsAt W0 b off ws) := HE.out.below hb0 hB
  go_enter Try.func17, Try.ntmps17
  go_wp2_with fail
  rw [← hW0]
  clear hW0
  refine (goodWrites_core b off cap ws _ HE0.out HO.out (by omega) hlen).mono ?_
  rintro e w1 ⟨r, rfl, hr, hb1⟩
  have HR : Hid (r = true ↔ GoodW ws) := hr
  clear hr
  have hs1 := hb1.size
  have ca1 : w1.cell? ⟨w.heap.size, 0, none⟩ = some (.slice none 0 0) := by rw [hb1.cell (p := ⟨w.heap.size, 0, none⟩) (by show w.heap.size < _; omega)]; exact ca
  have cf1 : w1.frozen? ⟨w.heap.size, 0, none⟩ = false := by rw [hb1.frozen (p := ⟨w.heap.size, 0, none⟩) (by show w.heap.size < _; omega)]; exact cf
  have HS1 : Hid (OwnE w1 (w.heap.size + 1) (w.heap.size + 1) 0 []) := HS.out.below hb1 (by omega)
  have HE1 : Hid (EntsAt w1 b off ws) := HE0.out.below hb1 (by omega)
  have k1 : Below w.heap.size w w1 := hb0.trans (hb1.mono (by omega))
  cases r
  · have HN : Hid (¬ GoodW ws) := fun h => Bool.noConfusion (HR.out.2 h)
    go_wp2_with fail
    refine bodyPost_ret (v := .agg #[.slice (some ⟨w.heap.size + 1, 0, none⟩) 0 0]) (by simp [results, Try.results17, go_sem, ca1]) rfl ⟨_, _, [], rfl, ?_, k1.setCell (by show w.heap.size ≤ w.heap.size; omega) _, by simp, fun h => absurd h HN.out, fun _ => rfl⟩
    exact (HS1.out.setBelow ⟨w.heap.size, 0, none⟩ (by show w.heap.size < _; omega) _).mono (by omega)
  have HG : Hid (GoodW ws) := HR.out.1 rfl
  clear HR
  go_wp2_with fail
  go_loopw [3, 4] (fun o i wr => ∃ (k g cp : Nat) (R : List Ent), k ≤ ws.length ∧ i = .int .i64 k ∧ o = .slice (some ⟨g, 0, none⟩) R.length cp ∧ OwnE wr (w.heap.size + 1) g cp R ∧ Kept ws k R ∧ R.length ≤ k ∧ Below w1.heap.size w1 wr) (fun _ i _ => ws.length - (intOf i).toNat)
  case atStart => exact ⟨0, _, 0, [], Nat.zero_le _, rfl, rfl, HS1.out, kept_zero ws, Nat.le_refl _, Below.refl _ _⟩
  case round =>
    obtain ⟨k, g, cp, R, hk, rfl, rfl, hO, hK, hRl, hb⟩ := hrel
    obtain ⟨wo, rfl⟩ : ∃ wo : World, wo = wr := ⟨_, rfl⟩
    have HK : Hid (OwnE wo (w.heap.size + 1) g cp R ∧ Kept ws k R) := ⟨hO, hK⟩
    have hg := hO.lt
    have hs := hb.size
    clear hO hK
    by_cases hlt : k < ws.length
    · obtain ⟨e, he⟩ : ∃ e, ws[k]? = some e := ⟨_, List.getElem?_eq_getElem hlt⟩
      have HEo : Hid (EntsAt wo b off ws) := HE1.out.below hb (by omega)
      obtain ⟨c0, c1, c2, c3, c4, c5⟩ := HEo.out k e he
      have HKe : Hid (ws[k]? = some e) := he
      clear he
      obtain ⟨W1, hW1⟩ : ∃ W1 : World, W1 = wo.alloc (Obj.cells #[.string e.row, .string e.fam, .string e.qual, .int .u64 e.ts, .int .i64 e.kind, .string e.val] 49) := ⟨_, rfl⟩
      have hbW : Below wo.heap.size wo W1 := by rw [hW1]; exact (Below.refl _ _).alloc (Nat.le_refl _) _
      have hzW : wo.heap.size < W1.heap.size := by rw [hW1]; simp
      have HN1 : Hid (EntsAt W1 wo.heap.size 0 [e]) := by show EntsAt W1 wo.heap.size 0 [e]; rw [hW1]; exact ent_new wo e
      have HEW : Hid (EntsAt W1 b off ws) := HEo.out.below hbW (by omega)
      cases g2 : (e.kind != 2)
      · have hk2 : e.kind = 2 := by simpa using g2
        have HK2 : Hid (e.kind = 2) := hk2
        clear hk2
        go_wp2_with fail
        rw [← hW1]
        clear hW1 c0 c1 c2 c3 c4 c5
        go_loopw [6, 7] (fun l i wr => ∃ (j : Nat) (lb : Bool), j ≤ ws.length ∧ i = .int .i64 j ∧ l = .bool lb ∧ (lb = true ↔ LargestTo ws e j) ∧ Below W1.heap.size W1 wr) (fun _ i _ => ws.length - (intOf i).toNat)
        case atStart => exact ⟨0, true, Nat.zero_le _, rfl, rfl, iffT (fun i v hi => by omega), Below.refl _ _⟩
        case round =>
          obtain ⟨j, lb, hj, rfl, rfl, hl, hbi⟩ := hrel
          have HL : Hid (lb = true ↔ LargestTo ws e j) := hl
          clear hl
          have hsi := hbi.size
          have hzw : wo.heap.size < wr.heap.size := by omega
          by_cases hjl : j < ws.length
          · obtain ⟨v, hv⟩ : ∃ v, ws[j]? = some v := ⟨_, List.getElem?_eq_getElem hjl⟩
            obtain ⟨c0, c1, c2, c3, c4, c5⟩ := HEW.out.below hbi (by omega) j v hv
            obtain ⟨d0, d1, d2, d3, d4, d5⟩ := HN1.out.below hbi (by omega) 0 e rfl
            simp only [Nat.zero_add, Nat.zero_mul] at d0 d1 d2 d3 d4 d5
            have HVj : Hid (ws[j]? = some v) := hv
            clear hv
            have hb7 : Below W1.heap.size W1 (wr.alloc (Obj.cells #[.string v.row, .string v.fam, .string v.qual, .int .u64 v.ts, .int .i64 v.kind, .string v.val] 49)) := hbi.alloc hbi.size _
            cases gv : (v.kind == 2)
            · have HL' : Hid (lb = true ↔ LargestTo ws e (j + 1)) := ⟨fun h => largestTo_succ (HL.out.1 h) HVj.out (fun q => by simp at gv; exact absurd q gv), fun h => HL.out.2 (largestTo_mono h (by omega))⟩
              go_wp2_with fail
              go_roundw
              case rel => exact ⟨j + 1, lb, by omega, by go_num, rfl, HL'.out, hb7⟩
              case measure => go_light; simp [intOf]; omega
            · have HV2 : Hid (v.kind = 2) := by show v.kind = 2; simpa using gv
              go_wp2_with fail
              refine (sameColumn_any v e _).mono ?_
              rintro e' w8 ⟨rfl, hb8⟩
              have hb9 := hb7.trans (hb8.mono (by simp; omega))
              obtain ⟨hc8, hf8⟩ := bcell hb8
              have hs8 := hb8.size
              have cw : ∀ o, w8.cell? ⟨wo.heap.size, o, none⟩ = wr.cell? ⟨wo.heap.size, o, none⟩ := fun o => by
                rw [hc8 _ _ (by simp; omega), World.cell?_alloc_past _ _ _ hzw]
              cases hsc : sameCol v e
              · have HL' : Hid (lb = true ↔ LargestTo ws e (j + 1)) := ⟨fun h => largestTo_succ (HL.out.1 h) HVj.out (fun _ q => by rw [hsc] at q; cases q), fun h => HL.out.2 (largestTo_mono h (by omega))⟩
                go_wp2_with fail
                go_roundw
                case rel => exact ⟨j + 1, lb, by omega, by go_num, rfl, HL'.out, hb9⟩
                case measure => go_light; simp [intOf]; omega
              · by_cases ht : e.ts < v.ts
                · have HL' : Hid (false = true ↔ LargestTo ws e (j + 1)) := iffF (largestTo_bad HVj.out HV2.out hsc (by omega) (by omega))
                  go_wp2_with fail
                  go_roundw
                  case rel => exact ⟨j + 1, false, by omega, by go_num, rfl, HL'.out, hb9⟩
                  case measure => go_light; simp [intOf]; omega
                · have HL' : Hid (lb = true ↔ LargestTo ws e (j + 1)) := ⟨fun h => largestTo_succ (HL.out.1 h) HVj.out (fun _ _ => by omega), fun h => HL.out.2 (largestTo_mono h (by omega))⟩
                  go_wp2_with fail
                  go_roundw
                  case rel => exact ⟨j + 1, lb, by omega, by go_num, rfl, HL'.out, hb9⟩
                  case measure => go_light; simp [intOf]; omega
          · have HLL : Hid (lb = true ↔ Largest ws e) := ⟨fun h => largest_of_to (HL.out.1 h) (by omega), fun h => HL.out.2 (fun i v hi hv => h v (List.mem_of_getElem? hv))⟩
            have hb3 : Below w1.heap.size w1 wr := (hb.trans (hbW.mono (by omega))).trans (hbi.mono (by omega))
            have HK3 : Hid (OwnE wr (w.heap.size + 1) g cp R) := (HK.out.1.below hbW hg.2).below hbi (by omega)
            cases lb
            · have HS' : Hid (Kept ws (k + 1) R) := kept_skip HK.out.2 HKe.out (fun h => by
                rcases h with h | h
                · exact h.1 HK2.out
                · exact Bool.noConfusion (HLL.out.2 h.2))
              go_wp2_with fail
              go_roundw
              case rel => exact ⟨k + 1, g, cp, R, by omega, by go_num, rfl, HK3.out, HS'.out, by omega, hb3⟩
              case measure => go_light; simp [intOf]; omega
            · have HS' : Hid (Kept ws (k + 1) (into R e)) := kept_step HG.out.2 HK.out.2 HKe.out (.inr ⟨HK2.out, HLL.out.1 rfl⟩)
              obtain ⟨d0, d1, d2, d3, d4, d5⟩ := HN1.out.below hbi (by omega) 0 e rfl
              simp only [Nat.zero_add, Nat.zero_mul] at d0 d1 d2 d3 d4 d5
              go_wp2_with fail
              refine (into_core g 0 cp R e _ HK3.out.at (by have := HK3.out.lt; omega) (by omega)).mono ?_
              rintro e' w3 ⟨g', cp', rfl, hO', hb4⟩
              have HO' : Hid (OwnE w3 wr.heap.size g' cp' (into R e)) := hO'
              have hlen' := length_into R e
              have hb5 := hb3.trans (hb4.mono (by omega))
              clear hO'
              go_wp2_with fail
              go_roundw
              case rel => exact ⟨k + 1, g', cp', into R e, by omega, by go_num, rfl, HO'.out.mono (by omega), HS'.out, by omega, hb5⟩
              case measure => go_light; simp [intOf]; omega
      · have HK2 : Hid (¬ e.kind = 2) := by show ¬ e.kind = 2; simpa using g2
        go_wp2_with fail
        rw [← hW1]
        clear hW1 c0 c1 c2 c3 c4 c5
        refine (stands_core b off cap ws k e _ HEW.out (by omega) HKe.out hlen).mono ?_
        rintro e' w2 ⟨s, rfl, hst, hb2⟩
        have HST : Hid (s = true ↔ Stands ws k) := hst
        clear hst
        have hs2 := hb2.size
        have hb3 : Below w1.heap.size w1 w2 := (hb.trans (hbW.mono (by omega))).trans (hb2.mono (by omega))
        have HK3 : Hid (OwnE w2 (w.heap.size + 1) g cp R) := (HK.out.1.below hbW hg.2).below hb2 (by omega)
        cases s
        · have HS' : Hid (Kept ws (k + 1) R) := kept_skip HK.out.2 HKe.out (fun h => by
            rcases h with h | h
            · exact Bool.noConfusion (HST.out.2 h.2)
            · exact HK2.out h.1)
          go_wp2_with fail
          go_roundw
          case rel => exact ⟨k + 1, g, cp, R, by omega, by go_num, rfl, HK3.out, HS'.out, by omega, hb3⟩
          case measure => go_light; simp [intOf]; omega
        · have HS' : Hid (Kept ws (k + 1) (into R e)) := kept_step HG.out.2 HK.out.2 HKe.out (.inl ⟨HK2.out, HST.out.1 rfl⟩)
          obtain ⟨d0, d1, d2, d3, d4, d5⟩ := HN1.out.below hb2 (by omega) 0 e rfl
          simp only [Nat.zero_add, Nat.zero_mul] at d0 d1 d2 d3 d4 d5
          go_wp2_with fail
          refine (into_core g 0 cp R e _ HK3.out.at (by have := HK3.out.lt; omega) (by omega)).mono ?_
          rintro e' w3 ⟨g', cp', rfl, hO', hb4⟩
          have HO' : Hid (OwnE w3 w2.heap.size g' cp' (into R e)) := hO'
          have hlen' := length_into R e
          have hb5 := hb3.trans (hb4.mono (by omega))
          clear hO'
          go_wp2_with fail
          go_roundw
          case rel => exact ⟨k + 1, g', cp', into R e, by omega, by go_num, rfl, HO'.out.mono (by omega), HS'.out, by omega, hb5⟩
          case measure => go_light; simp [intOf]; omega
    · have hkk : k = ws.length := by omega
      have ca2 : wo.cell? ⟨w.heap.size, 0, none⟩ = some (.slice none 0 0) := by rw [hb.cell (p := ⟨w.heap.size, 0, none⟩) (by show w.heap.size < _; omega)]; exact ca1
      have cf2 : wo.frozen? ⟨w.heap.size, 0, none⟩ = false := by rw [hb.frozen (p := ⟨w.heap.size, 0, none⟩) (by show w.heap.size < _; omega)]; exact cf1
      have HKK : Hid (Kept ws ws.length R) := by show Kept ws ws.length R; rw [← hkk]; exact HK.out.2
      go_wp2_with fail
      refine bodyPost_ret (v := .agg #[.slice (some ⟨g, 0, none⟩) R.length cp]) (by simp [results, Try.results17, go_sem, ca2]) rfl ⟨_, _, R, rfl, ?_, (k1.trans (hb.mono (by omega))).setCell (by show w.heap.size ≤ w.heap.size; omega) _, by omega, fun _ => HKK.out, fun h => absurd HG.out h⟩
      exact (HK.out.1.setBelow ⟨w.heap.size, 0, none⟩ (by show w.heap.size < _; omega) _).mono (by omega)
end Go.Proofs.Ytodaanmbbgdclab
