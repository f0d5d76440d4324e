import Derived.Deep.DeepCutAuto
import Derived.Deep.RegionWith
import Derived.Test.YtjphalbjimggcaePkAF
import Derived.Test.YtjphalbjimggcaePkAI
import Derived.Test.YtjphalbjimggcaeQCel
import Derived.Test.YtjphalbjimggcaePkAG
import Derived.Test.YtjphalbjimggcaeQVRun2
import Derived.Test.YtjphalbjimggcaePkAA
/-
  spec.Replay.
-/
namespace Go.Proofs.Ytjphalbjimggcae
open Go.ChangeShapes Go.WideShapes Go.ChangeAt Go.RowKit Go.Deep
set_option linter.unusedVariables false
set_option linter.unusedSimpArgs false

theorem ord_len : ∀ (R ws : List Ent), Ord R → (∀ x ∈ R, x ∈ ws) → R.length ≤ ws.length
  | [], _, _, _ => by simp
  | a :: R, ws, h, hs => by
    have h' := List.pairwise_cons.1 h
    obtain ⟨l1, l2, rfl⟩ := List.append_of_mem (hs a (by simp))
    have := ord_len R (l1 ++ l2) h'.2 (fun x hx => by
      have h1 := hs x (List.mem_cons_of_mem _ hx)
      simp only [List.mem_append, List.mem_cons] at h1 ⊢
      rcases h1 with h1 | rfl | h1
      · exact .inl h1
      · have := h'.1 x hx
        rw [keyCmp_self] at this
        omega
      · exact .inr h1)
    simp at this ⊢
    omega
theorem rep_len {ws L : List Ent} {k : Nat} (h : Rep ws k L) : L.length ≤ ws.length :=
  ord_len L ws h.1 (fun x hx => by
    obtain ⟨i, _, a, _⟩ := (h.2 x).1 hx
    exact List.mem_of_getElem? a)
theorem kept_len {ws R : List Ent} {k : Nat} (h : Kept ws k R) : R.length ≤ ws.length :=
  ord_len R ws h.1 (fun x hx => by
    obtain ⟨i, _, a, _⟩ := (h.2 x).1 hx
    exact List.mem_of_getElem? a)

/-- What the replay of 'ws' may be. -/
def RepOf (ws L : List Ent) : Prop := (GoodW ws → Rep ws ws.length L) ∧ (¬ GoodW ws → L = [])
/-- What a delete leaves of the first 'j'. -/
def leftTo (e : Ent) (L : List Ent) (j : Nat) : List Ent := (L.take j).filter fun x => !(hit x e)
theorem leftTo_succ {e : Ent} {L : List Ent} {j : Nat} {x : Ent} (hx : L[j]? = some x) : leftTo e L (j + 1) = leftTo e L j ++ (if hit x e = true then [] else [x]) := by
  unfold leftTo
  rw [List.take_add_one, hx, List.filter_append]
  cases h : hit x e <;> simp [h]
theorem leftTo_all (e : Ent) (L : List Ent) : leftTo e L L.length = L.filter fun x => !(hit x e) := by unfold leftTo; rw [List.take_length]
theorem leftTo_len (e : Ent) (L : List Ent) (j : Nat) : (leftTo e L j).length ≤ L.length := Nat.le_trans (List.length_filter_le _ _) (by rw [List.length_take]; exact Nat.min_le_right _ _)
theorem OwnC.setBelow {w : World} {base g cap : Nat} {es : List Ent} (h : OwnC w base g cap es) (a : Addr) (ha : a.block < base) (u : Value) : OwnC (w.setCell a u) base g cap es := ownsRow_setCell_below h ha u

theorem OwnE.keptG {w w' : World} {base g cp : Nat} {fs : List Ent} {row : Option Nat} (h : OwnE w base g cp fs) (hg : w.grownBy w' row) (hne : some g ≠ row) : OwnE w' base g cp fs :=
  World.ownsRow.kept h hg (.inr hne)
theorem OwnC.ne_ent {w : World} {base g cp base' g' cp' : Nat} {es fs : List Ent} (h : OwnC w base g cp es) (h' : OwnE w base' g' cp' fs) : g ≠ g' := by
  rcases h.2 with ⟨h0, _⟩ | ⟨g1, cap1, cur, hv, _, hc, _⟩
  · cases h0
  · rcases h'.2 with ⟨h0, _⟩ | ⟨g2, cap2, cur2, hv2, _, hc2, _⟩
    · cases h0
    · simp only [Value.slice.injEq, Option.some.injEq, Addr.mk.injEq, and_true, true_and] at hv hv2
      obtain ⟨rfl, rfl⟩ := hv
      obtain ⟨rfl, rfl⟩ := hv2
      intro q
      rw [q, hc2] at hc
      simp at hc
theorem sameColumn_is (a b : Ent) {s : Bool} (hs : sameCol a b = s) (w : World) :
    Calls Try.prog 40 #[a.v, b.v] w fun e w' => e = .returned (.bool s) ∧ Below w.heap.size w w' := hs ▸ sameColumn_any a b w

set_option maxHeartbeats 8000000 in
set_option maxRecDepth 100000 in
theorem specReplay_core (b off cap : Nat) (ws : List Ent) (w : World) (hE : EntsAt w b off ws) (hok : ∀ e ∈ ws, e.ok) (hB : b < w.heap.size) (hlen : ws.length ≤ 1048576) :
    Calls Try.prog 13 #[.slice (some ⟨b, off, none⟩) ws.length cap] w fun r w' =>
      ∃ (g cp : Nat) (L : List Ent), r = .returned (.slice (some ⟨g, 0, none⟩) L.length cp) ∧ OwnC w' w.heap.size g cp L ∧ Below w.heap.size w w' ∧ L.length ≤ ws.length ∧ RepOf ws L := by
  have HE : Hid (EntsAt w b off ws) := hE
  have HO : Hid (∀ e ∈ ws, e.ok) := hok
  clear hE hok
  obtain ⟨W0, hW0⟩ : ∃ W0 : World, W0 = w.alloc (Obj.cells #[] 71) := ⟨_, rfl⟩
  have hb0 : Below w.heap.size w W0 := by rw [hW0]; exact (Below.refl _ _).alloc (Nat.le_refl _) _
  have hz0 : w.heap.size < W0.heap.size := by rw [hW0]; simp
  have HC0 : Hid (OwnC W0 w.heap.size w.heap.size 0 []) := by show OwnC W0 w.heap.size w.heap.size 0 []; rw [hW0]; exact ownC_new w
  have HE0 : Hid (EntsAt W0 b off ws) := HE.out.below hb0 hB
  go_enter Try.func13, Try.ntmps13
  go_wp2_with fail
  rw [← hW0]
  clear hW0
  refine (goodWrites_core b off cap ws _ HE0.out HO.out (by omega) hlen).mono ?_
  rintro e w1 ⟨r, rfl, hr, hb1⟩
  have HR : Hid (r = true ↔ GoodW ws) := hr
  clear hr
  have hs1 := hb1.size
  have k1 : Below w.heap.size w w1 := hb0.trans (hb1.mono (by omega))
  have HC1 : Hid (OwnC w1 w.heap.size w.heap.size 0 []) := HC0.out.below hb1 hz0
  cases r
  · have HN : Hid (¬ GoodW ws) := fun h => Bool.noConfusion (HR.out.2 h)
    go_wp2_with fail
    go_ret
    exact ⟨_, 0, [], rfl, HC1.out, k1, by simp, fun h => absurd h HN.out, fun _ => rfl⟩
  have HG : Hid (GoodW ws) := HR.out.1 rfl
  clear HR
  obtain ⟨W1, hW1⟩ : ∃ W1 : World, W1 = w1.alloc (Obj.cells #[] 73) := ⟨_, rfl⟩
  have hbA : Below w1.heap.size w1 W1 := by rw [hW1]; exact (Below.refl _ _).alloc (Nat.le_refl _) _
  have hzA : w1.heap.size < W1.heap.size := by rw [hW1]; simp
  have HL1 : Hid (OwnE W1 w1.heap.size w1.heap.size 0 []) := by
    show OwnE W1 w1.heap.size w1.heap.size 0 []
    rw [hW1]
    exact World.ownsRow_made w1 #[] 0 (Nat.le_refl _) (Nat.zero_le _) (by simp)
  have HE1 : Hid (EntsAt W1 b off ws) := (HE0.out.below hb1 (by omega)).below hbA (by omega)
  have HCA : Hid (OwnC W1 w.heap.size w.heap.size 0 []) := HC1.out.below hbA (by omega)
  go_wp2_with fail
  rw [← hW1]
  clear hW1
  go_loopw [4, 5] (fun o i wr => ∃ (k g cp : Nat) (L : List Ent), k ≤ ws.length ∧ i = .int .i64 k ∧ o = .slice (some ⟨g, 0, none⟩) L.length cp ∧ OwnE wr w1.heap.size g cp L ∧ Rep ws k L ∧ Below W1.heap.size W1 wr) (fun _ i _ => ws.length - (intOf i).toNat)
  case atStart => exact ⟨0, _, 0, [], Nat.zero_le _, rfl, rfl, HL1.out, rep_zero ws, Below.refl _ _⟩
  case round =>
    obtain ⟨k, g, cp, L, hk, rfl, rfl, hO, hK, hb⟩ := hrel
    obtain ⟨wo, rfl⟩ : ∃ wo : World, wo = wr := ⟨_, rfl⟩
    have HK : Hid (OwnE wo w1.heap.size g cp L ∧ Rep ws k L) := ⟨hO, hK⟩
    have hg := hO.lt
    have hLl := rep_len hK
    have hs := hb.size
    clear hO hK
    by_cases hlt : k < ws.length
    · obtain ⟨e, he⟩ : ∃ e, ws[k]? = some e := ⟨_, List.getElem?_eq_getElem hlt⟩
      have HEo : Hid (EntsAt wo b off ws) := HE1.out.below hb (by omega)
      obtain ⟨c0, c1, c2, c3, c4, c5⟩ := HEo.out k e he
      have HKe : Hid (ws[k]? = some e) := he
      clear he
      obtain ⟨W2, hW2⟩ : ∃ W2 : World, W2 = wo.alloc (Obj.cells #[.string e.row, .string e.fam, .string e.qual, .int .u64 e.ts, .int .i64 e.kind, .string e.val] 73) := ⟨_, rfl⟩
      have hbW : Below wo.heap.size wo W2 := by rw [hW2]; exact (Below.refl _ _).alloc (Nat.le_refl _) _
      have hzW : wo.heap.size < W2.heap.size := by rw [hW2]; simp
      have hzE : W2.heap.size = wo.heap.size + 1 := by rw [hW2]; simp
      have HN1 : Hid (EntsAt W2 wo.heap.size 0 [e]) := by show EntsAt W2 wo.heap.size 0 [e]; rw [hW2]; exact ent_new wo e
      have HL2 : Hid (OwnE W2 w1.heap.size g cp L) := HK.out.1.below hbW hg.2
      have hbX : Below W1.heap.size W1 W2 := hb.trans (hbW.mono hs)
      cases g2 : (e.kind == 0)
      · have HK2 : Hid (¬ e.kind = 0) := by show ¬ e.kind = 0; simpa using g2
        obtain ⟨W3, hW3⟩ : ∃ W3 : World, W3 = W2.alloc (Obj.cells #[] 73) := ⟨_, rfl⟩
        have hb3 : Below W2.heap.size W2 W3 := by rw [hW3]; exact (Below.refl _ _).alloc (Nat.le_refl _) _
        have hz3 : W2.heap.size < W3.heap.size := by rw [hW3]; simp
        have HL3 : Hid (OwnE W3 w1.heap.size g cp L) := HL2.out.below hb3 (by omega)
        have HN3 : Hid (EntsAt W3 wo.heap.size 0 [e]) := HN1.out.below hb3 hzW
        have HF3 : Hid (OwnE W3 W2.heap.size W2.heap.size 0 []) := by
          show OwnE W3 W2.heap.size W2.heap.size 0 []
          rw [hW3]
          exact World.ownsRow_made W2 #[] 0 (Nat.le_refl _) (Nat.zero_le _) (by simp)
        go_wp2_with fail
        rw [← hW2, ← hzE, ← hW3]
        clear hW2 hW3 hzE c0 c1 c2 c3 c4 c5
        go_loopw [7, 8] (fun l i wr => ∃ (j g2 cp2 : Nat), j ≤ L.length ∧ i = .int .i64 j ∧ l = .slice (some ⟨g2, 0, none⟩) (leftTo e L j).length cp2 ∧ OwnE wr W2.heap.size g2 cp2 (leftTo e L j) ∧ Below W2.heap.size W2 wr) (fun _ i _ => L.length - (intOf i).toNat)
        case atStart => exact ⟨0, _, 0, Nat.zero_le _, rfl, rfl, HF3.out, hb3⟩
        case round =>
          obtain ⟨j, g3, cp3, hj, rfl, rfl, hF, hbi⟩ := hrel
          have HF : Hid (OwnE wr W2.heap.size g3 cp3 (leftTo e L j)) := hF
          have hg3 := hF.lt
          have hlf := leftTo_len e L j
          clear hF
          have hsi := hbi.size
          by_cases hjl : j < L.length
          · obtain ⟨x, hx⟩ : ∃ x, L[j]? = some x := ⟨_, List.getElem?_eq_getElem hjl⟩
            have HX : Hid (L[j]? = some x) := hx
            have hec : ∀ wx, Below W2.heap.size W2 wx → EntsAt wx g 0 L ∧ EntsAt wx wo.heap.size 0 [e] := fun wx h => ⟨(HL2.out.below h (by omega)).at, HN1.out.below h hzW⟩
            have HEC : Hid (∀ wx, Below W2.heap.size W2 wx → EntsAt wx g 0 L ∧ EntsAt wx wo.heap.size 0 [e]) := hec
            clear hec hx
            obtain ⟨c0, c1, c2, c3, c4, c5⟩ := (HEC.out wr hbi).1 j x HX.out
            obtain ⟨d0, d1, d2, d3, d4, d5⟩ := (HEC.out wr hbi).2 0 e rfl
            simp only [Nat.zero_add, Nat.zero_mul] at c0 c1 c2 c3 c4 c5 d0 d1 d2 d3 d4 d5
            have z2 : (j : Int) < (L.length : Int) := by omega
            go_upto_region 15 with fail
            go_cut [9] (fun s wx => s = .bool (hit x e) ∧ Below wr.heap.size wr wx)
            case first =>
              obtain ⟨q0, q1, q2, q3, q4, q5⟩ := ents_out (HEC.out wr hbi).1 (by omega) HX.out
              obtain ⟨r0, r1, r2, r3, r4, r5⟩ := ents_out (HEC.out wr hbi).2 (by omega) (rfl : [e][0]? = some e)
              simp only [Nat.zero_add, Nat.zero_mul] at q0 q1 q2 q3 q4 q5 r0 r1 r2 r3 r4 r5
              clear c0 c1 c2 c3 c4 c5 d0 d1 d2 d3 d4 d5
              have inh : Nonempty (Out wr) := ⟨⟨wr, Below.refl _ _⟩⟩
              cases hsc : sameCol x e
              · have hh : hit x e = false := by unfold hit; rw [hsc]; rfl
                refine wp_region_out (by kernel_rfl) (by kernel_rfl) ?_
                repeat (go_big_quiet_step ((go_at_call 40; exact Calls.out_of (sameColumn_is x e hsc _))))
                refine wpQuiet_nil ?_
                rintro wx ⟨⟨wy, hby⟩, rfl⟩
                go_wp2_with fail
                go_meet
                exact ⟨by rw [hh], hby⟩
              · cases hts : (x.ts == e.ts)
                · cases hk2 : (e.kind == 2)
                  · have hh : hit x e = false := by unfold hit; rw [hsc, hts, hk2]; rfl
                    refine wp_region_out (by kernel_rfl) (by kernel_rfl) ?_
                    repeat (go_big_quiet_step ((go_at_call 40; exact Calls.out_of (sameColumn_is x e hsc _))))
                    refine wpQuiet_nil ?_
                    rintro wx ⟨⟨wy, hby⟩, rfl⟩
                    go_wp2_with fail
                    go_meet
                    exact ⟨by rw [hh], hby⟩
                  · have hh : hit x e = decide (x.ts ≤ e.ts) := by unfold hit; rw [hsc, hts, hk2]; rfl
                    refine wp_region_out (by kernel_rfl) (by kernel_rfl) ?_
                    repeat (go_big_quiet_step ((go_at_call 40; exact Calls.out_of (sameColumn_is x e hsc _))))
                    refine wpQuiet_nil ?_
                    rintro wx ⟨⟨wy, hby⟩, rfl⟩
                    go_wp2_with fail
                    go_meet
                    exact ⟨by rw [hh], hby⟩
                · have hh : hit x e = true := by unfold hit; rw [hsc, hts]; rfl
                  refine wp_region_out (by kernel_rfl) (by kernel_rfl) ?_
                  repeat (go_big_quiet_step ((go_at_call 40; exact Calls.out_of (sameColumn_is x e hsc _))))
                  refine wpQuiet_nil ?_
                  rintro wx ⟨⟨wy, hby⟩, rfl⟩
                  go_wp2_with fail
                  go_meet
                  exact ⟨by rw [hh], hby⟩
            case rest =>
            obtain ⟨rfl, h3⟩ := hcut
            have hb4 : Below W2.heap.size W2 wc := hbi.trans (h3.mono hsi)
            have HF4 : Hid (OwnE wc W2.heap.size g3 cp3 (leftTo e L j)) := HF.out.below h3 hg3.2
            have hs4 := h3.size
            clear c0 c1 c2 c3 c4 c5 d0 d1 d2 d3 d4 d5
            obtain ⟨c0, c1, c2, c3, c4, c5⟩ := (HEC.out wc hb4).1 j x HX.out
            simp only [Nat.zero_add, Nat.zero_mul] at c0 c1 c2 c3 c4 c5
            cases hh : hit x e
            · have HH : Hid (leftTo e L (j + 1) = leftTo e L j ++ [x]) := by show leftTo e L (j + 1) = leftTo e L j ++ [x]; rw [leftTo_succ HX.out, hh]; rfl
              go_wp2_with (at_builtin; refine wpList_append_ent _ rfl _ _ rfl W2.heap.size g3 cp3 _ _ (leftTo e L j) x rfl rfl rfl ?hO ?hc ?hl ?hb ?_)
              case hO => exact HF4.out.below ((Below.refl _ _).alloc (Nat.le_refl _) _) (by omega)
              case hc => exact ent_new wc x
              case hl => omega
              case hb => simp; omega
              intro g' cp' w' hO' hgr
              have HO' : Hid (OwnE w' W2.heap.size g' cp' (leftTo e L (j + 1))) := by show OwnE w' W2.heap.size g' cp' (leftTo e L (j + 1)); rw [HH.out]; exact hO'
              have hb' : Below W2.heap.size W2 w' := (hb4.alloc hb4.size _).grown hgr (by simp; omega) (fun j hj => by cases hj; omega)
              have hle : (leftTo e L (j + 1)).length = (leftTo e L j).length + 1 := by rw [HH.out]; simp
              have HLE : Hid ((leftTo e L (j + 1)).length = (leftTo e L j).length + 1) := hle
              clear hO' hgr hle
              go_wp2_with fail
              go_roundw
              case rel => exact ⟨j + 1, g', cp', by omega, by go_num, by rw [HLE.out], HO'.out, hb'⟩
              case measure => go_light; simp [intOf]; omega
            · have HH : Hid (leftTo e L (j + 1) = leftTo e L j) := by show leftTo e L (j + 1) = leftTo e L j; rw [leftTo_succ HX.out, hh]; simp
              go_wp2_with fail
              go_roundw
              case rel => exact ⟨j + 1, g3, cp3, by omega, by go_num, by rw [HH.out], by rw [HH.out]; exact HF4.out, hb4⟩
              case measure => go_light; simp [intOf]; omega
          · have HJ : Hid (j = L.length) := by show j = L.length; omega
            have HS' : Hid (Rep ws (k + 1) (leftTo e L j)) := by
              show Rep ws (k + 1) (leftTo e L j)
              rw [HJ.out, leftTo_all]
              exact rep_del HK.out.2 HKe.out HK2.out
            have hb5 : Below W1.heap.size W1 wr := hbX.trans (hbi.mono (by omega))
            go_wp2_with fail
            go_roundw
            case rel => exact ⟨k + 1, g3, cp3, leftTo e L j, by omega, by go_num, rfl, HF.out.mono (by omega), HS'.out, hb5⟩
            case measure => go_light; simp [intOf]; omega
      · have HK2 : Hid (e.kind = 0) := by show e.kind = 0; simpa using g2
        have HS' : Hid (Rep ws (k + 1) (into L e)) := rep_put HK.out.2 HKe.out HK2.out
        go_wp2_with fail
        rw [← hW2]
        clear hW2 hzE c0 c1 c2 c3 c4 c5
        refine (into_core g 0 cp L e _ HL2.out.at (by omega) (by omega)).mono ?_
        rintro e' w3 ⟨g', cp', rfl, hO', hb4⟩
        have HO' : Hid (OwnE w3 W2.heap.size g' cp' (into L e)) := hO'
        have hb5 := hbX.trans (hb4.mono (by omega))
        clear hO'
        go_wp2_with fail
        go_roundw
        case rel => exact ⟨k + 1, g', cp', into L e, by omega, by go_num, rfl, HO'.out.mono (by omega), HS'.out, hb5⟩
        case measure => go_light; simp [intOf]; omega
    · have hkk : k = ws.length := by omega
      have HKK : Hid (RepOf ws L) := by
        refine ⟨fun _ => ?_, fun h => absurd HG.out h⟩
        rw [← hkk]; exact HK.out.2
      clear hkk
      have hbw : Below w.heap.size w wo := (k1.trans (hbA.mono (by omega))).trans (hb.mono (by omega))
      have HCo : Hid (OwnC wo w.heap.size w.heap.size 0 []) := HCA.out.below hb (by omega)
      go_wp2_with fail
      go_loopw [3, 10] (fun o i wr => ∃ (m g5 cp5 : Nat), m ≤ L.length ∧ i = .int .i64 m ∧ o = .slice (some ⟨g5, 0, none⟩) m cp5 ∧ OwnC wr w.heap.size g5 cp5 (L.take m) ∧ OwnE wr w1.heap.size g cp L ∧ Below w.heap.size w wr) (fun _ i _ => L.length - (intOf i).toNat)
      case atStart => exact ⟨0, _, 0, Nat.zero_le _, rfl, rfl, HCo.out, HK.out.1, hbw⟩
      case round =>
        obtain ⟨m, g5, cp5, hm, rfl, rfl, hC, hL, hbm⟩ := hrel
        have HM : Hid (OwnC wr w.heap.size g5 cp5 (L.take m) ∧ OwnE wr w1.heap.size g cp L) := ⟨hC, hL⟩
        have hg5 := hC.lt
        have hgl := hL.lt
        have hne := hC.ne_ent hL
        have hsm := hbm.size
        have HTM : Hid (m = (L.take m).length) := by show m = (L.take m).length; rw [List.length_take]; omega
        clear hC hL
        by_cases hlt : m < L.length
        · obtain ⟨x, hx⟩ : ∃ x, L[m]? = some x := ⟨_, List.getElem?_eq_getElem hlt⟩
          have HX : Hid (L.take (m + 1) = L.take m ++ [x]) := by show L.take (m + 1) = L.take m ++ [x]; rw [List.take_add_one, hx]; rfl
          obtain ⟨c0, c1, c2, c3, c4, c5⟩ := HM.out.2.at m x hx
          simp only [Nat.zero_add, Nat.zero_mul] at c0 c1 c2 c3 c4 c5
          clear hx
          go_wp2_with fail
          refine (specCell_any x _).mono ?_
          rintro e' w3 ⟨rfl, hb3⟩
          have hs3 := hb3.size
          have HM3 : Hid (OwnC w3 w.heap.size g5 cp5 (L.take m) ∧ OwnE w3 w1.heap.size g cp L) := ⟨HM.out.1.below hb3 hg5.2, HM.out.2.below hb3 hgl.2⟩
          have hbm3 : Below w.heap.size w w3 := hbm.trans (hb3.mono (by omega))
          clear c0 c1 c2 c3 c4 c5 hb3
          go_wp2_with (at_builtin; refine wpList_append_cel _ rfl _ _ rfl w.heap.size g5 cp5 _ _ (L.take m) x rfl rfl HTM.out ?hO ?hc ?hl ?hb ?_)
          case hO => exact HM3.out.1.below ((Below.refl _ _).alloc (Nat.le_refl _) _) (by omega)
          case hc => exact cel_new w3 x
          case hl => rw [← HTM.out]; omega
          case hb => simp; omega
          intro g' cp' w' hO' hgr
          have HO' : Hid (OwnC w' w.heap.size g' cp' (L.take (m + 1))) := by show OwnC w' w.heap.size g' cp' (L.take (m + 1)); rw [HX.out]; exact hO'
          have hb' : Below w.heap.size w w' := (hbm3.alloc hbm3.size _).grown hgr (by simp; omega) (fun j hj => by cases hj; omega)
          have HL' : Hid (OwnE w' w1.heap.size g cp L) := OwnE.keptG (HM3.out.2.below ((Below.refl _ _).alloc (Nat.le_refl _) _) (by omega)) hgr (fun q => hne (Option.some.inj q).symm)
          clear hO' hgr
          go_wp2_with fail
          go_roundw
          case rel => exact ⟨m + 1, g', cp', by omega, by go_num, rfl, HO'.out, HL'.out, hb'⟩
          case measure => go_light; simp [intOf]; omega
        · have HT : Hid (L.take m = L) := List.take_of_length_le (by omega)
          go_wp2_with fail
          go_ret
          refine ⟨g5, cp5, L, ?_, ?_, hbm, hLl, HKK.out⟩
          · have e1 : m = L.length := by omega
            show Ending.returned (Value.slice (some ⟨g5, 0, none⟩) m cp5) = _
            rw [e1]
          · have h := HM.out.1
            rw [HT.out] at h
            exact h
end Go.Proofs.Ytjphalbjimggcae

/-
  What BuildRun may hand back.
-/
namespace Go.Proofs.Ytjphalbjimggcae
set_option linter.unusedVariables false

/-- What a run of 'ws' may be. -/
def RunOf (ws R : List Ent) : Prop := (GoodW ws → Kept ws ws.length R) ∧ (¬ GoodW ws → R = [])
theorem runOf_uniq {ws R S : List Ent} (h : RunOf ws R) (k : RunOf ws S) : R = S := by
  by_cases g : GoodW ws
  · exact kept_uniq (h.1 g) (k.1 g)
  · rw [h.2 g, k.2 g]
end Go.Proofs.Ytjphalbjimggcae

/-
  Replay and the run of the same writes.
-/
namespace Go.Proofs.Ytjphalbjimggcae
open Go.ChangeShapes Go.WideShapes Go.ChangeAt Go.RowKit Go.Deep
set_option linter.unusedVariables false

theorem runOf_len {ws R : List Ent} (h : RunOf ws R) : R.length ≤ ws.length := by
  by_cases g : GoodW ws
  · exact kept_len (h.1 g)
  · rw [h.2 g]; simp
theorem repOf_puts {ws L R : List Ent} (h : RepOf ws L) (k : RunOf ws R) : L = puts R := by
  by_cases g : GoodW ws
  · exact rep_kept (h.1 g) (k.1 g)
  · rw [h.2 g, k.2 g]; rfl
theorem runField (a : Option Addr) (n c : Nat) (w : World) : (Instr.field 30 (.agg #[.slice a n c]) 0).run Try.prog w = .ok (.slice a n c) w := by
  simp [Instr.field, go_sem, part, asAgg]
end Go.Proofs.Ytjphalbjimggcae

/-
  The marks, looked for.
-/
namespace Go.Proofs.Ytjphalbjimggcae
open Go.ChangeShapes Go.WideShapes Go.ChangeAt Go.RowKit Go.Deep
set_option linter.unusedVariables false

end Go.Proofs.Ytjphalbjimggcae

/-
  A run that came back: of the call's own, or nil; its marks.
-/
namespace Go.Proofs.Ytjphalbjimggcae
open Go.ChangeShapes Go.WideShapes Go.ChangeAt Go.RowKit Go.Deep
set_option linter.unusedVariables false
set_option maxRecDepth 100000

/-- A slice of the call's own, or nil. -/
def OwnU (w : World) (base : Nat) (u : Value) (R : List Ent) : Prop := (u = .slice none 0 0 ∧ R = []) ∨ ∃ g cp, u = .slice (some ⟨g, 0, none⟩) R.length cp ∧ OwnE w base g cp R
theorem OwnE.caps {w : World} {base g cp : Nat} {R : List Ent} (h : OwnE w base g cp R) : R.length ≤ cp ∧ cp ≤ maxLen := by
  rcases h.2 with ⟨h0, _⟩ | ⟨g', cap', cur, hv, _, _, hn, hcap, _, _⟩
  · cases h0
  · simp only [Value.slice.injEq, Option.some.injEq, Addr.mk.injEq, and_true, true_and] at hv
    obtain ⟨rfl, rfl⟩ := hv
    exact ⟨hn, hcap⟩
theorem OwnU.ins {w : World} {base : Nat} {u : Value} {R : List Ent} (h : OwnU w base u R) : InEnts w u R := by
  rcases h with ⟨rfl, rfl⟩ | ⟨g, cp, rfl, hO⟩
  · exact .inl ⟨_, _, rfl, rfl⟩
  · exact InEnts.own hO hO.caps.1 hO.caps.2
theorem OwnU.kept {w w' : World} {base : Nat} {u : Value} {R : List Ent} {row : Option Nat} (h : OwnU w base u R) (hg : w.grownBy w' row) (hne : ∀ g, row = some g → g < base) : OwnU w' base u R := by
  rcases h with h | ⟨g, cp, rfl, hO⟩
  · exact .inl h
  · exact .inr ⟨g, cp, rfl, World.ownsRow.kept hO hg (.inr (fun q => by have := hne g q.symm; have := hO.lt.1; omega))⟩
theorem OwnU.row {w : World} {base : Nat} {u : Value} {R : List Ent} (h : OwnU w base u R) : ∀ g, u.ownBlock = some g → base ≤ g ∧ g < w.heap.size := by
  intro g hg
  rcases h with ⟨rfl, _⟩ | ⟨g', cp, rfl, hO⟩
  · cases hg
  · have : g' = g := Option.some.inj hg
    subst this
    exact hO.lt
theorem OwnU.keptNe {w w' : World} {base : Nat} {u : Value} {R : List Ent} {row : Option Nat} (h : OwnU w base u R) (hg : w.grownBy w' row) (hne : ∀ g, u.ownBlock = some g → row ≠ some g) : OwnU w' base u R := by
  rcases h with h | ⟨g, cp, rfl, hO⟩
  · exact .inl h
  · exact .inr ⟨g, cp, rfl, World.ownsRow.kept hO hg (.inr (fun q => hne g rfl q.symm))⟩
theorem OwnU.ownCells {w : World} {base : Nat} {u : Value} {R : List Ent} (h : OwnU w base u R) : u.cells = #[u] := by
  rcases h with ⟨rfl, _⟩ | ⟨g, cp, rfl, _⟩ <;> rfl

end Go.Proofs.Ytjphalbjimggcae

