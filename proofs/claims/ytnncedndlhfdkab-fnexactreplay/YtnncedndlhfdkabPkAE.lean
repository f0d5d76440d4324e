import Derived.Test.YtnncedndlhfdkabPkAD
/-
  impl.Replay.
-/
namespace Go.Proofs.Ytnncedndlhfdkab
open Go.ChangeShapes Go.WideShapes Go.ChangeAt Go.RowKit Go.Deep
set_option linter.unusedVariables false
set_option linter.unusedSimpArgs false
set_option maxRecDepth 100000

theorem puts_take {R : List Ent} {k : Nat} {x : Ent} (hx : R[k]? = some x) : puts (R.take (k + 1)) = puts (R.take k) ++ (if x.kind = 0 then [x] else []) := by
  unfold puts
  rw [List.take_add_one, hx, List.filter_append]
  by_cases h : x.kind = 0 <;> simp [h]
theorem puts_take_len (R : List Ent) (k : Nat) : (puts (R.take k)).length ≤ R.length :=
  Nat.le_trans (length_puts _) (by rw [List.length_take]; exact Nat.min_le_right _ _)
set_option maxHeartbeats 4000000 in
theorem implReplay_at (b off cap : Nat) (ws : List Ent) (w : World) (hE : EntsAt w b off ws) (hok : ∀ e ∈ ws, e.ok) (hB : b < w.heap.size) (hl : ws.length ≤ cap) (hcap : cap ≤ maxLen) (hlen : ws.length ≤ 1048576) :
    Calls Try.prog 27 #[.slice (some ⟨b, off, none⟩) ws.length cap] w fun r w' =>
      ∃ (g cp : Nat) (R : List Ent), r = .returned (.slice (some ⟨g, 0, none⟩) (puts R).length cp) ∧ OwnC w' w.heap.size g cp (puts R) ∧ RunOf ws R ∧ Below w.heap.size w w' := by
  obtain ⟨W0, hW0⟩ : ∃ W0 : World, W0 = w.alloc (Obj.cells #[] 71) := ⟨_, rfl⟩
  have hb0 : Below w.heap.size w W0 := by rw [hW0]; exact (Below.refl _ _).alloc (Nat.le_refl _) _
  have hz0 : w.heap.size < W0.heap.size := by rw [hW0]; simp
  have HC0 : Hid (OwnC W0 w.heap.size w.heap.size 0 []) := by show OwnC W0 w.heap.size w.heap.size 0 []; rw [hW0]; exact ownC_new w
  have HO0 : Hid (EntsAt W0 b off ws ∧ (∀ e ∈ ws, e.ok) ∧ b < W0.heap.size ∧ ws.length ≤ cap ∧ cap ≤ maxLen) := ⟨hE.below hb0 hB, hok, by omega, hl, hcap⟩
  clear hE hok hB hl hcap
  go_enter Try.func27, Try.ntmps27
  go_wp2_with fail
  rw [← hW0]
  clear hW0
  refine (implBuild_at b off cap ws _ HO0.out.1 HO0.out.2.1 HO0.out.2.2.1 HO0.out.2.2.2.1 HO0.out.2.2.2.2 hlen).mono ?_
  rintro e w1 ⟨a, n, c, R, rfl, hU, hR, hb1⟩
  have hs1 := hb1.size
  have hRl := runOf_len hR
  have HR : Hid (RunOf ws R) := hR
  have HC1 : Hid (OwnC w1 w.heap.size w.heap.size 0 []) := HC0.out.below hb1 hz0
  have k1 : Below w.heap.size w w1 := hb0.trans (hb1.mono (by omega))
  clear hR
  rcases hU with ⟨hu, hRn⟩ | ⟨g, cp, hu, hO⟩
  · obtain ⟨rfl, rfl, rfl⟩ : a = none ∧ n = 0 ∧ c = 0 := by simpa using hu
    have HN : Hid (R = []) := hRn
    clear hRn hu
    have hfl := runField none 0 0 w1
    go_wp2_with fail
    go_loopw [3, 11] (fun o i wr => o = .slice (some ⟨w.heap.size, 0, none⟩) 0 0 ∧ i = .int .i64 0 ∧ wr = w1) (fun _ i _ => 0)
    case atStart => exact ⟨rfl, rfl, rfl⟩
    case round =>
      obtain ⟨rfl, rfl, rfl⟩ := hrel
      go_wp2_with fail
      go_ret
      refine ⟨w.heap.size, 0, R, ?_, ?_, HR.out, k1⟩
      · rw [HN.out]; rfl
      · rw [HN.out]; exact HC1.out
  · obtain ⟨rfl, rfl, rfl⟩ : a = some ⟨g, 0, none⟩ ∧ n = R.length ∧ c = cp := by simpa using hu
    have HL1 : Hid (OwnE w1 W0.heap.size g c R) := hO
    clear hO hu
    have hfl := runField (some ⟨g, 0, none⟩) R.length c w1
    go_wp2_with fail
    clear hfl
    go_loopw [3, 11] (fun o i wr => ∃ (m g5 cp5 : Nat), m ≤ R.length ∧ i = .int .i64 m ∧ o = .slice (some ⟨g5, 0, none⟩) (puts (R.take m)).length cp5 ∧ OwnC wr w.heap.size g5 cp5 (puts (R.take m)) ∧ OwnE wr W0.heap.size g c R ∧ Below w.heap.size w wr) (fun _ i _ => R.length - (intOf i).toNat)
    case atStart => exact ⟨0, _, 0, Nat.zero_le _, rfl, rfl, HC1.out, HL1.out, k1⟩
    case round =>
      obtain ⟨m, g5, cp5, hm, rfl, rfl, hC, hL, hbm⟩ := hrel
      have HM : Hid (OwnC wr w.heap.size g5 cp5 (puts (R.take m)) ∧ OwnE wr W0.heap.size g c R) := ⟨hC, hL⟩
      have hg5 := hC.lt
      have hgl := hL.lt
      have hne := hC.ne_ent hL
      have hsm := hbm.size
      have htl := puts_take_len R m
      obtain ⟨P, hP⟩ : ∃ P, P = puts (R.take m) := ⟨_, rfl⟩
      have HP : Hid (P = puts (R.take m)) := hP
      rw [← hP] at htl hC ⊢
      clear hP hL
      have HC : Hid (OwnC wr w.heap.size g5 cp5 P) := hC
      clear hC
      by_cases hlt : m < R.length
      · obtain ⟨x, hx⟩ : ∃ x, R[m]? = some x := ⟨_, List.getElem?_eq_getElem hlt⟩
        have HX : Hid (puts (R.take (m + 1)) = P ++ (if x.kind = 0 then [x] else [])) := by show puts (R.take (m + 1)) = P ++ _; rw [HP.out]; exact puts_take hx
        obtain ⟨c0, c1, c2, c3, c4, c5⟩ := HM.out.2.at m x hx
        simp only [Nat.zero_add, Nat.zero_mul] at c0 c1 c2 c3 c4 c5
        clear hx
        have hbv : Below w.heap.size w (wr.alloc (Obj.cells #[.string x.row, .string x.fam, .string x.qual, .int .u64 x.ts, .int .i64 x.kind, .string x.val] 62)) := hbm.alloc hbm.size _
        have hba : Below wr.heap.size wr (wr.alloc (Obj.cells #[.string x.row, .string x.fam, .string x.qual, .int .u64 x.ts, .int .i64 x.kind, .string x.val] 62)) := (Below.refl _ _).alloc (Nat.le_refl _) _
        cases hk : (x.kind == 0)
        · have HE : Hid (puts (R.take (m + 1)) = P) := by
            show puts (R.take (m + 1)) = P
            rw [HX.out, if_neg (by simpa using hk)]; simp
          have HM2 : Hid (OwnC (wr.alloc (Obj.cells #[.string x.row, .string x.fam, .string x.qual, .int .u64 x.ts, .int .i64 x.kind, .string x.val] 62)) w.heap.size g5 cp5 P ∧ OwnE (wr.alloc (Obj.cells #[.string x.row, .string x.fam, .string x.qual, .int .u64 x.ts, .int .i64 x.kind, .string x.val] 62)) W0.heap.size g c R) := ⟨HC.out.below hba hg5.2, HM.out.2.below hba hgl.2⟩
          go_wp2_with fail
          go_roundw
          case rel => exact ⟨m + 1, g5, cp5, by omega, by go_num, by rw [HE.out], by rw [HE.out]; exact HM2.out.1, HM2.out.2, hbv⟩
          case measure => go_light; simp [intOf]; omega
        · have HE : Hid (puts (R.take (m + 1)) = P ++ [x]) := by
            show puts (R.take (m + 1)) = P ++ [x]
            rw [HX.out, if_pos (by simpa using hk)]
          go_wp2_with fail
          refine (implCell_any x _).mono ?_
          rintro e' w3 ⟨rfl, hb3⟩
          have hs3 := hb3.size
          have hsa := hba.size
          have HM3 : Hid (OwnC w3 w.heap.size g5 cp5 P ∧ OwnE w3 W0.heap.size g c R) := ⟨(HC.out.below hba hg5.2).below hb3 (by omega), (HM.out.2.below hba hgl.2).below hb3 (by omega)⟩
          have hbm3 : Below w.heap.size w w3 := hbv.trans (hb3.mono (by omega))
          have hs4 : wr.heap.size ≤ w3.heap.size := by omega
          clear c0 c1 c2 c3 c4 c5 hb3 hba hbv hs3 hsa
          go_wp2_with (at_builtin; refine wpList_append_cel _ rfl _ _ rfl w.heap.size g5 cp5 _ _ P x rfl rfl rfl ?hO ?hc ?hl ?hb ?_)
          case hO => exact HM3.out.1.below ((Below.refl _ _).alloc (Nat.le_refl _) _) (by omega)
          case hc => exact cel_new w3 x
          case hl => omega
          case hb => simp; omega
          intro g' cp' w' hO' hgr
          have HO' : Hid (OwnC w' w.heap.size g' cp' (P ++ [x])) := hO'
          have hb' : Below w.heap.size w w' := (hbm3.alloc hbm3.size _).grown hgr (by simp; omega) (fun j hj => by cases hj; omega)
          have HL' : Hid (OwnE w' W0.heap.size g c R) := OwnE.keptG (HM3.out.2.below ((Below.refl _ _).alloc (Nat.le_refl _) _) (by omega)) hgr (fun q => hne (Option.some.inj q).symm)
          clear hO' hgr
          go_wp2_with fail
          go_roundw
          case rel => exact ⟨m + 1, g', cp', by omega, by go_num, by rw [HE.out]; simp, by rw [HE.out]; exact HO'.out, HL'.out, hb'⟩
          case measure => go_light; simp [intOf]; omega
      · have HT : Hid (P = puts R) := by show P = puts R; rw [HP.out, List.take_of_length_le (by omega)]
        go_wp2_with fail
        go_ret
        refine ⟨g5, cp5, R, ?_, ?_, HR.out, hbm⟩
        · rw [← HT.out]; rfl
        · rw [← HT.out]; exact HC.out
theorem implReplay_any (gx : Nat) (ws : List Ent) (base : Nat) (w : World) (hO : OwnE w base gx ws.length ws) (hok : ∀ e ∈ ws, e.ok) (hlen : ws.length ≤ 1048576) :
    Calls Try.prog 27 #[.slice (some ⟨gx, 0, none⟩) ws.length ws.length] w fun r w' =>
      ∃ (g cp : Nat) (R : List Ent), r = .returned (.slice (some ⟨g, 0, none⟩) (puts R).length cp) ∧ OwnC w' w.heap.size g cp (puts R) ∧ RunOf ws R ∧ Below w.heap.size w w' :=
  implReplay_at gx 0 ws.length ws w hO.at hok hO.lt.2 hO.caps.1 hO.caps.2 hlen
end Go.Proofs.Ytnncedndlhfdkab

/-
  The law FnExactReplay.
-/
namespace Go.Proofs.Ytnncedndlhfdkab.exReplay
open Go.ChangeShapes Go.WideShapes Go.ChangeAt Go.RowKit Go.Deep
set_option linter.unusedVariables false
set_option linter.unusedSimpArgs false

theorem own : ownKnob Try.prog.godebug = none := by kernel_rfl
theorem laidOut : laidOutB Try.prog = true := by kernel_rfl

theorem InEnts.cells {w : World} {v : Value} {es : List Ent} (h : InEnts w v es) : v.cells = #[v] := by
  rcases h with ⟨a, cap, rfl, _⟩ | ⟨b, off, cap, rfl, _⟩ <;> rfl

set_option maxHeartbeats 4000000 in
theorem walk (v : Value) (es : List Ent) (w : World) (h : InEnts w v es) (hok : ∀ e ∈ es, e.ok) :
    Calls Try.prog 6 #[v] w fun e w' => e = .returned (.bool true) ∧ Below w.heap.size w w' := by
  have HE : Hid (InEnts w v es ∧ ∀ e ∈ es, e.ok) := ⟨h, hok⟩
  clear h hok
  go_enter Try.func6, Try.ntmps6
  go_wp2_with fail
  refine (szEntryS_any v es _ _ HE.out.1 HE.out.2 (by omega) (by omega)).mono ?_
  rintro e w1 ⟨x, rfl, hx, hb1⟩
  have hs1 := hb1.size
  by_cases hx0 : x < 0
  · clear hx
    go_wp2_with fail
    go_ret
    exact ⟨rfl, hb1⟩
  have hn : es.length ≤ 1048576 := by omega
  clear hx
  have HE1 : Hid (InEnts w1 v es) := HE.out.1.below hb1 (Nat.le_refl _)
  go_wp2_with fail
  refine (toEntryS_any v es _ HE1.out hn).mono ?_
  rintro e w2 ⟨ga, rfl, hO2, hb2⟩
  have hs2 := hb2.size
  have HO2 : Hid (OwnE w2 w1.heap.size ga es.length es) := hO2
  have HE2 : Hid (InEnts w2 v es) := HE1.out.below hb2 (Nat.le_refl _)
  clear hO2
  go_wp2_with fail
  refine (specReplay_core ga 0 es.length es _ HO2.out.at HE.out.2 HO2.out.lt.2 hn).mono ?_
  rintro e w3 ⟨gs, cs, L, rfl, hS, hb3, hLl, hRs⟩
  have hs3 := hb3.size
  have hgs := hS.lt
  have HS3 : Hid (OwnC w3 w2.heap.size gs cs L ∧ RepOf es L) := ⟨hS, hRs⟩
  have HE3 : Hid (InEnts w3 v es) := HE2.out.below hb3 (Nat.le_refl _)
  clear hS hRs
  go_wp2_with fail
  refine (toEntryS_any v es _ HE3.out hn).mono ?_
  rintro e w4 ⟨gx, rfl, hO4, hb4⟩
  have hs4 := hb4.size
  have HO4 : Hid (OwnE w4 w3.heap.size gx es.length es) := hO4
  have hgx := hO4.lt
  clear hO4
  go_wp2_with fail
  refine (implReplay_any gx es _ _ HO4.out HE.out.2 hn).mono ?_
  rintro e w5 ⟨gi, ci, R, rfl, hI, hRi, hb5⟩
  have hs5 := hb5.size
  have hgi := hI.lt
  have hLR : L = puts R := repOf_puts HS3.out.2 hRi
  rw [← hLR] at hI ⊢
  have HI5 : Hid (OwnC w5 w4.heap.size gi ci L) := hI
  have k35 : Below w3.heap.size w3 w5 := hb4.trans (hb5.mono (by omega))
  have HS5 : Hid (OwnC w5 w2.heap.size gs cs L) := HS3.out.1.below k35 hgs.2
  have HX5 : Hid (OwnE w5 w3.heap.size gx es.length es) := HO4.out.below hb5 hgx.2
  have HE5 : Hid (InEnts w5 v es) := HE3.out.below k35 (Nat.le_refl _)
  have HR : Hid (RepOf es L) := HS3.out.2
  clear hI hRi hLR
  go_wp2_with fail
  refine (eqCellS_own HI5.out HS5.out).mono ?_
  rintro e w6 ⟨rfl, hb6⟩
  have hs6 := hb6.size
  have HE6 : Hid (InEnts w6 v es) := HE5.out.below hb6 (Nat.le_refl _)
  go_wp2_with fail
  refine (toEntryS_any v es _ HE6.out hn).mono ?_
  rintro e w7 ⟨gy, rfl, hO7, hb7⟩
  have hs7 := hb7.size
  have hgy := hO7.lt
  have HO7 : Hid (OwnE w7 w6.heap.size gy es.length es) := hO7
  clear hO7
  have HM : Hid (es.length ≤ maxLen) := Nat.le_trans hn (by decide)
  have k57 : Below w5.heap.size w5 w7 := hb6.trans (hb7.mono (by omega))
  have HX7 : Hid (OwnE w7 w3.heap.size gx es.length es) := HX5.out.below k57 (by omega)
  go_wp2_with fail
  refine (eqEntryS_any (.slice (some ⟨gx, 0, none⟩) es.length es.length) (.slice (some ⟨gy, 0, none⟩) es.length es.length) es _ (InEnts.own HX7.out (Nat.le_refl _) HM.out) (InEnts.own HO7.out (Nat.le_refl _) HM.out)).mono ?_
  rintro e w8 ⟨rfl, hb8⟩
  have hs8 := hb8.size
  have k58 : Below w5.heap.size w5 w8 := k57.trans (hb8.mono (by omega))
  have HX8 : Hid (OwnE w8 w3.heap.size gx es.length es) := HX5.out.below k58 (by omega)
  have HS8 : Hid (OwnC w8 w2.heap.size gs cs L) := HS5.out.below k58 (by omega)
  have HI8 : Hid (OwnC w8 w4.heap.size gi ci L) := HI5.out.below k58 (by omega)
  have k8 : Below w.heap.size w w8 := ((((hb1.trans (hb2.mono (by omega))).trans (hb3.mono (by omega))).trans (k35.mono (by omega))).trans (k58.mono (by omega)))
  have hRn : L.length ≤ 1048576 := by omega
  go_wp2_with fail
  refine (markEntryS_core w3.heap.size gx es.length es 1 _ HX8.out (by omega) (by omega) hn).mono ?_
  rintro e w9 ⟨fx, rfl, _, _, _, hg9⟩
  have hs9 := hg9.size
  have HS9 : Hid (OwnC w9 w2.heap.size gs cs L) := HS8.out.kept hg9 (fun q => by have := Option.some.inj q; omega)
  have HI9 : Hid (OwnC w9 w4.heap.size gi ci L) := HI8.out.kept hg9 (fun q => by have := Option.some.inj q; omega)
  have k9 : Below w.heap.size w w9 := k8.grown hg9 (by omega) (fun j hj => by cases hj; omega)
  have hk1 : (0 : Int) ≤ 1 + (es.length : Int) * 6 := by omega
  go_wp2_with fail
  refine (eqCellS_own HI9.out HS9.out).mono ?_
  rintro e w10 ⟨rfl, hb10⟩
  have hs10 := hb10.size
  have HI10 : Hid (OwnC w10 w4.heap.size gi ci L) := HI9.out.below hb10 (by omega)
  have HS10 : Hid (OwnC w10 w2.heap.size gs cs L) := HS9.out.below hb10 (by omega)
  go_wp2_with fail
  refine (markCellS_core w4.heap.size gi ci L 1 _ HI10.out (by omega) (by omega) hRn).mono ?_
  rintro e w11 ⟨fs, rfl, hU11, hl11, hm11, hg11⟩
  have hs11 := hg11.size
  have HF11 : Hid (OwnC w11 w4.heap.size gi ci fs ∧ fs.length = L.length ∧ markedC 1 fs fs.length) := ⟨hU11, hl11, by rw [hl11]; exact hm11⟩
  have HS11 : Hid (OwnC w11 w2.heap.size gs cs L) := HS10.out.kept hg11 (fun q => by have := Option.some.inj q; omega)
  have k11 : Below w.heap.size w w11 := (k9.trans (hb10.mono (by omega))).grown hg11 (by omega) (fun j hj => by cases hj; omega)
  have HRl : Hid (fs.length = L.length) := hl11
  clear hU11 hm11 hg11 hl11
  go_wp2_with fail
  rw [← HRl.out]
  refine (heldCellS_core gi 0 ci fs 1 _ HF11.out.1.at HF11.out.2.2 HF11.out.1.lt.2 (by omega) (by omega) (by rw [HRl.out]; exact hRn)).mono ?_
  rintro e w12 ⟨rfl, hb12⟩
  rw [HRl.out]
  have hs12 := hb12.size
  have HS12 : Hid (OwnC w12 w2.heap.size gs cs L) := HS11.out.below hb12 (by omega)
  have k12 : Below w.heap.size w w12 := k11.trans (hb12.mono (by omega))
  have HE12 : Hid (InEnts w12 v es) := HE.out.1.below k12 (Nat.le_refl _)
  have hk2 : (0 : Int) ≤ 1 + (L.length : Int) * 5 := by omega
  go_wp2_with fail
  refine (toEntryS_any v es _ HE12.out hn).mono ?_
  rintro e w13 ⟨gz, rfl, hO13, hb13⟩
  have hs13 := hb13.size
  have HO13 : Hid (OwnE w13 w12.heap.size gz es.length es) := hO13
  clear hO13
  go_wp2_with fail
  refine (implReplay_any gz es _ _ HO13.out HE.out.2 hn).mono ?_
  rintro e w14 ⟨gj, cj, R2, rfl, hJ, hRj, hb14⟩
  have hs14 := hb14.size
  have hLR : L = puts R2 := repOf_puts HR.out hRj
  rw [← hLR] at hJ ⊢
  have k14 : Below w12.heap.size w12 w14 := hb13.trans (hb14.mono (by omega))
  have HJ : Hid (OwnC w14 w13.heap.size gj cj L) := hJ
  have HS14 : Hid (OwnC w14 w2.heap.size gs cs L) := HS12.out.below k14 (by omega)
  clear hJ hRj hLR
  go_wp2_with fail
  refine (eqCellS_own HJ.out HS14.out).mono ?_
  rintro e w16 ⟨rfl, hb16⟩
  go_wp2_with fail
  go_ret
  exact ⟨rfl, (k12.trans (k14.mono (by omega))).trans (hb16.mono (by omega))⟩

set_option maxRecDepth 100000 in
theorem lifted (os : Os) (started : os.Started) (H : Type) (enc : TypeId × Value → H) :
    ReturnsInHanded {} Try.checked os 6 .any (Rows.fnExactReplaySpec.pre6 enc Try.prog Try.f6 Rows.fnExactReplayRow.domain false) (Rows.fnExactReplaySpec.post enc Try.prog Try.f6 false true false false) := by
  refine returnsInHanded_of_change (C := Try.checked) own started (by kernel_rfl) Try.func6
    (ChangeSpec.witness6 (enc := enc) (C := Try.checked) false ⟨#[], #[.slice none 0 0], []⟩ 8 (by kernel_rfl) (by kernel_rfl) (by kernel_rfl) (by kernel_rfl)) ?_
  intro W base args ds gs before hval0 hW hcnd _
  have hval : ∀ (j : Nat) t v, Try.f6.params[j]? = some t → args[j]? = some v → Value.okWide Try.prog W .any base t v := hval0
  have hW' := hW
  obtain ⟨p, q, hA0, hV, rfl, hfz, hnd⟩ := hW
  have hA : DataW.TrodAll enc Try.prog W 0 (fun _ => true) true Try.f6.params.toList args.toList ds p := hA0
  rw [Try.params6] at hA hval
  obtain ⟨v0, vs0, d0, ds0, p0, q0, hargs, rfl, rfl, h0, r0⟩ := trodAll_cons hA
  obtain ⟨rfl, rfl, rfl⟩ := trodAll_nil r0
  obtain rfl : args = #[v0] := by cases args; simp_all
  obtain ⟨rfl, rfl⟩ := trodVars_none hV
  have k0 := h0
  have lt0 : ∀ x ∈ p0, x.block < W.heap.size := by obtain ⟨m, hm⟩ := k0; exact DataW.trod_lt m _ _ _ hm
  obtain ⟨es, hin, ok0⟩ : ∃ es : List Ent, InEnts W v0 es ∧ ∀ e ∈ es, e.ok := by
    obtain ⟨a0, len0, cap0, rfl⟩ := okWide_slice Try.underlying22 (hval 0 22 v0 rfl rfl)
    obtain ⟨fuel, hf⟩ := h0
    exact ents_of_trod (by simpa [Value.cells] using hf)
  clear hA0 hval0
  refine (walk v0 es W hin ok0).mono fun e W' ⟨he, bel⟩ => ?_
  subst he
  exact ⟨_, rfl, _, _, _, [], _, [], hW', trodAll_mk1 (shut_bool Try.underlying4 _), (trodAll_cons_mk (Below.trod laidOut (by kernel_rfl) (of_decide_eq_true (by kernel_rfl)) k0 bel lt0) trodAll_mk0), rfl, bel.frame _, fun h => by cases h⟩

theorem over : Rows.fnExactReplayRow.holds Try.pinned (OpenSpec.ofChange Rows.fnExactReplaySpec) :=
  OpenClaim.holds_of_wide 6 Try.f6 rfl rfl rfl rfl rfl rfl rfl ⟨rfl, rfl, rfl, rfl, rfl⟩ rfl rfl rfl rfl rfl (by kernel_rfl) Try.func6 (by kernel_rfl)
    (of_decide_eq_true (by kernel_rfl)) (by unfold Func.isWrapper; first | (rw [if_pos (by decide +kernel)]; kernel_rfl) | (rw [if_neg (by decide +kernel)]; exact ⟨rfl, rfl⟩))
    (fun os started H enc _ => lifted os started H enc)

end Go.Proofs.Ytnncedndlhfdkab.exReplay
namespace Go.Proofs.Ytnncedndlhfdkab
theorem exactReplay_holds : Rows.FnExactReplaySaid := exReplay.over
#print axioms exactReplay_holds
end Go.Proofs.Ytnncedndlhfdkab

