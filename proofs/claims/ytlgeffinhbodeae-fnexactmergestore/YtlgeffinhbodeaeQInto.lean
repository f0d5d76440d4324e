/-
  spec.l1Into: an entry laid into an ordered list.
-/
import Derived.Test.YtlgeffinhbodeaeQVRun2
import Derived.Test.YtlgeffinhbodeaeQOpenS
namespace Go.Proofs.Ytlgeffinhbodeae
open Go.ChangeShapes Go.WideShapes Go.ChangeAt Go.RowKit Go.Deep
set_option linter.unusedVariables false

/-- One entry appended to a row of the call's own. -/
theorem wpList_append_ent {ops : Array Oper} {rest : List Oper} {o : Oper} {a : Act} {Q : Exit → Act → World → Prop} (w : World) (hgd : o.guard = none) (s x : Operand)
    (ho : o.op = .call { callee := .builtin .append, args := #[s, x], argTypes := #[28, 28] })
    (base g cp n blk : Nat) (fs : List Ent) (e : Ent) (hs : a.eval s = .slice (some ⟨g, 0, none⟩) n cp) (hx : a.eval x = .slice (some ⟨blk, 0, none⟩) 1 1) (hn : n = fs.length) (hO : OwnE w base g cp fs)
    (hc : EntsAt w blk 0 [e]) (hlen : fs.length ≤ 2 ^ 30) (hbase : base ≤ w.heap.size)
    (h : ∀ g' cp' w', OwnE w' base g' cp' (fs ++ [e]) → w.grownBy w' (some g) → wpList Try.prog ops Q rest (a.put o.dst (.slice (some ⟨g', 0, none⟩) (n + 1) cp')) w') : wpList Try.prog ops Q (o :: rest) a w := by
  obtain ⟨i, hi, hz0, hz1, hz2⟩ := info_parts Try.infoEnt
  subst hn
  obtain ⟨c0, c1, c2, c3, c4, c5⟩ := hc 0 e rfl
  refine wpList_append_own w hgd s x 28 ho base 85 i _ 6 80 Try.underlying28 hi hz0 hz1 hz2 rfl (by decide) (.slice (some ⟨g, 0, none⟩) fs.length cp) fs.length (cellsE fs) hs hO ⟨blk, 0, none⟩ 1 1 (cellsE [e]) hx rfl ?_ ?_ ?_ ?_ hbase ?_
  · intro j u hu
    have hj : j < 6 := by
      have := (List.getElem?_eq_some_iff.1 hu).1
      rw [length_cellsE] at this
      simpa using this
    rw [Addr.add_mid, Nat.zero_add]
    simp only [Nat.zero_mul, Nat.zero_add] at c0 c1 c2 c3 c4 c5
    match j, hj, hu with
    | 0, _, hu => simp [cellsE] at hu; rw [← hu]; exact c0
    | 1, _, hu => simp [cellsE] at hu; rw [← hu]; exact c1
    | 2, _, hu => simp [cellsE] at hu; rw [← hu]; exact c2
    | 3, _, hu => simp [cellsE] at hu; rw [← hu]; exact c3
    | 4, _, hu => simp [cellsE] at hu; rw [← hu]; exact c4
    | 5, _, hu => simp [cellsE] at hu; rw [← hu]; exact c5
  · intro u hu
    simp [cellsE] at hu
    rcases hu with rfl | rfl | rfl | rfl | rfl | rfl <;> rfl
  · unfold maxLen; omega
  · omega
  · intro v' w' hown hgr hnil
    rw [← cellsE_append] at hown
    have hlen' : (fs ++ [e]).length = fs.length + 1 := by simp
    rcases hown.2 with ⟨hv, _⟩ | ⟨g', cap', cur, hv, h1, h2, h3⟩
    · have := (hnil.1 hv).1
      simp at this
    · subst hv
      exact h g' cap' w' (by unfold OwnE; rw [hlen']; exact hown) hgr

/-- An entry laid into an ordered list, in the place of one with the same key. -/
def intoG (e : Ent) : List Ent → Bool → List Ent
  | [], done => if done then [] else [e]
  | x :: r, done =>
    if keyCmp x e = -1 then x :: intoG e r done
    else if keyCmp x e = 0 then (if done then intoG e r true else e :: intoG e r true)
    else (if done then x :: intoG e r true else e :: x :: intoG e r true)
def into (L : List Ent) (e : Ent) : List Ent := intoG e L false

theorem length_intoG (e : Ent) : ∀ (L : List Ent) (d : Bool), (intoG e L d).length ≤ L.length + 1
  | [], d => by unfold intoG; split <;> simp
  | x :: r, d => by
    have h1 := length_intoG e r d
    have h2 := length_intoG e r true
    have h3 : ∀ (L : List Ent), (intoG e L true).length ≤ L.length := by
      intro L
      induction L with
      | nil => simp [intoG]
      | cons y s ih =>
        unfold intoG
        split
        · simp; omega
        · split
          · simp; omega
          · simp; omega
    have h4 := h3 r
    unfold intoG
    split
    · simp; omega
    · split
      · split <;> simp <;> omega
      · split <;> simp <;> omega

set_option maxHeartbeats 2000000 in
theorem into_core (b off cap : Nat) (L : List Ent) (e : Ent) (w : World) (hE : EntsAt w b off L) (hB : b < w.heap.size) (hlen : L.length ≤ 1048576) :
    Calls Try.prog 44 #[.slice (some ⟨b, off, none⟩) L.length cap, e.v] w fun r w' =>
      ∃ g cp, r = .returned (.slice (some ⟨g, 0, none⟩) (into L e).length cp) ∧ OwnE w' w.heap.size g cp (into L e) ∧ Below w.heap.size w w' := by
  unfold Ent.v
  obtain ⟨W0, hW0⟩ : ∃ W0 : World, W0 = w.alloc (Obj.cells #[.string e.row, .string e.fam, .string e.qual, .int .u64 e.ts, .int .i64 e.kind, .string e.val] 85) := ⟨_, rfl⟩
  have hb0 : Below w.heap.size w W0 := by rw [hW0]; exact (Below.refl _ _).alloc (Nat.le_refl _) _
  have hz0 : W0.heap.size = w.heap.size + 1 := by rw [hW0]; simp
  have HX : Hid (EntsAt W0 w.heap.size 0 [e]) := by
    show EntsAt W0 w.heap.size 0 [e]
    intro j f hf
    obtain rfl : j = 0 := by
      have := (List.getElem?_eq_some_iff.1 hf).1
      simpa using this
    simp at hf
    subst hf
    rw [hW0]
    simp
  have HE : Hid (EntsAt W0 b off L) := hE.below hb0 hB
  have HS : Hid (OwnE (W0.alloc (Obj.cells #[] 85)) (w.heap.size + 1) (w.heap.size + 1) 0 []) := by
    show OwnE (W0.alloc (Obj.cells #[] 85)) (w.heap.size + 1) (w.heap.size + 1) 0 []
    rw [← hz0]
    exact World.ownsRow_made W0 #[] 0 (Nat.le_refl _) (Nat.zero_le _) (by simp)
  clear hE
  have HZ : Hid (W0.heap.size = w.heap.size + 1) := hz0
  have hz1 : w.heap.size < W0.heap.size := by omega
  have hz2 : W0.heap.size ≤ w.heap.size + 1 := by omega
  clear hz0
  go_enter Try.func44, Try.ntmps44
  go_wp2_with fail
  rw [← hW0]
  clear hW0
  go_loopw [5, 6, 7] (fun o d i wr => ∃ (k g cp : Nat) (fs : List Ent) (dn : Bool), k ≤ L.length ∧ i = .int .i64 k ∧ d = .bool dn ∧ o = .slice (some ⟨g, 0, none⟩) fs.length cp ∧ fs ++ intoG e (L.drop k) dn = into L e ∧ OwnE wr (w.heap.size + 1) g cp fs ∧ Below W0.heap.size W0 wr) (fun _ _ i _ => L.length - (intOf i).toNat)
  case atStart => exact ⟨0, _, 0, [], false, Nat.zero_le _, rfl, rfl, rfl, rfl, HS.out, (Below.refl _ _).alloc (Nat.le_refl _) _⟩
  case round =>
    obtain ⟨k, g, cp, fs, dn, hk, rfl, rfl, rfl, hin, hO, hb⟩ := hrel
    have hfl : fs.length ≤ 1048577 := by
      have h1 := congrArg List.length hin
      have h2 := length_intoG e L false
      rw [List.length_append] at h1
      unfold into at h1
      omega
    have HI : Hid (fs ++ intoG e (L.drop k) dn = into L e) := hin
    have HO : Hid (OwnE wr (w.heap.size + 1) g cp fs) := hO
    have hg := hO.lt
    have hs := hb.size
    clear hin hO
    by_cases hlt : k < L.length
    · obtain ⟨x, hx⟩ : ∃ x, L[k]? = some x := ⟨_, List.getElem?_eq_getElem hlt⟩
      have hdr : L.drop k = x :: L.drop (k + 1) := by
        rw [List.drop_eq_getElem_cons hlt]
        rw [List.getElem?_eq_getElem hlt] at hx
        simp at hx
        rw [hx]
      have HD : Hid (L.drop k = x :: L.drop (k + 1)) := hdr
      clear hdr
      have hec : ∀ wx, Below W0.heap.size W0 wx → EntsAt wx b off L ∧ EntsAt wx w.heap.size 0 [e] := fun wx h => ⟨HE.out.below h (by omega), HX.out.below h (by omega)⟩
      have HEC : Hid (∀ wx, Below W0.heap.size W0 wx → EntsAt wx b off L ∧ EntsAt wx w.heap.size 0 [e]) := hec
      clear hec
      obtain ⟨c0, c1, c2, c3, c4, c5⟩ := (HEC.out wr hb).1 k x hx
      obtain ⟨d0, d1, d2, d3, d4, d5⟩ := (HEC.out wr hb).2 0 e rfl
      simp only [Nat.zero_add, Nat.zero_mul] at d0 d1 d2 d3 d4 d5
      have HXK : Hid (L[k]? = some x) := hx
      clear hx
      have z2 : (k : Int) < (L.length : Int) := by omega
      go_upto_region 6 with fail
      go_cut [8] (fun s wx => s = .int .i64 (keyCmp x e) ∧ Below wr.heap.size wr wx)
      case first =>
        go_region_with (go_at_call 47; refine (specCompareKeys_any x e _).mono ?_; rintro e' w' ⟨rfl, hbb⟩)
        all_goals go_wp2_with fail
        all_goals go_meet
        all_goals exact ⟨rfl, ((Below.refl _ _).drew).trans (hbb.mono (by simp))⟩
      case rest =>
      obtain ⟨rfl, h3⟩ := hcut
      have hb3 := hb.trans (h3.mono hb.size)
      have HO3 : Hid (OwnE wc (w.heap.size + 1) g cp fs) := HO.out.below h3 hg.2
      have hs3 := h3.size
      clear c0 c1 c2 c3 c4 c5 d0 d1 d2 d3 d4 d5
      obtain ⟨c0, c1, c2, c3, c4, c5⟩ := (HEC.out wc hb3).1 k x HXK.out
      obtain ⟨d0, d1, d2, d3, d4, d5⟩ := (HEC.out wc hb3).2 0 e rfl
      simp only [Nat.zero_add, Nat.zero_mul] at d0 d1 d2 d3 d4 d5
      have ent_new : ∀ (wx : World) (f : Ent), EntsAt (wx.alloc (Obj.cells #[.string f.row, .string f.fam, .string f.qual, .int .u64 f.ts, .int .i64 f.kind, .string f.val] 85)) wx.heap.size 0 [f] := by
        intro wx f j y hy
        obtain rfl : j = 0 := by
          have := (List.getElem?_eq_some_iff.1 hy).1
          simpa using this
        simp at hy
        subst hy
        simp
      have HN : Hid (∀ (wx : World) (f : Ent), EntsAt (wx.alloc (Obj.cells #[.string f.row, .string f.fam, .string f.qual, .int .u64 f.ts, .int .i64 f.kind, .string f.val] 85)) wx.heap.size 0 [f]) := ent_new
      clear ent_new
      rcases keyCmp_vals x e with hc | hc | hc
      · have HC : Hid (keyCmp x e = -1) := hc
        go_wp2_with (at_builtin; refine wpList_append_ent _ rfl _ _ rfl (w.heap.size + 1) g cp _ _ fs x rfl rfl rfl ?hO ?hc ?hl ?hb ?_)
        case hO => exact HO3.out.below ((Below.refl _ _).alloc (Nat.le_refl _) _) (by omega)
        case hc => exact HN.out wc x
        case hl => omega
        case hb => simp; omega
        intro g' cp' w' hO' hgr
        have HO' : Hid (OwnE w' (w.heap.size + 1) g' cp' (fs ++ [x])) := hO'
        have hb' : Below W0.heap.size W0 w' := (hb3.alloc hb3.size _).grown hgr (by simp; omega) (fun j hj => by cases hj; omega)
        clear hO' hgr
        go_wp2_with fail
        go_roundw
        case rel =>
          go_light
          refine ⟨k + 1, g', cp', fs ++ [x], dn, by omega, by go_num, rfl, by simp, ?_, HO'.out, hb'⟩
          have h := HI.out
          rw [HD.out] at h
          rw [← h]
          simp [intoG, HC.out]
        case measure => go_light; simp [intOf]; omega
      · have HC : Hid (keyCmp x e = 0) := hc
        cases dn
        · go_wp2_with (at_builtin; refine wpList_append_ent _ rfl _ _ rfl (w.heap.size + 1) g cp _ _ (fs) e rfl rfl rfl ?hO ?hc ?hl ?hb ?_)
          case hO => exact HO3.out.below ((Below.refl _ _).alloc (Nat.le_refl _) _) (by omega)
          case hc => exact HN.out wc e
          case hl => omega
          case hb => simp; omega
          intro g' cp' w' hO' hgr
          have HO' : Hid (OwnE w' (w.heap.size + 1) g' cp' (fs ++ [e])) := hO'
          have hb' : Below W0.heap.size W0 w' := (hb3.alloc hb3.size _).grown hgr (by simp; omega) (fun j hj => by cases hj; omega)
          clear hO' hgr
          go_wp2_with fail
          go_roundw
          case rel =>
            go_light
            refine ⟨k + 1, g', cp', fs ++ [e], true, by omega, by go_num, rfl, by simp, ?_, HO'.out, hb'⟩
            have h := HI.out
            rw [HD.out] at h
            rw [← h]
            simp [intoG, HC.out]
          case measure => go_light; simp [intOf]; omega
        · go_wp2_with fail
          go_roundw
          case rel =>
            go_light
            refine ⟨k + 1, g, cp, fs, true, by omega, by go_num, rfl, by simp, ?_, HO3.out, hb3⟩
            have h := HI.out
            rw [HD.out] at h
            rw [← h]
            simp [intoG, HC.out]
          case measure => go_light; simp [intOf]; omega
      · have HC : Hid (keyCmp x e = 1) := hc
        cases dn
        · go_wp2_with (at_builtin; refine wpList_append_ent _ rfl _ _ rfl (w.heap.size + 1) g cp _ _ (fs) e rfl rfl rfl ?hO ?hc ?hl ?hb ?_)
          case hO => exact HO3.out.below ((Below.refl _ _).alloc (Nat.le_refl _) _) (by omega)
          case hc => exact HN.out wc e
          case hl => omega
          case hb => simp; omega
          intro g1 cp1 w1 hO1 hgr1
          have HO1 : Hid (OwnE w1 (w.heap.size + 1) g1 cp1 (fs ++ [e])) := hO1
          have hb1 : Below W0.heap.size W0 w1 := (hb3.alloc hb3.size _).grown hgr1 (by simp; omega) (fun j hj => by cases hj; omega)
          have hg1 := hO1.lt
          have hs1 := hb1.size
          clear hO1 hgr1 c0 c1 c2 c3 c4 c5
          obtain ⟨c0, c1, c2, c3, c4, c5⟩ := (HEC.out w1 hb1).1 k x HXK.out
          go_wp2_with (at_builtin; refine wpList_append_ent _ rfl _ _ rfl (w.heap.size + 1) g1 cp1 _ _ (fs ++ [e]) x rfl rfl (by simp) ?hO ?hc ?hl ?hb ?_)
          case hO => exact HO1.out.below ((Below.refl _ _).alloc (Nat.le_refl _) _) hg1.2
          case hc => exact HN.out w1 x
          case hl => simp; omega
          case hb => simp; omega
          intro g' cp' w' hO' hgr
          have HO' : Hid (OwnE w' (w.heap.size + 1) g' cp' (fs ++ [e, x])) := hO'
          have hb' : Below W0.heap.size W0 w' := (hb1.alloc hb1.size _).grown hgr (by simp; omega) (fun j hj => by cases hj; omega)
          clear hO' hgr
          go_wp2_with fail
          go_roundw
          case rel =>
            go_light
            refine ⟨k + 1, g', cp', fs ++ [e, x], true, by omega, by go_num, rfl, by simp, ?_, HO'.out, hb'⟩
            have h := HI.out
            rw [HD.out] at h
            rw [← h]
            simp [intoG, HC.out]
          case measure => go_light; simp [intOf]; omega
        · go_wp2_with (at_builtin; refine wpList_append_ent _ rfl _ _ rfl (w.heap.size + 1) g cp _ _ (fs) x rfl rfl rfl ?hO ?hc ?hl ?hb ?_)
          case hO => exact HO3.out.below ((Below.refl _ _).alloc (Nat.le_refl _) _) (by omega)
          case hc => exact HN.out wc x
          case hl => omega
          case hb => simp; omega
          intro g' cp' w' hO' hgr
          have HO' : Hid (OwnE w' (w.heap.size + 1) g' cp' (fs ++ [x])) := hO'
          have hb' : Below W0.heap.size W0 w' := (hb3.alloc hb3.size _).grown hgr (by simp; omega) (fun j hj => by cases hj; omega)
          clear hO' hgr
          go_wp2_with fail
          go_roundw
          case rel =>
            go_light
            refine ⟨k + 1, g', cp', fs ++ [x], true, by omega, by go_num, rfl, by simp, ?_, HO'.out, hb'⟩
            have h := HI.out
            rw [HD.out] at h
            rw [← h]
            simp [intoG, HC.out]
          case measure => go_light; simp [intOf]; omega
    · have hdr : L.drop k = [] := List.drop_eq_nil_of_le (by omega)
      have HD : Hid (L.drop k = []) := hdr
      clear hdr
      have hkk : k = L.length := by omega
      cases dn
      · obtain ⟨d0, d1, d2, d3, d4, d5⟩ := HX.out.below hb (by omega) 0 e rfl
        simp only [Nat.zero_add, Nat.zero_mul] at d0 d1 d2 d3 d4 d5
        have HF : Hid (fs ++ [e] = into L e) := by
          have h := HI.out
          rw [HD.out] at h
          exact h
        go_wp2_with (at_builtin; refine wpList_append_ent _ rfl _ _ rfl (w.heap.size + 1) g cp _ _ fs e rfl rfl rfl ?hO ?hc ?hl ?hb ?_)
        case hO => exact HO.out.below ((Below.refl _ _).alloc (Nat.le_refl _) _) (by omega)
        case hc =>
          intro j y hy
          obtain rfl : j = 0 := by
            have := (List.getElem?_eq_some_iff.1 hy).1
            simpa using this
          simp at hy
          subst hy
          simp
        case hl => omega
        case hb => simp; omega
        intro g' cp' w' hO' hgr
        have HO' : Hid (OwnE w' (w.heap.size + 1) g' cp' (fs ++ [e])) := hO'
        have hb' : Below W0.heap.size W0 w' := (hb.alloc hb.size _).grown hgr (by simp; omega) (fun j hj => by cases hj; omega)
        clear hO' hgr
        go_wp2_with fail
        go_ret
        refine ⟨g', cp', ?_, ?_, hb0.trans (hb'.mono (by omega))⟩
        · rw [← HF.out]; simp
        · rw [← HF.out]; exact HO'.out.mono (by omega)
      · have HF : Hid (fs = into L e) := by
          have h := HI.out
          rw [HD.out] at h
          show fs = into L e
          simpa [intoG] using h
        go_wp2_with fail
        go_ret
        refine ⟨g, cp, ?_, ?_, hb0.trans (hb.mono (by omega))⟩
        · rw [← HF.out]; rfl
        · rw [← HF.out]; exact HO.out.mono (by omega)
end Go.Proofs.Ytlgeffinhbodeae
