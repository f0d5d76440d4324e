/-
  impl's replaced.
-/
import Derived.Test.YtlgeffinhbodeaePkB
import Derived.Test.YtlgeffinhbodeaeQCpI
namespace Go.Proofs.Ytlgeffinhbodeae
open Go.ChangeShapes Go.WideShapes Go.ChangeAt Go.RowKit Go.Deep
set_option linter.unusedVariables false
set_option linter.unusedSimpArgs false
set_option maxRecDepth 100000

def Ty.pr (t : Ty) : Pr := (t.lo, t.v)
theorem TysAt.cells {w : World} {b off : Nat} {ts : List Ty} (h : TysAt w b off ts) : ∀ j u, (ts.map Ty.pr)[j]? = some u → w.cell? ⟨b, off + j * 2, none⟩ = some (.string u.1) ∧ w.cell? ⟨b, off + j * 2 + 1, none⟩ = some u.2 := by
  intro j u hu
  rw [List.getElem?_map] at hu
  cases hp : ts[j]? with
  | none => rw [hp] at hu; cases hu
  | some p =>
    rw [hp] at hu
    simp at hu
    subst hu
    obtain ⟨h1, h2, _⟩ := h j p hp
    exact ⟨h1, h2⟩
theorem TysAt.one {w : World} {b off : Nat} {ts : List Ty} (h : TysAt w b off ts) : ∀ u ∈ ts.map Ty.pr, u.2.oneCell' = true := by
  intro u hu
  obtain ⟨t, ht, rfl⟩ := List.mem_map.1 hu
  obtain ⟨j, hj⟩ := List.getElem?_of_mem ht
  exact (h j t hj).2.2.one
theorem TysAt.take {w : World} {b off : Nat} {ts : List Ty} (h : TysAt w b off ts) (n : Nat) : TysAt w b off (ts.take n) := by
  intro i t ht
  rw [List.getElem?_take] at ht
  by_cases hi : i < n
  · rw [if_pos hi] at ht; exact h i t ht
  · rw [if_neg hi] at ht; cases ht
theorem TysAt.drop {w : World} {b off : Nat} {ts : List Ty} (h : TysAt w b off ts) (n : Nat) : TysAt w b (off + n * 2) (ts.drop n) := by
  intro i t ht
  rw [List.getElem?_drop] at ht
  have := h (n + i) t ht
  rw [show off + (n + i) * 2 = off + n * 2 + i * 2 by omega] at this
  exact this
theorem OwnSt.mono {w : World} {base base' : Nat} {v : Value} {ts : List Tx} (h : OwnSt w base v ts) (hb : base' ≤ base) : OwnSt w base' v ts := by
  refine ⟨?_, fun t ht => (h.runs t ht).mono hb, fun t ht r hr => (h.ents t ht r hr).mono hb⟩
  rcases h.row with q | ⟨g, cp, hv, hO⟩
  · exact .inl q
  · exact .inr ⟨g, cp, hv, hO.mono hb⟩
/-- Tablets read again out of a row of the call's own. -/
theorem tys_row {w : World} {base g n cp : Nat} {ts : List Ty} (h : w.ownsRow base 133 2 (.slice (some ⟨g, 0, none⟩) n cp) n (cellsP (ts.map Ty.pr))) (hn : n = ts.length) (hin : ∀ t ∈ ts, InRms w t.v t.l) : TysAt w g 0 ts := by
  subst hn
  have hO : OwnP w base g cp (ts.map Ty.pr) := by
    unfold OwnP
    rw [List.length_map]
    exact h
  intro i t ht
  obtain ⟨c0, c1⟩ := hO.cells (p := t.pr) (i := i) (by rw [List.getElem?_map, ht]; rfl)
  rw [Nat.zero_add]
  exact ⟨c0, c1, hin t (List.mem_of_getElem? ht)⟩

set_option maxHeartbeats 8000000 in
theorem implReplaced_core (b off cap : Nat) (ts os : List Ty) (fr til ob : Nat) (w : World) (h : TysAt w b off ts) (hB : b < w.heap.size) (ho : TysAt w ob 0 os) (hoB : ob < w.heap.size) (hn : ts.length ≤ 1000) (hon : os.length ≤ 1000) (hcap : ts.length ≤ cap) (hcm : cap ≤ maxLen) (h1 : fr ≤ til) (h2 : til ≤ ts.length) (h0 : 0 < os.length)
    (hs : ∀ t ∈ ts ++ os, t.l.length ≤ 1048576 ∧ totM t.l ≤ 1048576) :
    Calls Try.prog 82 #[.agg #[.slice (some ⟨b, off, none⟩) ts.length cap], .int .i64 fr, .int .i64 til, .slice (some ⟨ob, 0, none⟩) os.length os.length] w fun e w' => CpIPost w ((ts.take fr ++ os ++ ts.drop til).map Ty.tb) e w' := by
  obtain ⟨Wa, hWa⟩ : ∃ Wa : World, Wa = (w.alloc (Obj.cells #[.slice (some ⟨b, off, none⟩) ts.length cap] 66)).alloc (Obj.cells #[.slice none 0 0] 66) := ⟨_, rfl⟩
  have hba : Below w.heap.size w Wa := by rw [hWa]; exact ((Below.refl _ _).alloc (Nat.le_refl _) _).alloc (by simp) _
  have hza : Wa.heap.size = w.heap.size + 1 + 1 := by rw [hWa]; simp
  have HWa : Hid (∀ wx, Below Wa.heap.size Wa wx → wx.cell? ⟨w.heap.size, 0, none⟩ = some (.slice (some ⟨b, off, none⟩) ts.length cap) ∧ wx.cell? ⟨w.heap.size + 1, 0, none⟩ = some (.slice none 0 0) ∧ wx.frozen? ⟨w.heap.size + 1, 0, none⟩ = false ∧ TysAt wx b off ts ∧ TysAt wx ob 0 os) := by
    intro wx hx
    have sx := hx.size
    refine ⟨?_, ?_, ?_, (h.below hba hB).below hx (by omega), (ho.below hba hoB).below hx (by omega)⟩
    · rw [hx.cell (p := ⟨w.heap.size, 0, none⟩) (by show w.heap.size < Wa.heap.size; omega), hWa]; simp [go_sem]
    · rw [hx.cell (p := ⟨w.heap.size + 1, 0, none⟩) (by show w.heap.size + 1 < Wa.heap.size; omega), hWa]; simp [go_sem]
    · rw [hx.frozen (p := ⟨w.heap.size + 1, 0, none⟩) (by show w.heap.size + 1 < Wa.heap.size; omega), hWa]; simp [go_sem]
  have HS : Hid (∀ t ∈ ts ++ os, t.l.length ≤ 1048576 ∧ totM t.l ≤ 1048576) := hs
  unfold maxLen at hcm
  clear h ho hs
  obtain ⟨c0, _⟩ := HWa.out Wa (Below.refl _ _)
  have cd : Wa.drew.cell? ⟨w.heap.size, 0, none⟩ = some (.slice (some ⟨b, off, none⟩) ts.length cap) := by simpa using c0
  go_enter Try.func82, Try.ntmps82
  go_upto_region 1 with fail
  rw [← hWa]
  clear hWa
  have hS : (fun w' : World => w'.cell? ⟨w.heap.size, 0, none⟩ = some (.slice (some ⟨b, off, none⟩) ts.length cap)) Wa.drew := cd
  have hf1 : (fr : Int) ≤ (cap : Int) := by omega
  have ht1 : (til : Int) ≤ (ts.length : Int) := by omega
  have ht2 : (til : Int) ≤ (cap : Int) := by omega
  obtain ⟨X, hX⟩ : ∃ X, X = (if cap = til then off else off + til * 2) := ⟨_, rfl⟩
  have HX : Hid (X = (if cap = til then off else off + til * 2)) := hX
  clear hX
  refine wp_region_T 13 (fun w' : World => w'.cell? ⟨w.heap.size, 0, none⟩ = some (.slice (some ⟨b, off, none⟩) ts.length cap)) (by kernel_rfl) ?_
  refine anyT_take (i := 0) (v := ?vq0) rfl (by kernel_rfl) (by kernel_rfl) (by kernel_rfl) (by kernel_rfl) (by decide) (fun _ _ _ h => h) (Or.inl ⟨by rfl, ?yq0⟩) hS ?_
  case yq0 => (intro wz hSw; (try dsimp only at hSw); go_simp; (try with_reducible rfl))
  try simp only [Act.put, List.setIfInBounds_toArray, List.set_cons_zero, List.set_cons_succ]
  refine anyT_take (i := 1) (v := ?vq1) rfl (by kernel_rfl) (by kernel_rfl) (by kernel_rfl) (by kernel_rfl) (by decide) (fun _ _ _ h => h) (Or.inl ⟨by rfl, ?yq1⟩) hS ?_
  case yq1 => (intro wz hSw; (try dsimp only at hSw); go_simp; (try with_reducible rfl))
  try simp only [Act.put, List.setIfInBounds_toArray, List.set_cons_zero, List.set_cons_succ]
  refine anyT_take (i := 2) (v := ?vq2) rfl (by kernel_rfl) (by kernel_rfl) (by kernel_rfl) (by kernel_rfl) (by decide) (fun _ _ _ h => h) (Or.inl ⟨by rfl, ?yq2⟩) hS ?_
  case yq2 => (intro wz hSw; (try dsimp only at hSw); go_simp; (try with_reducible rfl))
  try simp only [Act.put, List.setIfInBounds_toArray, List.set_cons_zero, List.set_cons_succ]
  refine anyT_take (i := 3) (v := ?vq3) rfl (by kernel_rfl) (by kernel_rfl) (by kernel_rfl) (by kernel_rfl) (by decide) (fun _ _ _ h => h) (Or.inl ⟨by rfl, ?yq3⟩) hS ?_
  case yq3 => (intro wz hSw; (try dsimp only at hSw); go_simp; (try with_reducible rfl))
  try simp only [Act.put, List.setIfInBounds_toArray, List.set_cons_zero, List.set_cons_succ]
  refine anyT_take (i := 4) (v := ?vq4) rfl (by kernel_rfl) (by kernel_rfl) (by kernel_rfl) (by kernel_rfl) (by decide) (fun _ _ _ h => h) (Or.inl ⟨by rfl, ?yq4⟩) hS ?_
  case yq4 => (intro wz hSw; (try dsimp only at hSw); go_simp; (try with_reducible rfl))
  try simp only [Act.put, List.setIfInBounds_toArray, List.set_cons_zero, List.set_cons_succ]
  refine anyT_take (i := 5) (v := ?vq5) rfl (by kernel_rfl) (by kernel_rfl) (by kernel_rfl) (by kernel_rfl) (by decide) (fun _ _ _ h => h) (Or.inl ⟨by rfl, ?yq5⟩) hS ?_
  case yq5 => (intro wz hSw; (try dsimp only at hSw); go_simp; (try with_reducible rfl))
  try simp only [Act.put, List.setIfInBounds_toArray, List.set_cons_zero, List.set_cons_succ]
  refine anyT_take (i := 6) (v := ?vq6) rfl (by kernel_rfl) (by kernel_rfl) (by kernel_rfl) (by kernel_rfl) (by decide) (fun _ _ _ h => h) (Or.inl ⟨by rfl, ?yq6⟩) hS ?_
  case yq6 => (intro wz hSw; (try dsimp only at hSw); go_simp; (try with_reducible rfl))
  try simp only [Act.put, List.setIfInBounds_toArray, List.set_cons_zero, List.set_cons_succ]
  refine anyT_take (i := 7) (v := ?vq7) rfl (by kernel_rfl) (by kernel_rfl) (by kernel_rfl) (by kernel_rfl) (by decide) (fun _ _ _ h => h) (Or.inl ⟨by rfl, ?yq7⟩) hS ?_
  case yq7 => (intro wz hSw; (try dsimp only at hSw); go_simp; (try with_reducible rfl))
  try simp only [Act.put, List.setIfInBounds_toArray, List.set_cons_zero, List.set_cons_succ]
  refine anyT_take (i := 8) (v := .slice (some ⟨b, X, none⟩) (ts.length - til) (cap - til)) rfl (by kernel_rfl) (by kernel_rfl) (by kernel_rfl) (by kernel_rfl) (by decide) (fun _ _ _ h => h) (Or.inl ⟨by rfl, ?yq8⟩) hS ?_
  case yq8 =>
    intro wz hSw
    by_cases hct : cap = til
    · have hX2 : X = off := by rw [HX.out, if_pos hct]
      have hz : cap - til = 0 := by omega
      rw [hX2, hz]
      go_simp
      try with_reducible rfl
    · have hX2 : X = off + til * 2 := by rw [HX.out, if_neg hct]
      rw [hX2]
      go_simp
      try with_reducible rfl
  try simp only [Act.put, List.setIfInBounds_toArray, List.set_cons_zero, List.set_cons_succ]
  refine anyT_one (i := 9) (by kernel_rfl) rfl (fun K hK => ?_)
  go_simp
  obtain ⟨W1, hW1⟩ : ∃ W1 : World, W1 = (Wa.alloc (Obj.cells #[.slice (some ⟨b, off, none⟩) fr cap, .slice (some ⟨ob, 0, none⟩) os.length os.length, .slice (some ⟨b, X, none⟩) (ts.length - til) (cap - til)] 64)).drew := ⟨_, rfl⟩
  have hb1 : Below Wa.heap.size Wa W1 := by rw [hW1]; exact ((Below.refl _ _).alloc (Nat.le_refl _) _).drew
  have hz1 : W1.heap.size = w.heap.size + 1 + 1 + 1 := by rw [hW1]; simp [hza]
  obtain ⟨p0, _, _, hT1, hO1⟩ := HWa.out W1 hb1
  have HPs : Hid (PtsAtT W1 (w.heap.size + 1 + 1) [⟨b, off, cap, (ts.take fr).map Ty.pr⟩, ⟨ob, 0, os.length, os.map Ty.pr⟩, ⟨b, X, cap - til, (ts.drop til).map Ty.pr⟩]) := by
    have k0 : W1.cell? ⟨w.heap.size + 1 + 1, 0, none⟩ = some (.slice (some ⟨b, off, none⟩) fr cap) := by rw [hW1, ← hza]; simp
    have k1 : W1.cell? ⟨w.heap.size + 1 + 1, 1, none⟩ = some (.slice (some ⟨ob, 0, none⟩) os.length os.length) := by rw [hW1, ← hza]; simp
    have k2 : W1.cell? ⟨w.heap.size + 1 + 1, 2, none⟩ = some (.slice (some ⟨b, X, none⟩) (ts.length - til) (cap - til)) := by rw [hW1, ← hza]; simp
    have l1 : ((ts.take fr).map Ty.pr).length = fr := by rw [List.length_map, List.length_take]; omega
    have l3 : ((ts.drop til).map Ty.pr).length = ts.length - til := by rw [List.length_map, List.length_drop]
    intro i p hp
    match i, hp with
    | 0, hp =>
      obtain rfl := Option.some.inj hp
      exact ⟨by rw [k0, l1], ⟨(hT1.take fr).cells, (hT1.take fr).one, by show b < _; omega⟩⟩
    | 1, hp =>
      obtain rfl := Option.some.inj hp
      exact ⟨by rw [k1, List.length_map], ⟨hO1.cells, hO1.one, by show ob < _; omega⟩⟩
    | 2, hp =>
      obtain rfl := Option.some.inj hp
      refine ⟨by rw [k2, l3], ?_⟩
      by_cases hct : cap = til
      · have hd : ts.drop til = [] := List.drop_eq_nil_of_le (by omega)
        rw [hd]
        exact ⟨fun j u hu => by simp at hu, fun u hu => by simp at hu, by show b < _; omega⟩
      · have hX2 : X = off + til * 2 := by rw [HX.out, if_neg hct]
        rw [hX2]
        exact ⟨(hT1.drop til).cells, (hT1.drop til).one, by show b < _; omega⟩
    | n + 3, hp => simp at hp
  have HIn : Hid (∀ t ∈ ts.take fr ++ os ++ ts.drop til, InRms W1 t.v t.l ∧ t.l.length ≤ 1048576 ∧ totM t.l ≤ 1048576) := by
    intro t ht
    rcases List.mem_append.1 ht with ht | ht
    · rcases List.mem_append.1 ht with ht | ht
      · have hm := List.mem_of_mem_take ht
        obtain ⟨j, hj⟩ := List.getElem?_of_mem hm
        exact ⟨(hT1 j t hj).2.2, HS.out t (List.mem_append_left _ hm)⟩
      · obtain ⟨j, hj⟩ := List.getElem?_of_mem ht
        exact ⟨(hO1 j t hj).2.2, HS.out t (List.mem_append_right _ ht)⟩
    · have hm := List.mem_of_mem_drop ht
      obtain ⟨j, hj⟩ := List.getElem?_of_mem hm
      exact ⟨(hT1 j t hj).2.2, HS.out t (List.mem_append_left _ hm)⟩
  have hall : allP [⟨b, off, cap, (ts.take fr).map Ty.pr⟩, ⟨ob, 0, os.length, os.map Ty.pr⟩, ⟨b, X, cap - til, (ts.drop til).map Ty.pr⟩] = (ts.take fr ++ os ++ ts.drop til).map Ty.pr := by
    simp [allP]
  obtain ⟨nts, hnts⟩ : ∃ nts, nts = ts.take fr ++ os ++ ts.drop til := ⟨_, rfl⟩
  have hnl : 0 < nts.length ∧ nts.length ≤ 3000 := by
    rw [hnts]
    simp
    omega
  rw [← hnts] at hall HIn
  have HNts : Hid (nts = ts.take fr ++ os ++ ts.drop til) := hnts
  clear hnts
  rw [← hW1]
  refine hK.out _ _ (.inr p0) ?_
  clear hK hW1 hT1 hO1
  try simp only [Act.put, List.setIfInBounds_toArray, List.set_cons_zero, List.set_cons_succ]
  refine anyT_one (i := 10) (by kernel_rfl) rfl (fun K hK => ?_)
  go_simp
  go_at_call 122
  refine (concatT_core (w.heap.size + 1 + 1) _ _ HPs.out (by omega) (by rw [hall, List.length_map]; omega) (by simp)).mono ?_
  rintro r w2 ⟨v, rfl, hO2, hb2⟩
  rw [hall, List.length_map] at hO2
  obtain ⟨g, cp, rfl⟩ : ∃ g cp, v = .slice (some ⟨g, 0, none⟩) nts.length cp := by
    rcases hO2.2 with ⟨_, q⟩ | ⟨g, cp, cur, q, _⟩
    · omega
    · exact ⟨g, cp, q⟩
  have s2 := hb2.size
  have hgl := World.ownsRow.lt hO2 g rfl
  have hb12 : Below Wa.heap.size Wa w2 := hb1.trans (hb2.mono (by omega))
  have HT2 : Hid (TysAt w2 g 0 nts ∧ g < w2.heap.size ∧ ∀ t ∈ nts, t.l.length ≤ 1048576 ∧ totM t.l ≤ 1048576) := ⟨tys_row hO2 rfl (fun t ht => (HIn.out t ht).1.below hb2), hgl.2, fun t ht => (HIn.out t ht).2⟩
  obtain ⟨q0, _, _, _⟩ := HWa.out w2 hb12
  refine hK.out _ _ (.inr q0) ?_
  clear hK hO2
  try simp only [Act.put, List.setIfInBounds_toArray, List.set_cons_zero, List.set_cons_succ]
  refine anyT_take (i := 11) (v := ?vq11) rfl (by kernel_rfl) (by kernel_rfl) (by kernel_rfl) (by kernel_rfl) (by decide) (fun _ _ _ h => h) (Or.inl ⟨by rfl, ?yq11⟩) q0 ?_
  case yq11 => (intro wz hSw; (try dsimp only at hSw); go_simp; (try with_reducible rfl))
  try simp only [Act.put, List.setIfInBounds_toArray, List.set_cons_zero, List.set_cons_succ]
  refine anyT_one (i := 12) (by kernel_rfl) rfl (fun K hK => ?_)
  go_simp
  go_at_call 79
  refine (implCopied_core g 0 cp nts _ HT2.out.1 HT2.out.2.1 (by omega) HT2.out.2.2).mono ?_
  rintro r w3 ⟨g3, cp3, xs, rfl, hS3, hA3, hE3, hb3⟩
  have s3 := hb3.size
  have hb13 : Below Wa.heap.size Wa w3 := hb12.trans (hb3.mono hb12.size)
  have HF : Hid (OwnSt w3 w2.heap.size (.slice (some ⟨g3, 0, none⟩) xs.length cp3) xs ∧ ApartT xs ∧ xs.map Tx.tb = nts.map Ty.tb) := ⟨hS3, hA3, hE3⟩
  clear q0
  obtain ⟨q0, q1, q2, _⟩ := HWa.out w3 hb13
  refine hK.out _ _ (.inr q0) ?_
  clear hK hS3 hA3 hE3
  try simp only [Act.put, List.setIfInBounds_toArray, List.set_cons_zero, List.set_cons_succ]
  refine anyT_one (i := 13) (by kernel_rfl) rfl (fun K hK => ?_)
  go_simp
  refine hK.out _ _ (.inl rfl) ?_
  clear hK
  try simp only [Act.put, List.setIfInBounds_toArray, List.set_cons_zero, List.set_cons_succ]
  refine anyT_done (by kernel_rfl) ?_
  have HG : Hid (OwnSt (w3.setCell ⟨w.heap.size + 1, 0, none⟩ (.slice (some ⟨g3, 0, none⟩) xs.length cp3)) w.heap.size (.slice (some ⟨g3, 0, none⟩) xs.length cp3) xs ∧ Below w.heap.size w (w3.setCell ⟨w.heap.size + 1, 0, none⟩ (.slice (some ⟨g3, 0, none⟩) xs.length cp3))) := by
    refine ⟨?_, (hba.trans (hb13.mono (by omega))).setCell (by show w.heap.size ≤ w.heap.size + 1; omega) _⟩
    have h5 := HF.out.1.chg (Chg.of_set w3 (w.heap.size + 1) 0 (.slice (some ⟨g3, 0, none⟩) xs.length cp3) (S := fun k => k = w.heap.size + 1) rfl) (fun k hk _ q => by omega)
    exact h5.mono (by omega)
  go_wp2_with fail
  refine bodyPost_ret (v := .agg #[.slice (some ⟨g3, 0, none⟩) xs.length cp3]) (by simp [results, Try.results82, go_sem, q1]) rfl ⟨g3, cp3, xs, rfl, HG.out.1, HF.out.2.1, by rw [HF.out.2.2, HNts.out]; simp, HG.out.2⟩
end Go.Proofs.Ytlgeffinhbodeae
