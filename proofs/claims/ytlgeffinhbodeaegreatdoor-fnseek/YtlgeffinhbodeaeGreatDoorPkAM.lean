import Derived.Maps.OwnIn
import Derived.Lib.SmallJoins
import Derived.Deep.RegionHeld3
import Derived.Deep.DeepCutAuto
import Derived.Deep.RegionWith
import Derived.Deep.CutRange
import Derived.Test.YtlgeffinhbodeaeGreatDoorPkAK
import Derived.Test.YtlgeffinhbodeaeGreatDoorPkAL
import Derived.Test.YtlgeffinhbodeaeGreatDoorPkAA
import Derived.Test.YtlgeffinhbodeaeGreatDoorPkAD
import Derived.Test.YtlgeffinhbodeaeGreatDoorPkAG
import Derived.Test.YtlgeffinhbodeaeGreatDoorPkAE
/-
  impl.EncodeRun at a valid run.
-/
namespace Go.Proofs.YtlgeffinhbodeaeGreatDoor
open Go.ChangeShapes Go.WideShapes Go.ChangeAt Go.RowKit Go.Deep Go.Shelf
set_option linter.unusedVariables false
set_option linter.unusedSimpArgs false
set_option maxRecDepth 100000
attribute [local go_sem] Oper.semAt_some

set_option maxHeartbeats 8000000 in
theorem encGood (b off cap p : Nat) (es : List Ent) (w : World) (hE : EntsAt w b off es) (hok : ∀ e ∈ es, e.ok) (hg : GoodR es) (hB : b < w.heap.size) (hlen : es.length ≤ cap) (hcap : cap ≤ maxLen) (hp1 : 1 ≤ p) (hp2 : p ≤ 1000) :
    Calls Tryz.prog 16 #[.agg #[.slice (some ⟨b, off, none⟩) es.length cap], .int .i64 (p : Int)] w fun r w' =>
      ∃ (g cp m : Nat), r = .returned (.slice (some ⟨g, 0, none⟩) m cp) ∧ m = (fileM (chunks p es)).length ∧ OwnY w' w.heap.size g cp (fileM (chunks p es)) ∧ Below w.heap.size w w' := by
  have HE : Hid (EntsAt w b off es ∧ (∀ e ∈ es, e.ok) ∧ GoodR es ∧ cap ≤ maxLen) := ⟨hE, hok, hg, hcap⟩
  obtain ⟨n, hn⟩ : ∃ n, n = es.length := ⟨_, rfl⟩
  have HN : Hid (n = es.length) := hn
  have hn2 : n ≤ 10000 := by rw [hn]; exact hg.1.1
  rw [← hn] at hlen ⊢
  obtain ⟨W0, hW0⟩ : ∃ W0 : World, W0 = w.alloc (Obj.cells #[.slice (some ⟨b, off, none⟩) n cap] 37) := ⟨_, rfl⟩
  have HW0 : Hid (BoxAt W0 w.heap.size 37 1 w.heap.size [.slice (some ⟨b, off, none⟩) n cap] ∧ Below w.heap.size w W0) := by
    rw [hW0]; exact ⟨boxAt_new w _ (Nat.le_refl _) rfl, (Below.refl _ _).alloc (Nat.le_refl _) _⟩
  have HV : Hid (Calls Tryz.prog 41 #[.agg #[.slice (some ⟨b, off, none⟩) n cap]] W0 fun e w' => e = .returned (.bool true) ∧ Below W0.heap.size W0 w') := by
    rw [hn]
    refine (implValidRun_core b off cap es W0 (hE.below HW0.out.2 hB) hok (by have := HW0.out.2.size; omega) (by omega) hcap).mono ?_
    rintro e w' ⟨r, rfl, hr, hb⟩
    exact ⟨by rw [hr.2 hg], hb⟩
  have c0 := HW0.out.1.cell (j := 0) rfl
  have zp1 : ¬ (p : Int) < 1 := by omega
  have zp2 : ¬ (1000 : Int) < (p : Int) := by omega
  clear hE hok hg hcap hn
  refine (callsIn_wide (n := 9)).1 ?_
  refine callsIn_of_wp_marks Tryz.func16 rfl trivial ?_ rfl
  simp only [Tryz.ntmps16, List.size_toArray, List.length_cons, List.length_nil, Nat.reduceAdd, Nat.reduceSub, Array.replicate_succ, Array.replicate_zero, List.push_toArray, List.append_toArray, List.nil_append, List.cons_append]
  gi_wp2
  rw [← hW0]
  refine ⟨trivial, (callsIn_wide.2 HV.out).mono ?_⟩
  rintro e w1 ⟨rfl, hb1⟩
  have s0 := HW0.out.2.size
  have HW1 : Hid (BoxAt w1 w.heap.size 37 1 w.heap.size [.slice (some ⟨b, off, none⟩) n cap] ∧ Below w.heap.size w w1) := ⟨HW0.out.1.below hb1, HW0.out.2.trans (hb1.mono s0)⟩
  clear hW0 c0 HW0 HV hb1 s0
  have hzv := (zero_of_info info_table).1
  have hsz := tabA_size 256
  gi_wp2
  refine ⟨trivial, (callsIn_wide.2 (makeTable_core w1)).mono ?_⟩
  rintro e w2 ⟨rfl, hb2⟩
  have s1 := HW1.out.2.size
  have hsc := run_storeCells_new (P := Tryz.prog) w2 84 (Array.replicate 256 (.int .u32 0)) (tabA 256) (by rw [tabA_size]; exact (zero_of_info info_table).2) (by rw [tabA_size]; simp) (tabA_one _)
  obtain ⟨W3, hW3⟩ : ∃ W3 : World, W3 = w2.alloc (.cells (tabA 256) 84) := ⟨_, rfl⟩
  have HW3 : Hid (BoxAt W3 w.heap.size 37 1 w.heap.size [.slice (some ⟨b, off, none⟩) n cap] ∧ Below w.heap.size w W3 ∧ TabAt W3 w2.heap.size 0 ∧ W3.heap.size = w2.heap.size + 1) := by
    have hb3 : Below w2.heap.size w2 W3 := by rw [hW3]; exact (Below.refl _ _).alloc (Nat.le_refl _) _
    have s2 := hb2.size
    refine ⟨(HW1.out.1.below hb2).below hb3, (HW1.out.2.trans (hb2.mono s1)).trans (hb3.mono (by omega)), ?_, by rw [hW3]; simp⟩
    intro i hi
    rw [hW3, Nat.zero_add, cell_of_row _ _ i _ _ _ (heap_alloc_last w2 _)]
    exact tabA_at 256 i hi hi
  have kc := Go.Joins.run_convert_bytes_const_at (P := Tryz.prog) (w2.alloc (Obj.cells (tabA 256) 84)) 22 5 #[.int .u8 82, .int .u8 85, .int .u8 78, .int .u8 49] 4 4 (w2.heap.size + 1) (by simp) Tryz.underlying22 Tryz.underlying5
  obtain ⟨W8, hW8⟩ : ∃ W8 : World, W8 = ((((((w2.alloc (Obj.cells (tabA 256) 84)).alloc (Obj.cells #[.int .u8 82, .int .u8 85, .int .u8 78, .int .u8 49] 5 (4, 5))).alloc (Obj.cells #[.slice (some ⟨w2.heap.size + 1, 0, none⟩) 4 4] 22)).alloc (Obj.cells #[] 5)).alloc (Obj.cells #[.slice (some ⟨w2.heap.size + 1 + 1 + 1, 0, none⟩) 0 0] 22)).alloc (Obj.cells #[.int .u64 0] 43)) := ⟨_, rfl⟩
  have r3l : w.heap.size < w2.heap.size := by have := HW1.out.1.lt.2; have := hb2.size; omega
  have HW8 : Hid (BoxAt W8 w.heap.size 37 1 w.heap.size [.slice (some ⟨b, off, none⟩) n cap] ∧ W8.heap.size = w2.heap.size + 6 ∧ EnS w w (fun _ => True) w2.heap.size (w2.heap.size + 1 + 1) (w2.heap.size + 1 + 1 + 1 + 1) (w2.heap.size + 1 + 1 + 1 + 1 + 1) (headB ++ fblocks []) (fones []) 0 4 (w2.heap.size + 1) 4 0 (w2.heap.size + 1 + 1 + 1) 0 W8) := by
    have hz3 := HW3.out.2.2.2
    have hb8 : Below W3.heap.size W3 W8 := by
      rw [hW8, ← hW3]
      exact (((((Below.refl _ _).alloc (Nat.le_refl _) _).alloc (by simp) _).alloc (by simp; omega) _).alloc (by simp; omega) _).alloc (by simp; omega) _
    refine ⟨HW3.out.1.below hb8, by rw [hW8]; simp, ?_⟩
    rw [hW8, ← hW3]
    exact en_init HW3.out.2.1 HW3.out.2.2.1 (by omega) HW3.out.2.2.2
  have r8 : (((((((w2.alloc (Obj.cells (tabA 256) 84)).alloc (Obj.cells #[.int .u8 82, .int .u8 85, .int .u8 78, .int .u8 49] 5 (4, 5))).alloc (Obj.cells #[.slice (some ⟨w2.heap.size + 1, 0, none⟩) 4 4] 22)).alloc (Obj.cells #[] 5)).alloc (Obj.cells #[.slice (some ⟨w2.heap.size + 1 + 1 + 1, 0, none⟩) 0 0] 22)).alloc (Obj.cells #[.int .u64 0] 43))).cell? ⟨w.heap.size, 0, none⟩ = some (.slice (some ⟨b, off, none⟩) n cap) := by
    rw [← hW8]; exact HW8.out.1.cell (j := 0) rfl
  gi_wp2
  rw [← hW8]
  clear hW8 hsc hzv hsz kc r8 hW3 HW3 HW1
  refine ⟨trivial, (chunk_made Fence.wide _ trivial rfl (some ⟨b, off, none⟩) n cap p hp1 hp2 W8).mono ?_⟩
  rintro e w9 ⟨rfl, hw9⟩
  rw [hw9]
  obtain ⟨W10, hW10⟩ : ∃ W10 : World, W10 = (W8.alloc (.cells #[.slice (some ⟨b, off, none⟩) n cap] 35)).alloc (.cells #[.int .i64 (p : Int)] 3) := ⟨_, rfl⟩
  rw [← hW10]
  have HW10 : Hid (W10.heap.size = W8.heap.size + 2 ∧ W10.cell? ⟨W8.heap.size, 0, none⟩ = some (.slice (some ⟨b, off, none⟩) n cap) ∧ W10.cell? ⟨W8.heap.size + 1, 0, none⟩ = some (.int .i64 (p : Int)) ∧ Below W8.heap.size W8 W10) := by
    have hb : Below W8.heap.size W8 W10 := by rw [hW10]; exact ((Below.refl _ _).alloc (Nat.le_refl _) _).alloc (by simp) _
    exact ⟨by rw [hW10]; simp, by rw [hW10]; simp, by rw [hW10]; simp, hb⟩
  obtain ⟨tb, htb⟩ : ∃ tb, tb = tabA 256 := ⟨_, rfl⟩
  rw [← htb]
  clear hw9 htb hW10
  gi_wp2
  have z10 := HW10.out.1
  refine wpIn_rangeFunc_ownG rfl (by decide) (gf := 94) (lb := #[.pointer (some ⟨W8.heap.size, 0, none⟩), .pointer (some ⟨W8.heap.size + 1, 0, none⟩)]) rfl trivial (enters_of Tryz.func94 (by kernel_rfl) rfl)
    (chunk_stops Fence.wide _ trivial rfl (by decide) W8.heap.size (W8.heap.size + 1) b off n cap p hp1 hp2 hn2 hlen W10 (by omega) (by omega) HW10.out.2.1 HW10.out.2.2.1) (fun h k => h.trans k) ?hKb (Below.refl _ _) (fun _ => rfl)
    (fun pre W => (∃ mf gf cpf mm gm cpm, EnS w w (fun _ => True) w2.heap.size (w2.heap.size + 1 + 1) (w2.heap.size + 1 + 1 + 1 + 1) (w2.heap.size + 1 + 1 + 1 + 1 + 1) (headB ++ fblocks (pre.map (fun k => ckE es p k.1))) (fones (pre.map (fun k => ckE es p k.1))) pre.length mf gf cpf mm gm cpm W ∧ ApartB W8.heap.size gf gm) ∧ W10.heap.size ≤ W.heap.size)
    (fun _ _ _ => False) ?hI (fun _ _ _ _ _ hs _ _ => hs) ?h0
    (fun x => { tmps := #[.agg #[.slice (some ⟨b, off, none⟩) n cap], .int .i64 (p : Int), .pointer (some ⟨w.heap.size, 0, none⟩), undef, .slice none 0 0, .pointer (some ⟨w2.heap.size, 0, none⟩), .pointer (some ⟨w2.heap.size + 1 + 1, 0, none⟩), .pointer (some ⟨w2.heap.size + 1 + 1 + 1 + 1, 0, none⟩), .pointer (some ⟨w2.heap.size + 1 + 1 + 1 + 1 + 1, 0, none⟩), .slice (some ⟨b, off + x.1 * p * 6, none⟩) (min p (n - x.1 * p)) (min p (n - x.1 * p)), undef, undef, .int .i64 (p : Int), .bool false, .bool false, .int .i64 (p : Int), .bool false, .bool false, .bool false, .agg #[.slice (some ⟨b, off, none⟩) n cap], .bool true, .bool false, .bool false, undef, .agg tb, .slice (some ⟨w2.heap.size + 1, 0, none⟩) 4 4, .slice (some ⟨w2.heap.size + 1, 0, none⟩) 4 4, .slice (some ⟨w2.heap.size + 1 + 1 + 1, 0, none⟩) 0 0, .pointer (some ⟨w.heap.size, 0, none⟩), .slice (some ⟨b, off, none⟩) n cap, .int .i64 (p : Int), .func (.func 94) #[] #[.pointer (some ⟨W8.heap.size, 0, none⟩), .pointer (some ⟨W8.heap.size + 1, 0, none⟩)], .slice (some ⟨b, off + x.1 * p * 6, none⟩) (min p (n - x.1 * p)) (min p (n - x.1 * p)), undef, undef, undef, undef, undef, undef, undef, undef, undef, undef, undef, undef, undef, undef, undef, undef, undef, undef, undef, undef, undef, undef, undef, undef, undef, undef, undef, undef, undef, undef, undef, undef, undef, undef, undef, undef, undef, undef, undef, undef, undef, undef, undef], defers := [] }) ?assign ?body ?done ?stop
  case hKb =>
    intro W l o o' hl _ _ _
    exact ⟨World.cell?_of_block (World.putObj_heap_other (fun e => by simp at e; omega)), World.cell?_of_block (World.putObj_heap_other (fun e => by simp at e; omega))⟩
  case hI =>
    rintro pre A B row ⟨⟨mf, gf, cpf, mm, gm, cpm, h, hap⟩, hsz⟩ hg hr
    have h8 := HW8.out.2.1
    exact ⟨⟨mf, gf, cpf, mm, gm, cpm, h.grown (by simp [headB]) hg (fun r e => (hr r e).2) (fun r e => by have := (hr r e).1; omega), hap⟩, Nat.le_trans hsz hg.size⟩
  case h0 => exact ⟨⟨_, _, _, _, _, _, HW8.out.2.2.move HW10.out.2.2.2, by have := HW8.out.2.1; exact ⟨by omega, by omega, by omega, by omega⟩⟩, Nat.le_refl _⟩
  case assign =>
    intro l x W K hK
    gi_wp2
    exact hK
  case body =>
    rintro l pre ⟨k, hkn⟩ W ⟨⟨mf, gf, cpf, mm, gm, cpm, hJ, hap⟩, hsz10⟩ hpre
    obtain ⟨F, hF⟩ : ∃ F, F = headB ++ fblocks (pre.map (fun k => ckE es p k.1)) := ⟨_, rfl⟩
    obtain ⟨M, hM⟩ : ∃ M, M = fones (pre.map (fun k => ckE es p k.1)) := ⟨_, rfl⟩
    obtain ⟨C, hC⟩ : ∃ C, C = ckE es p k := ⟨_, rfl⟩
    obtain ⟨q, hq⟩ : ∃ q, q = min p (n - k * p) := ⟨_, rfl⟩
    have hCl : C.length = q := by rw [hC, ckE_len, ← HN.out]; exact hq.symm
    have HFM : Hid (F = headB ++ fblocks (pre.map (fun k => ckE es p k.1)) ∧ M = fones (pre.map (fun k => ckE es p k.1)) ∧ C = ckE es p k ∧ C.length = q) := ⟨hF, hM, hC, hCl⟩
    rw [← hF, ← hM] at hJ
    have hq1 : 1 ≤ q := by omega
    have hq2 : q ≤ 1000 := by omega
    have hbnd : F.length ≤ 10000000 ∧ M.length ≤ 10000000 ∧ 0 < F.length ∧ pre.length ≤ 20000 := by
      rw [hF, hM]; exact ck_bound HN.out hn2 hp1 hp2 HE.out.2.1 HE.out.2.2.1.1.2 pre (Nat.le_of_lt hpre)
    have hCe : EntsAt W b (off + k * p * 6) C ∧ OkB C := by
      rw [hC]; exact ⟨(ck_at HE.out.1 p k).below hJ.below hB, ck_ok HN.out hp1 hkn HE.out.2.1 HE.out.2.2.1.1.2⟩
    have HAp : Hid (ApartB W8.heap.size gf gm ∧ W10.heap.size ≤ W.heap.size) := ⟨hap, hsz10⟩
    obtain ⟨e0, he0⟩ : ∃ e0, w.cell? ⟨b, off + k * p * 6, none⟩ = some (.string e0) ∧ e0.size ≤ 64 ∧ row0 C = bl e0 := by
      have hne := hCe.2.ne
      have hEw : EntsAt w b (off + k * p * 6) C := by rw [hC]; exact ck_at HE.out.1 p k
      cases hCC : C with
      | nil => rw [hCC] at hne; simp at hne
      | cons e es' =>
        have h1 := hEw 0 e (by rw [hCC]; rfl)
        have h2 := vld_parts (hCe.2.vld e (by rw [hCC]; simp))
        exact ⟨e.row, by simpa using h1.1, by omega, rfl⟩
    have HE0 : Hid (w.cell? ⟨b, off + k * p * 6, none⟩ = some (.string e0) ∧ e0.size ≤ 64 ∧ row0 C = bl e0) := he0
    have hpl : pre.length ≤ 20000 := hbnd.2.2.2
    have HFp : Hid (0 < F.length) := hbnd.2.2.1
    clear hap he0
    have HS0 : Hid (EnS w W (fun j => j = w2.heap.size + 1 + 1 ∨ j = w2.heap.size + 1 + 1 + 1 + 1 ∨ j = w2.heap.size + 1 + 1 + 1 + 1 + 1 ∨ j = gf ∨ j = gm) w2.heap.size (w2.heap.size + 1 + 1) (w2.heap.size + 1 + 1 + 1 + 1) (w2.heap.size + 1 + 1 + 1 + 1 + 1) F M pre.length mf gf cpf mm gm cpm W) := hJ.rebase
    have hWb : w.heap.size ≤ W.heap.size := hJ.below.size
    have HBody : Hid (Calls Tryz.prog 44 #[.slice (some ⟨b, off + k * p * 6, none⟩) q q] W fun r w' => ∃ g cp m, r = .returned (.slice (some ⟨g, 0, none⟩) m cp) ∧ Hid (m = (body [] C).length ∧ OwnY w' W.heap.size g cp (body [] C)) ∧ Below W.heap.size W w') := by
      rw [← hCl]
      refine (blockBody_core b (off + k * p * 6) C.length C W hCe.1 hCe.2.ok hCe.2.vld (by omega) (by omega)).mono ?_
      rintro r w' ⟨g, cp, rfl, hO, hb⟩
      exact ⟨g, cp, _, rfl, ⟨rfl, hO⟩, hb⟩
    have hmf : mf ≤ 10000000 := by rw [hJ.mfl]; exact hbnd.1
    have hmm : mm ≤ 10000000 := by rw [hJ.mml]; exact hbnd.2.1
    have HCe : Hid (EntsAt W b (off + k * p * 6) C ∧ OkB C ∧ (body [] C).length ≤ 500 * 1000 ∧ 0 < (body [] C).length) := by
      have h1 := body_len C [] hCe.2.vld hCe.2.ts
      exact ⟨hCe.1, hCe.2, by omega, body_pos hCe.2.ne⟩
    simp only [← hq]
    clear hF hM hC hCl hJ hCe hbnd hq
    gi_wp2
    refine ⟨trivial, (CallsIn.inRound l (callsIn_wide.2 HBody.out)).mono ?_⟩
    rintro r w1 ⟨g1, cp1, m1, rfl, H1, hb1⟩
    have HS1 : Hid (EnS w W (fun j => j = w2.heap.size + 1 + 1 ∨ j = w2.heap.size + 1 + 1 + 1 + 1 ∨ j = w2.heap.size + 1 + 1 + 1 + 1 + 1 ∨ j = gf ∨ j = gm) w2.heap.size (w2.heap.size + 1 + 1) (w2.heap.size + 1 + 1 + 1 + 1) (w2.heap.size + 1 + 1 + 1 + 1 + 1) F M pre.length mf gf cpf mm gm cpm w1) := HS0.out.move hb1
    have hs1 := hb1.size
    have f6 := HS1.out.file.cell (j := 0) rfl
    have f6f := HS1.out.file.frozen 0
    clear HBody hb1
    gi_wp2_with (gi_at_builtin; refine wpListIn_append_out _ rfl _ _ rfl w.heap.size gf cpf mf g1 0 m1 cp1 F (body [] C) rfl rfl HS1.out.mfl H1.out.1 HS1.out.frow H1.out.2.at HCe.out.2.2.2 (by have := HCe.out.2.2.1; have := HS1.out.mfl; omega) (by omega) ?_; intro g2 cp2 v2 hO2 hgr2 hat2; have HN2 : Hid ((EnS w W (fun j => j = w2.heap.size + 1 + 1 ∨ j = w2.heap.size + 1 + 1 + 1 + 1 ∨ j = w2.heap.size + 1 + 1 + 1 + 1 + 1 ∨ j = gf ∨ j = gm) w2.heap.size (w2.heap.size + 1 + 1) (w2.heap.size + 1 + 1 + 1 + 1) (w2.heap.size + 1 + 1 + 1 + 1 + 1) (F ++ body [] C) (M) (pre.length) (mf + m1) g2 cp2 (mm) gm cpm (v2.setCell ⟨w2.heap.size + 1 + 1, 0, none⟩ (.slice (some ⟨g2, 0, none⟩) (mf + m1) cp2)) ∧ OwnY (v2.setCell ⟨w2.heap.size + 1 + 1, 0, none⟩ (.slice (some ⟨g2, 0, none⟩) (mf + m1) cp2)) w.heap.size g2 cp2 (F ++ body [] C)) ∧ v2.cell? ⟨w2.heap.size + 1 + 1, 0, none⟩ = some (.slice (some ⟨gf, 0, none⟩) mf cpf) ∧ v2.frozen? ⟨w2.heap.size + 1 + 1, 0, none⟩ = false) := en_app HS1.out hO2 hgr2 hat2 (by rw [List.length_append, ← HS1.out.mfl, ← H1.out.1]); have HY2 : Hid (BysAt (v2.setCell ⟨w2.heap.size + 1 + 1, 0, none⟩ (.slice (some ⟨g2, 0, none⟩) (mf + m1) cp2)) g1 0 (body [] C) ∧ g1 < (v2.setCell ⟨w2.heap.size + 1 + 1, 0, none⟩ (.slice (some ⟨g2, 0, none⟩) (mf + m1) cp2)).heap.size) := en_bys HS1.out HS0.out H1.out.2 hgr2; have c6 := HN2.out.2.1; have c6f := HN2.out.2.2; clear hO2 hgr2 hat2)
    obtain ⟨W3, hW3⟩ : ∃ W3 : World, W3 = v2.setCell ⟨w2.heap.size + 1 + 1, 0, none⟩ (.slice (some ⟨g2, 0, none⟩) (mf + m1) cp2) := ⟨_, rfl⟩
    rw [← hW3] at HN2 HY2 ⊢
    have hm1 : m1 ≤ 500000 := by have := HCe.out.2.2.1; have := H1.out.1; omega
    clear hW3 c6 c6f f6 f6f HS1
    have hmo : Tryz.prog.follows Departure.mixedOrders = true := by kernel_rfl
    have f6 := HN2.out.1.1.file.cell (j := 0) rfl
    have f6f := HN2.out.1.1.file.frozen 0
    gi_region_with_o (first
      | (refine ⟨trivial, ?_⟩; gi_at_call 46; refine (CallsIn.inRound l (callsIn_wide.2 (en_sum HN2.out.1.1 (by repeat (first | exact Below.refl _ _ | refine Below.drew ?_)) HY2.out.2 HY2.out.1 H1.out.1 (by omega)))).mono ?_; rintro r v3 ⟨rfl, hv3⟩; rw [hv3]; clear hv3)
      | (refine ⟨trivial, ?_⟩; gi_at_call 45; refine (CallsIn.inRound l (callsIn_wide.2 (en_fix HN2.out.1.1 HN2.out.1.2 (by repeat (first | exact Below.refl _ _ | refine Below.drew ?_)) (crc (body [] C)).toNat (BitVec.isLt _) (by omega)))).mono ?_; rintro r v4 ⟨g4, cp4, m4, rfl, hm4, HS4, c4, f4⟩))
    all_goals obtain ⟨W5, hW5⟩ : ∃ W5 : World, W5 = v4.setCell ⟨w2.heap.size + 1 + 1, 0, none⟩ (.slice (some ⟨g4, 0, none⟩) m4 cp4) := ⟨_, rfl⟩
    all_goals rw [← hW5] at HS4 ⊢
    all_goals clear hW5 c4 f4 f6 f6f HY2 HN2
    all_goals have k7 := HS4.out.1.marks.cell (j := 0) rfl
    all_goals have k7f := HS4.out.1.marks.frozen 0
    all_goals gi_wp2
    all_goals refine ⟨trivial, (CallsIn.inRound l (callsIn_wide.2 (en_num HS4.out.1 (Below.refl _ _) m1 (by omega) (by omega)))).mono ?_⟩
    all_goals rintro r v6 ⟨g6, cp6, m6, rfl, hm6, HS6, c6, f6⟩
    all_goals clear k7 k7f
    all_goals gi_wp2
    all_goals obtain ⟨W6, hW6⟩ : ∃ W6 : World, W6 = v6.setCell ⟨w2.heap.size + 1 + 1 + 1 + 1, 0, none⟩ (.slice (some ⟨g6, 0, none⟩) m6 cp6) := ⟨_, rfl⟩
    all_goals rw [← hW6] at HS6 ⊢
    all_goals clear hW6 c6 f6 HS4
    all_goals refine ⟨trivial, (CallsIn.inRound l (callsIn_wide.2 (en_num HS6.out (Below.refl _ _) q (by omega) (by omega)))).mono ?_⟩
    all_goals rintro r v7 ⟨g7, cp7, m7, rfl, hm7, HS7, c7, f7⟩
    all_goals gi_wp2
    all_goals obtain ⟨W7, hW7⟩ : ∃ W7 : World, W7 = v7.setCell ⟨w2.heap.size + 1 + 1 + 1 + 1, 0, none⟩ (.slice (some ⟨g7, 0, none⟩) m7 cp7) := ⟨_, rfl⟩
    all_goals rw [← hW7] at HS7 ⊢
    all_goals clear hW7 c7 f7 HS6
    all_goals have k7 := HS7.out.marks.cell (j := 0) rfl
    all_goals have k7f := HS7.out.marks.frozen 0
    all_goals have kr := (HS7.out.below.cell (p := ⟨b, off + k * p * 6, none⟩) hB).trans HE0.out.1
    all_goals gi_region_with_o (refine ⟨trivial, ?_⟩; gi_at_call 48; refine (CallsIn.inRound l (callsIn_wide.2 (en_text HS7.out (by repeat (first | exact Below.refl _ _ | refine Below.drew ?_)) e0 (by have := HE0.out.2.1; omega) (by omega)))).mono ?_; rintro r v8 ⟨g8, cp8, m8, rfl, hm8, HS8, c8, f8⟩)
    all_goals obtain ⟨Wx, hWx⟩ : ∃ Wx : World, Wx = v8.setCell ⟨w2.heap.size + 1 + 1 + 1 + 1, 0, none⟩ (.slice (some ⟨g8, 0, none⟩) m8 cp8) := ⟨_, rfl⟩
    all_goals rw [← hWx] at HS8 ⊢
    all_goals clear hWx c8 f8 k7 k7f kr
    all_goals have k8 := HS8.out.cnt.cell (j := 0) rfl
    all_goals have k8f := HS8.out.cnt.frozen 0
    all_goals obtain ⟨W9, hW9⟩ : ∃ W9 : World, W9 = Wx.setCell ⟨w2.heap.size + 1 + 1 + 1 + 1 + 1, 0, none⟩ (.int .u64 ((pre.length : Int) + 1)) := ⟨_, rfl⟩
    all_goals have HS9 := HS8.out.incr
    all_goals rw [← hW9] at HS9
    all_goals have h8 := HW8.out.2.1
    all_goals have hen := en_end (X := W10.heap.size) (BB := W8.heap.size) HS0.out HS9 HFp.out HAp.out.1 (by omega) (by omega) (by omega) (by have := HAp.out.2; omega)
    all_goals have e1 : headB ++ fblocks ((pre ++ [(⟨k, hkn⟩ : Ck n p)]).map (fun k => ckE es p k.1)) = F ++ body [] C ++ fixed (crc (body [] C)).toNat := (by rw [List.map_append, List.map_cons, List.map_nil, fblocks_snoc, HFM.out.1, HFM.out.2.2.1, sumOf]; simp only [List.append_assoc])
    all_goals have e2 : fones ((pre ++ [(⟨k, hkn⟩ : Ck n p)]).map (fun k => ckE es p k.1)) = M ++ num m1 ++ num q ++ strB (bl e0) := (by rw [List.map_append, List.map_cons, List.map_nil, fones_snoc, ← HE0.out.2.2, H1.out.1, ← HFM.out.2.2.2, HFM.out.2.1, HFM.out.2.2.1])
    all_goals have e3 : (pre ++ [(⟨k, hkn⟩ : Ck n p)]).length = pre.length + 1 := by simp
    all_goals have hfin := HS9.forget
    all_goals rw [← e1, ← e2, ← e3] at hfin
    all_goals have HEnd : Hid (ownPostG W10.heap.size (Kc W8.heap.size (W8.heap.size + 1)) (fun pre W => (∃ mf gf cpf mm gm cpm, EnS w w (fun _ => True) w2.heap.size (w2.heap.size + 1 + 1) (w2.heap.size + 1 + 1 + 1 + 1) (w2.heap.size + 1 + 1 + 1 + 1 + 1) (headB ++ fblocks (pre.map (fun k => ckE es p k.1))) (fones (pre.map (fun k => ckE es p k.1))) pre.length mf gf cpf mm gm cpm W ∧ ApartB W8.heap.size gf gm) ∧ W10.heap.size ≤ W.heap.size) (fun _ _ _ => False) (pre ++ [(⟨k, hkn⟩ : Ck n p)]) W Exit.normal { tmps := #[], defers := [] } W9) := ⟨hen.1, hen.2.1, ⟨_, _, _, _, _, _, hfin, hen.2.2.1⟩, Nat.le_trans HAp.out.2 hen.2.2.2⟩
    all_goals clear hen HS9 h8 HS8 HS0 hfin e1 e2 e3 HFM
    all_goals gi_wp2
    all_goals rw [← hW9]
    all_goals exact HEnd.out
  case done =>
    rintro D ys W hD ⟨k, hk, rfl⟩ ⟨⟨mf, gf, cpf, mm, gm, cpm, hJ, hap⟩, hsz10⟩ hK
    have hbs : (cks n p k).map (fun k => ckE es p k.1) = chunks p es := by
      have h1 := HN.out
      subst h1
      exact cks_all es hp1 hk
    rw [hbs] at hJ
    have hcl : (cks n p k).length = (chunks p es).length := by rw [← hbs, List.length_map]
    rw [hcl] at hJ
    clear hbs hcl hap
    obtain ⟨F, hF⟩ : ∃ F, F = headB ++ fblocks (chunks p es) := ⟨_, rfl⟩
    obtain ⟨M, hM⟩ : ∃ M, M = fones (chunks p es) := ⟨_, rfl⟩
    obtain ⟨nc, hnc⟩ : ∃ nc, nc = (chunks p es).length := ⟨_, rfl⟩
    have hbnd : F.length ≤ 10000000 ∧ M.length ≤ 10000000 ∧ nc ≤ 20000 := by
      have q0 := chunks_ok (p := p) HE.out.2.2.1.1.2 HE.out.2.1
      have q1 := chunks_flatten p es.length es (Nat.le_refl _)
      have q2 := blocks_many _ q0
      have q3 := fblocks_len _ q0
      have q4 := fones_len _ q0 (by rw [q1]; have := HN.out; omega)
      rw [q1] at q2 q3
      have q5 := HN.out
      rw [hF, hM, hnc, List.length_append]
      have q6 : headB.length = 4 := rfl
      exact ⟨by omega, by omega, by omega⟩
    have HFM : Hid (F = headB ++ fblocks (chunks p es) ∧ M = fones (chunks p es) ∧ nc = (chunks p es).length) := ⟨hF, hM, hnc⟩
    rw [← hF, ← hM, ← hnc] at hJ
    have HCel : Hid (∀ k, (fun j => j = w2.heap.size + 1 + 1 ∨ j = w2.heap.size + 1 + 1 + 1 + 1 ∨ j = w2.heap.size + 1 + 1 + 1 + 1 + 1 ∨ j = gf ∨ j = gm) k → ∃ x : Obj, W.heap[k]? = some x ∧ x.isCells = true) := hJ.cells (by rw [hF]; simp [headB])
    have HJ : Hid (EnS w W (fun j => j = w2.heap.size + 1 + 1 ∨ j = w2.heap.size + 1 + 1 + 1 + 1 ∨ j = w2.heap.size + 1 + 1 + 1 + 1 + 1 ∨ j = gf ∨ j = gm) w2.heap.size (w2.heap.size + 1 + 1) (w2.heap.size + 1 + 1 + 1 + 1) (w2.heap.size + 1 + 1 + 1 + 1 + 1) F M nc mf gf cpf mm gm cpm W) := hJ.rebase
    have hmf : mf ≤ 10000000 := by rw [hJ.mfl]; exact hbnd.1
    have hmm : mm ≤ 10000000 := by rw [hJ.mml]; exact hbnd.2.1
    have hnc2 : nc ≤ 20000 := hbnd.2.2
    have hgm := hJ.mrow.lt.2
    have l7 := hJ.marks.lt.2
    have hwW := hJ.below.size
    clear hF hM hnc hJ hbnd
    have HNum : Hid (∀ V, Below W.heap.size W V → Calls Tryz.prog 47 #[.slice none 0 0, .int .u64 (nc : Int)] V fun e w' => ∃ g cp m, e = .returned (.slice (some ⟨g, 0, none⟩) m cp) ∧ m ≤ 10 ∧ Hid (m = (num nc).length ∧ OwnY w' W.heap.size g cp (num nc) ∧ Below W.heap.size W w') ∧ w'.cell? ⟨w2.heap.size + 1 + 1 + 1 + 1, 0, none⟩ = some (.slice (some ⟨gm, 0, none⟩) mm cpm)) := fun V hV => by
      refine (appendNumber_core W.heap.size (.slice none 0 0) [] nc V (World.ownsRow_nil ..) (by omega) (by simp) hV.size).mono ?_
      rintro e w' ⟨g, cp, rfl, hO, hC, _⟩
      have hB2 : Below W.heap.size W w' := Chg.below hV hC hV.size (fun k q => by simp [Value.ownBlock] at q)
      refine ⟨g, cp, _, rfl, by have := num_len64 (n := nc) (by omega); simpa using this, ⟨by simp, by simpa using hO, hB2⟩, ?_⟩
      rw [hB2.cell (p := ⟨w2.heap.size + 1 + 1 + 1 + 1, 0, none⟩) l7]; exact HJ.out.marks.cell (j := 0) rfl
    have k8 := HJ.out.cnt.cell (j := 0) rfl
    have k7 := HJ.out.marks.cell (j := 0) rfl
    gi_wp2
    refine wpIn_wide.2 ?_
    refine wp_region_noPanic ?_
    go_region_law ((first
      | (go_simp; go_at_call 47; refine (HNum.out _ (by repeat (first | exact Below.refl _ _ | refine Below.drew ?_))).mono ?_; rintro r v1 ⟨g1, cp1, m1, rfl, hm1, H1, c7⟩)
      | (refine step_append_y _ (by rfl) _ _ (by rfl) W.heap.size g1 cp1 m1 gm 0 mm cpm (num nc) M (by rfl) (by rfl) H1.out.1 HJ.out.mml H1.out.2.1 (HJ.out.mrow.at.chg (Chg.of_below H1.out.2.2) (S := fun _ => False) hgm (fun q => q)) (num_pos nc) (by have := H1.out.1; have := HJ.out.mml; omega) H1.out.2.2.size ?_
         intro g2 cp2 v2 hO2 hgr2 hat2
         have H2 : Hid (OwnY v2 W.heap.size g2 cp2 (num nc ++ M) ∧ Below W.heap.size W v2) := ⟨hO2, Chg.below H1.out.2.2 (Chg.of_grown hgr2 (S := fun k => k = g1) (fun j hj => by cases hj; rfl)) H1.out.2.2.size (fun k q => by subst q; exact H1.out.2.1.lt.1)⟩
         clear hO2 hgr2 hat2)))
    all_goals have HJ2 : Hid (EnS w W (fun j => j = w2.heap.size + 1 + 1 ∨ j = w2.heap.size + 1 + 1 + 1 + 1 ∨ j = w2.heap.size + 1 + 1 + 1 + 1 + 1 ∨ j = gf ∨ j = gm) w2.heap.size (w2.heap.size + 1 + 1) (w2.heap.size + 1 + 1 + 1 + 1) (w2.heap.size + 1 + 1 + 1 + 1 + 1) F M nc mf gf cpf mm gm cpm v2) := HJ.out.move H2.out.2
    all_goals have hml : m1 + mm = (num nc ++ M).length := (by rw [List.length_append, ← H1.out.1, ← HJ.out.mml])
    all_goals obtain ⟨mi, hmi⟩ : ∃ mi, mi = m1 + mm := ⟨_, rfl⟩
    all_goals have HMi : Hid (mi = (num nc ++ M).length) := (by rw [hmi]; exact hml)
    all_goals have hmi2 : mi ≤ 10000010 := (by omega)
    all_goals rw [← hmi]
    all_goals clear hmi hml k7 k8 c7 HNum
    all_goals have k6 := HJ2.out.file.cell (j := 0) rfl
    all_goals have k6f := HJ2.out.file.frozen 0
    all_goals have sW := H2.out.2.size
    all_goals dsimp only [NoPanic]
    all_goals gi_wp2_with (gi_at_builtin; refine wpListIn_append_out _ rfl _ _ rfl w.heap.size gf cpf mf g2 0 mi cp2 F (num nc ++ M) rfl rfl HJ2.out.mfl HMi.out HJ2.out.frow H2.out.1.at (by have := num_pos nc; simp; omega) (by have := HMi.out; have := HJ2.out.mfl; omega) (by omega) ?_; intro g3 cp3 v3 hO3 hgr3 hat3; have HN3 : Hid ((EnS w W (fun j => j = w2.heap.size + 1 + 1 ∨ j = w2.heap.size + 1 + 1 + 1 + 1 ∨ j = w2.heap.size + 1 + 1 + 1 + 1 + 1 ∨ j = gf ∨ j = gm) w2.heap.size (w2.heap.size + 1 + 1) (w2.heap.size + 1 + 1 + 1 + 1) (w2.heap.size + 1 + 1 + 1 + 1 + 1) (F ++ (num nc ++ M)) M nc (mf + mi) g3 cp3 mm gm cpm (v3.setCell ⟨w2.heap.size + 1 + 1, 0, none⟩ (.slice (some ⟨g3, 0, none⟩) (mf + mi) cp3)) ∧ OwnY (v3.setCell ⟨w2.heap.size + 1 + 1, 0, none⟩ (.slice (some ⟨g3, 0, none⟩) (mf + mi) cp3)) w.heap.size g3 cp3 (F ++ (num nc ++ M))) ∧ v3.cell? ⟨w2.heap.size + 1 + 1, 0, none⟩ = some (.slice (some ⟨gf, 0, none⟩) mf cpf) ∧ v3.frozen? ⟨w2.heap.size + 1 + 1, 0, none⟩ = false) := en_app HJ2.out hO3 hgr3 hat3 (by rw [List.length_append, ← HJ2.out.mfl, ← HMi.out]); have HY3 := en_bys (g2 := g3) (m2 := mf + mi) (cp2 := cp3) HJ2.out HJ.out H2.out.1 hgr3; have c6 := HN3.out.2.1; have c6f := HN3.out.2.2; clear hO3 hgr3 hat3)
    all_goals obtain ⟨W4, hW4⟩ : ∃ W4 : World, W4 = v3.setCell ⟨w2.heap.size + 1 + 1, 0, none⟩ (.slice (some ⟨g3, 0, none⟩) (mf + mi) cp3) := ⟨_, rfl⟩
    all_goals rw [← hW4] at HN3 HY3 ⊢
    all_goals clear hW4 c6 c6f k6 k6f
    all_goals have k6 := HN3.out.1.1.file.cell (j := 0) rfl
    all_goals have k6f := HN3.out.1.1.file.frozen 0
    all_goals refine wpIn_wide.2 ?_
    all_goals refine wp_region_noPanic ?_
    all_goals go_region_law ((first
      | (go_simp; go_at_call 46; refine (en_sum HN3.out.1.1 (by repeat (first | exact Below.refl _ _ | refine Below.drew ?_)) HY3.2 HY3.1 HMi.out (by omega)).mono ?_; rintro r v4 ⟨rfl, hv4⟩; rw [hv4]; clear hv4)
      | (go_simp; go_at_call 45; refine (en_fix HN3.out.1.1 HN3.out.1.2 (by repeat (first | exact Below.refl _ _ | refine Below.drew ?_)) (crc (num nc ++ M)).toNat (BitVec.isLt _) (by omega)).mono ?_; rintro r v5 ⟨g5, cp5, m5, rfl, hm5, HS5, c5, f5⟩)))
    all_goals dsimp only [NoPanic]
    all_goals obtain ⟨W5, hW5⟩ : ∃ W5 : World, W5 = v5.setCell ⟨w2.heap.size + 1 + 1, 0, none⟩ (.slice (some ⟨g5, 0, none⟩) m5 cp5) := ⟨_, rfl⟩
    all_goals rw [← hW5] at HS5 ⊢
    all_goals clear hW5 c5 f5 k6 k6f
    all_goals have k6 := HS5.out.1.file.cell (j := 0) rfl
    all_goals gi_wp2
    all_goals refine ⟨trivial, (callsIn_wide.2 (en_last HS5.out.1 HS5.out.2 mi (by omega) (by omega))).mono ?_⟩
    all_goals rintro r v6 ⟨g6, cp6, m6, rfl, HS6⟩
    all_goals have hDl : D < W.heap.size := (Array.getElem?_eq_some_iff.1 hK).1
    all_goals have hKD : v6.heap[D]? = some (.deferred (some [])) := (by rw [HS6.out.2.2.2.block D hDl (fun q => by obtain ⟨x, hx, hc⟩ := HCel.out D q; rw [hK] at hx; cases hx; cases hc)]; exact hK)
    all_goals have e1 : F ++ (num nc ++ M) ++ fixed (crc (num nc ++ M)).toNat ++ fixed mi = fileM (chunks p es) := (by rw [HMi.out, HFM.out.1, HFM.out.2.1, HFM.out.2.2]; rfl)
    all_goals have HFin : Hid (m6 = (fileM (chunks p es)).length ∧ OwnY (v6.putObj D (.deferred none)) w.heap.size g6 cp6 (fileM (chunks p es)) ∧ Below w.heap.size w (v6.putObj D (.deferred none))) := ⟨(by rw [← e1]; exact HS6.out.1), (by rw [← e1]; exact ownsRow_putObj HS6.out.2.1 _ hKD rfl), HS6.out.2.2.1.trans (belowK_b (w := w) (Nat.le_refl _) v6 D _ _ (by have := HW8.out.2.1; omega) hKD rfl rfl)⟩
    all_goals clear e1 k6 HS5
    all_goals gi_wp2
    all_goals refine ⟨by simp, .inl ⟨_, _, rfl, run_takeDeferred hKD, ?_⟩⟩
    all_goals exact ⟨_, results_tmp rfl _ _ _, g6, cp6, m6, rfl, HFin.out.1, HFin.out.2.1, HFin.out.2.2⟩
  case stop =>
    rintro D c pre W _ _ h _
    exact h.elim
end Go.Proofs.YtlgeffinhbodeaeGreatDoor

/-
  A run beside what is changed.
-/
namespace Go.Proofs.YtlgeffinhbodeaeGreatDoor
set_option linter.unusedVariables false
theorem Rm.at.chg {S : Nat → Prop} {w w' : World} {r : Rm} (h : r.at w) (hb : Chg S w w') (hn : ¬ S r.b) : r.at w' := ⟨h.ents.chg hb h.lt hn, by have := hb.size; have := h.lt; omega, h.len, h.cap⟩
end Go.Proofs.YtlgeffinhbodeaeGreatDoor

/-
  spec.EncodeRun.
-/
namespace Go.Proofs.YtlgeffinhbodeaeGreatDoor
open Go.ChangeShapes Go.WideShapes Go.ChangeAt Go.RowKit Go.Deep
set_option linter.unusedVariables false
set_option linter.unusedSimpArgs false
set_option maxRecDepth 100000

/-- A row of blocks, of the call's own. -/
def OwnK (w : World) (base g cp : Nat) (l : List Rm) : Prop := w.ownsRow base 35 1 (.slice (some ⟨g, 0, none⟩) l.length cp) l.length (l.map Rm.u)
theorem OwnK.lt {w : World} {base g cp : Nat} {l : List Rm} (h : OwnK w base g cp l) : base ≤ g ∧ g < w.heap.size := World.ownsRow.lt h g rfl
theorem OwnK.chg {S : Nat → Prop} {w w' : World} {base g cp : Nat} {l : List Rm} (h : OwnK w base g cp l) (hc : Chg S w w') (hn : ¬ S g) : OwnK w' base g cp l := own_chg h hc (fun k q => by simp [Value.ownBlock] at q; subst q; exact hn)
theorem OwnK.cell {w : World} {base g cp : Nat} {l : List Rm} (h : OwnK w base g cp l) {k : Nat} {r : Rm} (hr : l[k]? = some r) : w.cell? ⟨g, k, none⟩ = some r.u := by
  have hk := (List.getElem?_eq_some_iff.1 hr).1
  rw [World.ownsRow.cellAt h k (by omega), List.getElem?_map, hr]; rfl
theorem rmu_one (l : List Rm) : ∀ u ∈ l.map Rm.u, u.oneCell' = true := by
  intro u hu
  obtain ⟨r, _, rfl⟩ := List.mem_map.1 hu
  rfl
theorem Tryz.infoEnts : (Tryz.prog.info? 35).map (fun i => (i.zero, i.size, i.bytes)) = some (some (.slice none 0 0), 1, 24) := by kernel_rfl
theorem wpList_append_blocks {ops : Array Oper} {rest : List Oper} {o : Oper} {a : Act} {Q : Exit → Act → World → Prop} (w : World) (hgd : o.guard = none) (s x : Operand)
    (ho : o.op = .call { callee := .builtin .append, args := #[s, x], argTypes := #[94, 94] })
    (base g cp n b m cx : Nat) (l k : List Rm) (hs : a.eval s = .slice (some ⟨g, 0, none⟩) n cp) (hx : a.eval x = .slice (some ⟨b, 0, none⟩) m cx) (hn : n = l.length) (hm : m = k.length) (hO : OwnK w base g cp l)
    (hc : ∀ i r, k[i]? = some r → w.cell? ⟨b, i, none⟩ = some r.u) (hlen : l.length + k.length ≤ 2 ^ 30) (hbase : base ≤ w.heap.size)
    (h : ∀ g' cp' w', OwnK w' base g' cp' (l ++ k) → w.grownBy w' (some g) → (g' = g ∨ g' = w.heap.size) → wpList Tryz.prog ops Q rest (a.put o.dst (.slice (some ⟨g', 0, none⟩) (n + m) cp')) w') : wpList Tryz.prog ops Q (o :: rest) a w := by
  subst hn hm
  obtain ⟨i, hi, hz0, hz1, hz2⟩ := info_parts Tryz.infoEnts
  refine wpList_append_own_at w hgd s x 94 ho base 35 i _ 1 24 Tryz.underlying94 hi hz0 hz1 hz2 rfl (by decide) (.slice (some ⟨g, 0, none⟩) l.length cp) l.length (l.map Rm.u) hs hO ⟨b, 0, none⟩ k.length cx (k.map Rm.u) hx (by simp) ?_ (rmu_one k) ?_ ?_ hbase ?_
  · intro j u hu
    rw [List.getElem?_map] at hu
    cases hk : k[j]? with
    | none => rw [hk] at hu; cases hu
    | some r =>
      rw [hk] at hu
      simp at hu
      rw [Addr.add_mid, Nat.zero_add, hc j r hk, ← hu]
  · unfold maxLen; omega
  · omega
  · intro v' w' hO' hgr hnil hat
    rcases hO'.2 with ⟨h0, _⟩ | ⟨g', cap', cur, hv, _, _, hn, hcap, _, _⟩
    · have := (hnil.1 h0).1
      cases this
    · subst hv
      refine h g' cap' w' ?_ hgr ?_
      · unfold OwnK
        rw [List.length_append, List.map_append]
        exact hO'
      · simp [Value.ownBlock] at hat
        exact hat

def lenOf6 : Value → Nat
  | .slice _ m _ => m
  | _ => 0
/-- The loop of the blocks. -/
structure EInv (w0 : World) (p : Nat) (es : List Ent) (b o q : Nat) (vs : List Ent) (g cp : Nat) (l : List Rm) (wr : World) : Prop where
  row : OwnK wr w0.heap.size g cp l
  ats : ∀ r ∈ l, r.at w0
  below : Below w0.heap.size w0 wr
  rest : EntsAt w0 b o vs
  cap : vs.length ≤ q ∧ q ≤ maxLen
  cut : esM l ++ chunks p vs = chunks p es
  len : l.length + vs.length ≤ es.length
theorem EInv.step {w0 W1 wr w1 : World} {p : Nat} {es : List Ent} {b o q : Nat} {vs : List Ent} {g cp g' cp' : Nat} {l : List Rm} (h : EInv w0 p es b o q vs g cp l wr) (hp : 0 < p) (hlt : p < vs.length) (hb : b < w0.heap.size)
    (h1 : Below wr.heap.size wr W1) (hO : OwnK w1 w0.heap.size g' cp' (l ++ [⟨b, o, q, vs.take p⟩])) (hgr : W1.grownBy w1 (some g)) : EInv w0 p es b (o + p * 6) (q - p) (vs.drop p) g' cp' (l ++ [⟨b, o, q, vs.take p⟩]) w1 := by
  have hc := h.cap
  have hg := h.row.lt
  have hs := h.below.size
  have hs1 := h1.size
  refine ⟨hO, ?_, (h.below.trans (h1.mono hs)).grown hgr (by omega) (fun k hk => by cases hk; exact hg.1), ?_, ⟨by simp; omega, by omega⟩, ?_, by have := h.len; simp; omega⟩
  · intro r hr
    rcases List.mem_append.1 hr with hr | hr
    · exact h.ats r hr
    · simp at hr
      subst hr
      refine ⟨?_, hb, by simp; omega, hc.2⟩
      intro i e he
      refine h.rest i e ?_
      by_cases hi : i < p
      · rwa [List.getElem?_take_of_lt hi] at he
      · have := (List.getElem?_eq_some_iff.1 he).1
        simp at this
        omega
  · intro i e he
    rw [List.getElem?_drop] at he
    have := h.rest (p + i) e he
    rw [show o + (p + i) * 6 = o + p * 6 + i * 6 by omega] at this
    exact this
  · rw [← h.cut, chunks_more hlt hp]
    simp [esM]
theorem EInv.last {w0 W1 wr w1 : World} {p : Nat} {es : List Ent} {b o q : Nat} {vs : List Ent} {g cp g' cp' : Nat} {l : List Rm} (h : EInv w0 p es b o q vs g cp l wr) (hlt : ¬ p < vs.length) (h0 : 0 < vs.length) (hb : b < w0.heap.size)
    (h1 : Below wr.heap.size wr W1) (hO : OwnK w1 w0.heap.size g' cp' (l ++ [⟨b, o, q, vs⟩])) (hgr : W1.grownBy w1 (some g)) : (∀ r ∈ l ++ [⟨b, o, q, vs⟩], r.at w0) ∧ esM (l ++ [⟨b, o, q, vs⟩]) = chunks p es ∧ Below w0.heap.size w0 w1 := by
  have hc := h.cap
  have hg := h.row.lt
  have hs := h.below.size
  have hs1 := h1.size
  refine ⟨?_, ?_, (h.below.trans (h1.mono hs)).grown hgr (by omega) (fun k hk => by cases hk; exact hg.1)⟩
  · intro r hr
    rcases List.mem_append.1 hr with hr | hr
    · exact h.ats r hr
    · simp at hr
      subst hr
      exact ⟨h.rest, hb, hc.1, hc.2⟩
  · rw [← h.cut, chunks_last hlt h0]
    simp [esM]

set_option maxHeartbeats 8000000 in
theorem specEnc_core (b off cap : Nat) (es : List Ent) (per : Int) (w : World) (hE : EntsAt w b off es) (hok : ∀ e ∈ es, e.ok) (hB : b < w.heap.size) (hlen : es.length ≤ cap) (hcap : cap ≤ maxLen) :
    Calls Tryz.prog 17 #[.agg #[.slice (some ⟨b, off, none⟩) es.length cap], .int .i64 per] w fun r w' =>
      ∃ (g cp : Nat) (xs : List UInt8), r = .returned (.slice (some ⟨g, 0, none⟩) xs.length cp) ∧ OwnY w' w.heap.size g cp xs ∧ EncOf es per xs ∧ Below w.heap.size w w' := by
  obtain ⟨W0, hW0⟩ : ∃ W0 : World, W0 = w.alloc (Obj.cells #[.slice (some ⟨b, off, none⟩) es.length cap] 37) := ⟨_, rfl⟩
  have hb0 : Below w.heap.size w W0 := by rw [hW0]; exact (Below.refl _ _).alloc (Nat.le_refl _) _
  have hz0 : W0.heap.size = w.heap.size + 1 := by rw [hW0]; simp
  have HC0 : Hid (W0.cell? ⟨w.heap.size, 0, none⟩ = some (.slice (some ⟨b, off, none⟩) es.length cap)) := by rw [hW0]; show (w.alloc _).cell? _ = _; simp
  have HE : Hid (EntsAt W0 b off es ∧ (∀ e ∈ es, e.ok) ∧ es.length ≤ cap ∧ cap ≤ maxLen) := ⟨hE.below hb0 hB, hok, hlen, hcap⟩
  clear hE hok hlen hcap
  go_enter Tryz.func17, Tryz.ntmps17
  go_upto_region 1 with fail
  rw [← hW0]
  clear hW0
  have q := HC0.out
  go_wp2_with fail
  clear q
  refine (specValidRun_core b off cap es W0 HE.out.1 HE.out.2.1 (by omega) HE.out.2.2.1 HE.out.2.2.2).mono ?_
  rintro e w1 ⟨ok, rfl, hgood, hb1⟩
  have s1 := hb1.size
  have k1 : Below w.heap.size w w1 := hb0.trans (hb1.mono (by omega))
  have HG : Hid (ok = true ↔ GoodR es) := hgood
  clear hgood
  by_cases hgd : ok = true ∧ 1 ≤ per ∧ per ≤ 1000
  case neg =>
    have HN : Hid (¬ (GoodR es ∧ 1 ≤ per ∧ per ≤ 1000)) := fun q => hgd ⟨HG.out.2 q.1, q.2⟩
    cases ok
    · go_wp2_with fail
      go_ret
      exact ⟨w1.heap.size, 0, [], rfl, (ownY_new w1 (Nat.le_refl _)).mono (by omega), ⟨fun q => absurd q HN.out, fun _ => rfl⟩, k1.alloc (by omega) _⟩
    · by_cases hp1 : per < 1
      · go_wp2_with fail
        go_ret
        exact ⟨w1.heap.size, 0, [], rfl, (ownY_new w1 (Nat.le_refl _)).mono (by omega), ⟨fun q => absurd q HN.out, fun _ => rfl⟩, k1.alloc (by omega) _⟩
      · have hp2 : 1000 < per := Int.not_le.1 (fun h => hgd ⟨rfl, by omega, h⟩)
        go_wp2_with fail
        go_ret
        exact ⟨w1.heap.size, 0, [], rfl, (ownY_new w1 (Nat.le_refl _)).mono (by omega), ⟨fun q => absurd q HN.out, fun _ => rfl⟩, k1.alloc (by omega) _⟩
  case pos =>
    obtain ⟨rfl, hp1, hp2⟩ := hgd
    have hG : GoodR es := HG.out.1 rfl
    have HGR : Hid (GoodR es) := hG
    have hesl : es.length ≤ 10000 := hG.1.1
    have n1 : ¬ per < 1 := by omega
    have n2 : ¬ 1000 < per := by omega
    clear hG HG
    obtain ⟨p, hp⟩ : ∃ p : Nat, per = (p : Int) := ⟨per.toNat, by omega⟩
    subst hp
    obtain ⟨W2, hW2⟩ : ∃ W2 : World, W2 = w1.alloc (Obj.cells #[] 35) := ⟨_, rfl⟩
    have hb2 : Below w1.heap.size w1 W2 := by rw [hW2]; exact (Below.refl _ _).alloc (Nat.le_refl _) _
    have hz2 : W2.heap.size = w1.heap.size + 1 := by rw [hW2]; simp
    have HI2 : Hid (EInv w1 p es b off cap es w1.heap.size 0 [] W2) := by
      refine ⟨?_, fun r hr => by simp at hr, hb2, HE.out.1.below hb1 (by omega), ⟨HE.out.2.2.1, HE.out.2.2.2⟩, rfl, by simp⟩
      rw [hW2]
      exact World.ownsRow_made w1 #[] 0 (Nat.le_refl _) (Nat.zero_le _) (by simp)
    have q1 : W2.cell? ⟨w.heap.size, 0, none⟩ = some (.slice (some ⟨b, off, none⟩) es.length cap) := by
      rw [hb2.cell (p := ⟨w.heap.size, 0, none⟩) (by show w.heap.size < w1.heap.size; omega), hb1.cell (p := ⟨w.heap.size, 0, none⟩) (by show w.heap.size < W0.heap.size; omega)]; exact HC0.out
    have HC2 : Hid (W2.cell? ⟨w.heap.size, 0, none⟩ = some (.slice (some ⟨b, off, none⟩) es.length cap)) := q1
    clear q1
    go_upto_region 4 with fail
    rw [← hW2]
    clear hW2
    have q1 := HC2.out
    go_upto_region 5 with fail
    clear q1
    go_loopw [5, 6] (fun x s wr => ∃ (o m q g cp : Nat) (vs : List Ent) (l : List Rm), x = .slice (some ⟨g, 0, none⟩) l.length cp ∧ s = .slice (some ⟨b, o, none⟩) m q ∧ m = vs.length ∧ EInv w1 p es b o q vs g cp l wr) (fun _ s _ => lenOf6 s)
    case atStart => exact ⟨off, _, cap, _, 0, es, [], rfl, rfl, rfl, HI2.out⟩
    case round =>
      obtain ⟨o, m, q, g, cp, vs, l, rfl, rfl, hm, hI⟩ := hrel
      have HI : Hid (EInv w1 p es b o q vs g cp l wr ∧ m = vs.length) := ⟨hI, hm⟩
      have hq : m ≤ q ∧ q ≤ maxLen := by rw [hm]; exact hI.cap
      have hll : l.length + m ≤ 10000 := by have := hI.len; omega
      have HQ : Hid (m ≤ q ∧ q ≤ maxLen) := hq
      have sr := hI.below.size
      clear hI hm hq
      by_cases hlt : p < m
      · have z1 : (p : Int) < (m : Int) := by omega
        have z2 : p ≤ q := by have := HQ.out; omega
        have z3 : ¬ p = q := by have := HQ.out; omega
        have z4 : p ≤ m := by omega
        obtain ⟨W3, hW3⟩ : ∃ W3 : World, W3 = wr.alloc (Obj.cells #[.slice (some ⟨b, o, none⟩) p q] 35) := ⟨_, rfl⟩
        have hb3 : Below wr.heap.size wr W3 := by rw [hW3]; exact (Below.refl _ _).alloc (Nat.le_refl _) _
        have hz3 : W3.heap.size = wr.heap.size + 1 := by rw [hW3]; simp
        have htk : (vs.take p).length = p := by rw [List.length_take, ← HI.out.2]; omega
        have HO3 : Hid (OwnK W3 w1.heap.size g cp l ∧ W3.cell? ⟨wr.heap.size, 0, none⟩ = some (.slice (some ⟨b, o, none⟩) p q)) := ⟨HI.out.1.row.chg (Chg.of_below hb3) (S := fun _ => False) (fun q => q), by rw [hW3]; simp⟩
        go_wp2_with (at_builtin; rw [← hW3]; refine wpList_append_blocks _ rfl _ _ rfl w1.heap.size g cp l.length wr.heap.size 1 1 l [⟨b, o, q, vs.take p⟩] rfl rfl rfl rfl ?hO ?hc ?hl ?hb ?_)
        case hO => exact HO3.out.1
        case hc =>
          intro i r hr
          cases i with
          | zero =>
            simp at hr
            subst hr
            show W3.cell? ⟨wr.heap.size, 0, none⟩ = some (.slice (some ⟨b, o, none⟩) (vs.take p).length q)
            rw [htk]; exact HO3.out.2
          | succ i => simp at hr
        case hl => simp; omega
        case hb => omega
        intro g' cp' w4 hO4 hgr4 hat4
        rw [← hW3] at hgr4
        have HI4 : Hid (EInv w1 p es b (o + p * 6) (q - p) (vs.drop p) g' cp' (l ++ [⟨b, o, q, vs.take p⟩]) w4 ∧ m - p = (vs.drop p).length) := ⟨HI.out.1.step (by omega) (by rw [← HI.out.2]; exact hlt) (by omega) hb3 hO4 hgr4, by rw [List.length_drop, ← HI.out.2]⟩
        clear hO4 hgr4 hat4 hW3 HO3 hb3 hz3 htk
        go_wp2_with fail
        exact ⟨⟨o + p * 6, m - p, q - p, g', cp', vs.drop p, l ++ [⟨b, o, q, vs.take p⟩], by simp, by trivial, HI4.out.2, HI4.out.1⟩, by simp [lenOf6]; omega⟩
      · have z1 : ¬ (p : Int) < (m : Int) := by omega
        have HFin : Hid ((∀ c ∈ chunks p es, OkB c) ∧ (chunks p es).flatten.length ≤ 10000) := ⟨chunks_ok HGR.out.1.2 HE.out.2.1, by rw [chunks_flatten p _ es (Nat.le_refl _)]; exact hesl⟩
        go_upto_region 8 with fail
        go_upto_if 37 with fail
        go_cut [5] (fun s wx => ∃ (g cp : Nat) (l : List Rm), s = .slice (some ⟨g, 0, none⟩) l.length cp ∧ RmsAt wx g 0 l ∧ esM l = chunks p es ∧ Below w1.heap.size w1 wx ∧ g < wx.heap.size)
        case first =>
          by_cases h0 : m = 0
          · have z0 : ¬ (0 : Int) < (m : Int) := by omega
            have HR : Hid (RmsAt wr g 0 l ∧ esM l = chunks p es ∧ Below w1.heap.size w1 wr ∧ g < wr.heap.size) := by
              refine ⟨?_, ?_, HI.out.1.below, HI.out.1.row.lt.2⟩
              · intro i r hr
                rw [Nat.zero_add]
                exact ⟨HI.out.1.row.cell hr, (HI.out.1.ats r (List.mem_of_getElem? hr)).chg (Chg.of_below HI.out.1.below) (S := fun _ => False) (fun q => q)⟩
              · have := HI.out.1.cut
                rw [List.length_eq_zero_iff.1 (show vs.length = 0 by rw [← HI.out.2]; exact h0), chunks_nil, List.append_nil] at this
                exact this
            clear h0
            go_wp2_with fail
            go_meet
            exact ⟨g, cp, l, rfl, HR.out⟩
          · have z0 : (0 : Int) < (m : Int) := by omega
            obtain ⟨W3, hW3⟩ : ∃ W3 : World, W3 = wr.alloc (Obj.cells #[.slice (some ⟨b, o, none⟩) m q] 35) := ⟨_, rfl⟩
            have hb3 : Below wr.heap.size wr W3 := by rw [hW3]; exact (Below.refl _ _).alloc (Nat.le_refl _) _
            have hz3 : W3.heap.size = wr.heap.size + 1 := by rw [hW3]; simp
            have HO3 : Hid (OwnK W3 w1.heap.size g cp l ∧ W3.cell? ⟨wr.heap.size, 0, none⟩ = some (.slice (some ⟨b, o, none⟩) m q)) := ⟨HI.out.1.row.chg (Chg.of_below hb3) (S := fun _ => False) (fun q => q), by rw [hW3]; simp⟩
            go_wp2_with (at_builtin; rw [← hW3]; refine wpList_append_blocks _ rfl _ _ rfl w1.heap.size g cp l.length wr.heap.size 1 1 l [⟨b, o, q, vs⟩] rfl rfl rfl rfl ?hO ?hc ?hl ?hb ?_)
            case hO => first | exact HO3.out.1 | (rw [← hW3]; exact HO3.out.1)
            case hc =>
              try rw [← hW3]
              intro i r hr
              cases i with
              | zero =>
                simp at hr
                subst hr
                first
                  | (show W3.cell? ⟨wr.heap.size, 0, none⟩ = some (.slice (some ⟨b, o, none⟩) vs.length q); rw [← HI.out.2]; exact HO3.out.2)
                  | (show some (Value.slice (some ⟨b, o, none⟩) m q) = some (Value.slice (some ⟨b, o, none⟩) vs.length q); rw [← HI.out.2])
              | succ i => simp at hr
            case hl => first | omega | (simp; omega)
            case hb => first | omega | (rw [← hW3]; omega)
            intro g' cp' w4 hO4 hgr4 hat4
            try rw [← hW3] at hgr4
            obtain ⟨l1, l2, l3⟩ := HI.out.1.last (by rw [← HI.out.2]; exact hlt) (by rw [← HI.out.2]; omega) (by omega) hb3 hO4 hgr4
            obtain ⟨l', hl'⟩ : ∃ l' : List Rm, l' = l ++ [⟨b, o, q, vs⟩] := ⟨_, rfl⟩
            have hln : l.length + 1 = l'.length := by rw [hl', List.length_append]; rfl
            rw [← hl'] at l1 l2 hO4
            have HR : Hid (RmsAt w4 g' 0 l' ∧ esM l' = chunks p es ∧ Below w1.heap.size w1 w4 ∧ g' < w4.heap.size) := by
              refine ⟨?_, l2, l3, hO4.lt.2⟩
              intro i r hr
              rw [Nat.zero_add]
              exact ⟨hO4.cell hr, (l1 r (List.mem_of_getElem? hr)).chg (Chg.of_below l3) (S := fun _ => False) (fun q => q)⟩
            rw [hln]
            clear hO4 hgr4 hat4 hW3 HO3 hb3 hz3 l1 l2 l3 hl' hln h0
            go_wp2_with fail
            go_meet
            exact ⟨g', cp', l', rfl, HR.out⟩
        case rest =>
        obtain ⟨gk, ck, lk, rfl, r1, r2, r3, r4⟩ := hcut
        have HRk : Hid (RmsAt wc gk 0 lk ∧ esM lk = chunks p es) := ⟨r1, r2⟩
        clear r1 r2
        go_wp2_with fail
        refine (l2File_core gk 0 ck lk wc HRk.out.1 (by rw [HRk.out.2]; exact HFin.out.1) r4 (by rw [HRk.out.2]; exact HFin.out.2)).mono ?_
        rintro e w5 ⟨g5, c5, rfl, hO5, hb5⟩
        rw [HRk.out.2] at hO5 ⊢
        have sc := r3.size
        go_wp2_with fail
        go_ret
        refine ⟨g5, c5, _, rfl, hO5.mono (by omega), ⟨fun _ => rfl, fun q => absurd ⟨HGR.out, hp1, hp2⟩ q⟩, ?_⟩
        exact (k1.trans (r3.mono (by omega))).trans (hb5.mono (by omega))
end Go.Proofs.YtlgeffinhbodeaeGreatDoor

/-
  impl.EncodeRun at any run and any number of entries a block.
-/
namespace Go.Proofs.YtlgeffinhbodeaeGreatDoor
open Go.ChangeShapes Go.WideShapes Go.ChangeAt Go.RowKit Go.Deep Go.Shelf
set_option linter.unusedVariables false
set_option linter.unusedSimpArgs false
set_option maxRecDepth 100000

set_option maxHeartbeats 4000000 in
theorem encBad (b off cap : Nat) (per : Int) (es : List Ent) (w : World) (hE : EntsAt w b off es) (hok : ∀ e ∈ es, e.ok) (hB : b < w.heap.size) (hlen : es.length ≤ cap) (hcap : cap ≤ maxLen) (hn : ¬ (GoodR es ∧ 1 ≤ per ∧ per ≤ 1000)) :
    Calls Tryz.prog 16 #[.agg #[.slice (some ⟨b, off, none⟩) es.length cap], .int .i64 per] w fun r w' =>
      ∃ (g cp : Nat), r = .returned (.slice (some ⟨g, 0, none⟩) 0 cp) ∧ OwnY w' w.heap.size g cp [] ∧ Below w.heap.size w w' := by
  obtain ⟨W0, hW0⟩ : ∃ W0 : World, W0 = w.alloc (Obj.cells #[.slice (some ⟨b, off, none⟩) es.length cap] 37) := ⟨_, rfl⟩
  have HW0 : Hid (BoxAt W0 w.heap.size 37 1 w.heap.size [.slice (some ⟨b, off, none⟩) es.length cap] ∧ Below w.heap.size w W0) := by
    rw [hW0]; exact ⟨boxAt_new w _ (Nat.le_refl _) rfl, (Below.refl _ _).alloc (Nat.le_refl _) _⟩
  have HV : Hid (1 ≤ per → per ≤ 1000 → Calls Tryz.prog 41 #[.agg #[.slice (some ⟨b, off, none⟩) es.length cap]] W0 fun e w' => e = .returned (.bool false) ∧ Below W0.heap.size W0 w') := by
    intro h1 h2
    refine (implValidRun_core b off cap es W0 (hE.below HW0.out.2 hB) hok (by have := HW0.out.2.size; omega) hlen hcap).mono ?_
    rintro e w' ⟨r, rfl, hr, hb⟩
    refine ⟨?_, hb⟩
    cases r
    · rfl
    · exact absurd ⟨hr.1 rfl, h1, h2⟩ hn
  have s0 := HW0.out.2.size
  have c0 := HW0.out.1.cell (j := 0) rfl
  clear hE hok hcap hn hlen
  by_cases hp1 : per < 1
  · go_enter Tryz.func16, Tryz.ntmps16
    go_upto_region 1 with fail
    rw [← hW0]
    clear hW0
    go_wp2_with fail
    go_ret
    exact ⟨W0.heap.size, 0, rfl, (ownY_new W0 (Nat.le_refl _)).mono (by omega), HW0.out.2.alloc (by omega) _⟩
  by_cases hp2 : 1000 < per
  · go_enter Tryz.func16, Tryz.ntmps16
    go_upto_region 1 with fail
    rw [← hW0]
    clear hW0
    go_wp2_with fail
    go_ret
    exact ⟨W0.heap.size, 0, rfl, (ownY_new W0 (Nat.le_refl _)).mono (by omega), HW0.out.2.alloc (by omega) _⟩
  · go_enter Tryz.func16, Tryz.ntmps16
    go_upto_region 1 with fail
    rw [← hW0]
    clear hW0
    go_wp2_with fail
    refine (HV.out (by omega) (by omega)).mono ?_
    rintro e w1 ⟨rfl, hb1⟩
    have s1 := hb1.size
    have k1 : Below w.heap.size w w1 := HW0.out.2.trans (hb1.mono s0)
    go_wp2_with fail
    go_ret
    exact ⟨w1.heap.size, 0, rfl, (ownY_new w1 (Nat.le_refl _)).mono (by omega), k1.alloc (by omega) _⟩

theorem implEnc_core (b off cap : Nat) (es : List Ent) (per : Int) (w : World) (hE : EntsAt w b off es) (hok : ∀ e ∈ es, e.ok) (hB : b < w.heap.size) (hlen : es.length ≤ cap) (hcap : cap ≤ maxLen) :
    Calls Tryz.prog 16 #[.agg #[.slice (some ⟨b, off, none⟩) es.length cap], .int .i64 per] w fun r w' =>
      ∃ (g cp : Nat) (xs : List UInt8), r = .returned (.slice (some ⟨g, 0, none⟩) xs.length cp) ∧ OwnY w' w.heap.size g cp xs ∧ EncOf es per xs ∧ Below w.heap.size w w' := by
  by_cases hgd : GoodR es ∧ 1 ≤ per ∧ per ≤ 1000
  · obtain ⟨hG, hp1, hp2⟩ := hgd
    obtain ⟨p, hp⟩ : ∃ p : Nat, per = (p : Int) := ⟨per.toNat, by omega⟩
    subst hp
    refine (encGood b off cap p es w hE hok hG hB hlen hcap (by omega) (by omega)).mono ?_
    rintro r w' ⟨g, cp, m, rfl, hm, hO, hb⟩
    exact ⟨g, cp, _, by rw [hm], hO, ⟨fun _ => by rw [Int.toNat_natCast], fun q => absurd ⟨hG, hp1, hp2⟩ q⟩, hb⟩
  · refine (encBad b off cap per es w hE hok hB hlen hcap hgd).mono ?_
    rintro r w' ⟨g, cp, rfl, hO, hb⟩
    exact ⟨g, cp, [], rfl, hO, ⟨fun q => absurd q hgd, fun _ => rfl⟩, hb⟩

end Go.Proofs.YtlgeffinhbodeaeGreatDoor

/-
  Runs in memory, one behind another.
-/
namespace Go.Proofs.YtlgeffinhbodeaeGreatDoor
open Go.ChangeShapes Go.WideShapes Go.ChangeAt Go.RowKit Go.Deep
set_option linter.unusedVariables false
set_option linter.unusedSimpArgs false

/-- A run: the slice that it holds, and what that reads as. -/
structure Rn where
  u : Value
  es : List Ent
def RunsAt (w : World) (b off : Nat) (rs : List Rn) : Prop := ∀ i r, rs[i]? = some r → w.cell? ⟨b, off + i, none⟩ = some r.u ∧ InEnts w r.u r.es
theorem RunsAt.below {w w' : World} {b off : Nat} {rs : List Rn} (h : RunsAt w b off rs) (hb : Below w.heap.size w w') (hlt : b < w.heap.size) : RunsAt w' b off rs := by
  intro i r hr
  obtain ⟨h1, h2⟩ := h i r hr
  exact ⟨by rw [hb.cell (p := ⟨b, off + i, none⟩) (by exact hlt)]; exact h1, h2.below hb (Nat.le_refl _)⟩
def InRuns (w : World) (v : Value) (rs : List Rn) : Prop :=
  (∃ a cap, v = .slice a 0 cap ∧ rs = []) ∨ ∃ b off cap, v = .slice (some ⟨b, off, none⟩) rs.length cap ∧ RunsAt w b off rs ∧ b < w.heap.size ∧ rs.length ≤ cap ∧ cap ≤ maxLen
theorem InRuns.below {w w' : World} {v : Value} {rs : List Rn} (h : InRuns w v rs) (hb : Below w.heap.size w w') : InRuns w' v rs := by
  rcases h with h | ⟨b, off, cap, hv, hE, hlt, h1, h2⟩
  · exact .inl h
  · exact .inr ⟨b, off, cap, hv, hE.below hb hlt, by have := hb.size; omega, h1, h2⟩
theorem InEnts.ucells {w : World} {v : Value} {es : List Ent} (h : InEnts w v es) : v.cells = #[v] := by
  rcases h with ⟨a, cap, rfl, _⟩ | ⟨b, off, cap, rfl, _⟩ <;> rfl
def okR (rs : List Rn) : Prop := ∀ r ∈ rs, ∀ e ∈ r.es, e.ok
/-- How many entries there are. -/
def tot : List Rn → Nat
  | [] => 0
  | r :: rs => r.es.length + tot rs
theorem tot_append : ∀ (a b : List Rn), tot (a ++ b) = tot a + tot b
  | [], b => by simp [tot]
  | r :: a, b => by simp [tot, tot_append a b]; omega
theorem tot_take {rs : List Rn} {k : Nat} {r : Rn} (h : rs[k]? = some r) : tot (rs.take (k + 1)) = tot (rs.take k) + r.es.length := by
  rw [List.take_add_one, h, tot_append]; simp [tot]
theorem tot_le (rs : List Rn) (k : Nat) : tot (rs.take k) ≤ tot rs := by
  have h := tot_append (rs.take k) (rs.drop k)
  rw [List.take_append_drop] at h
  omega
theorem tot_mem {rs : List Rn} {k : Nat} {r : Rn} (h : rs[k]? = some r) : r.es.length ≤ tot rs := by
  have h1 := tot_take h
  have h2 := tot_le rs (k + 1)
  omega

/-! ### Runs of the call's own -/

/-- The runs' slices. -/
def usOf (l : List (Nat × List Ent)) : List Value := l.map fun p => .slice (some ⟨p.1, 0, none⟩) p.2.length p.2.length
def rnsOf (l : List (Nat × List Ent)) : List Rn := l.map fun p => ⟨.slice (some ⟨p.1, 0, none⟩) p.2.length p.2.length, p.2⟩
def esOf (rs : List Rn) : List (List Ent) := rs.map Rn.es
/-- Rows of the call's own, in blocks that rise. -/
def OwnRs (w : World) (base : Nat) (l : List (Nat × List Ent)) : Prop := l.Pairwise (fun p q => p.1 < q.1) ∧ ∀ p ∈ l, OwnE w base p.1 p.2.length p.2
/-- The row of the runs itself. -/
def OwnR (w : World) (base g : Nat) (us : List Value) : Prop := w.ownsRow base 37 1 (.slice (some ⟨g, 0, none⟩) us.length us.length) us.length us
theorem OwnR.lt {w : World} {base g : Nat} {us : List Value} (h : OwnR w base g us) : base ≤ g ∧ g < w.heap.size := World.ownsRow.lt h g rfl
theorem OwnR.below {B : Nat} {w w' : World} {base g : Nat} {us : List Value} (h : OwnR w base g us) (hb : Below B w w') (hg : g < B) : OwnR w' base g us := by
  refine ⟨h.1, ?_⟩
  rcases h.2 with hn | ⟨g', cap', cur, hv, h1, h2, rest⟩
  · exact .inl hn
  · simp only [Value.slice.injEq, Option.some.injEq, Addr.mk.injEq, and_true, true_and] at hv
    obtain ⟨rfl, hc⟩ := hv
    exact .inr ⟨g, cap', cur, by rw [hc], h1, by rw [hb.block g hg]; exact h2, rest⟩
theorem OwnR.set {w : World} {base g : Nat} {us : List Value} (h : OwnR w base g us) (k : Nat) (u : Value) : OwnR (w.setCell ⟨g, k, none⟩ u) base g (us.set k u) := by
  have := (World.ownsRow.stored h k u).1
  unfold OwnR
  rw [List.length_set]
  exact this
theorem OwnR.cell {w : World} {base g : Nat} {us : List Value} (h : OwnR w base g us) {k : Nat} {u : Value} (hu : us[k]? = some u) : w.cell? ⟨g, k, none⟩ = some u := by
  have hk : k < us.length := (List.getElem?_eq_some_iff.1 hu).1
  exact (World.ownsRow.cellAt h k (by omega)).trans hu
theorem OwnE.setNe {w : World} {base g cap : Nat} {es : List Ent} (h : OwnE w base g cap es) (g' k : Nat) (u : Value) (hne : g ≠ g') : OwnE (w.setCell ⟨g', k, none⟩ u) base g cap es :=
  World.ownsRow.kept h (grown_set w g' k u) (.inr (fun q => hne (Option.some.inj q)))

theorem Tryz.infoRun : (Tryz.prog.info? 37).map (fun i => (i.zero, i.size, i.bytes)) = some (some (.agg #[.slice none 0 0]), 1, 24) := by kernel_rfl
theorem made_runs (n : Nat) : (madeCells #[.slice none 0 0] n).toList = List.replicate n (.slice none 0 0) := by
  apply List.ext_getElem?
  intro j
  by_cases hj : j < n
  · simp [madeCells, hj, Nat.mod_one]
  · simp [madeCells, hj]
theorem usOf_get {l : List (Nat × List Ent)} {i : Nat} {p : Nat × List Ent} (h : l[i]? = some p) : (usOf l)[i]? = some (.slice (some ⟨p.1, 0, none⟩) p.2.length p.2.length) := by
  unfold usOf; rw [List.getElem?_map, h]; rfl
theorem inRuns_own {w : World} {base g : Nat} {l : List (Nat × List Ent)} (h : OwnR w base g (usOf l)) (hr : OwnRs w base l) (hl : l.length ≤ maxLen) (hc : ∀ p ∈ l, p.2.length ≤ maxLen) :
    InRuns w (.slice (some ⟨g, 0, none⟩) l.length l.length) (rnsOf l) := by
  refine .inr ⟨g, 0, l.length, by simp [rnsOf], fun i r hi => ?_, h.lt.2, by simp [rnsOf], hl⟩
  unfold rnsOf at hi
  rw [List.getElem?_map] at hi
  cases hp : l[i]? with
  | none => rw [hp] at hi; cases hi
  | some p =>
    rw [hp] at hi
    simp at hi
    subst hi
    have hm := List.mem_of_getElem? hp
    refine ⟨?_, InEnts.own (hr.2 p hm) (Nat.le_refl _) (hc p hm)⟩
    rw [Nat.zero_add]
    exact h.cell (usOf_get hp)
end Go.Proofs.YtlgeffinhbodeaeGreatDoor

/-
  The draws: a row of runs; the runs of one list of writes.
-/
namespace Go.Proofs.YtlgeffinhbodeaeGreatDoor
open Go.ChangeShapes Go.WideShapes Go.ChangeAt Go.RowKit Go.Deep
set_option linter.unusedVariables false
set_option linter.unusedSimpArgs false
set_option maxRecDepth 100000

theorem EntsAt.dropped {w : World} {b off : Nat} {es : List Ent} (h : EntsAt w b off es) (k : Nat) : EntsAt w b (off + k * 6) (es.drop k) := by
  intro i e he
  rw [List.getElem?_drop] at he
  have := h (k + i) e he
  rw [show off + (k + i) * 6 = off + k * 6 + i * 6 by omega] at this
  exact this
theorem EntsAt.taken {w : World} {b off : Nat} {es : List Ent} (h : EntsAt w b off es) (k : Nat) : EntsAt w b off (es.take k) := by
  intro i e he
  refine h i e ?_
  by_cases hi : i < k
  · rwa [List.getElem?_take_of_lt hi] at he
  · have := (List.getElem?_eq_some_iff.1 he).1
    simp at this
    omega

/-- A row of runs, of the call's own. -/
def OwnW (w : World) (base g cp : Nat) (l : List Rm) : Prop := w.ownsRow base 37 1 (.slice (some ⟨g, 0, none⟩) l.length cp) l.length (l.map Rm.u)
theorem OwnW.lt {w : World} {base g cp : Nat} {l : List Rm} (h : OwnW w base g cp l) : base ≤ g ∧ g < w.heap.size := World.ownsRow.lt h g rfl
theorem OwnW.chg {S : Nat → Prop} {w w' : World} {base g cp : Nat} {l : List Rm} (h : OwnW w base g cp l) (hc : Chg S w w') (hn : ¬ S g) : OwnW w' base g cp l := own_chg h hc (fun k q => by simp [Value.ownBlock] at q; subst q; exact hn)
theorem OwnW.cell {w : World} {base g cp : Nat} {l : List Rm} (h : OwnW w base g cp l) {k : Nat} {r : Rm} (hr : l[k]? = some r) : w.cell? ⟨g, k, none⟩ = some r.u := by
  have hk := (List.getElem?_eq_some_iff.1 hr).1
  rw [World.ownsRow.cellAt h k (by omega), List.getElem?_map, hr]; rfl
theorem OwnW.set {w : World} {base g cp : Nat} {l : List Rm} (h : OwnW w base g cp l) (k : Nat) (r : Rm) : OwnW (w.setCell ⟨g, k, none⟩ r.u) base g cp (l.set k r) := by
  have := (World.ownsRow.stored h k r.u).1
  unfold OwnW
  rw [List.length_set, List.map_set]
  exact this
theorem rm_one (l : List Rm) : ∀ u ∈ l.map Rm.u, u.oneCell' = true := by
  intro u hu
  obtain ⟨r, _, rfl⟩ := List.mem_map.1 hu
  rfl
/-- A drawn run. -/
structure Rm.drawn (H g : Nat) (w : World) (r : Rm) : Prop where
  at_ : r.at w
  ok : ∀ e ∈ r.es, e.small
  len : r.es.length ≤ 101
  ne : ¬ r.b = g
  new : H ≤ r.b
structure RInv (base cb : Nat) (bv : Value) (n : Nat) (w : World) (g cp : Nat) (l : List Rm) (wr : World) : Prop where
  row : OwnW wr w.heap.size g cp l
  ats : ∀ r ∈ l, r.drawn w.heap.size g wr
  d : DrawAt base cb bv n wr
  c : Chg (fun k => k = cb) w wr
  lt : cb < w.heap.size
  hb : base ≤ w.heap.size
theorem Rm.drawn.chg {S : Nat → Prop} {H g : Nat} {w w' : World} {r : Rm} (h : r.drawn H g w) (hc : Chg S w w') (hn : ¬ S r.b) : r.drawn H g w' := ⟨h.at_.chg hc hn, h.ok, h.len, h.ne, h.new⟩
theorem RInv.call {base cb : Nat} {bv : Value} {n : Nat} {w : World} {g cp : Nat} {l : List Rm} {wr w1 : World} (h : RInv base cb bv n w g cp l wr) (hd : Drew base cb bv n wr w1) : RInv base cb bv n w g cp l w1 := by
  have hg := h.row.lt
  have hl := h.lt
  exact ⟨h.row.chg hd.2 (by omega), fun r hr => (h.ats r hr).chg hd.2 (by have := (h.ats r hr).new; omega), hd.1, h.c.trans hd.2, h.lt, h.hb⟩
theorem RInv.below {base cb : Nat} {bv : Value} {n : Nat} {w : World} {g cp : Nat} {l : List Rm} {wr w1 : World} (h : RInv base cb bv n w g cp l wr) (hb : Below wr.heap.size wr w1) : RInv base cb bv n w g cp l w1 :=
  h.call ⟨h.d.below hb, Chg.of_below hb⟩

def lenOf : Value → Nat
  | .slice _ m _ => m
  | _ => 0
/-- The loop of the cuts. -/
structure CInv (base cb : Nat) (bv : Value) (n : Nat) (w : World) (gw o m q : Nat) (ws : List Ent) (g cp : Nat) (l : List Rm) (wr : World) : Prop extends RInv base cb bv n w g cp l wr where
  ents : EntsAt wr gw o ws
  wl : ws.length = m
  sm : ∀ e ∈ ws, e.small
  wlt : w.heap.size ≤ gw ∧ gw < wr.heap.size
  mc : m ≤ q ∧ q ≤ maxLen
  cnt : m + l.length ≤ 100
  short : ∀ r ∈ l, r.es.length ≤ 100
theorem CInv.call {base cb : Nat} {bv : Value} {n : Nat} {w : World} {gw o m q : Nat} {ws : List Ent} {g cp : Nat} {l : List Rm} {wr w1 : World} (h : CInv base cb bv n w gw o m q ws g cp l wr) (hd : Drew base cb bv n wr w1) : CInv base cb bv n w gw o m q ws g cp l w1 := by
  have hl := h.lt
  have hw := h.wlt
  have hz := hd.2.size
  exact { h.toRInv.call hd with ents := h.ents.chg hd.2 hw.2 (by omega), wl := h.wl, sm := h.sm, wlt := ⟨hw.1, by omega⟩, mc := h.mc, cnt := h.cnt, short := h.short }

end Go.Proofs.YtlgeffinhbodeaeGreatDoor

/-
  The draws: a range; an entry spoilt.
-/
namespace Go.Proofs.YtlgeffinhbodeaeGreatDoor
open Go.ChangeShapes Go.WideShapes Go.ChangeAt Go.RowKit Go.Deep
set_option linter.unusedVariables false
set_option linter.unusedSimpArgs false
set_option maxRecDepth 100000

/-- Two variables of one struct type of the call's own, beside the drawing: the one at work and the one that is handed back. -/
structure XInv (base cb : Nat) (bv : Value) (n : Nat) (w : World) (T sz vb rb : Nat) (vs zs : List Value) (wr : World) : Prop where
  var : wr.ownsRow w.heap.size T sz (.slice (some ⟨vb, 0, none⟩) 1 1) 1 vs
  res : wr.ownsRow w.heap.size T sz (.slice (some ⟨rb, 0, none⟩) 1 1) 1 zs
  ne : ¬ vb = rb
  d : DrawAt base cb bv n wr
  c : Chg (fun k => k = cb) w wr
  lt : cb < w.heap.size
  hb : base ≤ w.heap.size
theorem XInv.call {base cb : Nat} {bv : Value} {n : Nat} {w : World} {T sz vb rb : Nat} {vs zs : List Value} {wr w1 : World} (h : XInv base cb bv n w T sz vb rb vs zs wr) (hd : Drew base cb bv n wr w1) : XInv base cb bv n w T sz vb rb vs zs w1 :=
  ⟨own_chg h.var hd.2 (fun k q => by have h1 := (World.ownsRow.lt h.var k q).1; have := h.lt; omega), own_chg h.res hd.2 (fun k q => by have h1 := (World.ownsRow.lt h.res k q).1; have := h.lt; omega), h.ne, hd.1, h.c.trans hd.2, h.lt, h.hb⟩
theorem XInv.below {base cb : Nat} {bv : Value} {n : Nat} {w : World} {T sz vb rb : Nat} {vs zs : List Value} {wr w1 : World} (h : XInv base cb bv n w T sz vb rb vs zs wr) (hb : Below wr.heap.size wr w1) : XInv base cb bv n w T sz vb rb vs zs w1 :=
  h.call ⟨h.d.below hb, Chg.of_below hb⟩
theorem XInv.set {base cb : Nat} {bv : Value} {n : Nat} {w : World} {T sz vb rb : Nat} {vs zs : List Value} {wr : World} (h : XInv base cb bv n w T sz vb rb vs zs wr) (j : Nat) (u : Value) : XInv base cb bv n w T sz vb rb (vs.set j u) zs (wr.setCell ⟨vb, j, none⟩ u) := by
  have hl := World.ownsRow.lt h.var vb rfl
  have hcb := h.lt
  have hbb := h.hb
  have hcg : Chg (fun k => k = vb) wr (wr.setCell ⟨vb, j, none⟩ u) := Chg.of_set _ _ _ _ rfl
  exact ⟨(World.ownsRow.stored h.var j u).1, own_chg h.res hcg (fun k q => by simp [Value.ownBlock] at q; subst q; exact fun q => h.ne q.symm), h.ne, h.d.chg hcg (by omega) (fun k q => by omega), Chg.grown_new h.c (grown_set wr vb j u) (fun k hk => by cases hk; exact hl.1), h.lt, h.hb⟩
theorem XInv.setRes {base cb : Nat} {bv : Value} {n : Nat} {w : World} {T sz vb rb : Nat} {vs zs : List Value} {wr : World} (h : XInv base cb bv n w T sz vb rb vs zs wr) (j : Nat) (u : Value) : XInv base cb bv n w T sz vb rb vs (zs.set j u) (wr.setCell ⟨rb, j, none⟩ u) := by
  have hl := World.ownsRow.lt h.res rb rfl
  have hcb := h.lt
  have hbb := h.hb
  have hcg : Chg (fun k => k = rb) wr (wr.setCell ⟨rb, j, none⟩ u) := Chg.of_set _ _ _ _ rfl
  exact ⟨own_chg h.var hcg (fun k q => by simp [Value.ownBlock] at q; subst q; exact h.ne), (World.ownsRow.stored h.res j u).1, h.ne, h.d.chg hcg (by omega) (fun k q => by omega), Chg.grown_new h.c (grown_set wr rb j u) (fun k hk => by cases hk; exact hl.1), h.lt, h.hb⟩
theorem XInv.cell {base cb : Nat} {bv : Value} {n : Nat} {w : World} {T sz vb rb : Nat} {vs zs : List Value} {wr : World} (h : XInv base cb bv n w T sz vb rb vs zs wr) (j : Nat) (hj : j < 1 * sz) : wr.cell? ⟨vb, j, none⟩ = vs[j]? ∧ wr.frozen? ⟨vb, j, none⟩ = false :=
  ⟨World.ownsRow.cellAt h.var j hj, World.ownsRow.frozenAt h.var j⟩
theorem XInv.cellRes {base cb : Nat} {bv : Value} {n : Nat} {w : World} {T sz vb rb : Nat} {vs zs : List Value} {wr : World} (h : XInv base cb bv n w T sz vb rb vs zs wr) (j : Nat) (hj : j < 1 * sz) : wr.cell? ⟨rb, j, none⟩ = zs[j]? ∧ wr.frozen? ⟨rb, j, none⟩ = false :=
  ⟨World.ownsRow.cellAt h.res j hj, World.ownsRow.frozenAt h.res j⟩

abbrev rgv (lo : ByteArray) (hh : Bool) (hi : ByteArray) : List Value := [.string lo, .bool hh, .string hi]
end Go.Proofs.YtlgeffinhbodeaeGreatDoor

/-
  The draws: the runs and the range of a merge.
-/
namespace Go.Proofs.YtlgeffinhbodeaeGreatDoor
open Go.ChangeShapes Go.WideShapes Go.ChangeAt Go.RowKit Go.Deep
set_option linter.unusedVariables false
set_option linter.unusedSimpArgs false
set_option maxRecDepth 100000

theorem OwnW.mono {w : World} {base base' g cp : Nat} {l : List Rm} (h : OwnW w base g cp l) (hb : base' ≤ base) : OwnW w base' g cp l := by
  refine ⟨h.1, ?_⟩
  rcases h.2 with h0 | ⟨g', cap', cur, hv, h1, h2⟩
  · exact .inl h0
  · exact .inr ⟨g', cap', cur, hv, Nat.le_trans hb h1, h2⟩
theorem CodeAt.slice {w : World} {base : Nat} {bv : Value} {n : Nat} (h : CodeAt w base bv n) : ∃ a cap, bv = .slice a n cap := by
  rcases h.2 with ⟨a, cap, rfl, rfl⟩ | ⟨b, off, cap, rfl, _⟩
  · exact ⟨_, _, rfl⟩
  · exact ⟨_, _, rfl⟩
theorem CodeAt.up {w w' : World} {bv : Value} {n : Nat} (h : CodeAt w w.heap.size bv n) (hb : Below w.heap.size w w') : CodeAt w' w'.heap.size bv n := by
  refine ⟨h.1, ?_⟩
  rcases h.2 with h | ⟨b, off, cap, rfl, hlt, hc⟩
  · exact .inl h
  · refine .inr ⟨b, off, cap, rfl, by have := hb.size; omega, fun k hk => ?_⟩
    obtain ⟨x, h1, h2⟩ := hc k hk
    exact ⟨x, by rw [hb.cell (p := ⟨b, off + k, none⟩) hlt]; exact h1, h2⟩
/-- One run of the row is spoilt. -/
theorem RInv.spoil {base cb : Nat} {bv : Value} {n : Nat} {w : World} {g cp : Nat} {l : List Rm} {wr w1 : World} (h : RInv base cb bv n w g cp l wr) {r r' : Rm} (hr : l[0]? = some r) (hl : r.es.length ≤ 100) (hs : SpoilOf wr r.b r.es r' w1) (hd : Drew base cb bv n wr w1) : RInv base cb bv n w g cp (l.set 0 r') (w1.setCell ⟨g, 0, none⟩ r'.u) := by
  have h1 := h.call hd
  have hg := h.row.lt
  have hcb := h.lt
  have hbb := h.hb
  have hrb := h.ats r (List.mem_of_getElem? hr)
  have hz := hd.2.size
  have hcs := h.c.size
  have hcg : Chg (fun k => k = g) w1 (w1.setCell ⟨g, 0, none⟩ r'.u) := Chg.of_set _ _ _ _ rfl
  have hlr := hrb.at_.lt
  refine ⟨h1.row.set 0 r', ?_, h1.d.chg hcg (by omega) (fun k q => by omega), Chg.grown_new h1.c (grown_set w1 g 0 _) (fun k hk => by cases hk; omega), h.lt, h.hb⟩
  intro x hx
  rcases List.mem_or_eq_of_mem_set hx with q | rfl
  · exact (h1.ats x q).chg hcg (h1.ats x q).ne
  · have hne : ¬ x.b = g := by
      rcases hs.blk with q | q
      · rw [q]; exact hrb.ne
      · omega
    refine ⟨hs.at_.chg hcg hne, hs.ok, by have := hs.len; omega, hne, ?_⟩
    rcases hs.blk with q | q
    · rw [q]; exact hrb.new
    · omega
/-- One more run. -/
theorem RInv.push {base cb : Nat} {bv : Value} {n : Nat} {w : World} {g cp : Nat} {l : List Rm} {wr w1 w2 : World} {o : Obj} {g2 cp2 : Nat} {R : List Ent} (h : RInv base cb bv n w g cp l wr) (hL : LInv base cb bv n wr g2 cp2 R w1) (hR : R.length ≤ 100) {g' cp' : Nat}
    (hO : OwnW w2 w.heap.size g' cp' (l ++ [⟨g2, 0, cp2, R⟩])) (hgr : (w1.alloc o).grownBy w2 (some g)) (hat : g' = g ∨ g' = w1.heap.size + 1) : RInv base cb bv n w g' cp' (l ++ [⟨g2, 0, cp2, R⟩]) w2 := by
  have hb : Below w1.heap.size w1 (w1.alloc o) := (Below.refl _ _).alloc (Nat.le_refl _) _
  have h1 := (h.call ⟨hL.d, hL.c⟩).below hb
  have hg := h.row.lt
  have hcb := h.lt
  have hbb := h.hb
  have hz := hL.c.size
  have hzo : (w1.alloc o).heap.size = w1.heap.size + 1 := by simp
  have hcs := h.c.size
  have hg2 := hL.row.lt
  have hcg : Chg (fun k => k = g) (w1.alloc o) w2 := Chg.of_grown hgr (fun k hk => by cases hk; rfl)
  have hcap : R.length ≤ cp2 ∧ cp2 ≤ maxLen := by
    rcases hL.row.2 with ⟨h0, _⟩ | ⟨g', cap', cur, hv, _, _, hn, hcap, _, _⟩
    · cases h0
    · simp only [Value.slice.injEq, Option.some.injEq, Addr.mk.injEq, and_true, true_and] at hv
      obtain ⟨rfl, rfl⟩ := hv
      exact ⟨hn, hcap⟩
  refine ⟨hO, ?_, h1.d.chg hcg (by omega) (fun k q => by omega), Chg.grown_new h1.c hgr (fun k hk => by cases hk; omega), h.lt, h.hb⟩
  intro x hx
  rcases List.mem_append.1 hx with q | q
  · have h0 := h.ats x q
    have h2 := h1.ats x q
    have hl := h0.at_.lt
    refine ⟨h2.at_.chg hcg h2.ne, h2.ok, h2.len, ?_, h2.new⟩
    rcases hat with rfl | rfl
    · exact h2.ne
    · omega
  · simp at q
    subst q
    have ha : (⟨g2, 0, cp2, R⟩ : Rm).at w1 := ⟨hL.row.at, hL.row.lt.2, hcap.1, hcap.2⟩
    refine ⟨(ha.below hb).chg hcg (by show ¬ g2 = g; omega), hL.ok, by show R.length ≤ 101; omega, ?_, by show w.heap.size ≤ g2; omega⟩
    show ¬ g2 = g'
    omega

/-- What a drawing of a merge gives. -/
structure DrawnM (w : World) (g cp : Nat) (l : List Rm) (w' : World) : Prop where
  row : OwnW w' w.heap.size g cp l
  ats : ∀ r ∈ l, r.drawn w.heap.size g w'
  len : l.length ≤ 200
  below : Below w.heap.size w w'

end Go.Proofs.YtlgeffinhbodeaeGreatDoor

/-
  The draws: a list of writes, one of them perhaps spoilt.
-/
namespace Go.Proofs.YtlgeffinhbodeaeGreatDoor
open Go.ChangeShapes Go.WideShapes Go.ChangeAt Go.RowKit Go.Deep
set_option linter.unusedVariables false
set_option linter.unusedSimpArgs false
set_option maxRecDepth 100000

structure DrawnW (w : World) (g cp : Nat) (es : List Ent) (w' : World) : Prop where
  row : OwnE w' w.heap.size g cp es
  ok : ∀ e ∈ es, e.small
  len : es.length ≤ 100
  below : Below w.heap.size w w'
theorem LInv.drawn {cb : Nat} {bv : Value} {n : Nat} {w w1 : World} {g cp : Nat} {es : List Ent} {wr : World} (h : LInv cb cb bv n w1 g cp es wr) (hb : Below w.heap.size w w1) (hl : es.length ≤ 100) (hcb : w.heap.size ≤ cb) : DrawnW w g cp es wr := by
  have := hb.size
  have := h.lt
  exact ⟨OwnE.mono h.row (by omega), h.ok, hl, Chg.below hb h.c (by omega) (fun k q => by omega)⟩

set_option maxHeartbeats 4000000 in
theorem drawBuild_core (bv : Value) (n : Nat) (w : World) (h : CodeAt w w.heap.size bv n) :
    Calls Tryz.prog 40 #[bv] w fun x w' => ∃ (g cp : Nat) (es : List Ent), x = .returned (.slice (some ⟨g, 0, none⟩) es.length cp) ∧ DrawnW w g cp es w' := by
  obtain ⟨a, cap, rfl⟩ := h.slice
  have hn := h.1
  have HC : Hid (CodeAt w w.heap.size (.slice a n cap) n) := h
  clear h
  go_enter Tryz.func40, Tryz.ntmps40
  go_wp2_with fail
  refine (new_core _ n w HC.out).mono ?_
  rintro e w1 ⟨rfl, hd1, hb1⟩
  have hz1 := hb1.size
  have HD1 : Hid (DrawAt w.heap.size w.heap.size (.slice a n cap) n w1) := hd1
  have hcb1 := hd1.lt
  clear hd1
  go_wp2_with fail
  refine (size_core a n cap w1 hn).mono ?_
  rintro e w1' ⟨k, rfl, hk, hw⟩
  rw [hw]
  clear hw w1'
  go_wp2_with fail
  refine (writes_core w.heap.size w.heap.size (.slice a n cap) n k w1 HD1.out (Nat.le_trans hk (by decide))).mono ?_
  rintro e w2 ⟨g, cp, es, rfl, hl, hL2⟩
  have HL2 : Hid (LInv w.heap.size w.heap.size (.slice a n cap) n w1 g cp es w2) := hL2
  clear hL2
  go_upto_region 3 with fail
  go_cut [18] (fun s wx => ∃ b : Bool, s = .bool b ∧ (b = true → 0 < es.length) ∧ LInv w.heap.size w.heap.size (.slice a n cap) n w1 g cp es wx)
  case first =>
    go_wp2_with fail
    refine (once_core _ _ _ n 15 _ HL2.out.d (by omega) (by omega)).mono ?_
    rintro e w3 ⟨v, rfl, hv, hd3⟩
    have H3 : Hid (LInv w.heap.size w.heap.size (.slice a n cap) n w1 g cp es w3) := HL2.out.call hd3
    clear hd3
    rcases hv with rfl | rfl
    · go_wp2_with fail
      go_meet
      exact ⟨decide (0 < es.length), rfl, by simp, H3.out⟩
    · go_wp2_with fail
      go_meet
      exact ⟨false, rfl, (fun q => by cases q), H3.out⟩
  case rest =>
    obtain ⟨b, rfl, hb0, hR3⟩ := hcut
    have HR3 : Hid (LInv w.heap.size w.heap.size (.slice a n cap) n w1 g cp es wc) := hR3
    clear hR3
    cases b
    · go_wp2_with fail
      go_ret
      exact ⟨g, cp, es, rfl, HR3.out.drawn hb1 hl (Nat.le_refl _)⟩
    · have h0 := hb0 rfl
      clear hb0
      have hm1 : es.length ≤ 1048576 := by omega
      obtain ⟨m, hm⟩ : ∃ m, es.length = m := ⟨_, rfl⟩
      rw [hm] at h0 hl hm1
      rw [hm]
      have HM : Hid (es.length = m) := hm
      clear hm
      go_wp2_with fail
      refine (below_core _ _ _ n (m : Int) wc HR3.out.d (by omega) (by omega)).mono ?_
      rintro e w3 ⟨i, rfl, hi0, hi1, hd3⟩
      obtain ⟨i, rfl⟩ := Int.eq_ofNat_of_zero_le hi0
      clear hi0
      have H3 : Hid (LInv w.heap.size w.heap.size (.slice a n cap) n w1 g cp es w3) := HR3.out.call hd3
      clear hd3
      obtain ⟨x, hx⟩ : ∃ x, es[i]? = some x := ⟨_, List.getElem?_eq_getElem (by have := HM.out; omega)⟩
      have HX : Hid (es[i]? = some x ∧ x.small) := ⟨hx, H3.out.ok x (List.mem_of_getElem? hx)⟩
      clear hx
      obtain ⟨⟨c0, c1, c2, c3, c4, c5⟩, _⟩ := H3.out.at6 i x HX.out.1
      go_wp2_with fail
      refine (spoilE_core _ _ _ n x w3 H3.out.d HX.out.2).mono ?_
      rintro e w4 ⟨y, rfl, hy, hd4⟩
      have H4 : Hid (LInv w.heap.size w.heap.size (.slice a n cap) n w1 g cp es w4 ∧ y.small) := ⟨H3.out.call hd4, hy⟩
      clear hd4 hy c0 c1 c2 c3 c4 c5
      obtain ⟨⟨c0, c1, c2, c3, c4, c5⟩, f1⟩ := H4.out.1.at6 i x HX.out.1
      have f00 := f1 (i * 6)
      have f01 := f1 (i * 6 + 1)
      have f02 := f1 (i * 6 + 2)
      have f03 := f1 (i * 6 + 3)
      have f04 := f1 (i * 6 + 4)
      have f05 := f1 (i * 6 + 5)
      have H5 : Hid (LInv w.heap.size w.heap.size (.slice a n cap) n w1 g cp (es.set i y) ((((((w4.setCell ⟨g, i * 6, none⟩ (.string y.row)).setCell ⟨g, i * 6 + 1, none⟩ (.string y.fam)).setCell ⟨g, i * 6 + 2, none⟩ (.string y.qual)).setCell ⟨g, i * 6 + 3, none⟩ (.int .u64 y.ts)).setCell ⟨g, i * 6 + 4, none⟩ (.int .i64 y.kind)).setCell ⟨g, i * 6 + 5, none⟩ (.string y.val))) := H4.out.1.put i x y HX.out.1 H4.out.2
      clear f1
      go_wp2_with fail
      go_ret
      exact ⟨g, cp, es.set i y, by simp [HM.out], H5.out.drawn hb1 (by rw [List.length_set, HM.out]; exact hl) (Nat.le_refl _)⟩
theorem drawReplay_core (bv : Value) (n : Nat) (w : World) (h : CodeAt w w.heap.size bv n) :
    Calls Tryz.prog 13 #[bv] w fun x w' => ∃ (g cp : Nat) (es : List Ent), x = .returned (.slice (some ⟨g, 0, none⟩) es.length cp) ∧ DrawnW w g cp es w' := by
  have HC : Hid (CodeAt w w.heap.size bv n) := h
  clear h
  go_enter Tryz.func13, Tryz.ntmps13
  go_wp2_with fail
  refine (drawBuild_core bv n w HC.out).mono ?_
  rintro e w1 ⟨g, cp, es, rfl, hD⟩
  have HD : Hid (DrawnW w g cp es w1) := hD
  clear hD
  go_wp2_with fail
  go_ret
  exact ⟨g, cp, es, rfl, HD.out⟩
end Go.Proofs.YtlgeffinhbodeaeGreatDoor

