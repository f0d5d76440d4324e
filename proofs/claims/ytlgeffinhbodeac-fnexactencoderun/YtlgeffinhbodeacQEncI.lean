/-
  impl.EncodeRun at a valid run.
-/
import Derived.Test.YtlgeffinhbodeacQChI
import Derived.Test.YtlgeffinhbodeacQEnL
import Derived.Maps.OwnIn
import Derived.Lib.SmallJoins
import Derived.Test.YtlgeffinhbodeacQEnA
import Derived.Deep.RegionHeld3
namespace Go.Proofs.Ytlgeffinhbodeac
open Go.ChangeShapes Go.WideShapes Go.ChangeAt Go.RowKit Go.Deep Go.Shelf
set_option linter.unusedVariables false
set_option linter.unusedSimpArgs false
set_option maxRecDepth 100000
attribute [local go_sem] Oper.semAt_some

set_option maxHeartbeats 8000000 in
theorem encGood (b off cap p : Nat) (es : List Ent) (w : World) (hE : EntsAt w b off es) (hok : ∀ e ∈ es, e.ok) (hg : GoodR es) (hB : b < w.heap.size) (hlen : es.length ≤ cap) (hcap : cap ≤ maxLen) (hp1 : 1 ≤ p) (hp2 : p ≤ 1000) :
    Calls Try.prog 24 #[.agg #[.slice (some ⟨b, off, none⟩) es.length cap], .int .i64 (p : Int)] w fun r w' =>
      ∃ (g cp m : Nat), r = .returned (.slice (some ⟨g, 0, none⟩) m cp) ∧ m = (fileM (chunks p es)).length ∧ OwnY w' w.heap.size g cp (fileM (chunks p es)) ∧ Below w.heap.size w w' := by
  have HE : Hid (EntsAt w b off es ∧ (∀ e ∈ es, e.ok) ∧ GoodR es ∧ cap ≤ maxLen) := ⟨hE, hok, hg, hcap⟩
  obtain ⟨n, hn⟩ : ∃ n, n = es.length := ⟨_, rfl⟩
  have HN : Hid (n = es.length) := hn
  have hn2 : n ≤ 10000 := by rw [hn]; exact hg.1.1
  rw [← hn] at hlen ⊢
  obtain ⟨W0, hW0⟩ : ∃ W0 : World, W0 = w.alloc (Obj.cells #[.slice (some ⟨b, off, none⟩) n cap] 50) := ⟨_, rfl⟩
  have HW0 : Hid (BoxAt W0 w.heap.size 50 1 w.heap.size [.slice (some ⟨b, off, none⟩) n cap] ∧ Below w.heap.size w W0) := by
    rw [hW0]; exact ⟨boxAt_new w _ (Nat.le_refl _) rfl, (Below.refl _ _).alloc (Nat.le_refl _) _⟩
  have HV : Hid (Calls Try.prog 56 #[.agg #[.slice (some ⟨b, off, none⟩) n cap]] W0 fun e w' => e = .returned (.bool true) ∧ Below W0.heap.size W0 w') := by
    rw [hn]
    refine (implValidRun_core b off cap es W0 (hE.below HW0.out.2 hB) hok (by have := HW0.out.2.size; omega) (by omega) hcap).mono ?_
    rintro e w' ⟨r, rfl, hr, hb⟩
    exact ⟨by rw [hr.2 hg], hb⟩
  have c0 := HW0.out.1.cell (j := 0) rfl
  have zp1 : ¬ (p : Int) < 1 := by omega
  have zp2 : ¬ (1000 : Int) < (p : Int) := by omega
  clear hE hok hg hcap hn
  refine (callsIn_wide (n := 9)).1 ?_
  refine callsIn_of_wp_marks Try.func24 rfl trivial ?_ rfl
  simp only [Try.ntmps24, List.size_toArray, List.length_cons, List.length_nil, Nat.reduceAdd, Nat.reduceSub, Array.replicate_succ, Array.replicate_zero, List.push_toArray, List.append_toArray, List.nil_append, List.cons_append]
  gi_wp2
  rw [← hW0]
  refine ⟨trivial, (callsIn_wide.2 HV.out).mono ?_⟩
  rintro e w1 ⟨rfl, hb1⟩
  have s0 := HW0.out.2.size
  have HW1 : Hid (BoxAt w1 w.heap.size 50 1 w.heap.size [.slice (some ⟨b, off, none⟩) n cap] ∧ Below w.heap.size w w1) := ⟨HW0.out.1.below hb1, HW0.out.2.trans (hb1.mono s0)⟩
  clear hW0 c0 HW0 HV hb1 s0
  have hzv := (zero_of_info info_table).1
  have hsz := tabA_size 256
  gi_wp2
  refine ⟨trivial, (callsIn_wide.2 (makeTable_core w1)).mono ?_⟩
  rintro e w2 ⟨rfl, hb2⟩
  have s1 := HW1.out.2.size
  have hsc := run_storeCells_new (P := Try.prog) w2 102 (Array.replicate 256 (.int .u32 0)) (tabA 256) (by rw [tabA_size]; exact (zero_of_info info_table).2) (by rw [tabA_size]; simp) (tabA_one _)
  obtain ⟨W3, hW3⟩ : ∃ W3 : World, W3 = w2.alloc (.cells (tabA 256) 102) := ⟨_, rfl⟩
  have HW3 : Hid (BoxAt W3 w.heap.size 50 1 w.heap.size [.slice (some ⟨b, off, none⟩) n cap] ∧ Below w.heap.size w W3 ∧ TabAt W3 w2.heap.size 0 ∧ W3.heap.size = w2.heap.size + 1) := by
    have hb3 : Below w2.heap.size w2 W3 := by rw [hW3]; exact (Below.refl _ _).alloc (Nat.le_refl _) _
    have s2 := hb2.size
    refine ⟨(HW1.out.1.below hb2).below hb3, (HW1.out.2.trans (hb2.mono s1)).trans (hb3.mono (by omega)), ?_, by rw [hW3]; simp⟩
    intro i hi
    rw [hW3, Nat.zero_add, cell_of_row _ _ i _ _ _ (heap_alloc_last w2 _)]
    exact tabA_at 256 i hi hi
  have kc := Go.Joins.run_convert_bytes_const_at (P := Try.prog) (w2.alloc (Obj.cells (tabA 256) 102)) 47 5 #[.int .u8 82, .int .u8 85, .int .u8 78, .int .u8 49] 4 4 (w2.heap.size + 1) (by simp) Try.underlying47 Try.underlying5
  obtain ⟨W8, hW8⟩ : ∃ W8 : World, W8 = ((((((w2.alloc (Obj.cells (tabA 256) 102)).alloc (Obj.cells #[.int .u8 82, .int .u8 85, .int .u8 78, .int .u8 49] 5 (4, 5))).alloc (Obj.cells #[.slice (some ⟨w2.heap.size + 1, 0, none⟩) 4 4] 47)).alloc (Obj.cells #[] 5)).alloc (Obj.cells #[.slice (some ⟨w2.heap.size + 1 + 1 + 1, 0, none⟩) 0 0] 47)).alloc (Obj.cells #[.int .u64 0] 69)) := ⟨_, rfl⟩
  have r3l : w.heap.size < w2.heap.size := by have := HW1.out.1.lt.2; have := hb2.size; omega
  have HW8 : Hid (BoxAt W8 w.heap.size 50 1 w.heap.size [.slice (some ⟨b, off, none⟩) n cap] ∧ W8.heap.size = w2.heap.size + 6 ∧ EnS w w (fun _ => True) w2.heap.size (w2.heap.size + 1 + 1) (w2.heap.size + 1 + 1 + 1 + 1) (w2.heap.size + 1 + 1 + 1 + 1 + 1) (headB ++ fblocks []) (fones []) 0 4 (w2.heap.size + 1) 4 0 (w2.heap.size + 1 + 1 + 1) 0 W8) := by
    have hz3 := HW3.out.2.2.2
    have hb8 : Below W3.heap.size W3 W8 := by
      rw [hW8, ← hW3]
      exact (((((Below.refl _ _).alloc (Nat.le_refl _) _).alloc (by simp) _).alloc (by simp; omega) _).alloc (by simp; omega) _).alloc (by simp; omega) _
    refine ⟨HW3.out.1.below hb8, by rw [hW8]; simp, ?_⟩
    rw [hW8, ← hW3]
    exact en_init HW3.out.2.1 HW3.out.2.2.1 (by omega) HW3.out.2.2.2
  have r8 : (((((((w2.alloc (Obj.cells (tabA 256) 102)).alloc (Obj.cells #[.int .u8 82, .int .u8 85, .int .u8 78, .int .u8 49] 5 (4, 5))).alloc (Obj.cells #[.slice (some ⟨w2.heap.size + 1, 0, none⟩) 4 4] 47)).alloc (Obj.cells #[] 5)).alloc (Obj.cells #[.slice (some ⟨w2.heap.size + 1 + 1 + 1, 0, none⟩) 0 0] 47)).alloc (Obj.cells #[.int .u64 0] 69))).cell? ⟨w.heap.size, 0, none⟩ = some (.slice (some ⟨b, off, none⟩) n cap) := by
    rw [← hW8]; exact HW8.out.1.cell (j := 0) rfl
  gi_wp2
  rw [← hW8]
  clear hW8 hsc hzv hsz kc r8 hW3 HW3 HW1
  refine ⟨trivial, (chunk_made Fence.wide _ trivial rfl (some ⟨b, off, none⟩) n cap p hp1 hp2 W8).mono ?_⟩
  rintro e w9 ⟨rfl, hw9⟩
  rw [hw9]
  obtain ⟨W10, hW10⟩ : ∃ W10 : World, W10 = (W8.alloc (.cells #[.slice (some ⟨b, off, none⟩) n cap] 26)).alloc (.cells #[.int .i64 (p : Int)] 3) := ⟨_, rfl⟩
  rw [← hW10]
  have HW10 : Hid (W10.heap.size = W8.heap.size + 2 ∧ W10.cell? ⟨W8.heap.size, 0, none⟩ = some (.slice (some ⟨b, off, none⟩) n cap) ∧ W10.cell? ⟨W8.heap.size + 1, 0, none⟩ = some (.int .i64 (p : Int)) ∧ Below W8.heap.size W8 W10) := by
    have hb : Below W8.heap.size W8 W10 := by rw [hW10]; exact ((Below.refl _ _).alloc (Nat.le_refl _) _).alloc (by simp) _
    exact ⟨by rw [hW10]; simp, by rw [hW10]; simp, by rw [hW10]; simp, hb⟩
  obtain ⟨tb, htb⟩ : ∃ tb, tb = tabA 256 := ⟨_, rfl⟩
  rw [← htb]
  clear hw9 htb hW10
  gi_wp2
  have z10 := HW10.out.1
  refine wpIn_rangeFunc_ownG rfl (by decide) (gf := 97) (lb := #[.pointer (some ⟨W8.heap.size, 0, none⟩), .pointer (some ⟨W8.heap.size + 1, 0, none⟩)]) rfl trivial (enters_of Try.func97 (by kernel_rfl) rfl)
    (chunk_stops Fence.wide _ trivial rfl (by decide) W8.heap.size (W8.heap.size + 1) b off n cap p hp1 hp2 hn2 hlen W10 (by omega) (by omega) HW10.out.2.1 HW10.out.2.2.1) (fun h k => h.trans k) ?hKb (Below.refl _ _) (fun _ => rfl)
    (fun pre W => (∃ mf gf cpf mm gm cpm, EnS w w (fun _ => True) w2.heap.size (w2.heap.size + 1 + 1) (w2.heap.size + 1 + 1 + 1 + 1) (w2.heap.size + 1 + 1 + 1 + 1 + 1) (headB ++ fblocks (pre.map (fun k => ckE es p k.1))) (fones (pre.map (fun k => ckE es p k.1))) pre.length mf gf cpf mm gm cpm W ∧ ApartB W8.heap.size gf gm) ∧ W10.heap.size ≤ W.heap.size)
    (fun _ _ _ => False) ?hI (fun _ _ _ _ _ hs _ _ => hs) ?h0
    (fun x => { tmps := #[.agg #[.slice (some ⟨b, off, none⟩) n cap], .int .i64 (p : Int), .pointer (some ⟨w.heap.size, 0, none⟩), undef, .slice none 0 0, .pointer (some ⟨w2.heap.size, 0, none⟩), .pointer (some ⟨w2.heap.size + 1 + 1, 0, none⟩), .pointer (some ⟨w2.heap.size + 1 + 1 + 1 + 1, 0, none⟩), .pointer (some ⟨w2.heap.size + 1 + 1 + 1 + 1 + 1, 0, none⟩), .slice (some ⟨b, off + x.1 * p * 6, none⟩) (min p (n - x.1 * p)) (min p (n - x.1 * p)), undef, undef, .int .i64 (p : Int), .bool false, .bool false, .int .i64 (p : Int), .bool false, .bool false, .bool false, .agg #[.slice (some ⟨b, off, none⟩) n cap], .bool true, .bool false, .bool false, undef, .agg tb, .slice (some ⟨w2.heap.size + 1, 0, none⟩) 4 4, .slice (some ⟨w2.heap.size + 1, 0, none⟩) 4 4, .slice (some ⟨w2.heap.size + 1 + 1 + 1, 0, none⟩) 0 0, .pointer (some ⟨w.heap.size, 0, none⟩), .slice (some ⟨b, off, none⟩) n cap, .int .i64 (p : Int), .func (.func 97) #[] #[.pointer (some ⟨W8.heap.size, 0, none⟩), .pointer (some ⟨W8.heap.size + 1, 0, none⟩)], .slice (some ⟨b, off + x.1 * p * 6, none⟩) (min p (n - x.1 * p)) (min p (n - x.1 * p)), undef, undef, undef, undef, undef, undef, undef, undef, undef, undef, undef, undef, undef, undef, undef, undef, undef, undef, undef, undef, undef, undef, undef, undef, undef, undef, undef, undef, undef, undef, undef, undef, undef, undef, undef, undef, undef, undef, undef, undef, undef, undef, undef], defers := [] }) ?assign ?body ?done ?stop
  case hKb =>
    intro W l o o' hl _ _ _
    exact ⟨World.cell?_of_block (World.putObj_heap_other (fun e => by simp at e; omega)), World.cell?_of_block (World.putObj_heap_other (fun e => by simp at e; omega))⟩
  case hI =>
    rintro pre A B row ⟨⟨mf, gf, cpf, mm, gm, cpm, h, hap⟩, hsz⟩ hg hr
    have h8 := HW8.out.2.1
    exact ⟨⟨mf, gf, cpf, mm, gm, cpm, h.grown (by simp [headB]) hg (fun r e => (hr r e).2) (fun r e => by have := (hr r e).1; omega), hap⟩, Nat.le_trans hsz hg.size⟩
  case h0 => exact ⟨⟨_, _, _, _, _, _, HW8.out.2.2.move HW10.out.2.2.2, by have := HW8.out.2.1; exact ⟨by omega, by omega, by omega, by omega⟩⟩, Nat.le_refl _⟩
  case assign =>
    intro l x W K hK
    gi_wp2
    exact hK
  case body =>
    rintro l pre ⟨k, hkn⟩ W ⟨⟨mf, gf, cpf, mm, gm, cpm, hJ, hap⟩, hsz10⟩ hpre
    obtain ⟨F, hF⟩ : ∃ F, F = headB ++ fblocks (pre.map (fun k => ckE es p k.1)) := ⟨_, rfl⟩
    obtain ⟨M, hM⟩ : ∃ M, M = fones (pre.map (fun k => ckE es p k.1)) := ⟨_, rfl⟩
    obtain ⟨C, hC⟩ : ∃ C, C = ckE es p k := ⟨_, rfl⟩
    obtain ⟨q, hq⟩ : ∃ q, q = min p (n - k * p) := ⟨_, rfl⟩
    have hCl : C.length = q := by rw [hC, ckE_len, ← HN.out]; exact hq.symm
    have HFM : Hid (F = headB ++ fblocks (pre.map (fun k => ckE es p k.1)) ∧ M = fones (pre.map (fun k => ckE es p k.1)) ∧ C = ckE es p k ∧ C.length = q) := ⟨hF, hM, hC, hCl⟩
    rw [← hF, ← hM] at hJ
    have hq1 : 1 ≤ q := by omega
    have hq2 : q ≤ 1000 := by omega
    have hbnd : F.length ≤ 10000000 ∧ M.length ≤ 10000000 ∧ 0 < F.length ∧ pre.length ≤ 20000 := by
      rw [hF, hM]; exact ck_bound HN.out hn2 hp1 hp2 HE.out.2.1 HE.out.2.2.1.1.2 pre (Nat.le_of_lt hpre)
    have hCe : EntsAt W b (off + k * p * 6) C ∧ OkB C := by
      rw [hC]; exact ⟨(ck_at HE.out.1 p k).below hJ.below hB, ck_ok HN.out hp1 hkn HE.out.2.1 HE.out.2.2.1.1.2⟩
    have HAp : Hid (ApartB W8.heap.size gf gm ∧ W10.heap.size ≤ W.heap.size) := ⟨hap, hsz10⟩
    obtain ⟨e0, he0⟩ : ∃ e0, w.cell? ⟨b, off + k * p * 6, none⟩ = some (.string e0) ∧ e0.size ≤ 64 ∧ row0 C = bl e0 := by
      have hne := hCe.2.ne
      have hEw : EntsAt w b (off + k * p * 6) C := by rw [hC]; exact ck_at HE.out.1 p k
      cases hCC : C with
      | nil => rw [hCC] at hne; simp at hne
      | cons e es' =>
        have h1 := hEw 0 e (by rw [hCC]; rfl)
        have h2 := vld_parts (hCe.2.vld e (by rw [hCC]; simp))
        exact ⟨e.row, by simpa using h1.1, by omega, rfl⟩
    have HE0 : Hid (w.cell? ⟨b, off + k * p * 6, none⟩ = some (.string e0) ∧ e0.size ≤ 64 ∧ row0 C = bl e0) := he0
    have hpl : pre.length ≤ 20000 := hbnd.2.2.2
    have HFp : Hid (0 < F.length) := hbnd.2.2.1
    clear hap he0
    have HS0 : Hid (EnS w W (fun j => j = w2.heap.size + 1 + 1 ∨ j = w2.heap.size + 1 + 1 + 1 + 1 ∨ j = w2.heap.size + 1 + 1 + 1 + 1 + 1 ∨ j = gf ∨ j = gm) w2.heap.size (w2.heap.size + 1 + 1) (w2.heap.size + 1 + 1 + 1 + 1) (w2.heap.size + 1 + 1 + 1 + 1 + 1) F M pre.length mf gf cpf mm gm cpm W) := hJ.rebase
    have hWb : w.heap.size ≤ W.heap.size := hJ.below.size
    have HBody : Hid (Calls Try.prog 59 #[.slice (some ⟨b, off + k * p * 6, none⟩) q q] W fun r w' => ∃ g cp m, r = .returned (.slice (some ⟨g, 0, none⟩) m cp) ∧ Hid (m = (body [] C).length ∧ OwnY w' W.heap.size g cp (body [] C)) ∧ Below W.heap.size W w') := by
      rw [← hCl]
      refine (blockBody_core b (off + k * p * 6) C.length C W hCe.1 hCe.2.ok hCe.2.vld (by omega) (by omega)).mono ?_
      rintro r w' ⟨g, cp, rfl, hO, hb⟩
      exact ⟨g, cp, _, rfl, ⟨rfl, hO⟩, hb⟩
    have hmf : mf ≤ 10000000 := by rw [hJ.mfl]; exact hbnd.1
    have hmm : mm ≤ 10000000 := by rw [hJ.mml]; exact hbnd.2.1
    have HCe : Hid (EntsAt W b (off + k * p * 6) C ∧ OkB C ∧ (body [] C).length ≤ 500 * 1000 ∧ 0 < (body [] C).length) := by
      have h1 := body_len C [] hCe.2.vld hCe.2.ts
      exact ⟨hCe.1, hCe.2, by omega, body_pos hCe.2.ne⟩
    simp only [← hq]
    clear hF hM hC hCl hJ hCe hbnd hq
    gi_wp2
    refine ⟨trivial, (CallsIn.inRound l (callsIn_wide.2 HBody.out)).mono ?_⟩
    rintro r w1 ⟨g1, cp1, m1, rfl, H1, hb1⟩
    have HS1 : Hid (EnS w W (fun j => j = w2.heap.size + 1 + 1 ∨ j = w2.heap.size + 1 + 1 + 1 + 1 ∨ j = w2.heap.size + 1 + 1 + 1 + 1 + 1 ∨ j = gf ∨ j = gm) w2.heap.size (w2.heap.size + 1 + 1) (w2.heap.size + 1 + 1 + 1 + 1) (w2.heap.size + 1 + 1 + 1 + 1 + 1) F M pre.length mf gf cpf mm gm cpm w1) := HS0.out.move hb1
    have hs1 := hb1.size
    have f6 := HS1.out.file.cell (j := 0) rfl
    have f6f := HS1.out.file.frozen 0
    clear HBody hb1
    gi_wp2_with (gi_at_builtin; refine wpListIn_append_out _ rfl _ _ rfl w.heap.size gf cpf mf g1 0 m1 cp1 F (body [] C) rfl rfl HS1.out.mfl H1.out.1 HS1.out.frow H1.out.2.at HCe.out.2.2.2 (by have := HCe.out.2.2.1; have := HS1.out.mfl; omega) (by omega) ?_; intro g2 cp2 v2 hO2 hgr2 hat2; have HN2 : Hid ((EnS w W (fun j => j = w2.heap.size + 1 + 1 ∨ j = w2.heap.size + 1 + 1 + 1 + 1 ∨ j = w2.heap.size + 1 + 1 + 1 + 1 + 1 ∨ j = gf ∨ j = gm) w2.heap.size (w2.heap.size + 1 + 1) (w2.heap.size + 1 + 1 + 1 + 1) (w2.heap.size + 1 + 1 + 1 + 1 + 1) (F ++ body [] C) (M) (pre.length) (mf + m1) g2 cp2 (mm) gm cpm (v2.setCell ⟨w2.heap.size + 1 + 1, 0, none⟩ (.slice (some ⟨g2, 0, none⟩) (mf + m1) cp2)) ∧ OwnY (v2.setCell ⟨w2.heap.size + 1 + 1, 0, none⟩ (.slice (some ⟨g2, 0, none⟩) (mf + m1) cp2)) w.heap.size g2 cp2 (F ++ body [] C)) ∧ v2.cell? ⟨w2.heap.size + 1 + 1, 0, none⟩ = some (.slice (some ⟨gf, 0, none⟩) mf cpf) ∧ v2.frozen? ⟨w2.heap.size + 1 + 1, 0, none⟩ = false) := en_app HS1.out hO2 hgr2 hat2 (by rw [List.length_append, ← HS1.out.mfl, ← H1.out.1]); have HY2 : Hid (BysAt (v2.setCell ⟨w2.heap.size + 1 + 1, 0, none⟩ (.slice (some ⟨g2, 0, none⟩) (mf + m1) cp2)) g1 0 (body [] C) ∧ g1 < (v2.setCell ⟨w2.heap.size + 1 + 1, 0, none⟩ (.slice (some ⟨g2, 0, none⟩) (mf + m1) cp2)).heap.size) := en_bys HS1.out HS0.out H1.out.2 hgr2; have c6 := HN2.out.2.1; have c6f := HN2.out.2.2; clear hO2 hgr2 hat2)
    obtain ⟨W3, hW3⟩ : ∃ W3 : World, W3 = v2.setCell ⟨w2.heap.size + 1 + 1, 0, none⟩ (.slice (some ⟨g2, 0, none⟩) (mf + m1) cp2) := ⟨_, rfl⟩
    rw [← hW3] at HN2 HY2 ⊢
    have hm1 : m1 ≤ 500000 := by have := HCe.out.2.2.1; have := H1.out.1; omega
    clear hW3 c6 c6f f6 f6f HS1
    have hmo : Try.prog.follows Departure.mixedOrders = true := by kernel_rfl
    have f6 := HN2.out.1.1.file.cell (j := 0) rfl
    have f6f := HN2.out.1.1.file.frozen 0
    gi_region_with_o (first
      | (refine ⟨trivial, ?_⟩; gi_at_call 61; refine (CallsIn.inRound l (callsIn_wide.2 (en_sum HN2.out.1.1 (by repeat (first | exact Below.refl _ _ | refine Below.drew ?_)) HY2.out.2 HY2.out.1 H1.out.1 (by omega)))).mono ?_; rintro r v3 ⟨rfl, hv3⟩; rw [hv3]; clear hv3)
      | (refine ⟨trivial, ?_⟩; gi_at_call 60; refine (CallsIn.inRound l (callsIn_wide.2 (en_fix HN2.out.1.1 HN2.out.1.2 (by repeat (first | exact Below.refl _ _ | refine Below.drew ?_)) (crc (body [] C)).toNat (BitVec.isLt _) (by omega)))).mono ?_; rintro r v4 ⟨g4, cp4, m4, rfl, hm4, HS4, c4, f4⟩))
    all_goals obtain ⟨W5, hW5⟩ : ∃ W5 : World, W5 = v4.setCell ⟨w2.heap.size + 1 + 1, 0, none⟩ (.slice (some ⟨g4, 0, none⟩) m4 cp4) := ⟨_, rfl⟩
    all_goals rw [← hW5] at HS4 ⊢
    all_goals clear hW5 c4 f4 f6 f6f HY2 HN2
    all_goals have k7 := HS4.out.1.marks.cell (j := 0) rfl
    all_goals have k7f := HS4.out.1.marks.frozen 0
    all_goals gi_wp2
    all_goals refine ⟨trivial, (CallsIn.inRound l (callsIn_wide.2 (en_num HS4.out.1 (Below.refl _ _) m1 (by omega) (by omega)))).mono ?_⟩
    all_goals rintro r v6 ⟨g6, cp6, m6, rfl, hm6, HS6, c6, f6⟩
    all_goals clear k7 k7f
    all_goals gi_wp2
    all_goals obtain ⟨W6, hW6⟩ : ∃ W6 : World, W6 = v6.setCell ⟨w2.heap.size + 1 + 1 + 1 + 1, 0, none⟩ (.slice (some ⟨g6, 0, none⟩) m6 cp6) := ⟨_, rfl⟩
    all_goals rw [← hW6] at HS6 ⊢
    all_goals clear hW6 c6 f6 HS4
    all_goals refine ⟨trivial, (CallsIn.inRound l (callsIn_wide.2 (en_num HS6.out (Below.refl _ _) q (by omega) (by omega)))).mono ?_⟩
    all_goals rintro r v7 ⟨g7, cp7, m7, rfl, hm7, HS7, c7, f7⟩
    all_goals gi_wp2
    all_goals obtain ⟨W7, hW7⟩ : ∃ W7 : World, W7 = v7.setCell ⟨w2.heap.size + 1 + 1 + 1 + 1, 0, none⟩ (.slice (some ⟨g7, 0, none⟩) m7 cp7) := ⟨_, rfl⟩
    all_goals rw [← hW7] at HS7 ⊢
    all_goals clear hW7 c7 f7 HS6
    all_goals have k7 := HS7.out.marks.cell (j := 0) rfl
    all_goals have k7f := HS7.out.marks.frozen 0
    all_goals have kr := (HS7.out.below.cell (p := ⟨b, off + k * p * 6, none⟩) hB).trans HE0.out.1
    all_goals gi_region_with_o (refine ⟨trivial, ?_⟩; gi_at_call 63; refine (CallsIn.inRound l (callsIn_wide.2 (en_text HS7.out (by repeat (first | exact Below.refl _ _ | refine Below.drew ?_)) e0 (by have := HE0.out.2.1; omega) (by omega)))).mono ?_; rintro r v8 ⟨g8, cp8, m8, rfl, hm8, HS8, c8, f8⟩)
    all_goals obtain ⟨Wx, hWx⟩ : ∃ Wx : World, Wx = v8.setCell ⟨w2.heap.size + 1 + 1 + 1 + 1, 0, none⟩ (.slice (some ⟨g8, 0, none⟩) m8 cp8) := ⟨_, rfl⟩
    all_goals rw [← hWx] at HS8 ⊢
    all_goals clear hWx c8 f8 k7 k7f kr
    all_goals have k8 := HS8.out.cnt.cell (j := 0) rfl
    all_goals have k8f := HS8.out.cnt.frozen 0
    all_goals obtain ⟨W9, hW9⟩ : ∃ W9 : World, W9 = Wx.setCell ⟨w2.heap.size + 1 + 1 + 1 + 1 + 1, 0, none⟩ (.int .u64 ((pre.length : Int) + 1)) := ⟨_, rfl⟩
    all_goals have HS9 := HS8.out.incr
    all_goals rw [← hW9] at HS9
    all_goals have h8 := HW8.out.2.1
    all_goals have hen := en_end (X := W10.heap.size) (BB := W8.heap.size) HS0.out HS9 HFp.out HAp.out.1 (by omega) (by omega) (by omega) (by have := HAp.out.2; omega)
    all_goals have e1 : headB ++ fblocks ((pre ++ [(⟨k, hkn⟩ : Ck n p)]).map (fun k => ckE es p k.1)) = F ++ body [] C ++ fixed (crc (body [] C)).toNat := (by rw [List.map_append, List.map_cons, List.map_nil, fblocks_snoc, HFM.out.1, HFM.out.2.2.1, sumOf]; simp only [List.append_assoc])
    all_goals have e2 : fones ((pre ++ [(⟨k, hkn⟩ : Ck n p)]).map (fun k => ckE es p k.1)) = M ++ num m1 ++ num q ++ strB (bl e0) := (by rw [List.map_append, List.map_cons, List.map_nil, fones_snoc, ← HE0.out.2.2, H1.out.1, ← HFM.out.2.2.2, HFM.out.2.1, HFM.out.2.2.1])
    all_goals have e3 : (pre ++ [(⟨k, hkn⟩ : Ck n p)]).length = pre.length + 1 := by simp
    all_goals have hfin := HS9.forget
    all_goals rw [← e1, ← e2, ← e3] at hfin
    all_goals have HEnd : Hid (ownPostG W10.heap.size (Kc W8.heap.size (W8.heap.size + 1)) (fun pre W => (∃ mf gf cpf mm gm cpm, EnS w w (fun _ => True) w2.heap.size (w2.heap.size + 1 + 1) (w2.heap.size + 1 + 1 + 1 + 1) (w2.heap.size + 1 + 1 + 1 + 1 + 1) (headB ++ fblocks (pre.map (fun k => ckE es p k.1))) (fones (pre.map (fun k => ckE es p k.1))) pre.length mf gf cpf mm gm cpm W ∧ ApartB W8.heap.size gf gm) ∧ W10.heap.size ≤ W.heap.size) (fun _ _ _ => False) (pre ++ [(⟨k, hkn⟩ : Ck n p)]) W Exit.normal { tmps := #[], defers := [] } W9) := ⟨hen.1, hen.2.1, ⟨_, _, _, _, _, _, hfin, hen.2.2.1⟩, Nat.le_trans HAp.out.2 hen.2.2.2⟩
    all_goals clear hen HS9 h8 HS8 HS0 hfin e1 e2 e3 HFM
    all_goals gi_wp2
    all_goals rw [← hW9]
    all_goals exact HEnd.out
  case done =>
    rintro D ys W hD ⟨k, hk, rfl⟩ ⟨⟨mf, gf, cpf, mm, gm, cpm, hJ, hap⟩, hsz10⟩ hK
    have hbs : (cks n p k).map (fun k => ckE es p k.1) = chunks p es := by
      have h1 := HN.out
      subst h1
      exact cks_all es hp1 hk
    rw [hbs] at hJ
    have hcl : (cks n p k).length = (chunks p es).length := by rw [← hbs, List.length_map]
    rw [hcl] at hJ
    clear hbs hcl hap
    obtain ⟨F, hF⟩ : ∃ F, F = headB ++ fblocks (chunks p es) := ⟨_, rfl⟩
    obtain ⟨M, hM⟩ : ∃ M, M = fones (chunks p es) := ⟨_, rfl⟩
    obtain ⟨nc, hnc⟩ : ∃ nc, nc = (chunks p es).length := ⟨_, rfl⟩
    have hbnd : F.length ≤ 10000000 ∧ M.length ≤ 10000000 ∧ nc ≤ 20000 := by
      have q0 := chunks_ok (p := p) HE.out.2.2.1.1.2 HE.out.2.1
      have q1 := chunks_flatten p es.length es (Nat.le_refl _)
      have q2 := blocks_many _ q0
      have q3 := fblocks_len _ q0
      have q4 := fones_len _ q0 (by rw [q1]; have := HN.out; omega)
      rw [q1] at q2 q3
      have q5 := HN.out
      rw [hF, hM, hnc, List.length_append]
      have q6 : headB.length = 4 := rfl
      exact ⟨by omega, by omega, by omega⟩
    have HFM : Hid (F = headB ++ fblocks (chunks p es) ∧ M = fones (chunks p es) ∧ nc = (chunks p es).length) := ⟨hF, hM, hnc⟩
    rw [← hF, ← hM, ← hnc] at hJ
    have HCel : Hid (∀ k, (fun j => j = w2.heap.size + 1 + 1 ∨ j = w2.heap.size + 1 + 1 + 1 + 1 ∨ j = w2.heap.size + 1 + 1 + 1 + 1 + 1 ∨ j = gf ∨ j = gm) k → ∃ x : Obj, W.heap[k]? = some x ∧ x.isCells = true) := hJ.cells (by rw [hF]; simp [headB])
    have HJ : Hid (EnS w W (fun j => j = w2.heap.size + 1 + 1 ∨ j = w2.heap.size + 1 + 1 + 1 + 1 ∨ j = w2.heap.size + 1 + 1 + 1 + 1 + 1 ∨ j = gf ∨ j = gm) w2.heap.size (w2.heap.size + 1 + 1) (w2.heap.size + 1 + 1 + 1 + 1) (w2.heap.size + 1 + 1 + 1 + 1 + 1) F M nc mf gf cpf mm gm cpm W) := hJ.rebase
    have hmf : mf ≤ 10000000 := by rw [hJ.mfl]; exact hbnd.1
    have hmm : mm ≤ 10000000 := by rw [hJ.mml]; exact hbnd.2.1
    have hnc2 : nc ≤ 20000 := hbnd.2.2
    have hgm := hJ.mrow.lt.2
    have l7 := hJ.marks.lt.2
    have hwW := hJ.below.size
    clear hF hM hnc hJ hbnd
    have HNum : Hid (∀ V, Below W.heap.size W V → Calls Try.prog 62 #[.slice none 0 0, .int .u64 (nc : Int)] V fun e w' => ∃ g cp m, e = .returned (.slice (some ⟨g, 0, none⟩) m cp) ∧ m ≤ 10 ∧ Hid (m = (num nc).length ∧ OwnY w' W.heap.size g cp (num nc) ∧ Below W.heap.size W w') ∧ w'.cell? ⟨w2.heap.size + 1 + 1 + 1 + 1, 0, none⟩ = some (.slice (some ⟨gm, 0, none⟩) mm cpm)) := fun V hV => by
      refine (appendNumber_core W.heap.size (.slice none 0 0) [] nc V (World.ownsRow_nil ..) (by omega) (by simp) hV.size).mono ?_
      rintro e w' ⟨g, cp, rfl, hO, hC, _⟩
      have hB2 : Below W.heap.size W w' := Chg.below hV hC hV.size (fun k q => by simp [Value.ownBlock] at q)
      refine ⟨g, cp, _, rfl, by have := num_len64 (n := nc) (by omega); simpa using this, ⟨by simp, by simpa using hO, hB2⟩, ?_⟩
      rw [hB2.cell (p := ⟨w2.heap.size + 1 + 1 + 1 + 1, 0, none⟩) l7]; exact HJ.out.marks.cell (j := 0) rfl
    have k8 := HJ.out.cnt.cell (j := 0) rfl
    have k7 := HJ.out.marks.cell (j := 0) rfl
    gi_wp2
    refine wpIn_wide.2 ?_
    refine wp_region_noPanic ?_
    go_region_law ((first
      | (go_simp; go_at_call 62; refine (HNum.out _ (by repeat (first | exact Below.refl _ _ | refine Below.drew ?_))).mono ?_; rintro r v1 ⟨g1, cp1, m1, rfl, hm1, H1, c7⟩)
      | (refine step_append_y _ (by rfl) _ _ (by rfl) W.heap.size g1 cp1 m1 gm 0 mm cpm (num nc) M (by rfl) (by rfl) H1.out.1 HJ.out.mml H1.out.2.1 (HJ.out.mrow.at.chg (Chg.of_below H1.out.2.2) (S := fun _ => False) hgm (fun q => q)) (num_pos nc) (by have := H1.out.1; have := HJ.out.mml; omega) H1.out.2.2.size ?_
         intro g2 cp2 v2 hO2 hgr2 hat2
         have H2 : Hid (OwnY v2 W.heap.size g2 cp2 (num nc ++ M) ∧ Below W.heap.size W v2) := ⟨hO2, Chg.below H1.out.2.2 (Chg.of_grown hgr2 (S := fun k => k = g1) (fun j hj => by cases hj; rfl)) H1.out.2.2.size (fun k q => by subst q; exact H1.out.2.1.lt.1)⟩
         clear hO2 hgr2 hat2)))
    all_goals have HJ2 : Hid (EnS w W (fun j => j = w2.heap.size + 1 + 1 ∨ j = w2.heap.size + 1 + 1 + 1 + 1 ∨ j = w2.heap.size + 1 + 1 + 1 + 1 + 1 ∨ j = gf ∨ j = gm) w2.heap.size (w2.heap.size + 1 + 1) (w2.heap.size + 1 + 1 + 1 + 1) (w2.heap.size + 1 + 1 + 1 + 1 + 1) F M nc mf gf cpf mm gm cpm v2) := HJ.out.move H2.out.2
    all_goals have hml : m1 + mm = (num nc ++ M).length := (by rw [List.length_append, ← H1.out.1, ← HJ.out.mml])
    all_goals obtain ⟨mi, hmi⟩ : ∃ mi, mi = m1 + mm := ⟨_, rfl⟩
    all_goals have HMi : Hid (mi = (num nc ++ M).length) := (by rw [hmi]; exact hml)
    all_goals have hmi2 : mi ≤ 10000010 := (by omega)
    all_goals rw [← hmi]
    all_goals clear hmi hml k7 k8 c7 HNum
    all_goals have k6 := HJ2.out.file.cell (j := 0) rfl
    all_goals have k6f := HJ2.out.file.frozen 0
    all_goals have sW := H2.out.2.size
    all_goals dsimp only [NoPanic]
    all_goals gi_wp2_with (gi_at_builtin; refine wpListIn_append_out _ rfl _ _ rfl w.heap.size gf cpf mf g2 0 mi cp2 F (num nc ++ M) rfl rfl HJ2.out.mfl HMi.out HJ2.out.frow H2.out.1.at (by have := num_pos nc; simp; omega) (by have := HMi.out; have := HJ2.out.mfl; omega) (by omega) ?_; intro g3 cp3 v3 hO3 hgr3 hat3; have HN3 : Hid ((EnS w W (fun j => j = w2.heap.size + 1 + 1 ∨ j = w2.heap.size + 1 + 1 + 1 + 1 ∨ j = w2.heap.size + 1 + 1 + 1 + 1 + 1 ∨ j = gf ∨ j = gm) w2.heap.size (w2.heap.size + 1 + 1) (w2.heap.size + 1 + 1 + 1 + 1) (w2.heap.size + 1 + 1 + 1 + 1 + 1) (F ++ (num nc ++ M)) M nc (mf + mi) g3 cp3 mm gm cpm (v3.setCell ⟨w2.heap.size + 1 + 1, 0, none⟩ (.slice (some ⟨g3, 0, none⟩) (mf + mi) cp3)) ∧ OwnY (v3.setCell ⟨w2.heap.size + 1 + 1, 0, none⟩ (.slice (some ⟨g3, 0, none⟩) (mf + mi) cp3)) w.heap.size g3 cp3 (F ++ (num nc ++ M))) ∧ v3.cell? ⟨w2.heap.size + 1 + 1, 0, none⟩ = some (.slice (some ⟨gf, 0, none⟩) mf cpf) ∧ v3.frozen? ⟨w2.heap.size + 1 + 1, 0, none⟩ = false) := en_app HJ2.out hO3 hgr3 hat3 (by rw [List.length_append, ← HJ2.out.mfl, ← HMi.out]); have HY3 := en_bys (g2 := g3) (m2 := mf + mi) (cp2 := cp3) HJ2.out HJ.out H2.out.1 hgr3; have c6 := HN3.out.2.1; have c6f := HN3.out.2.2; clear hO3 hgr3 hat3)
    all_goals obtain ⟨W4, hW4⟩ : ∃ W4 : World, W4 = v3.setCell ⟨w2.heap.size + 1 + 1, 0, none⟩ (.slice (some ⟨g3, 0, none⟩) (mf + mi) cp3) := ⟨_, rfl⟩
    all_goals rw [← hW4] at HN3 HY3 ⊢
    all_goals clear hW4 c6 c6f k6 k6f
    all_goals have k6 := HN3.out.1.1.file.cell (j := 0) rfl
    all_goals have k6f := HN3.out.1.1.file.frozen 0
    all_goals refine wpIn_wide.2 ?_
    all_goals refine wp_region_noPanic ?_
    all_goals go_region_law ((first
      | (go_simp; go_at_call 61; refine (en_sum HN3.out.1.1 (by repeat (first | exact Below.refl _ _ | refine Below.drew ?_)) HY3.2 HY3.1 HMi.out (by omega)).mono ?_; rintro r v4 ⟨rfl, hv4⟩; rw [hv4]; clear hv4)
      | (go_simp; go_at_call 60; refine (en_fix HN3.out.1.1 HN3.out.1.2 (by repeat (first | exact Below.refl _ _ | refine Below.drew ?_)) (crc (num nc ++ M)).toNat (BitVec.isLt _) (by omega)).mono ?_; rintro r v5 ⟨g5, cp5, m5, rfl, hm5, HS5, c5, f5⟩)))
    all_goals dsimp only [NoPanic]
    all_goals obtain ⟨W5, hW5⟩ : ∃ W5 : World, W5 = v5.setCell ⟨w2.heap.size + 1 + 1, 0, none⟩ (.slice (some ⟨g5, 0, none⟩) m5 cp5) := ⟨_, rfl⟩
    all_goals rw [← hW5] at HS5 ⊢
    all_goals clear hW5 c5 f5 k6 k6f
    all_goals have k6 := HS5.out.1.file.cell (j := 0) rfl
    all_goals gi_wp2
    all_goals refine ⟨trivial, (callsIn_wide.2 (en_last HS5.out.1 HS5.out.2 mi (by omega) (by omega))).mono ?_⟩
    all_goals rintro r v6 ⟨g6, cp6, m6, rfl, HS6⟩
    all_goals have hDl : D < W.heap.size := (Array.getElem?_eq_some_iff.1 hK).1
    all_goals have hKD : v6.heap[D]? = some (.deferred (some [])) := (by rw [HS6.out.2.2.2.block D hDl (fun q => by obtain ⟨x, hx, hc⟩ := HCel.out D q; rw [hK] at hx; cases hx; cases hc)]; exact hK)
    all_goals have e1 : F ++ (num nc ++ M) ++ fixed (crc (num nc ++ M)).toNat ++ fixed mi = fileM (chunks p es) := (by rw [HMi.out, HFM.out.1, HFM.out.2.1, HFM.out.2.2]; rfl)
    all_goals have HFin : Hid (m6 = (fileM (chunks p es)).length ∧ OwnY (v6.putObj D (.deferred none)) w.heap.size g6 cp6 (fileM (chunks p es)) ∧ Below w.heap.size w (v6.putObj D (.deferred none))) := ⟨(by rw [← e1]; exact HS6.out.1), (by rw [← e1]; exact ownsRow_putObj HS6.out.2.1 _ hKD rfl), HS6.out.2.2.1.trans (belowK_b (w := w) (Nat.le_refl _) v6 D _ _ (by have := HW8.out.2.1; omega) hKD rfl rfl)⟩
    all_goals clear e1 k6 HS5
    all_goals gi_wp2
    all_goals refine ⟨by simp, .inl ⟨_, _, rfl, run_takeDeferred hKD, ?_⟩⟩
    all_goals exact ⟨_, results_tmp rfl _ _ _, g6, cp6, m6, rfl, HFin.out.1, HFin.out.2.1, HFin.out.2.2⟩
  case stop =>
    rintro D c pre W _ _ h _
    exact h.elim
end Go.Proofs.Ytlgeffinhbodeac
