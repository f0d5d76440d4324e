import Derived.Test.YtnncedndlhfdkacDoorPkAD
import Derived.Test.YtnncedndlhfdkacDoorPkAE
import Derived.Test.YtnncedndlhfdkacDoorPkAB
/-
  (*impl.byteReader).entry.
-/
namespace Go.Proofs.YtnncedndlhfdkacDoor
open Go.ChangeShapes Go.WideShapes Go.ChangeAt Go.RowKit Go.Deep
set_option linter.unusedVariables false
set_option linter.unusedSimpArgs false
set_option maxRecDepth 100000

theorem Chg.put {S : Nat → Prop} {a w : World} {g : Nat} (h : Chg S a w) (hs : S g) (j : Nat) (u : Value) : Chg S a (w.setCell ⟨g, j, none⟩ u) := h.trans (Chg.of_set w g j u hs)
def EntP (w : World) (base g b : Nat) (bf : ByteArray) (xs : List UInt8) (code : Int) (e : Ending) (w' : World) : Prop :=
  Chg (fun k => k = g) w w' ∧ ((∃ (x : Ent) (t : List UInt8), getEnt (bl bf) xs = some (x, t) ∧ e = .returned x.v ∧ x.ok ∧ t.length ≤ xs.length ∧ RdE w' base g b t code) ∨ (getEnt (bl bf) xs = none ∧ e = Corr code))
/-- The state between two readings of 'entry': the reader before 't', the result's variable, the entry's. -/
structure EntJ (w W : World) (base g b : Nat) (t xs : List UInt8) (code : Int) (vs : List Value) : Prop where
  rd : RdE W base g b t code
  len : t.length ≤ xs.length
  res : BoxAt W w.heap.size 67 6 w.heap.size [.string ⟨#[]⟩, .string ⟨#[]⟩, .string ⟨#[]⟩, .int .u64 0, .int .i64 0, .string ⟨#[]⟩]
  ent : BoxAt W w.heap.size 67 6 (w.heap.size + 1) vs
  chg : Chg (fun k => k = g) w W
theorem EntJ.read {w W W' : World} {base g b : Nat} {t t' xs : List UInt8} {code : Int} {vs : List Value} (h : EntJ w W base g b t xs code vs) (hg : g < w.heap.size) (hc : Chg (fun k => k = g) W W') (hr : RdE W' base g b t' code) (hl : t'.length ≤ t.length) : EntJ w W' base g b t' xs code vs :=
  ⟨hr, Nat.le_trans hl h.len, h.res.chg hc (by omega), h.ent.chg hc (by omega), h.chg.trans hc⟩
theorem EntJ.set {w W : World} {base g b : Nat} {t xs : List UInt8} {code : Int} {vs : List Value} (h : EntJ w W base g b t xs code vs) (hg : g < w.heap.size) (hb : b < w.heap.size) (j : Nat) (u : Value) : EntJ w (W.setCell ⟨w.heap.size + 1, j, none⟩ u) base g b t xs code (vs.set j u) := by
  have hs := h.chg.size
  refine ⟨h.rd.chg (Chg.of_set W (w.heap.size + 1) j u (S := fun k => k = w.heap.size + 1) rfl) (by omega) (by omega), h.len, h.res.beside (by omega) j u, h.ent.set j u, ?_⟩
  exact ⟨h.chg.os, h.chg.tape, h.chg.output, by simp only [World.setCell]; have := h.chg.size; simp; omega, fun k hk hn => (Below.heap_setCell _ _ _ _ (by simp; omega)).trans (h.chg.block k hk hn)⟩

set_option maxHeartbeats 8000000 in
theorem rdEntry_core (base g b : Nat) (bf : ByteArray) (xs : List UInt8) (code : Int) (w : World) (h : RdE w base g b xs code) (hg : g < w.heap.size) (hb : b < w.heap.size) (hbf : bf.size ≤ 2 ^ 31) (hxs : xs.length ≤ 2 ^ 30) :
    Calls Tryd.prog 37 #[.pointer (some ⟨g, 0, none⟩), .string bf] w fun e w' => EntP w base g b bf xs code e w' := by
  obtain ⟨W, hW⟩ : ∃ W : World, W = (w.alloc (Obj.cells #[.string ⟨#[]⟩, .string ⟨#[]⟩, .string ⟨#[]⟩, .int .u64 0, .int .i64 0, .string ⟨#[]⟩] 67)).alloc (Obj.cells #[.string ⟨#[]⟩, .string ⟨#[]⟩, .string ⟨#[]⟩, .int .u64 0, .int .i64 0, .string ⟨#[]⟩] 67) := ⟨_, rfl⟩
  have HJ : Hid (EntJ w W base g b xs xs code [.string ⟨#[]⟩, .string ⟨#[]⟩, .string ⟨#[]⟩, .int .u64 0, .int .i64 0, .string ⟨#[]⟩]) := by
    have hbW : Below w.heap.size w W := by rw [hW]; exact ((Below.refl _ _).alloc (Nat.le_refl _) _).alloc (by simp) _
    refine ⟨h.chg (S := fun _ => False) (Chg.of_below hbW) (fun q => q) (fun q => q), Nat.le_refl _, ?_, ?_, Chg.of_below hbW⟩
    · rw [hW]
      exact (boxAt_new w _ (Nat.le_refl _) rfl).below ((Below.refl _ _).alloc (Nat.le_refl _) _)
    · rw [hW]
      have := boxAt_new (w.alloc (Obj.cells #[.string ⟨#[]⟩, .string ⟨#[]⟩, .string ⟨#[]⟩, .int .u64 0, .int .i64 0, .string ⟨#[]⟩] 67)) (base := w.heap.size) (t := 67) (sz := 6) #[.string ⟨#[]⟩, .string ⟨#[]⟩, .string ⟨#[]⟩, .int .u64 0, .int .i64 0, .string ⟨#[]⟩] (by simp) rfl
      simpa using this
  clear h
  go_enter Tryd.func37, Tryd.ntmps37
  go_upto_region 2 with fail
  rw [← hW]
  clear hW
  go_wp2_with fail
  refine (rdRow_core base g b bf xs code W HJ.out.rd hbf hxs).mono ?_
  rintro e w1 ⟨hC1, (⟨row, t1, hr1, rfl, hs1, hl1, hR1⟩ | ⟨hr1, rfl⟩)⟩
  case inr =>
    exact ⟨rfl, HJ.out.chg.trans hC1, .inr ⟨by rw [getEnt_row, hr1], rfl⟩⟩
  have HE1 : Hid (getEnt (bl bf) xs = eT1 (bl row) t1) := by
    show getEnt (bl bf) xs = _
    rw [getEnt_row, hr1]
  have hrow : row.size ≤ 4294967296 := by omega
  have HJ1 : Hid (EntJ w w1 base g b t1 xs code [.string ⟨#[]⟩, .string ⟨#[]⟩, .string ⟨#[]⟩, .int .u64 0, .int .i64 0, .string ⟨#[]⟩]) := HJ.out.read hg hC1 hR1 hl1
  clear hC1 hr1 hs1 hl1 hR1 HJ
  have k0 := HJ1.out.ent.cell (j := 0) rfl
  have f0 := HJ1.out.ent.frozen 0
  obtain ⟨V1, hV1⟩ : ∃ V1 : World, V1 = w1.setCell ⟨w.heap.size + 1, 0, none⟩ (.string row) := ⟨_, rfl⟩
  have HK1 : Hid (EntJ w V1 base g b t1 xs code [.string row, .string ⟨#[]⟩, .string ⟨#[]⟩, .int .u64 0, .int .i64 0, .string ⟨#[]⟩]) := by rw [hV1]; exact HJ1.out.set hg hb 0 _
  go_upto_region 3 with fail
  rw [← hV1]
  clear hV1 k0 f0 HJ1
  -- fam
  go_wp2_with fail
  refine (text_core base g b t1 code V1 HK1.out.rd).mono ?_
  rintro e w2 ⟨hC2, (⟨fam, t2, hr2, rfl, hs2, hR2⟩ | ⟨hr2, rfl⟩)⟩
  case inr =>
    exact ⟨rfl, HK1.out.chg.trans hC2, .inr ⟨by rw [HE1.out]; unfold eT1; rw [hr2], rfl⟩⟩
  have hl1 := HK1.out.len
  have HE2 : Hid (getEnt (bl bf) xs = eT2 (bl row) (bl fam) t2) := by
    show getEnt (bl bf) xs = _
    rw [HE1.out]; unfold eT1; rw [hr2]
  have hfam : fam.size ≤ 4294967296 := by omega
  have HJ2 : Hid (EntJ w w2 base g b t2 xs code [.string row, .string ⟨#[]⟩, .string ⟨#[]⟩, .int .u64 0, .int .i64 0, .string ⟨#[]⟩]) := HK1.out.read hg hC2 hR2 (by omega)
  clear hC2 hr2 hs2 hR2 HK1 HE1 hl1
  have k0 := HJ2.out.ent.cell (j := 1) rfl
  have f0 := HJ2.out.ent.frozen 1
  obtain ⟨V2, hV2⟩ : ∃ V2 : World, V2 = w2.setCell ⟨w.heap.size + 1, 1, none⟩ (.string fam) := ⟨_, rfl⟩
  have HK2 : Hid (EntJ w V2 base g b t2 xs code [.string row, .string fam, .string ⟨#[]⟩, .int .u64 0, .int .i64 0, .string ⟨#[]⟩]) := by rw [hV2]; exact HJ2.out.set hg hb 1 _
  go_upto_region 4 with fail
  rw [← hV2]
  clear hV2 k0 f0 HJ2
  -- qual
  go_wp2_with fail
  refine (text_core base g b t2 code V2 HK2.out.rd).mono ?_
  rintro e w3 ⟨hC3, (⟨qual, t3, hr3, rfl, hs3, hR3⟩ | ⟨hr3, rfl⟩)⟩
  case inr =>
    exact ⟨rfl, HK2.out.chg.trans hC3, .inr ⟨by rw [HE2.out]; unfold eT2; rw [hr3], rfl⟩⟩
  have hl2 := HK2.out.len
  have HE3 : Hid (getEnt (bl bf) xs = eT3 (bl row) (bl fam) (bl qual) t3) := by
    show getEnt (bl bf) xs = _
    rw [HE2.out]; unfold eT2; rw [hr3]
  have hqual : qual.size ≤ 4294967296 := by omega
  have HJ3 : Hid (EntJ w w3 base g b t3 xs code [.string row, .string fam, .string ⟨#[]⟩, .int .u64 0, .int .i64 0, .string ⟨#[]⟩]) := HK2.out.read hg hC3 hR3 (by omega)
  clear hC3 hr3 hs3 hR3 HK2 HE2 hl2
  have k0 := HJ3.out.ent.cell (j := 2) rfl
  have f0 := HJ3.out.ent.frozen 2
  obtain ⟨V3, hV3⟩ : ∃ V3 : World, V3 = w3.setCell ⟨w.heap.size + 1, 2, none⟩ (.string qual) := ⟨_, rfl⟩
  have HK3 : Hid (EntJ w V3 base g b t3 xs code [.string row, .string fam, .string qual, .int .u64 0, .int .i64 0, .string ⟨#[]⟩]) := by rw [hV3]; exact HJ3.out.set hg hb 2 _
  go_upto_region 5 with fail
  rw [← hV3]
  clear hV3 k0 f0 HJ3
  -- ts
  go_wp2_with fail
  refine (number_core base g b t3 code V3 HK3.out.rd).mono ?_
  rintro e w4 ⟨hC4, (⟨ts, t4, hr4, rfl, hts, hs4, hR4⟩ | ⟨hr4, rfl⟩)⟩
  case inr =>
    exact ⟨rfl, HK3.out.chg.trans hC4, .inr ⟨by rw [HE3.out]; unfold eT3; rw [hr4], rfl⟩⟩
  have HE4 : Hid (getEnt (bl bf) xs = eT4 (bl row) (bl fam) (bl qual) ts t4) := by
    show getEnt (bl bf) xs = _
    rw [HE3.out]; unfold eT3; rw [hr4]
  have HTs : Hid (ts < 2 ^ 64) := hts
  have HJ4 : Hid (EntJ w w4 base g b t4 xs code [.string row, .string fam, .string qual, .int .u64 0, .int .i64 0, .string ⟨#[]⟩]) := HK3.out.read hg hC4 hR4 hs4
  clear hC4 hr4 hs4 hR4 HK3 HE3 hts
  have k0 := HJ4.out.ent.cell (j := 3) rfl
  have f0 := HJ4.out.ent.frozen 3
  obtain ⟨V4, hV4⟩ : ∃ V4 : World, V4 = w4.setCell ⟨w.heap.size + 1, 3, none⟩ (.int .u64 (ts : Int)) := ⟨_, rfl⟩
  have HK4 : Hid (EntJ w V4 base g b t4 xs code [.string row, .string fam, .string qual, .int .u64 (ts : Int), .int .i64 0, .string ⟨#[]⟩]) := by rw [hV4]; exact HJ4.out.set hg hb 3 _
  go_upto_region 6 with fail
  rw [← hV4]
  clear hV4 k0 f0 HJ4
  -- kind
  go_wp2_with fail
  refine (number_core base g b t4 code V4 HK4.out.rd).mono ?_
  rintro e w5 ⟨hC5, (⟨kn, t5, hr5, rfl, hkn, hs5, hR5⟩ | ⟨hr5, rfl⟩)⟩
  case inr =>
    exact ⟨rfl, HK4.out.chg.trans hC5, .inr ⟨by rw [HE4.out]; unfold eT4; rw [hr5], rfl⟩⟩
  obtain ⟨kz, hkz⟩ : ∃ kz, kz = RowKit.wrap64 (kn : Int) := ⟨_, rfl⟩
  have HE5 : Hid (getEnt (bl bf) xs = eT5 (bl row) (bl fam) (bl qual) ts kn t5) := by
    show getEnt (bl bf) xs = _
    rw [HE4.out]; unfold eT4; rw [hr5]
  have HKn : Hid (kn < 2 ^ 64 ∧ kz = RowKit.wrap64 (kn : Int)) := ⟨hkn, hkz⟩
  have HJ5 : Hid (EntJ w w5 base g b t5 xs code [.string row, .string fam, .string qual, .int .u64 (ts : Int), .int .i64 0, .string ⟨#[]⟩]) := HK4.out.read hg hC5 hR5 hs5
  clear hC5 hr5 hs5 hR5 HK4 HE4 hkn
  have k0 := HJ5.out.ent.cell (j := 4) rfl
  have f0 := HJ5.out.ent.frozen 4
  obtain ⟨V5, hV5⟩ : ∃ V5 : World, V5 = w5.setCell ⟨w.heap.size + 1, 4, none⟩ (.int .i64 kz) := ⟨_, rfl⟩
  have HK5 : Hid (EntJ w V5 base g b t5 xs code [.string row, .string fam, .string qual, .int .u64 (ts : Int), .int .i64 kz, .string ⟨#[]⟩]) := by rw [hV5]; exact HJ5.out.set hg hb 4 _
  rw [hkz] at hV5
  clear hkz
  go_upto_region 7 with fail
  rw [← hV5]
  rw [← HKn.out.2]
  clear hV5 k0 f0 HJ5
  -- val
  go_wp2_with fail
  refine (text_core base g b t5 code V5 HK5.out.rd).mono ?_
  rintro e w6 ⟨hC6, (⟨val, t6, hr6, rfl, hs6, hR6⟩ | ⟨hr6, rfl⟩)⟩
  case inr =>
    exact ⟨rfl, HK5.out.chg.trans hC6, .inr ⟨by rw [HE5.out]; unfold eT5; rw [hr6], rfl⟩⟩
  have hl5 := HK5.out.len
  have hval : val.size ≤ 4294967296 := by omega
  have HJ6 : Hid (EntJ w w6 base g b t6 xs code [.string row, .string fam, .string qual, .int .u64 (ts : Int), .int .i64 kz, .string ⟨#[]⟩]) := HK5.out.read hg hC6 hR6 (by omega)
  obtain ⟨x, hx⟩ : ∃ x : Ent, x = ⟨row, fam, qual, (ts : Int), kz, val⟩ := ⟨_, rfl⟩
  have HE6 : Hid (getEnt (bl bf) xs = if x.vld = true then some (x, t6) else none) := by
    show getEnt (bl bf) xs = _
    rw [HE5.out]; unfold eT5; rw [hr6]
    simp only [ba_bl]
    by_cases hk2 : kn ≤ 2
    · have e1 : kz = (kn : Int) := by
        rw [HKn.out.2]
        unfold RowKit.wrap64
        omega
      rw [hx, e1]
      by_cases hv : (⟨row, fam, qual, (ts : Int), (kn : Int), val⟩ : Ent).vld = true
      · rw [if_pos hv, if_neg]
        rw [hv]; rintro (q | q)
        · omega
        · cases q
      · rw [if_neg hv, if_pos (.inr (by simpa using hv))]
    · have e2 : kz < 0 ∨ 2 < kz := by
        have := HKn.out.1
        rw [HKn.out.2]
        unfold RowKit.wrap64
        omega
      rw [if_pos (.inl (by omega)), if_neg]
      rw [hx]
      unfold Ent.vld
      rw [vE_kind e2]
      simp
  have HX : Hid (x = ⟨row, fam, qual, (ts : Int), kz, val⟩) := hx
  clear hC6 hr6 hs6 hR6 HK5 HE5 hl5 hx
  have k0 := HJ6.out.ent.cell (j := 5) rfl
  have f0 := HJ6.out.ent.frozen 5
  obtain ⟨V6, hV6⟩ : ∃ V6 : World, V6 = w6.setCell ⟨w.heap.size + 1, 5, none⟩ (.string val) := ⟨_, rfl⟩
  have HK6 : Hid (EntJ w V6 base g b t6 xs code [.string row, .string fam, .string qual, .int .u64 (ts : Int), .int .i64 kz, .string val]) := by rw [hV6]; exact HJ6.out.set hg hb 5 _
  go_upto_region 8 with fail
  rw [← hV6]
  clear hV6 k0 f0 HJ6
  have elt := HK6.out.ent.lt.2
  have q0 : ∀ n : Out V6, n.u.cell? ⟨w.heap.size + 1, 0, none⟩ = some (.string row) := fun n => (n.out.cell (p := ⟨w.heap.size + 1, 0, none⟩) elt).trans (HK6.out.ent.cell (j := 0) rfl)
  have q1 : ∀ n : Out V6, n.u.cell? ⟨w.heap.size + 1, 1, none⟩ = some (.string fam) := fun n => (n.out.cell (p := ⟨w.heap.size + 1, 1, none⟩) elt).trans (HK6.out.ent.cell (j := 1) rfl)
  have q2 : ∀ n : Out V6, n.u.cell? ⟨w.heap.size + 1, 2, none⟩ = some (.string qual) := fun n => (n.out.cell (p := ⟨w.heap.size + 1, 2, none⟩) elt).trans (HK6.out.ent.cell (j := 2) rfl)
  have q3 : ∀ n : Out V6, n.u.cell? ⟨w.heap.size + 1, 3, none⟩ = some (.int .u64 (ts : Int)) := fun n => (n.out.cell (p := ⟨w.heap.size + 1, 3, none⟩) elt).trans (HK6.out.ent.cell (j := 3) rfl)
  have q4 : ∀ n : Out V6, n.u.cell? ⟨w.heap.size + 1, 4, none⟩ = some (.int .i64 kz) := fun n => (n.out.cell (p := ⟨w.heap.size + 1, 4, none⟩) elt).trans (HK6.out.ent.cell (j := 4) rfl)
  have q5 : ∀ n : Out V6, n.u.cell? ⟨w.heap.size + 1, 5, none⟩ = some (.string val) := fun n => (n.out.cell (p := ⟨w.heap.size + 1, 5, none⟩) elt).trans (HK6.out.ent.cell (j := 5) rfl)
  have e1 : ∀ n : Out V6, n.u.cell? ⟨g, 1, none⟩ = some (.int .i64 code) := by
    obtain ⟨off, cap, hA⟩ := HK6.out.rd
    exact fun n => (n.out.cell (p := ⟨g, 1, none⟩) hA.box.lt.2).trans (hA.box.cell (j := 1) rfl)
  have HV : Hid (∀ w', Calls Tryd.prog 54 #[.agg #[.string row, .string fam, .string qual, .int .u64 (ts : Int), .int .i64 kz, .string val]] w' fun e w'' => e = .returned (.bool x.vld) ∧ Below w'.heap.size w' w'') := fun w' => by
    rw [HX.out]
    exact implValid_core row fam qual val (ts : Int) kz w' (by unfold maxLen; omega) (by unfold maxLen; omega) (by unfold maxLen; omega) (by unfold maxLen; omega)
  clear elt
  by_cases hv : x.vld = true
  · have h6 := HE6.out
    rw [if_pos hv] at h6
    rw [hv] at HV
    have HF : Hid (getEnt (bl bf) xs = some (x, t6)) := h6
    have HOk : Hid x.ok := by
      refine ok_of_read hv ?_ ?_
      · rw [HX.out]; show (0 : Int) ≤ (ts : Int); omega
      · rw [HX.out]; show (ts : Int) < 18446744073709551616; have := HTs.out; omega
    clear h6 HE6 hv
    refine wp_region_out (by kernel_rfl) (by kernel_rfl) ?_
    repeat (go_big_quiet_step ((first | rfl | (go_at_call 54; exact Calls.out_of (HV.out _)) | (go_at_call 19; exact Calls.out_of ((demand_yes _ _).mono fun e w' ⟨he, hw⟩ => ⟨he, hw ▸ Below.refl _ _⟩)))))
    refine wpQuiet_nil ?_
    rintro wy ⟨⟨wx, hby⟩, rfl⟩
    have HJ7 : Hid (EntJ w wy base g b t6 xs code [.string row, .string fam, .string qual, .int .u64 (ts : Int), .int .i64 kz, .string val]) := by
      obtain ⟨off, cap, hA⟩ := HK6.out.rd
      exact ⟨⟨off, cap, hA.chg (S := fun _ => False) (Chg.of_below hby) (fun q => q) (fun q => q)⟩, HK6.out.len, HK6.out.res.below hby, HK6.out.ent.below hby, HK6.out.chg.trans (Chg.of_below hby)⟩
    clear q0 q1 q2 q3 q4 q5 e1 hby HK6 HV
    have q0 := HJ7.out.ent.cell (j := 0) rfl
    have q1 := HJ7.out.ent.cell (j := 1) rfl
    have q2 := HJ7.out.ent.cell (j := 2) rfl
    have q3 := HJ7.out.ent.cell (j := 3) rfl
    have q4 := HJ7.out.ent.cell (j := 4) rfl
    have q5 := HJ7.out.ent.cell (j := 5) rfl
    have r0 := HJ7.out.res.cell (j := 0) rfl
    have r1 := HJ7.out.res.cell (j := 1) rfl
    have r2 := HJ7.out.res.cell (j := 2) rfl
    have r3 := HJ7.out.res.cell (j := 3) rfl
    have r4 := HJ7.out.res.cell (j := 4) rfl
    have r5 := HJ7.out.res.cell (j := 5) rfl
    have f0 := HJ7.out.res.frozen 0
    have f1 := HJ7.out.res.frozen 1
    have f2 := HJ7.out.res.frozen 2
    have f3 := HJ7.out.res.frozen 3
    have f4 := HJ7.out.res.frozen 4
    have f5 := HJ7.out.res.frozen 5
    obtain ⟨W7, hW7⟩ : ∃ W7 : World, W7 = (((((wy.setCell ⟨w.heap.size, 0, none⟩ (.string row)).setCell ⟨w.heap.size, 1, none⟩ (.string fam)).setCell ⟨w.heap.size, 2, none⟩ (.string qual)).setCell ⟨w.heap.size, 3, none⟩ (.int .u64 (ts : Int))).setCell ⟨w.heap.size, 4, none⟩ (.int .i64 kz)).setCell ⟨w.heap.size, 5, none⟩ (.string val) := ⟨_, rfl⟩
    have hB7 : BoxAt W7 w.heap.size 67 6 w.heap.size [.string row, .string fam, .string qual, .int .u64 (ts : Int), .int .i64 kz, .string val] := by
      rw [hW7]
      exact (((((HJ7.out.res.set 0 _).set 1 _).set 2 _).set 3 _).set 4 _).set 5 _
    have hS7 : Chg (fun k => k = w.heap.size) wy W7 := by
      rw [hW7]
      exact ((((((Chg.refl (fun k => k = w.heap.size) wy).put (g := w.heap.size) rfl 0 _).put (g := w.heap.size) rfl 1 _).put (g := w.heap.size) rfl 2 _).put (g := w.heap.size) rfl 3 _).put (g := w.heap.size) rfl 4 _).put (g := w.heap.size) rfl 5 _
    have hC7 : Chg (fun k => k = g) w W7 := by
      have h1 := HJ7.out.chg
      exact ⟨hS7.os.trans h1.os, hS7.tape.trans h1.tape, hS7.output.trans h1.output, Nat.le_trans h1.size hS7.size, fun k hk hn => (hS7.block k (Nat.lt_of_lt_of_le hk h1.size) (by omega)).trans (h1.block k hk hn)⟩
    have hR7 : RdE W7 base g b t6 code := HJ7.out.rd.chg hS7 (by omega) (by omega)
    have p0 := hB7.cell (j := 0) rfl
    have p1 := hB7.cell (j := 1) rfl
    have p2 := hB7.cell (j := 2) rfl
    have p3 := hB7.cell (j := 3) rfl
    have p4 := hB7.cell (j := 4) rfl
    have p5 := hB7.cell (j := 5) rfl
    go_wp2_with fail
    rw [← hW7]
    exact bodyPost_ret (v := x.v) (by rw [HX.out]; simp [results, Tryd.results37, go_sem, p0, p1, p2, p3, p4, p5]) rfl ⟨hC7, .inl ⟨x, t6, HF.out, rfl, HOk.out, HJ7.out.len, hR7⟩⟩
  · have hvf : x.vld = false := by simpa using hv
    have h6 := HE6.out
    rw [if_neg hv] at h6
    rw [hvf] at HV
    have HF : Hid (getEnt (bl bf) xs = none) := h6
    clear h6 HE6 hv hvf
    refine wp_region_demand 33 28 (.tmp 32) code [(28, .bool false), (32, .int .i64 code)] rfl (fun m => by kernel_rfl) (by kernel_rfl) (fun a' h => ⟨h (28, _) (by simp), h (32, _) (by simp)⟩) ?q ?_
    case q => exact fun a' w' hb hd => ⟨hd, HK6.out.chg.trans (Chg.of_below hb), .inr ⟨HF.out, rfl⟩⟩
    intro m
    dsimp only [List.dropLast, fk, List.cons_append, List.nil_append]
    repeat (go_big_quiet_step ((first | rfl | (go_at_call 54; exact Calls.out_of (HV.out _)))))
    refine wpQuiet_nil ?_
    exact ⟨rfl, slots2 rfl rfl⟩
end Go.Proofs.YtnncedndlhfdkacDoor

/-
  (*impl.fileReader).entries.
-/
namespace Go.Proofs.YtnncedndlhfdkacDoor
open Go.ChangeShapes Go.WideShapes Go.ChangeAt Go.RowKit Go.Deep
set_option linter.unusedVariables false
set_option linter.unusedSimpArgs false
set_option maxRecDepth 100000

/-- What 'entries' answers. -/
def freM (sum count : Nat) (row body : List UInt8) : Int × List Ent :=
  if (crc body).toNat ≠ sum then (2, []) else entEnd row (getEnts count [] body)
def FreP (w : World) (r : Int × List Ent) (e : Ending) (w' : World) : Prop :=
  Below w.heap.size w w' ∧ ((r.1 = 0 ∧ ∃ g cp, e = .returned (.slice (some ⟨g, 0, none⟩) r.2.length cp) ∧ OwnE w' w.heap.size g cp r.2 ∧ (∀ x ∈ r.2, x.ok)) ∨ (r.1 ≠ 0 ∧ e = Corr r.1))
abbrev blkV (b off cap n sum count : Nat) (row : ByteArray) : List Value := [.slice (some ⟨b, off, none⟩) n cap, .int .u32 (sum : Int), .int .i64 (count : Int), .string row]
/-- Between two entries. -/
structure FreJ (w wr : World) (B rb b off cap n sum count : Nat) (row : ByteArray) (t : List UInt8) (g cp : Nat) (l : List Ent) : Prop where
  rd : RdE wr w.heap.size rb b t 3
  blk : BoxAt wr w.heap.size 52 4 w.heap.size (blkV b off cap n sum count row)
  ents : OwnE wr B g cp l
  below : Below w.heap.size w wr
  len : t.length ≤ n
  size : B ≤ wr.heap.size
theorem FreJ.read {w wr w' : World} {B rb b off cap n sum count : Nat} {row : ByteArray} {t t' : List UInt8} {g cp : Nat} {l : List Ent} (h : FreJ w wr B rb b off cap n sum count row t g cp l) (h0 : w.heap.size < rb) (h1 : rb < B) (hc : Chg (fun k => k = rb) wr w') (hr : RdE w' w.heap.size rb b t' 3) (hl : t'.length ≤ t.length) : FreJ w w' B rb b off cap n sum count row t' g cp l :=
  ⟨hr, h.blk.chg hc (by omega), h.ents.chg' hc (by have := h.ents.lt.1; omega), Chg.below h.below hc h.below.size (by omega), Nat.le_trans hl h.len, Nat.le_trans h.size hc.size⟩
theorem FreJ.grow {w wr w' : World} {B rb b off cap n sum count : Nat} {row : ByteArray} {t : List UInt8} {g cp : Nat} {l : List Ent} (h : FreJ w wr B rb b off cap n sum count row t g cp l) (hb : Below wr.heap.size wr w') : FreJ w w' B rb b off cap n sum count row t g cp l :=
  ⟨h.rd.chg (S := fun _ => False) (Chg.of_below hb) (fun q => q) (fun q => q), h.blk.below hb, h.ents.below hb h.ents.lt.2, h.below.trans (hb.mono h.below.size), h.len, Nat.le_trans h.size hb.size⟩
theorem FreJ.app {w wr w' : World} {B rb b off cap n sum count : Nat} {row : ByteArray} {t : List UInt8} {g cp g' cp' : Nat} {l l' : List Ent} (h : FreJ w wr B rb b off cap n sum count row t g cp l) (h0 : w.heap.size < rb) (h1 : rb < B) (hb : b < w.heap.size) (hO : OwnE w' B g' cp' l') (hg : wr.grownBy w' (some g)) : FreJ w w' B rb b off cap n sum count row t g' cp' l' := by
  have hlt := h.ents.lt.1
  have hc : Chg (fun k => k = g) wr w' := Chg.of_grown hg (fun k hk => by cases hk; rfl)
  exact ⟨h.rd.chg hc (by omega) (by omega), h.blk.chg hc (by omega), hO, h.below.grown hg h.below.size (fun k hk => by cases hk; omega), h.len, Nat.le_trans h.size hg.size⟩

set_option maxHeartbeats 8000000 in
theorem entries_core (fb b off cap sum count : Nat) (row : ByteArray) (body : List UInt8) (w : World) (hT : TabAt w fb 0) (hfb : fb < w.heap.size) (hE : BysAt w b off body) (hb : b < w.heap.size) (hl : body.length ≤ 2 ^ 30) (hr : body.length < cap) (hcm : cap ≤ maxLen)
    (hc1 : 1 ≤ count) (hc2 : count ≤ 1000) :
    Calls Tryd.prog 18 #[.pointer (some ⟨fb, 0, none⟩), .agg #[.slice (some ⟨b, off, none⟩) body.length cap, .int .u32 (sum : Int), .int .i64 (count : Int), .string row]] w fun e w' => FreP w (freM sum count (bl row) body) e w' := by
  obtain ⟨W, hW⟩ : ∃ W : World, W = w.alloc (Obj.cells #[.slice (some ⟨b, off, none⟩) body.length cap, .int .u32 (sum : Int), .int .i64 (count : Int), .string row] 52) := ⟨_, rfl⟩
  have hbW : Below w.heap.size w W := by rw [hW]; exact (Below.refl _ _).alloc (Nat.le_refl _) _
  have hzW : W.heap.size = w.heap.size + 1 := by rw [hW]; simp
  have HB : Hid (BoxAt W w.heap.size 52 4 w.heap.size (blkV b off cap body.length sum count row)) := by
    rw [hW]; exact boxAt_new w _ (Nat.le_refl _) rfl
  have HX : Hid (TabAt W fb 0 ∧ BysAt W b off body ∧ body.length < cap ∧ cap ≤ maxLen) := ⟨hT.below hbW hfb, hE.below hbW hb, hr, hcm⟩
  obtain ⟨cx, hcx⟩ : ∃ cx, cx = (crc body).toNat := ⟨_, rfl⟩
  have HCx : Hid (cx = (crc body).toNat) := hcx
  obtain ⟨R, hR⟩ : ∃ R, R = freM sum count (bl row) body := ⟨_, rfl⟩
  have HRR : Hid (R = freM sum count (bl row) body) := hR
  rw [← hR]
  clear hT hE hr hcm hcx hR
  go_enter Tryd.func18, Tryd.ntmps18
  go_upto_region 1 with fail
  rw [← hW]
  clear hW
  have blt := HB.out.lt.2
  have q0 : ∀ n : Out W, n.u.cell? ⟨w.heap.size, 0, none⟩ = some (.slice (some ⟨b, off, none⟩) body.length cap) := fun n => (n.out.cell (p := ⟨w.heap.size, 0, none⟩) blt).trans (HB.out.cell (j := 0) rfl)
  have q1 : ∀ n : Out W, n.u.cell? ⟨w.heap.size, 1, none⟩ = some (.int .u32 (sum : Int)) := fun n => (n.out.cell (p := ⟨w.heap.size, 1, none⟩) blt).trans (HB.out.cell (j := 1) rfl)
  have HCrc : Hid (∀ n : Out W, Calls Tryd.prog 35 #[.pointer (some ⟨fb, 0, none⟩), .slice (some ⟨b, off, none⟩) body.length cap] n.u fun e w' => e = .returned (.int .u32 (cx : Int)) ∧ Below n.u.heap.size n.u w') := fun n => by
    rw [HCx.out]
    refine (tableOf_core fb 0 b off cap body n.u (HX.out.1.below n.out (by omega)) (HX.out.2.1.below n.out (by omega)) (by unfold maxLen; omega)).mono ?_
    rintro e w' ⟨rfl, rfl⟩
    exact ⟨rfl, Below.refl _ _⟩
  by_cases hsum : cx = sum
  case neg =>
    have HR2 : Hid (R = (2, [])) := by
      show R = _
      rw [HRR.out]; unfold freM; rw [← HCx.out, if_pos hsum]
    have z1 : ¬ (cx : Int) = (sum : Int) := by omega
    clear hsum
    refine wp_region_demand 18 17 (.const (.int .i64 2)) 2 [(17, .bool false)] rfl (fun m => by kernel_rfl) (by kernel_rfl) (fun a' h => ⟨h (17, _) (by simp), rfl⟩) ?q ?_
    case q => exact fun a' w' hb hd => ⟨hd, hbW.trans (hb.mono hbW.size), .inr ⟨by rw [HR2.out]; simp, by rw [HR2.out]⟩⟩
    intro m
    dsimp only [List.dropLast, fk, List.cons_append, List.nil_append]
    repeat (go_big_quiet_step ((first | rfl | (go_at_call 35; exact Calls.out_of (HCrc.out _)))))
    refine wpQuiet_nil ?_
    exact ⟨rfl, slots1 (congrArg Value.bool (beq_eq_false_iff_ne.2 z1))⟩
  subst hsum
  have HI0 : Hid (R = entEnd (bl row) (getEnts count [] body)) := by
    show R = _
    rw [HRR.out]; unfold freM; rw [← HCx.out, if_neg (fun q => q rfl)]
  refine wp_region_out (by kernel_rfl) (by kernel_rfl) ?_
  repeat (go_big_quiet_step ((first | rfl | (go_at_call 35; exact Calls.out_of (HCrc.out _)) | (go_at_call 19; exact Calls.out_of ((demand_yes _ _).mono fun e w' ⟨he, hw⟩ => ⟨he, hw ▸ Below.refl _ _⟩)))))
  refine wpQuiet_nil ?_
  rintro w1 ⟨⟨wx, hb1⟩, rfl⟩
  have HB1 : Hid (BoxAt w1 w.heap.size 52 4 w.heap.size (blkV b off cap body.length cx count row)) := HB.out.below hb1
  have HX1 : Hid (BysAt w1 b off body ∧ Below w.heap.size w w1) := ⟨HX.out.2.1.below hb1 (by omega), hbW.trans (hb1.mono hbW.size)⟩
  have s1 := hb1.size
  clear q0 q1 HCrc HB blt hb1
  have c0 := HB1.out.cell (j := 0) rfl
  have c2 := HB1.out.cell (j := 2) rfl
  obtain ⟨i, hi, hz0, hz1, hz2⟩ := info_parts Tryd.infoEnt
  have HI : Hid (Tryd.prog.info? 67 = some i ∧ i.zero = some (.agg #[.string ⟨#[]⟩, .string ⟨#[]⟩, .string ⟨#[]⟩, .int .u64 0, .int .i64 0, .string ⟨#[]⟩]) ∧ i.size = 6 ∧ i.bytes = 80) := ⟨hi, hz0, hz1, hz2⟩
  clear hi hz0 hz1 hz2
  have hb' : b < w1.heap.size := by omega
  obtain ⟨W2, hW2⟩ : ∃ W2 : World, W2 = w1.alloc (Obj.cells #[.slice (some ⟨b, off, none⟩) body.length cap, .int .i64 3] 82) := ⟨_, rfl⟩
  have hb2 : Below w1.heap.size w1 W2 := by rw [hW2]; exact (Below.refl _ _).alloc (Nat.le_refl _) _
  have z2 : W2.heap.size = w1.heap.size + 1 := by rw [hW2]; simp
  have HR2 : Hid (RdE W2 w.heap.size w1.heap.size b body 3) := by
    refine ⟨off, cap, ?_, HX1.out.1.below hb2 hb', by omega, by omega, HX.out.2.2.1, hl, HX.out.2.2.2⟩
    rw [hW2]
    exact boxAt_new w1 _ (by omega) rfl
  have HB2 : Hid (BoxAt W2 w.heap.size 52 4 w.heap.size (blkV b off cap body.length cx count row) ∧ Below w.heap.size w W2) := ⟨HB1.out.below hb2, HX1.out.2.trans (hb2.mono (by omega))⟩
  go_upto_region 3 with fail
  rw [← hW2]
  clear hW2 c0 c2 HB1
  have c2 := HB2.out.1.cell (j := 2) rfl
  go_wp2_with (at_make; refine wpList_make_own _ rfl _ _ 23 rfl W2.heap.size 67 i _ 6 Tryd.underlying23 HI.out.1 HI.out.2.1 HI.out.2.2.1 _ _ _ count rfl rfl rfl ?hb ?hm ?hs ?_)
  case hb => rw [HI.out.2.2.2]; omega
  case hm => unfold maxLen; omega
  case hs => exact Nat.le_refl _
  intro w3 hown hgrow
  have hb3 : Below W2.heap.size W2 w3 := (Below.refl _ _).grown hgrow (Nat.le_refl _) (fun k hk => by cases hk)
  have HJ0 : Hid (FreJ w w3 (w1.heap.size + 1) w1.heap.size b off cap body.length cx count row body (w1.heap.size + 1) count []) :=
    ⟨HR2.out.chg (S := fun _ => False) (Chg.of_below hb3) (fun q => q) (fun q => q), HB2.out.1.below hb3, hown, HB2.out.2.trans (hb3.mono HB2.out.2.size), Nat.le_refl _, by have := hb3.size; omega⟩
  have hs3 := HB2.out.2.size
  clear hown hgrow hb3 HB2 HR2 hb2 c2
  have c2 := HJ0.out.blk.cell (j := 2) rfl
  go_wp2_with fail
  obtain ⟨B, hBz⟩ : ∃ B, B = w1.heap.size + 1 := ⟨_, rfl⟩
  obtain ⟨rb, hrb⟩ : ∃ rb, rb = w1.heap.size := ⟨_, rfl⟩
  have HN : Hid (w.heap.size < rb ∧ rb < B) := by
    have := HX1.out.2.size
    exact ⟨by omega, by omega⟩
  rw [← hBz, ← hrb] at HJ0
  rw [← hBz, ← hrb]
  clear c2 z2 hBz hrb s1 hs3 hb'
  go_loopw [6, 7, 27] (fun o s kk wr => ∃ (k g cp : Nat) (bf : ByteArray) (l : List Ent) (t : List UInt8), o = .slice (some ⟨g, 0, none⟩) l.length cp ∧ s = .string bf ∧ kk = .int .i64 (k : Int) ∧ EntsTo count body k l (bl bf) t ∧ bf.size ≤ 64 ∧ (∀ e ∈ l, e.ok) ∧ FreJ w wr B rb b off cap body.length cx count row t g cp l) (fun _ _ kk _ => count - (intOf kk).toNat)
  case atStart => exact ⟨0, B, count, ⟨#[]⟩, [], body, rfl, rfl, rfl, entsTo_zero count body, by decide, fun e he => by simp at he, HJ0.out⟩
  case round =>
    clear HJ0 HI
    obtain ⟨k, g, cp, bf, l, t, rfl, rfl, rfl, hET, hbf, hok, hJ⟩ := hrel
    have HET : Hid (EntsTo count body k l (bl bf) t ∧ ∀ e ∈ l, e.ok) := ⟨hET, hok⟩
    have HJ : Hid (FreJ w wr B rb b off cap body.length cx count row t g cp l) := hJ
    have hk := hET.1
    have hll : l.length ≤ 1000 := by have := hET.2.1; omega
    have hJb := hJ.below.size
    have hJs := hJ.size
    have hJl := hJ.len
    clear hET hok hJ
    by_cases hlt : k < count
    · have zk : (k : Int) < (count : Int) := by omega
      go_wp2_with fail
      refine (rdEntry_core w.heap.size rb b bf t 3 wr HJ.out.rd (by have := HN.out; omega) (by omega) (by omega) (by omega)).mono ?_
      rintro e w4 ⟨hC4, (⟨x, t', hx, rfl, hxo, htl, hR4⟩ | ⟨hx, rfl⟩)⟩
      case inr =>
        have HR2 : Hid (R = (3, [])) := by
          show R = _
          rw [HI0.out, HET.out.1.stop hlt hx]; rfl
        exact ⟨rfl, Chg.below HJ.out.below hC4 HJ.out.below.size (by have := HN.out; omega), .inr ⟨by rw [HR2.out]; simp, by rw [HR2.out]⟩⟩
      have HX4 : Hid (EntsTo count body (k + 1) (l ++ [x]) (bl x.row) t' ∧ (∀ e ∈ l ++ [x], e.ok) ∧ x.row.size ≤ 64) := by
        refine ⟨HET.out.1.more hlt hx, ?_, (vld_parts (getEnt_ok hx)).2.1⟩
        intro e he
        rcases List.mem_append.1 he with he | he
        · exact HET.out.2 e he
        · simp at he; subst he; exact hxo
      have HJ4 : Hid (FreJ w w4 B rb b off cap body.length cx count row t' g cp l) := HJ.out.read HN.out.1 HN.out.2 hC4 hR4 htl
      clear hC4 hx hxo htl hR4 HJ HET
      obtain ⟨WD, hWD⟩ : ∃ V : World, V = (w4.alloc (Obj.cells #[.string x.row, .string x.fam, .string x.qual, .int .u64 x.ts, .int .i64 x.kind, .string x.val] 67)).alloc (Obj.cells #[.string x.row, .string x.fam, .string x.qual, .int .u64 x.ts, .int .i64 x.kind, .string x.val] 67) := ⟨_, rfl⟩
      have hbD : Below w4.heap.size w4 WD := by rw [hWD]; exact ((Below.refl _ _).alloc (Nat.le_refl _) _).alloc (by simp) _
      have zD : WD.heap.size = w4.heap.size + 2 := by rw [hWD]; simp
      have HTD : Hid (FreJ w WD B rb b off cap body.length cx count row t' g cp l ∧ EntsAt WD (w4.heap.size + 1) 0 [x] ∧ WD.cell? ⟨w4.heap.size, 0, none⟩ = some (.string x.row)) := by
        refine ⟨HJ4.out.grow hbD, ?_, ?_⟩
        · rw [hWD]
          have := ent_box (w4.alloc (Obj.cells #[.string x.row, .string x.fam, .string x.qual, .int .u64 x.ts, .int .i64 x.kind, .string x.val] 67)) x
          simpa using this
        · rw [hWD, World.cell?_alloc_lt _ _ ⟨w4.heap.size, 0, none⟩ (by simp)]
          simp
      have sD := HTD.out.1.size
      clear hbD
      go_wp2_with (at_builtin; rw [← hWD]; refine wpList_append_entA _ rfl _ _ rfl B g cp l.length (w4.heap.size + 1) 1 1 l [x] rfl rfl rfl rfl ?hO ?hc ?hl ?hb ?_)
      case hO => first | exact HTD.out.1.ents | (rw [← hWD]; exact HTD.out.1.ents)
      case hc => first | exact HTD.out.2.1 | (rw [← hWD]; exact HTD.out.2.1)
      case hl => first | omega | (simp; omega)
      case hb => first | exact sD | omega
      intro g' cp' wE hOE hgrE hatE
      try rw [← hWD] at hgrE
      have HJE : Hid (FreJ w wE B rb b off cap body.length cx count row t' g' cp' (l ++ [x])) := HTD.out.1.app HN.out.1 HN.out.2 hb hOE hgrE
      have c0 : wE.cell? ⟨w4.heap.size, 0, none⟩ = some (.string x.row) := by
        have hgl := HTD.out.1.ents.lt
        have hc : Chg (fun k => k = g) WD wE := Chg.of_grown hgrE (fun k hk => by cases hk; rfl)
        rw [hc.cell (p := ⟨w4.heap.size, 0, none⟩) (by show w4.heap.size < _; omega) (by show ¬ w4.heap.size = g; have := HJ4.out.ents.lt; omega)]
        exact HTD.out.2.2
      have hle : l.length + 1 = (l ++ [x]).length := by simp
      rw [hle]
      clear hOE hgrE hatE hWD HTD sD zD HJ4 hle
      go_wp2_with fail
      go_roundw
      case rel => exact ⟨k + 1, g', cp', x.row, l ++ [x], t', by simp, rfl, by go_num, HX4.out.1, HX4.out.2.2, HX4.out.2.1, HJE.out⟩
      case measure => simp [intOf]; omega
    · obtain rfl : k = count := by omega
      have hl1 : 1 ≤ l.length := by have := HET.out.1.2.1; omega
      obtain ⟨e0, he0⟩ : ∃ e0, l[0]? = some e0 := ⟨_, List.getElem?_eq_getElem (by omega)⟩
      have hrow0 : row0 l = bl e0.row := by
        cases l with
        | nil => simp at he0
        | cons x t => simp at he0; subst he0; rfl
      have HD : Hid (R = if t ≠ [] ∨ bl e0.row ≠ bl row then (3, []) else (0, l)) := by
        show R = _
        rw [HI0.out, HET.out.1.done, ← hrow0]; rfl
      have HE0 : Hid (l[0]? = some e0) := he0
      obtain ⟨off', cap', hA⟩ := HJ.out.rd
      have HA : Hid (RdAt wr w.heap.size rb b off' cap' t 3) := hA
      clear hA he0 hrow0 HI0
      by_cases ht : t = []
      case neg =>
        have HR2 : Hid (R = (3, [])) := by
          show R = _
          rw [HD.out, if_pos (.inl ht)]
        go_wp2_with fail
        refine (end_bad w.heap.size rb b off' cap' t 3 wr HA.out ht).mono ?_
        rintro e w5 ⟨rfl, hb5⟩
        exact ⟨rfl, HJ.out.below.trans (hb5.mono hJb), .inr ⟨by rw [HR2.out]; simp, by rw [HR2.out]⟩⟩
      subst ht
      go_wp2_with fail
      refine (end_ok w.heap.size rb b off' cap' 3 wr HA.out).mono ?_
      rintro e w5 ⟨rfl, hb5⟩
      have HJ5 : Hid (FreJ w w5 B rb b off cap body.length cx k row [] g cp l) := HJ.out.grow hb5
      clear hb5 HA HJ
      have glt := HJ5.out.ents.lt.2
      have blt := HJ5.out.blk.lt.2
      have q0 : ∀ n : Out w5, n.u.cell? ⟨g, 0, none⟩ = some (.string e0.row) := fun n => (n.out.cell (p := ⟨g, 0, none⟩) glt).trans (by have := (HJ5.out.ents.at 0 e0 HE0.out).1; simpa using this)
      have q1 : ∀ n : Out w5, n.u.cell? ⟨w.heap.size, 3, none⟩ = some (.string row) := fun n => (n.out.cell (p := ⟨w.heap.size, 3, none⟩) blt).trans (HJ5.out.blk.cell (j := 3) rfl)
      have zl : (0 : Int) < (l.length : Int) := by omega
      clear glt blt
      go_upto_region 12 with fail
      by_cases hre : e0.row = row
      · have HR2 : Hid (R = (0, l)) := by
          show R = _
          rw [HD.out, if_neg]
          rintro (q | q)
          · exact q rfl
          · rw [hre] at q; exact q rfl
        subst hre
        refine wp_region_out (by kernel_rfl) (by kernel_rfl) ?_
        repeat (go_big_quiet_step ((first | rfl | (go_at_call 19; exact Calls.out_of ((demand_yes _ _).mono fun e w' ⟨he, hw⟩ => ⟨he, hw ▸ Below.refl _ _⟩)))))
        refine wpQuiet_nil ?_
        rintro wy ⟨⟨wx, hby⟩, rfl⟩
        have HJ6 : Hid (FreJ w wy B rb b off cap body.length cx k e0.row [] g cp l) := HJ5.out.grow hby
        clear q0 q1 hby HJ5
        go_wp2_with fail
        go_ret
        refine ⟨HJ6.out.below, .inl ⟨by rw [HR2.out], g, cp, by rw [HR2.out]; rfl, by rw [HR2.out]; exact HJ6.out.ents.mono (by have := HN.out; omega), by rw [HR2.out]; exact HET.out.2⟩⟩
      · have HR2 : Hid (R = (3, [])) := by
          show R = _
          rw [HD.out, if_pos (.inr (fun q => hre (bytes_inj q)))]
        have hne : (e0.row.toList == row.toList) = false := by
          rw [beq_eq_false_iff_ne]
          exact fun q => hre (toList_inj q)
        refine wp_region_demand 46 45 (.const (.int .i64 3)) 3 [(45, .bool false)] rfl (fun m => by kernel_rfl) (by kernel_rfl) (fun a' h => ⟨h (45, _) (by simp), rfl⟩) ?q ?_
        case q => exact fun a' w' hb hd => ⟨hd, HJ5.out.below.trans (hb.mono HJ5.out.below.size), .inr ⟨by rw [HR2.out]; simp, by rw [HR2.out]⟩⟩
        intro m
        dsimp only [List.dropLast, fk, List.cons_append, List.nil_append]
        repeat (go_big_quiet_step (rfl))
        refine wpQuiet_nil ?_
        exact ⟨rfl, slots1 rfl⟩
end Go.Proofs.YtnncedndlhfdkacDoor

/-
  impl.fixedOf.
-/
namespace Go.Proofs.YtnncedndlhfdkacDoor
open Go.ChangeShapes Go.WideShapes Go.ChangeAt Go.RowKit Go.Deep
set_option linter.unusedVariables false
set_option linter.unusedSimpArgs false
set_option maxRecDepth 100000

theorem or_add32 {a y m : Nat} (ha : a < 2 ^ m) (hs : a + y * 2 ^ m < 2 ^ 32) : bits .or .u32 (a : Int) ((y * 2 ^ m : Nat) : Int) = ((a + y * 2 ^ m : Nat) : Int) := by
  have h1 : BitVec.ofInt 32 (a : Int) = BitVec.ofNat 32 a := by simp
  have h2 : BitVec.ofInt 32 ((y * 2 ^ m : Nat) : Int) = BitVec.ofNat 32 (y * 2 ^ m) := BitVec.ofInt_natCast _ _
  show IntKind.wrap .u32 ((BitVec.ofInt 32 (a : Int) ||| BitVec.ofInt 32 ((y * 2 ^ m : Nat) : Int)).toNat : Int) = _
  rw [h1, h2, BitVec.toNat_or, BitVec.toNat_ofNat, BitVec.toNat_ofNat, Nat.mod_eq_of_lt (by omega), Nat.mod_eq_of_lt (by omega)]
  have h3 : a ||| y * 2 ^ m = a + y * 2 ^ m := by
    rw [Nat.or_comm, ← Nat.shiftLeft_eq, ← Nat.shiftLeft_add_eq_or_of_lt ha, Nat.add_comm]
  rw [h3]
  simp only [IntKind.wrap, IntKind.bits, IntKind.signed, Bool.false_and, Bool.false_eq_true, if_false]
  omega

set_option maxHeartbeats 2000000 in
theorem fixedOf_core (b off cap : Nat) (xs : List UInt8) (w : World) (hE : BysAt w b off xs) (h4 : 4 ≤ xs.length) (hlen : xs.length ≤ 2 ^ 30) :
    Calls Tryd.prog 33 #[.slice (some ⟨b, off, none⟩) xs.length cap] w fun e w' => e = .returned (.int .u32 (fixAt xs 0 : Int)) ∧ Below w.heap.size w w' := by
  obtain ⟨x0, h0⟩ : ∃ x, xs[0]? = some x := ⟨_, List.getElem?_eq_getElem (by omega)⟩
  obtain ⟨x1, h1⟩ : ∃ x, xs[1]? = some x := ⟨_, List.getElem?_eq_getElem (by omega)⟩
  obtain ⟨x2, h2⟩ : ∃ x, xs[2]? = some x := ⟨_, List.getElem?_eq_getElem (by omega)⟩
  obtain ⟨x3, h3⟩ : ∃ x, xs[3]? = some x := ⟨_, List.getElem?_eq_getElem (by omega)⟩
  have c0 : w.cell? ⟨b, off, none⟩ = some (ub x0) := hE 0 x0 h0
  have c1 := hE 1 x1 h1
  have c2 := hE 2 x2 h2
  have c3 := hE 3 x3 h3
  have HF : Hid (fixAt xs 0 = x0.toNat + 256 * x1.toNat + 65536 * x2.toNat + 16777216 * x3.toNat) := by
    show fixAt xs 0 = _
    unfold fixAt fix4
    simp only [List.getD_eq_getElem?_getD, Nat.zero_add, h0, h1, h2, h3, Option.getD_some]
  have z0 : (0 : Int) < (xs.length : Int) := by omega
  have z1 : (1 : Int) < (xs.length : Int) := by omega
  have z2 : (2 : Int) < (xs.length : Int) := by omega
  have z3 : (3 : Int) < (xs.length : Int) := by omega
  clear hE h0 h1 h2 h3 h4 hlen
  go_enter Tryd.func33, Tryd.ntmps33
  go_upto_region 1 with fail
  go_quiet (fail)
  go_wp2_with fail
  go_ret
  refine ⟨?_, below_drewN (Below.refl _ _) _⟩
  have u0 := u8lt x0
  have u1 := u8lt x1
  have u2 := u8lt x2
  have u3 := u8lt x3
  have e0 : (x0.toNat : Int) % 4294967296 = (x0.toNat : Int) := by omega
  have e1 : (x1.toNat : Int) % 4294967296 * 256 % 4294967296 = ((x1.toNat * 2 ^ 8 : Nat) : Int) := by omega
  have e2 : (x2.toNat : Int) % 4294967296 * 65536 % 4294967296 = ((x2.toNat * 2 ^ 16 : Nat) : Int) := by omega
  have e3 : (x3.toNat : Int) % 4294967296 * 16777216 % 4294967296 = ((x3.toNat * 2 ^ 24 : Nat) : Int) := by omega
  show Ending.returned (Value.int .u32 (bits BinOp.or .u32 (bits BinOp.or .u32 (bits BinOp.or .u32 ((x0.toNat : Int) % 4294967296) ((x1.toNat : Int) % 4294967296 * 256 % 4294967296)) ((x2.toNat : Int) % 4294967296 * 65536 % 4294967296)) ((x3.toNat : Int) % 4294967296 * 16777216 % 4294967296))) = _
  rw [e0, e1, e2, e3, or_add32 (by omega) (by omega), or_add32 (by omega) (by omega), or_add32 (by omega) (by omega), HF.out]
  congr 2
  omega
end Go.Proofs.YtnncedndlhfdkacDoor

/-
  Blocks of a file as the program keeps them; a row of them in memory.
-/
namespace Go.Proofs.YtnncedndlhfdkacDoor
open Go.ChangeShapes Go.WideShapes Go.ChangeAt Go.RowKit Go.Deep
set_option linter.unusedVariables false
set_option linter.unusedSimpArgs false
set_option maxRecDepth 100000

/-- Where the file lies. -/
structure FileAt where
  b : Nat
  off : Nat
  cap : Nat
  xs : List UInt8
abbrev FileAt.four (f : FileAt) (k : Blk) : List Value := [.slice (some ⟨f.b, f.off + k.fr, none⟩) (k.til - k.fr) (f.cap - k.fr), .int .u32 (fixAt f.xs k.til : Int), .int .i64 (k.count : Int), .string k.row]
def FileAt.cells (f : FileAt) (l : List Blk) : List Value := l.flatMap f.four
theorem FileAt.cells_append (f : FileAt) (l k : List Blk) : f.cells (l ++ k) = f.cells l ++ f.cells k := by simp [FileAt.cells]
theorem FileAt.length_cells (f : FileAt) (l : List Blk) : (f.cells l).length = l.length * 4 := by
  induction l with
  | nil => rfl
  | cons e l ih => rw [show f.cells (e :: l) = f.four e ++ f.cells l by simp [FileAt.cells], List.length_append, ih]; simp; omega
theorem FileAt.cells_get (f : FileAt) (l : List Blk) : ∀ (k : Nat) (e : Blk), l[k]? = some e → ∀ j, j < 4 → (f.cells l)[k * 4 + j]? = (f.four e)[j]? := by
  induction l with
  | nil => intro k e h; simp at h
  | cons x l ih =>
    intro k e h j hj
    rw [show f.cells (x :: l) = f.four x ++ f.cells l by simp [FileAt.cells]]
    cases k with
    | zero =>
      simp at h; subst h
      rw [List.getElem?_append_left (by show 0 * 4 + j < 4; omega)]
      simp
    | succ k =>
      simp at h
      rw [List.getElem?_append_right (by show 4 ≤ (k + 1) * 4 + j; omega)]
      have : (k + 1) * 4 + j - (f.four x).length = k * 4 + j := by show (k + 1) * 4 + j - 4 = _; omega
      rw [this]; exact ih k e h j hj
/-- A row of the program's blocks. -/
def OwnF (f : FileAt) (w : World) (base g cp : Nat) (l : List Blk) : Prop := w.ownsRow base 52 4 (.slice (some ⟨g, 0, none⟩) l.length cp) l.length (f.cells l)
theorem OwnF.lt {f : FileAt} {w : World} {base g cp : Nat} {l : List Blk} (h : OwnF f w base g cp l) : base ≤ g ∧ g < w.heap.size := World.ownsRow.lt h g rfl
theorem OwnF.chg {f : FileAt} {S : Nat → Prop} {w w' : World} {base g cp : Nat} {l : List Blk} (h : OwnF f w base g cp l) (hc : Chg S w w') (hn : ¬ S g) : OwnF f w' base g cp l := own_chg h hc (fun k q => by simp [Value.ownBlock] at q; subst q; exact hn)
theorem OwnF.below {f : FileAt} {w w' : World} {base g cp : Nat} {l : List Blk} (h : OwnF f w base g cp l) (hb : Below w.heap.size w w') : OwnF f w' base g cp l := h.chg (Chg.of_below hb) (S := fun _ => False) (fun q => q)
theorem OwnF.mono {f : FileAt} {w : World} {base base' g cp : Nat} {l : List Blk} (h : OwnF f w base g cp l) (hb : base' ≤ base) : OwnF f w base' g cp l := by
  refine ⟨h.1, ?_⟩
  rcases h.2 with hn | ⟨g', cap', cur, hv, h1, rest⟩
  · exact .inl hn
  · exact .inr ⟨g', cap', cur, hv, Nat.le_trans hb h1, rest⟩
theorem OwnF.at {f : FileAt} {w : World} {base g cp : Nat} {l : List Blk} (h : OwnF f w base g cp l) {k : Nat} {e : Blk} (he : l[k]? = some e) :
    w.cell? ⟨g, k * 4, none⟩ = some (.slice (some ⟨f.b, f.off + e.fr, none⟩) (e.til - e.fr) (f.cap - e.fr)) ∧ w.cell? ⟨g, k * 4 + 1, none⟩ = some (.int .u32 (fixAt f.xs e.til : Int)) ∧ w.cell? ⟨g, k * 4 + 2, none⟩ = some (.int .i64 (e.count : Int)) ∧ w.cell? ⟨g, k * 4 + 3, none⟩ = some (.string e.row) := by
  have hi : k < l.length := (List.getElem?_eq_some_iff.1 he).1
  have c := fun j (hj : j < 4) => (World.ownsRow.cellAt h (k * 4 + j) (by omega)).trans (f.cells_get l k e he j hj)
  refine ⟨?_, ?_, ?_, ?_⟩
  · simpa using c 0 (by omega)
  · simpa using c 1 (by omega)
  · simpa using c 2 (by omega)
  · simpa using c 3 (by omega)
theorem ownF_new (f : FileAt) (w : World) {base : Nat} (hb : base ≤ w.heap.size) : OwnF f (w.alloc (Obj.cells #[] 52)) base w.heap.size 0 [] :=
  World.ownsRow_made w #[] 0 hb (Nat.zero_le _) (by simp)
theorem Tryd.infoFBlk : (Tryd.prog.info? 52).map (fun i => (i.zero, i.size, i.bytes)) = some (some (.agg #[.slice none 0 0, .int .u32 0, .int .i64 0, .string ⟨#[]⟩]), 4, 56) := by kernel_rfl
theorem wpList_append_fblk {f : FileAt} {ops : Array Oper} {rest : List Oper} {o : Oper} {a : Act} {Q : Exit → Act → World → Prop} (w : World) (hgd : o.guard = none) (s x : Operand)
    (ho : o.op = .call { callee := .builtin .append, args := #[s, x], argTypes := #[47, 47] })
    (base g cp n blk : Nat) (l : List Blk) (e : Blk) (hs : a.eval s = .slice (some ⟨g, 0, none⟩) n cp) (hx : a.eval x = .slice (some ⟨blk, 0, none⟩) 1 1) (hn : n = l.length) (hO : OwnF f w base g cp l)
    (hc : ∀ j u, (f.four e)[j]? = some u → w.cell? ⟨blk, j, none⟩ = some u) (hlen : l.length ≤ 2 ^ 30) (hbase : base ≤ w.heap.size)
    (h : ∀ g' cp' w', OwnF f w' base g' cp' (l ++ [e]) → w.grownBy w' (some g) → (g' = g ∨ g' = w.heap.size) → wpList Tryd.prog ops Q rest (a.put o.dst (.slice (some ⟨g', 0, none⟩) (n + 1) cp')) w') : wpList Tryd.prog ops Q (o :: rest) a w := by
  obtain ⟨i, hi, hz0, hz1, hz2⟩ := info_parts Tryd.infoFBlk
  subst hn
  have he : f.cells [e] = f.four e := by simp [FileAt.cells]
  refine wpList_append_own_at w hgd s x 47 ho base 52 i _ 4 56 Tryd.underlying47 hi hz0 hz1 hz2 rfl (by decide) (.slice (some ⟨g, 0, none⟩) l.length cp) l.length (f.cells l) hs hO ⟨blk, 0, none⟩ 1 1 (f.cells [e]) hx (f.length_cells [e]) ?_ ?_ ?_ ?_ hbase ?_
  · intro j u hu
    rw [he] at hu
    rw [Addr.add_mid, Nat.zero_add]
    exact hc j u hu
  · intro u hu
    rw [he] at hu
    simp at hu
    rcases hu with rfl | rfl | rfl | rfl <;> rfl
  · unfold maxLen; omega
  · omega
  · intro v' w' hO' hgr hnil hat
    rcases hO'.2 with ⟨h0, _⟩ | ⟨g', cap', cur, hv, _, _, hn, hcap, _, _⟩
    · have := (hnil.1 h0).1
      cases this
    · subst hv
      refine h g' cap' w' ?_ hgr ?_
      · unfold OwnF
        rw [List.length_append, f.cells_append]
        exact hO'
      · simp [Value.ownBlock] at hat
        exact hat
/-- The bytes from 'p' up to 'lim'. -/
def span (xs : List UInt8) (p lim : Nat) : List UInt8 := (xs.drop p).take (lim - p)
theorem span_len {xs : List UInt8} {p lim : Nat} (h : lim ≤ xs.length) : (span xs p lim).length = lim - p := by
  unfold span; rw [List.length_take, List.length_drop]; omega
theorem span_drop (xs : List UInt8) (p lim n : Nat) : (span xs p lim).drop n = span xs (p + n) lim := by
  unfold span
  rw [List.drop_take, List.drop_drop]
  congr 1
  omega
theorem span_take {xs : List UInt8} {p lim n : Nat} (h : n ≤ lim - p) : (span xs p lim).take n = span xs p (p + n) := by
  unfold span
  rw [List.take_take, Nat.min_eq_left h, Nat.add_sub_cancel_left]
theorem fixAt_span {xs : List UInt8} {p : Nat} (h : p + 4 ≤ xs.length) : fixAt (span xs p (p + 4)) 0 = fixAt xs p := by
  unfold fixAt span
  simp only [List.getD_eq_getElem?_getD, Nat.zero_add, Nat.add_sub_cancel_left, List.getElem?_take, List.getElem?_drop]
  simp
end Go.Proofs.YtnncedndlhfdkacDoor

/-
  impl.readBlocks.
-/
namespace Go.Proofs.YtnncedndlhfdkacDoor
open Go.ChangeShapes Go.WideShapes Go.ChangeAt Go.RowKit Go.Deep
set_option linter.unusedVariables false
set_option linter.unusedSimpArgs false
set_option maxRecDepth 100000

theorem oneBlk_none1 {n lim p : Nat} {t : List UInt8} (h : getNum t = none) : oneBlk n lim p t = none := by unfold oneBlk; rw [h]
theorem oneBlk_none2 {n lim p size : Nat} {t t1 : List UInt8} (h : getNum t = some (size, t1)) (h2 : lim < p + size + 4) : oneBlk n lim p t = none := by
  unfold oneBlk; rw [h]; simp only []
  cases getNum t1 with
  | none => rfl
  | some q =>
    simp only []
    cases getStr q.2 with
    | none => rfl
    | some r => simp only []; rw [if_pos (.inr (.inr (.inr h2)))]
theorem oneBlk_none3 {n lim p size : Nat} {t t1 : List UInt8} (h : getNum t = some (size, t1)) (h2 : getNum t1 = none) : oneBlk n lim p t = none := by
  unfold oneBlk; rw [h]; simp only []; rw [h2]
theorem oneBlk_none4 {n lim p size count : Nat} {t t1 t2 : List UInt8} (h : getNum t = some (size, t1)) (h2 : getNum t1 = some (count, t2)) (h3 : count < 1 ∨ 1000 < count) : oneBlk n lim p t = none := by
  unfold oneBlk; rw [h]; simp only []; rw [h2]; simp only []
  cases getStr t2 with
  | none => rfl
  | some r =>
    simp only []
    rw [if_pos]
    rcases h3 with h3 | h3
    · exact .inl h3
    · exact .inr (.inl h3)
theorem oneBlk_none5 {n lim p size count : Nat} {t t1 t2 : List UInt8} (h : getNum t = some (size, t1)) (h2 : getNum t1 = some (count, t2)) (h3 : getStr t2 = none) : oneBlk n lim p t = none := by
  unfold oneBlk; rw [h]; simp only []; rw [h2]; simp only []; rw [h3]
theorem oneBlk_some {n lim p size count : Nat} {t t1 t2 t3 : List UInt8} {row : ByteArray} (h : getNum t = some (size, t1)) (h2 : getNum t1 = some (count, t2)) (h3 : getStr t2 = some (bl row, t3)) (hc : 1 ≤ count ∧ count ≤ 1000) (hl : p + size + 4 ≤ lim) (hn : lim ≤ n) :
    oneBlk n lim p t = some (⟨p, p + size, count, row⟩, p + size + 4, t3) := by
  unfold oneBlk; rw [h]; simp only []; rw [h2]; simp only []; rw [h3]; simp only []
  rw [if_neg (by omega), ba_bl]

def RbP (f : FileAt) (w : World) (r : Int × List Blk) (e : Ending) (w' : World) : Prop :=
  Below w.heap.size w w' ∧ ((r.1 = 0 ∧ ∃ g cp, e = .returned (.slice (some ⟨g, 0, none⟩) r.2.length cp) ∧ OwnF f w' w.heap.size g cp r.2) ∨ (r.1 ≠ 0 ∧ e = Corr r.1))
/-- Between two blocks of the index: the two readers and the row so far. -/
structure RbJ (f : FileAt) (w wr : World) (lim p : Nat) (t : List UInt8) (g cp : Nat) (l : List Blk) : Prop where
  marks : RdE wr w.heap.size w.heap.size f.b t 1
  space : RdAt wr w.heap.size (w.heap.size + 1) f.b (f.off + p) (f.cap - p) (span f.xs p lim) 1
  row : OwnF f wr (w.heap.size + 2) g cp l
  below : Below w.heap.size w wr
  le : p ≤ lim
theorem RbJ.size {f : FileAt} {w wr : World} {lim p : Nat} {t : List UInt8} {g cp : Nat} {l : List Blk} (h : RbJ f w wr lim p t g cp l) : w.heap.size + 2 ≤ wr.heap.size := by have := h.row.lt; omega
theorem RbJ.mark {f : FileAt} {w wr w' : World} {lim p : Nat} {t t' : List UInt8} {g cp : Nat} {l : List Blk} (h : RbJ f w wr lim p t g cp l) (hb : f.b < w.heap.size) (hc : Chg (fun k => k = w.heap.size) wr w') (hr : RdE w' w.heap.size w.heap.size f.b t' 1) : RbJ f w w' lim p t' g cp l :=
  ⟨hr, h.space.chg hc (by omega) (by omega), h.row.chg hc (by have := h.row.lt; omega), Chg.below h.below hc h.below.size (by omega), h.le⟩
theorem RbJ.spc {f : FileAt} {w wr w' : World} {lim p p' : Nat} {t : List UInt8} {g cp : Nat} {l : List Blk} (h : RbJ f w wr lim p t g cp l) (hb : f.b < w.heap.size) (hc : Chg (fun k => k = w.heap.size + 1) wr w') (hr : RdAt w' w.heap.size (w.heap.size + 1) f.b (f.off + p') (f.cap - p') (span f.xs p' lim) 1) (hl : p' ≤ lim) : RbJ f w w' lim p' t g cp l :=
  ⟨h.marks.chg hc (by omega) (by omega), hr, h.row.chg hc (by have := h.row.lt; omega), Chg.below h.below hc h.below.size (by omega), hl⟩
theorem RbJ.grow {f : FileAt} {w wr w' : World} {lim p : Nat} {t : List UInt8} {g cp : Nat} {l : List Blk} (h : RbJ f w wr lim p t g cp l) (hb : Below wr.heap.size wr w') : RbJ f w w' lim p t g cp l :=
  ⟨h.marks.chg (S := fun _ => False) (Chg.of_below hb) (fun q => q) (fun q => q), h.space.chg (S := fun _ => False) (Chg.of_below hb) (fun q => q) (fun q => q), h.row.below hb, h.below.trans (hb.mono h.below.size), h.le⟩
theorem RbJ.app {f : FileAt} {w wr w' : World} {lim p : Nat} {t : List UInt8} {g cp g' cp' : Nat} {l l' : List Blk} (h : RbJ f w wr lim p t g cp l) (hb : f.b < w.heap.size) (hO : OwnF f w' (w.heap.size + 2) g' cp' l') (hg : wr.grownBy w' (some g)) : RbJ f w w' lim p t g' cp' l' := by
  have hlt := h.row.lt.1
  have hc : Chg (fun k => k = g) wr w' := Chg.of_grown hg (fun k hk => by cases hk; rfl)
  exact ⟨h.marks.chg hc (by omega) (by omega), h.space.chg hc (by omega) (by omega), hO, h.below.grown hg h.below.size (fun k hk => by cases hk; omega), h.le⟩

set_option maxHeartbeats 8000000 in
theorem readBlocks_core (f : FileAt) (lim m capI : Nat) (w : World) (hE : BysAt w f.b f.off f.xs) (hb : f.b < w.heap.size) (hl : f.xs.length ≤ 2 ^ 29) (h4 : 4 ≤ lim) (hlim : lim + m + 8 = f.xs.length) (hcap : f.xs.length ≤ f.cap) (hcm : f.cap ≤ maxLen) (hci : capI = f.cap - lim) :
    Calls Tryd.prog 36 #[.slice (some ⟨f.b, f.off + lim, none⟩) m capI, .slice (some ⟨f.b, f.off + 4, none⟩) (lim - 4) (f.cap - 4)] w fun e w' => RbP f w (idxBody f.xs.length lim ((f.xs.drop lim).take m)) e w' := by
  obtain ⟨ix, hix⟩ : ∃ ix, ix = (f.xs.drop lim).take m := ⟨_, rfl⟩
  have hixl : ix.length = m := by rw [hix, List.length_take, List.length_drop]; omega
  obtain ⟨R, hR⟩ : ∃ R, R = idxBody f.xs.length lim ix := ⟨_, rfl⟩
  rw [← hix, ← hR]
  have HRR : Hid (R = idxBody f.xs.length lim ix) := hR
  obtain ⟨W, hW⟩ : ∃ W : World, W = (w.alloc (Obj.cells #[.slice (some ⟨f.b, f.off + lim, none⟩) m capI, .int .i64 1] 82)).alloc (Obj.cells #[.slice (some ⟨f.b, f.off + 4, none⟩) (lim - 4) (f.cap - 4), .int .i64 1] 82) := ⟨_, rfl⟩
  have hbW : Below w.heap.size w W := by rw [hW]; exact ((Below.refl _ _).alloc (Nat.le_refl _) _).alloc (by simp) _
  have hzW : W.heap.size = w.heap.size + 2 := by rw [hW]; simp
  have HW : Hid (RdE W w.heap.size w.heap.size f.b ix 1 ∧ RdAt W w.heap.size (w.heap.size + 1) f.b (f.off + 4) (f.cap - 4) (span f.xs 4 lim) 1 ∧ Below w.heap.size w W) := by
    refine ⟨⟨f.off + lim, capI, ?_, ?_, by omega, by omega, by omega, by omega, by omega⟩, ⟨?_, ?_, by omega, by omega, ?_, ?_, by omega⟩, hbW⟩
    · rw [hW, hixl]
      exact (boxAt_new w _ (Nat.le_refl _) rfl).below ((Below.refl _ _).alloc (Nat.le_refl _) _)
    · rw [hix]
      exact ((hE.below hbW hb).drop lim).take m
    · rw [hW, span_len (by omega)]
      have := boxAt_new (w.alloc (Obj.cells #[.slice (some ⟨f.b, f.off + lim, none⟩) m capI, .int .i64 1] 82)) (base := w.heap.size) (t := 82) (sz := 2) #[.slice (some ⟨f.b, f.off + 4, none⟩) (lim - 4) (f.cap - 4), .int .i64 1] (by simp) rfl
      simpa using this
    · exact ((hE.below hbW hb).drop 4).take (lim - 4)
    · rw [span_len (by omega)]; omega
    · rw [span_len (by omega)]; omega
  have HN : Hid (f.b < w.heap.size ∧ f.xs.length ≤ 2 ^ 29 ∧ 4 ≤ lim ∧ lim + m + 8 = f.xs.length ∧ f.xs.length ≤ f.cap ∧ f.cap ≤ maxLen) := ⟨hb, hl, h4, hlim, hcap, hcm⟩
  clear hE hR hix hixl hcap hcm hci hlim hl
  go_enter Tryd.func36, Tryd.ntmps36
  go_upto_region 3 with fail
  rw [← hW]
  clear hW hzW hbW
  go_wp2_with fail
  refine (number_core w.heap.size w.heap.size f.b ix 1 W HW.out.1).mono ?_
  rintro e w1 ⟨hC1, (⟨K, t0, hn, rfl, hn2, ht, hR1⟩ | ⟨hn, rfl⟩)⟩
  case inr =>
    have HR2 : Hid (R = (1, [])) := by
      show R = _
      rw [HRR.out]; unfold idxBody; rw [hn]
    exact ⟨rfl, Chg.below HW.out.2.2 hC1 HW.out.2.2.size (by omega), .inr ⟨by rw [HR2.out]; simp, by rw [HR2.out]⟩⟩
  by_cases hK : K ≤ 10000
  case neg =>
    have HR2 : Hid (R = (1, [])) := by
      show R = _
      rw [HRR.out]; unfold idxBody; rw [hn]; simp only []; rw [if_pos (by omega)]
    have HB : Hid (Below w.heap.size w w1) := Chg.below HW.out.2.2 hC1 HW.out.2.2.size (by omega)
    have z1 : ¬ (K : Int) ≤ 10000 := by omega
    clear hC1 hn hn2 ht hR1
    go_wp2_with fail
    refine (demand_core _ _ _).mono ?_
    rintro e w3 ⟨rfl, (⟨hc, rfl⟩ | ⟨hc, rfl⟩)⟩
    · exfalso
      simp at hc
      omega
    · exact ⟨rfl, HB.out, .inr ⟨by rw [HR2.out]; simp, by rw [HR2.out]⟩⟩
  have HI0 : Hid (R = idxEnd lim (getBlks f.xs.length lim K 4 t0)) := by
    show R = _
    rw [HRR.out]; unfold idxBody; rw [hn]; simp only []; rw [if_neg (by omega)]
  have HJ0 : Hid (RbJ f w (w1.alloc (Obj.cells #[] 52)) lim 4 t0 w1.heap.size 0 []) := by
    have hs1 := hC1.size
    have hs2 := HW.out.2.1.box.lt.2
    have hbn : Below w1.heap.size w1 (w1.alloc (Obj.cells #[] 52)) := (Below.refl _ _).alloc (Nat.le_refl _) _
    refine ⟨hR1.chg (S := fun _ => False) (Chg.of_below hbn) (fun q => q) (fun q => q), (HW.out.2.1.chg hC1 (by omega) (by omega)).chg (S := fun _ => False) (Chg.of_below hbn) (fun q => q) (fun q => q), ownF_new f w1 (by omega), ?_, h4⟩
    exact (Chg.below HW.out.2.2 hC1 HW.out.2.2.size (by omega)).trans (hbn.mono (by have := HW.out.2.2.size; omega))
  have z1 : (K : Int) ≤ 10000 := by omega
  clear hC1 hn hn2 ht hR1 HW HRR h4
  obtain ⟨W1, hW1⟩ : ∃ W1 : World, W1 = w1.alloc (Obj.cells #[] 52) := ⟨_, rfl⟩
  rw [← hW1] at HJ0
  go_wp2_with fail
  refine (demand_core _ _ _).mono ?_
  rintro e w3 ⟨hw3, (⟨hc, rfl⟩ | ⟨hc, rfl⟩)⟩
  case inr =>
    exfalso
    simp at hc <;> omega
  rw [hw3]
  clear hc hw3 z1
  go_wp2_with fail
  rw [← hW1]
  have hs1 : w.heap.size + 2 ≤ w1.heap.size := by have := HJ0.out.row.lt.1; omega
  clear hW1
  go_loopw [8, 22] (fun o kk wr => ∃ (k g cp p : Nat) (l : List Blk) (t : List UInt8), o = .slice (some ⟨g, 0, none⟩) l.length cp ∧ kk = .int .u64 (k : Int) ∧ BlksTo f.xs.length lim K t0 k l p t ∧ RbJ f w wr lim p t g cp l) (fun _ kk _ => K - (intOf kk).toNat)
  case atStart => exact ⟨0, w1.heap.size, 0, 4, [], t0, rfl, rfl, blksTo_zero _ _ _ _, HJ0.out⟩
  case round =>
    clear HJ0
    obtain ⟨k, g, cp, p, l, t, rfl, rfl, hBT, hJ⟩ := hrel
    have HBT : Hid (BlksTo f.xs.length lim K t0 k l p t) := hBT
    have HJ : Hid (RbJ f w wr lim p t g cp l) := hJ
    have hk := hBT.1
    have hll : l.length ≤ 10000 := by have := hBT.2.1; omega
    clear hBT hJ
    by_cases hlt : k < K
    · have zk : (k : Int) < (K : Int) := by omega
      have HStop : Hid (oneBlk f.xs.length lim p t = none → R = (1, [])) := fun h => by
        rw [HI0.out, HBT.out.stop hlt h]; rfl
      -- the size
      go_wp2_with fail
      refine (number_core w.heap.size w.heap.size f.b t 1 wr HJ.out.marks).mono ?_
      rintro e w2 ⟨hC2, (⟨size, t1, hn1, rfl, hn12, ht1, hR2⟩ | ⟨hn1, rfl⟩)⟩
      case inr =>
        have HR2 := HStop.out (oneBlk_none1 hn1)
        exact ⟨rfl, Chg.below HJ.out.below hC2 HJ.out.below.size (by omega), .inr ⟨by rw [HR2]; simp, by rw [HR2]⟩⟩
      have HJ2 : Hid (RbJ f w w2 lim p t1 g cp l) := HJ.out.mark HN.out.1 hC2 hR2
      have HG1 : Hid (getNum t = some (size, t1) ∧ size < 2 ^ 64) := ⟨hn1, hn12⟩
      have hle := HJ.out.le
      clear hC2 hn1 hn12 ht1 hR2 HJ
      have hspl : (span f.xs p lim).length = lim - p := span_len (by have := HN.out; omega)
      by_cases hfit : size ≤ lim - p
      case neg =>
        have HR2 : Hid (R = (1, [])) := HStop.out (oneBlk_none2 HG1.out.1 (by omega))
        go_wp2_with fail
        refine (take_bad w.heap.size (w.heap.size + 1) f.b _ _ size _ 1 w2 HJ2.out.space (by rw [hspl]; omega) HG1.out.2).mono ?_
        rintro e w3 ⟨rfl, hb3⟩
        exact ⟨rfl, HJ2.out.below.trans (hb3.mono HJ2.out.below.size), .inr ⟨by rw [HR2.out]; simp, by rw [HR2.out]⟩⟩
      go_wp2_with fail
      refine (take_ok w.heap.size (w.heap.size + 1) f.b _ _ size _ 1 w2 HJ2.out.space (by rw [hspl]; exact hfit)).mono ?_
      rintro e w3 ⟨rfl, hA3, hC3⟩
      have HJ3 : Hid (RbJ f w w3 lim (p + size) t1 g cp l) := HJ2.out.spc HN.out.1 hC3 (by rw [span_drop] at hA3; rw [← Nat.add_assoc, ← Nat.sub_sub]; exact hA3) (by omega)
      clear hA3 hC3 HJ2 hspl
      have hspl : (span f.xs (p + size) lim).length = lim - (p + size) := span_len (by have := HN.out; omega)
      by_cases hfit4 : 4 ≤ lim - (p + size)
      case neg =>
        have HR2 : Hid (R = (1, [])) := HStop.out (oneBlk_none2 HG1.out.1 (by omega))
        go_wp2_with fail
        refine (take_bad w.heap.size (w.heap.size + 1) f.b _ _ 4 _ 1 w3 HJ3.out.space (by rw [hspl]; omega) (by omega)).mono ?_
        rintro e w4 ⟨rfl, hb4⟩
        exact ⟨rfl, HJ3.out.below.trans (hb4.mono HJ3.out.below.size), .inr ⟨by rw [HR2.out]; simp, by rw [HR2.out]⟩⟩
      go_wp2_with fail
      refine (take_ok w.heap.size (w.heap.size + 1) f.b _ _ 4 _ 1 w3 HJ3.out.space (by rw [hspl]; exact hfit4)).mono ?_
      rintro e w4 ⟨rfl, hA4, hC4⟩
      have HJ4 : Hid (RbJ f w w4 lim (p + size + 4) t1 g cp l) := HJ3.out.spc HN.out.1 hC4 (by rw [span_drop] at hA4; rw [← Nat.add_assoc, ← Nat.sub_sub]; exact hA4) (by omega)
      have HB4 : Hid (BysAt w4 f.b (f.off + (p + size)) (span f.xs (p + size) (p + size + 4)) ∧ (span f.xs (p + size) (p + size + 4)).length = 4 ∧ fixAt (span f.xs (p + size) (p + size + 4)) 0 = fixAt f.xs (p + size)) := by
        have hN := HN.out
        refine ⟨?_, ?_, fixAt_span (by omega)⟩
        · have h1 := (HJ3.out.space.bys.chgR hC4 HJ3.out.space.lt HJ3.out.space.ne).take 4
          rw [span_take hfit4] at h1
          exact h1
        · rw [span_len (by omega)]; omega
      clear hA4 hC4 HJ3 hspl
      go_wp2_with fail
      have hfx := fixedOf_core f.b (f.off + (p + size)) (f.cap - (p + size)) (span f.xs (p + size) (p + size + 4)) w4 HB4.out.1 (by rw [HB4.out.2.1]; omega) (by rw [HB4.out.2.1]; omega)
      rw [HB4.out.2.1, HB4.out.2.2] at hfx
      refine hfx.mono ?_
      rintro e w5 ⟨rfl, hb5⟩
      have HJ5 : Hid (RbJ f w w5 lim (p + size + 4) t1 g cp l) := HJ4.out.grow hb5
      clear hfx hb5 HB4 HJ4
      -- the count
      go_wp2_with fail
      refine (number_core w.heap.size w.heap.size f.b t1 1 w5 HJ5.out.marks).mono ?_
      rintro e w6 ⟨hC6, (⟨count, t2, hn2, rfl, hn22, ht2, hR6⟩ | ⟨hn2, rfl⟩)⟩
      case inr =>
        have HR2 := HStop.out (oneBlk_none3 HG1.out.1 hn2)
        exact ⟨rfl, Chg.below HJ5.out.below hC6 HJ5.out.below.size (by omega), .inr ⟨by rw [HR2]; simp, by rw [HR2]⟩⟩
      have HJ6 : Hid (RbJ f w w6 lim (p + size + 4) t2 g cp l) := HJ5.out.mark HN.out.1 hC6 hR6
      have HG2 : Hid (getNum t1 = some (count, t2)) := hn2
      clear hC6 hn2 hn22 ht2 hR6 HJ5
      by_cases hcn : 1 ≤ count ∧ count ≤ 1000
      case neg =>
        have HR2 : Hid (R = (1, [])) := HStop.out (oneBlk_none4 HG1.out.1 HG2.out (by omega))
        by_cases hc1 : 1 ≤ count
        · have z1 : (1 : Int) ≤ (count : Int) := by omega
          go_wp2_with fail
          refine (demand_core _ _ _).mono ?_
          rintro e w7 ⟨rfl, (⟨hc, rfl⟩ | ⟨hc, rfl⟩)⟩
          · exfalso
            simp at hc <;> omega
          · exact ⟨rfl, HJ6.out.below, .inr ⟨by rw [HR2.out]; simp, by rw [HR2.out]⟩⟩
        · have z1 : ¬ (1 : Int) ≤ (count : Int) := by omega
          go_wp2_with fail
          refine (demand_core _ _ _).mono ?_
          rintro e w7 ⟨rfl, (⟨hc, rfl⟩ | ⟨hc, rfl⟩)⟩
          · exfalso
            simp at hc <;> omega
          · exact ⟨rfl, HJ6.out.below, .inr ⟨by rw [HR2.out]; simp, by rw [HR2.out]⟩⟩
      obtain ⟨hc1, hc2⟩ := hcn
      have z1 : (1 : Int) ≤ (count : Int) := by omega
      have z2 : (count : Int) ≤ 1000 := by omega
      go_wp2_with fail
      refine (demand_core _ _ _).mono ?_
      rintro e w7 ⟨hw7, (⟨hc, rfl⟩ | ⟨hc, rfl⟩)⟩
      case inr =>
        exfalso
        simp at hc <;> omega
      rw [hw7]
      clear hc hw7
      -- the row
      go_wp2_with fail
      refine (text_core w.heap.size w.heap.size f.b t2 1 w6 HJ6.out.marks).mono ?_
      rintro e w8 ⟨hC8, (⟨row, t3, hr3, rfl, hs3, hR8⟩ | ⟨hr3, rfl⟩)⟩
      case inr =>
        have HR2 := HStop.out (oneBlk_none5 HG1.out.1 HG2.out hr3)
        exact ⟨rfl, Chg.below HJ6.out.below hC8 HJ6.out.below.size (by omega), .inr ⟨by rw [HR2]; simp, by rw [HR2]⟩⟩
      have HBK : Hid (BlksTo f.xs.length lim K t0 (k + 1) (l ++ [⟨p, p + size, count, row⟩]) (p + size + 4) t3) := HBT.out.more hlt (oneBlk_some HG1.out.1 HG2.out hr3 ⟨hc1, hc2⟩ (by omega) (by have := HN.out; omega))
      have HJ8 : Hid (RbJ f w w8 lim (p + size + 4) t3 g cp l) := HJ6.out.mark HN.out.1 hC8 hR8
      clear hC8 hr3 hs3 hR8 HJ6 HG1 HG2 HBT HStop
      obtain ⟨WD, hWD⟩ : ∃ V : World, V = w8.alloc (Obj.cells #[.slice (some ⟨f.b, f.off + p, none⟩) size (f.cap - p), .int .u32 (fixAt f.xs (p + size) : Int), .int .i64 (count : Int), .string row] 52) := ⟨_, rfl⟩
      have hbD : Below w8.heap.size w8 WD := by rw [hWD]; exact (Below.refl _ _).alloc (Nat.le_refl _) _
      have HTD : Hid (RbJ f w WD lim (p + size + 4) t3 g cp l ∧ ∀ j u, (f.four ⟨p, p + size, count, row⟩)[j]? = some u → WD.cell? ⟨w8.heap.size, j, none⟩ = some u) := by
        refine ⟨HJ8.out.grow hbD, ?_⟩
        intro j u hu
        rw [hWD]
        have h4 : f.four ⟨p, p + size, count, row⟩ = [.slice (some ⟨f.b, f.off + p, none⟩) size (f.cap - p), .int .u32 (fixAt f.xs (p + size) : Int), .int .i64 (count : Int), .string row] := by
          show [Value.slice (some ⟨f.b, f.off + p, none⟩) (p + size - p) (f.cap - p), _, _, _] = _
          rw [Nat.add_sub_cancel_left]
        rw [h4] at hu
        rw [cell_of_row _ _ j _ _ _ (heap_alloc_last w8 _)]
        simpa using hu
      have sD := HTD.out.1.size
      clear hbD
      go_wp2_with (at_builtin; rw [← hWD]; refine wpList_append_fblk (f := f) _ rfl _ _ rfl (w.heap.size + 2) g cp l.length w8.heap.size l ⟨p, p + size, count, row⟩ rfl rfl rfl ?hO ?hc ?hl ?hb ?_)
      case hO => exact HTD.out.1.row
      case hc => exact HTD.out.2
      case hl => omega
      case hb => exact sD
      intro g' cp' wE hOE hgrE hatE
      try rw [← hWD] at hgrE
      have HJE : Hid (RbJ f w wE lim (p + size + 4) t3 g' cp' (l ++ [⟨p, p + size, count, row⟩])) := HTD.out.1.app hb hOE hgrE
      have hle2 : l.length + 1 = (l ++ [(⟨p, p + size, count, row⟩ : Blk)]).length := by simp
      rw [hle2]
      clear hOE hgrE hatE hWD HTD sD HJ8 hle2
      go_wp2_with fail
      go_roundw
      case rel => exact ⟨k + 1, g', cp', p + size + 4, l ++ [⟨p, p + size, count, row⟩], t3, by simp, by go_num, HBK.out, HJE.out⟩
      case measure => simp [intOf]; omega
    · obtain rfl : k = K := by omega
      have HD : Hid (R = if t ≠ [] ∨ p ≠ lim then (1, []) else (0, l)) := by
        show R = _
        rw [HI0.out, HBT.out.done]; rfl
      have hle := HJ.out.le
      have hspl : (span f.xs p lim).length = lim - p := span_len (by have := HN.out; omega)
      obtain ⟨off', cap', hA⟩ := HJ.out.marks
      have HA : Hid (RdAt wr w.heap.size w.heap.size f.b off' cap' t 1) := hA
      clear hA HI0 HBT
      by_cases ht : t = []
      case neg =>
        have HR2 : Hid (R = (1, [])) := by
          show R = _
          rw [HD.out, if_pos (.inl ht)]
        go_wp2_with fail
        refine (end_bad w.heap.size w.heap.size f.b off' cap' t 1 wr HA.out ht).mono ?_
        rintro e w5 ⟨rfl, hb5⟩
        exact ⟨rfl, HJ.out.below.trans (hb5.mono HJ.out.below.size), .inr ⟨by rw [HR2.out]; simp, by rw [HR2.out]⟩⟩
      subst ht
      go_wp2_with fail
      refine (end_ok w.heap.size w.heap.size f.b off' cap' 1 wr HA.out).mono ?_
      rintro e w5 ⟨rfl, hb5⟩
      have HJ5 : Hid (RbJ f w w5 lim p [] g cp l) := HJ.out.grow hb5
      clear hb5 HA HJ
      by_cases hp : p = lim
      case neg =>
        have HR2 : Hid (R = (1, [])) := by
          show R = _
          rw [HD.out, if_pos (.inr hp)]
        go_wp2_with fail
        refine (end_bad w.heap.size (w.heap.size + 1) f.b _ _ _ 1 w5 HJ5.out.space (fun q => by rw [q] at hspl; simp at hspl; omega)).mono ?_
        rintro e w6 ⟨rfl, hb6⟩
        exact ⟨rfl, HJ5.out.below.trans (hb6.mono HJ5.out.below.size), .inr ⟨by rw [HR2.out]; simp, by rw [HR2.out]⟩⟩
      have HR2 : Hid (R = (0, l)) := by
        show R = _
        rw [HD.out, if_neg (by simp [hp])]
      have HSp : Hid (RdAt w5 w.heap.size (w.heap.size + 1) f.b (f.off + p) (f.cap - p) [] 1) := by
        have h1 := HJ5.out.space
        have h2 : span f.xs p lim = [] := List.length_eq_zero_iff.1 (by omega)
        rw [h2] at h1
        exact h1
      clear hp hspl
      go_wp2_with fail
      refine (end_ok w.heap.size (w.heap.size + 1) f.b _ _ 1 w5 HSp.out).mono ?_
      rintro e w6 ⟨rfl, hb6⟩
      have HJ6 : Hid (RbJ f w w6 lim p [] g cp l) := HJ5.out.grow hb6
      clear hb6 HSp HJ5
      go_wp2_with fail
      go_ret
      exact ⟨HJ6.out.below, .inl ⟨by rw [HR2.out], g, cp, by rw [HR2.out]; rfl, by rw [HR2.out]; exact HJ6.out.row.mono (by omega)⟩⟩
end Go.Proofs.YtnncedndlhfdkacDoor

