import Derived.Lib.Bytealg
import Derived.Lib.Slices
import Derived.Lib.Walk
import Derived.Deep.QuietTactic
import Derived.BigQuiet
import Derived.Deep.DeepCutAuto
import Derived.Deep.RegionWith
import Derived.Test.YtnncedndlhfdkacPkAA
/-
  The draws: rows, families, qualifiers, timestamps.
-/
namespace Go.Proofs.Ytnncedndlhfdkac
open Go.ChangeShapes Go.WideShapes Go.ChangeAt Go.RowKit Go.Deep
set_option linter.unusedVariables false
set_option linter.unusedSimpArgs false
set_option maxRecDepth 100000

theorem conv_str (c : UInt8) (w : World) : ∃ cx w', (convert 9 45 (.string ⟨#[c]⟩)).run Try.prog w = .ok (.slice (some ⟨w.heap.size, 0, none⟩) 1 cx) w' ∧ Below w.heap.size w w' ∧ w'.cell? ⟨w.heap.size, 0, none⟩ = some (.int .u8 (c.toNat : Int)) := by
  refine ⟨_, _, run_bytes_of_string (P := Try.prog) w 9 45 5 ⟨#[c]⟩ Try.underlying9 Try.underlying45 Try.underlying5, ((Below.refl _ _).drew).alloc (Nat.le_refl _) _, ?_⟩
  have hb : ∀ O : Obj, (w.drew.alloc O).heap[w.heap.size]? = some O := fun O => by
    show (w.heap.push O)[w.heap.size]? = _
    simp
  unfold World.cell?
  rw [hb]
  simp [bytesRow]
  rw [Array.getElem?_append_left (by simp)]
  rfl

set_option maxHeartbeats 2000000 in
theorem many_core (c : UInt8) (m : Nat) (w : World) (hm : m ≤ 1000) :
    Calls Try.prog 102 #[.string ⟨#[c]⟩, .int .i64 m] w fun e w' => ∃ s : ByteArray, e = .returned (.string s) ∧ s.size ≤ 1000 ∧ Below w.heap.size w w' := by
  obtain ⟨W2, hW2⟩ : ∃ W2 : World, W2 = w.alloc (Obj.cells #[] 5) := ⟨_, rfl⟩
  have hb2 : Below w.heap.size w W2 := by rw [hW2]; exact (Below.refl _ _).alloc (Nat.le_refl _) _
  have HB2 : Hid (OwnB W2 w.heap.size w.heap.size 0 []) := by show OwnB W2 _ _ _ _; rw [hW2]; exact ownB_new w w.heap.size (Nat.le_refl _)
  go_enter Try.func102, Try.ntmps102
  go_wp2_with fail
  rw [← hW2]
  clear hW2
  go_loopw [5, 6] (fun o i wr => ∃ (k g cp : Nat) (zs : List UInt8), k ≤ m ∧ i = .int .i64 k ∧ o = .slice (some ⟨g, 0, none⟩) k cp ∧ zs.length = k ∧ OwnB wr w.heap.size g cp zs ∧ Below w.heap.size w wr) (fun _ i _ => m - (intOf i).toNat)
  case atStart => exact ⟨0, _, 0, [], Nat.zero_le _, rfl, rfl, rfl, HB2.out, hb2⟩
  case round =>
    obtain ⟨k, g, cp, zs, hk, rfl, rfl, hzl, hO, hb⟩ := hrel
    have HI : Hid (zs.length = k ∧ OwnB wr w.heap.size g cp zs) := ⟨hzl, hO⟩
    have hgl := World.ownsRow.lt hO g rfl
    have hs := hb.size
    clear hzl hO
    by_cases hlt : k < m
    · have zk : (k : Int) < (m : Int) := by omega
      have HKl : Hid (k = zs.length) := HI.out.1.symm
      obtain ⟨cx, W3, hrun, hb3, hc3⟩ := conv_str c wr
      have hs3 := hb3.size
      go_wp2_with (at_builtin; refine wpList_append_byte _ rfl _ _ rfl w.heap.size g cp _ wr.heap.size zs c rfl cx rfl HKl.out ?hO ?hc ?hl ?hb ?_)
      case hO => exact own_chg (S := fun _ => False) HI.out.2 (Chg.of_below hb3) (fun k _ q => q)
      case hc => exact hc3
      case hl => rw [← HKl.out]; omega
      case hb => omega
      intro g' cp' w' hO' hgr
      have HN : Hid ((zs ++ [c]).length = k + 1 ∧ OwnB w' w.heap.size g' cp' (zs ++ [c])) := ⟨by simp [HI.out.1], hO'⟩
      have hb' : Below w.heap.size w w' := (hb.trans (hb3.mono hs)).grown hgr (by omega) (fun j hj => by cases hj; omega)
      clear hO' hgr hrun
      go_wp2_with fail
      go_roundw
      case rel => exact ⟨k + 1, g', cp', zs ++ [c], by omega, by go_num, rfl, HN.out.1, HN.out.2, hb'⟩
      case measure => go_light; simp [intOf]; omega
    · have zk : ¬ (k : Int) < (m : Int) := by omega
      have hcv := conv_own HI.out.2
      rw [HI.out.1] at hcv
      have HS : Hid ((⟨zs.toArray⟩ : ByteArray).size ≤ 1000) := by
        show (⟨zs.toArray⟩ : ByteArray).size ≤ 1000
        have := HI.out.1
        simp [ByteArray.size]; omega
      go_wp2_with fail
      go_ret
      exact ⟨_, rfl, HS.out, hb⟩

set_option maxHeartbeats 1000000 in
theorem pick_core (base cb : Nat) (bv : Value) (n blk nw : Nat) (w : World) (h : DrawAt base cb bv n w) (h1 : 1 ≤ nw) (h2 : nw ≤ 100) (hne : ¬ blk = cb) (hlt : blk < w.heap.size) (hw : ∀ k, k < nw → ∃ s : ByteArray, w.cell? ⟨blk, k, none⟩ = some (.string s) ∧ s.size ≤ 1000) :
    Calls Try.prog 126 #[.pointer (some ⟨cb, 0, none⟩), .slice (some ⟨blk, 0, none⟩) nw nw] w fun e w' => ∃ s : ByteArray, e = .returned (.string s) ∧ s.size ≤ 1000 ∧ Drew base cb bv n w w' := by
  have HD : Hid (DrawAt base cb bv n w ∧ ∀ k, k < nw → ∃ s : ByteArray, w.cell? ⟨blk, k, none⟩ = some (.string s) ∧ s.size ≤ 1000) := ⟨h, hw⟩
  clear h hw
  go_enter Try.func126, Try.ntmps126
  go_wp2_with fail
  refine (below_core base cb bv n (nw : Int) _ HD.out.1 (by omega) (by omega)).mono ?_
  rintro e w1 ⟨x, rfl, hx0, hx1, hD1, hC1⟩
  obtain ⟨k, rfl⟩ := Int.eq_ofNat_of_zero_le hx0
  obtain ⟨s, hs, hsz⟩ := HD.out.2 k (by omega)
  have c1 : w1.cell? ⟨blk, k, none⟩ = some (.string s) := by rw [hC1.cell (p := ⟨blk, k, none⟩) hlt hne]; exact hs
  have H1 : Hid (DrawAt base cb bv n w1 ∧ Chg (fun k => k = cb) w w1) := ⟨hD1, hC1⟩
  clear hD1 hC1 hs
  go_wp2_with fail
  go_ret
  exact ⟨s, rfl, hsz, H1.out.1, H1.out.2⟩

set_option maxHeartbeats 2000000 in
theorem row_core (base cb : Nat) (bv : Value) (n : Nat) (w : World) (h : DrawAt base cb bv n w) :
    Calls Try.prog 116 #[.pointer (some ⟨cb, 0, none⟩)] w fun e w' => ∃ s : ByteArray, e = .returned (.string s) ∧ s.size ≤ 1000 ∧ Drew base cb bv n w w' := by
  have HD : Hid (DrawAt base cb bv n w) := h
  clear h
  go_enter Try.func116, Try.ntmps116
  go_wp2_with fail
  refine (once_core base cb bv n 40 _ HD.out (by omega) (by omega)).mono ?_
  rintro e w1 ⟨v, rfl, hv, hD1, hC1⟩
  have H1 : Hid (DrawAt base cb bv n w1 ∧ Chg (fun k => k = cb) w w1) := ⟨hD1, hC1⟩
  clear hD1 hC1
  rcases hv with rfl | rfl
  · go_wp2_with fail
    refine (many_core 97 64 _ (by omega)).mono ?_
    rintro e w2 ⟨s, rfl, hs, hb2⟩
    have H2 : Hid (DrawAt base cb bv n w2 ∧ Chg (fun k => k = cb) w w2) := ⟨H1.out.1.below hb2, H1.out.2.trans (Chg.of_below hb2)⟩
    go_wp2_with fail
    go_ret
    exact ⟨s, rfl, hs, H2.out.1, H2.out.2⟩
  · go_wp2_with fail
    refine (once_core base cb bv n 25 _ H1.out.1 (by omega) (by omega)).mono ?_
    rintro e w2 ⟨v, rfl, hv, hD2, hC2⟩
    have H2 : Hid (DrawAt base cb bv n w2 ∧ Chg (fun k => k = cb) w w2) := ⟨hD2, H1.out.2.trans hC2⟩
    clear hD2 hC2
    have hcl := H2.out.1.lt.2
    rcases hv with rfl | rfl
    · go_wp2_with fail
      refine (pick_core base cb bv n _ 6 _ (H2.out.1.below ((Below.refl _ _).alloc (Nat.le_refl _) _)) (by omega) (by omega) (by omega) (by simp) ?_).mono ?_
      · intro k hk
        match k, hk with
        | 0, _ => exact ⟨_, by simp; rfl, by decide⟩
        | 1, _ => exact ⟨_, by simp; rfl, by decide⟩
        | 2, _ => exact ⟨_, by simp; rfl, by decide⟩
        | 3, _ => exact ⟨_, by simp; rfl, by decide⟩
        | 4, _ => exact ⟨_, by simp; rfl, by decide⟩
        | 5, _ => exact ⟨_, by simp; rfl, by decide⟩
      · rintro e w3 ⟨s, rfl, hs, hD3, hC3⟩
        have H3 : Hid (DrawAt base cb bv n w3 ∧ Chg (fun k => k = cb) w w3) := ⟨hD3, (H2.out.2.alloc_new _).trans hC3⟩
        clear hD3 hC3
        go_wp2_with fail
        go_ret
        exact ⟨s, rfl, hs, H3.out.1, H3.out.2⟩
    · go_wp2_with fail
      refine (letters_core base cb bv n 1 2 _ H2.out.1 (by omega) (by omega) (by omega)).mono ?_
      rintro e w3 ⟨s, rfl, hs, hD3, hC3⟩
      have H3 : Hid (DrawAt base cb bv n w3 ∧ Chg (fun k => k = cb) w w3) := ⟨hD3, H2.out.2.trans hC3⟩
      clear hD3 hC3
      go_wp2_with fail
      go_ret
      exact ⟨s, rfl, by omega, H3.out.1, H3.out.2⟩

set_option maxHeartbeats 2000000 in
theorem fam_core (base cb : Nat) (bv : Value) (n : Nat) (w : World) (h : DrawAt base cb bv n w) :
    Calls Try.prog 117 #[.pointer (some ⟨cb, 0, none⟩)] w fun e w' => ∃ s : ByteArray, e = .returned (.string s) ∧ s.size ≤ 1000 ∧ Drew base cb bv n w w' := by
  have HD : Hid (DrawAt base cb bv n w) := h
  clear h
  go_enter Try.func117, Try.ntmps117
  go_wp2_with fail
  refine (once_core base cb bv n 3 _ HD.out (by omega) (by omega)).mono ?_
  rintro e w1 ⟨v, rfl, hv, hD1, hC1⟩
  have H1 : Hid (DrawAt base cb bv n w1 ∧ Chg (fun k => k = cb) w w1) := ⟨hD1, hC1⟩
  clear hD1 hC1
  have hcl := H1.out.1.lt.2
  rcases hv with rfl | rfl
  · go_wp2_with fail
    go_ret
    exact ⟨_, rfl, by decide, H1.out.1, H1.out.2⟩
  · go_wp2_with fail
    refine (pick_core base cb bv n _ 6 _ (H1.out.1.below ((Below.refl _ _).alloc (Nat.le_refl _) _)) (by omega) (by omega) (by omega) (by simp) ?_).mono ?_
    · intro k hk
      match k, hk with
      | 0, _ => exact ⟨_, by simp; rfl, by decide⟩
      | 1, _ => exact ⟨_, by simp; rfl, by decide⟩
      | 2, _ => exact ⟨_, by simp; rfl, by decide⟩
      | 3, _ => exact ⟨_, by simp; rfl, by decide⟩
      | 4, _ => exact ⟨_, by simp; rfl, by decide⟩
      | 5, _ => exact ⟨_, by simp; rfl, by decide⟩
    · rintro e w3 ⟨s, rfl, hs, hD3, hC3⟩
      have H3 : Hid (DrawAt base cb bv n w3 ∧ Chg (fun k => k = cb) w w3) := ⟨hD3, (H1.out.2.alloc_new _).trans hC3⟩
      clear hD3 hC3
      go_wp2_with fail
      go_ret
      exact ⟨s, rfl, hs, H3.out.1, H3.out.2⟩
set_option maxHeartbeats 2000000 in
theorem qual_core (base cb : Nat) (bv : Value) (n : Nat) (w : World) (h : DrawAt base cb bv n w) :
    Calls Try.prog 118 #[.pointer (some ⟨cb, 0, none⟩)] w fun e w' => ∃ s : ByteArray, e = .returned (.string s) ∧ s.size ≤ 1000 ∧ Drew base cb bv n w w' := by
  have HD : Hid (DrawAt base cb bv n w) := h
  clear h
  go_enter Try.func118, Try.ntmps118
  go_wp2_with fail
  refine (once_core base cb bv n 12 _ HD.out (by omega) (by omega)).mono ?_
  rintro e w1 ⟨v, rfl, hv, hD1, hC1⟩
  have H1 : Hid (DrawAt base cb bv n w1 ∧ Chg (fun k => k = cb) w w1) := ⟨hD1, hC1⟩
  clear hD1 hC1
  have hcl := H1.out.1.lt.2
  rcases hv with rfl | rfl
  · go_wp2_with fail
    refine (pick_core base cb bv n _ 4 _ (H1.out.1.below ((Below.refl _ _).alloc (Nat.le_refl _) _)) (by omega) (by omega) (by omega) (by simp) ?_).mono ?_
    · intro k hk
      match k, hk with
      | 0, _ => exact ⟨_, by simp; rfl, by decide⟩
      | 1, _ => exact ⟨_, by simp; rfl, by decide⟩
      | 2, _ => exact ⟨_, by simp; rfl, by decide⟩
      | 3, _ => exact ⟨_, by simp; rfl, by decide⟩
    · rintro e w3 ⟨s, rfl, hs, hD3, hC3⟩
      have H3 : Hid (DrawAt base cb bv n w3 ∧ Chg (fun k => k = cb) w w3) := ⟨hD3, (H1.out.2.alloc_new _).trans hC3⟩
      clear hD3 hC3
      go_wp2_with fail
      go_ret
      exact ⟨s, rfl, hs, H3.out.1, H3.out.2⟩
  · go_wp2_with fail
    refine (letters_core base cb bv n 1 2 _ H1.out.1 (by omega) (by omega) (by omega)).mono ?_
    rintro e w3 ⟨s, rfl, hs, hD3, hC3⟩
    have H3 : Hid (DrawAt base cb bv n w3 ∧ Chg (fun k => k = cb) w w3) := ⟨hD3, H1.out.2.trans hC3⟩
    clear hD3 hC3
    go_wp2_with fail
    go_ret
    exact ⟨s, rfl, by omega, H3.out.1, H3.out.2⟩
set_option maxHeartbeats 1000000 in
theorem ts_core (base cb : Nat) (bv : Value) (n : Nat) (w : World) (h : DrawAt base cb bv n w) :
    Calls Try.prog 119 #[.pointer (some ⟨cb, 0, none⟩)] w fun e w' => ∃ t : Int, e = .returned (.int .u64 t) ∧ (0 ≤ t ∧ t ≤ 18446744073709551615) ∧ Drew base cb bv n w w' := by
  have HD : Hid (DrawAt base cb bv n w) := h
  clear h
  go_enter Try.func119, Try.ntmps119
  go_wp2_with fail
  refine (once_core base cb bv n 30 _ HD.out (by omega) (by omega)).mono ?_
  rintro e w1 ⟨v, rfl, hv, hD1, hC1⟩
  have H1 : Hid (DrawAt base cb bv n w1 ∧ Chg (fun k => k = cb) w w1) := ⟨hD1, hC1⟩
  clear hD1 hC1
  rcases hv with rfl | rfl
  · go_wp2_with fail
    go_ret
    exact ⟨_, rfl, ⟨by omega, by omega⟩, H1.out.1, H1.out.2⟩
  · go_wp2_with fail
    refine (below_core base cb bv n 6 _ H1.out.1 (by omega) (by omega)).mono ?_
    rintro e w2 ⟨x, rfl, hx0, hx1, hD2, hC2⟩
    have H2 : Hid (DrawAt base cb bv n w2 ∧ Chg (fun k => k = cb) w w2) := ⟨hD2, H1.out.2.trans hC2⟩
    clear hD2 hC2
    go_wp2_with fail
    go_ret
    exact ⟨x, rfl, ⟨by omega, by omega⟩, H2.out.1, H2.out.2⟩
end Go.Proofs.Ytnncedndlhfdkac

/-
  The draws: one write.
-/
namespace Go.Proofs.Ytnncedndlhfdkac
open Go.ChangeShapes Go.WideShapes Go.ChangeAt Go.RowKit Go.Deep
set_option linter.unusedVariables false
set_option linter.unusedSimpArgs false
set_option maxRecDepth 100000

/-- An entry whose texts are short. -/
structure Ent.small (e : Ent) : Prop where
  row : e.row.size ≤ 1000
  fam : e.fam.size ≤ 1000
  qual : e.qual.size ≤ 1000
  val : e.val.size ≤ 1000
  ts : 0 ≤ e.ts ∧ e.ts ≤ 18446744073709551615
  kind : 0 ≤ e.kind ∧ e.kind ≤ 3
theorem Ent.small.ok {e : Ent} (h : e.small) : e.ok where
  row := Nat.le_trans h.row (by decide)
  fam := Nat.le_trans h.fam (by decide)
  qual := Nat.le_trans h.qual (by decide)
  val := Nat.le_trans h.val (by decide)
  ts := by
    have := h.ts
    have h1 : IntKind.u64.min = 0 := by decide
    have h2 : IntKind.u64.max = 18446744073709551615 := by decide
    simp [Lit.wf, h1, h2]; omega
  kind := by
    have := h.kind
    have h1 : IntKind.i64.min = -9223372036854775808 := by decide
    have h2 : IntKind.i64.max = 9223372036854775807 := by decide
    simp [Lit.wf, h1, h2]; omega
theorem small_zero : zeroE.small := ⟨by decide, by decide, by decide, by decide, by decide, by decide⟩

/-- A variable of the call's own that holds an entry, beside the drawing. -/
structure WInv (base cb : Nat) (bv : Value) (n : Nat) (w : World) (eb rb : Nat) (f : Ent) (wr : World) : Prop where
  e : OwnE wr w.heap.size eb 1 [f]
  r : OwnE wr w.heap.size rb 1 [zeroE]
  ne : ¬ eb = rb
  d : DrawAt base cb bv n wr
  c : Chg (fun k => k = cb) w wr
  lt : cb < w.heap.size
  hb : base ≤ w.heap.size
theorem WInv.call {base cb : Nat} {bv : Value} {n : Nat} {w : World} {eb rb : Nat} {f : Ent} {wr w1 : World} (h : WInv base cb bv n w eb rb f wr) (hd : Drew base cb bv n wr w1) : WInv base cb bv n w eb rb f w1 :=
  ⟨own_chg h.e hd.2 (fun k q => by simp [Value.ownBlock] at q; subst q; have := h.e.lt.1; have := h.lt; omega), own_chg h.r hd.2 (fun k q => by simp [Value.ownBlock] at q; subst q; have := h.r.lt.1; have := h.lt; omega), h.ne, hd.1, h.c.trans hd.2, h.lt, h.hb⟩
theorem WInv.set {base cb : Nat} {bv : Value} {n : Nat} {w : World} {eb rb : Nat} {f : Ent} {wr : World} (h : WInv base cb bv n w eb rb f wr) (j : Nat) (f' : Ent) (u : Value) (hj : j < 6) (hc : f'.cells = f.cells.set j u) : WInv base cb bv n w eb rb f' (wr.setCell ⟨eb, j, none⟩ u) := by
  have h1 := h.e.set 0 j f f' u rfl hj hc
  simp only [Nat.zero_mul, Nat.zero_add] at h1
  have hl := h.e.lt
  have hcb := h.lt
  have hbb := h.hb
  have hcg : Chg (fun k => k = eb) wr (wr.setCell ⟨eb, j, none⟩ u) := Chg.of_set _ _ _ _ rfl
  refine ⟨h1, own_chg h.r hcg (fun k q => by simp [Value.ownBlock] at q; subst q; exact fun q => h.ne q.symm), h.ne, h.d.chg hcg (by omega) (fun k q => by omega), ?_, h.lt, h.hb⟩
  exact Chg.grown_new h.c (grown_set wr eb j u) (fun k hk => by cases hk; exact hl.1)
theorem WInv.cells {base cb : Nat} {bv : Value} {n : Nat} {w : World} {eb rb : Nat} {f : Ent} {wr : World} (h : WInv base cb bv n w eb rb f wr) :
    (wr.cell? ⟨eb, 0, none⟩ = some (.string f.row) ∧ wr.cell? ⟨eb, 1, none⟩ = some (.string f.fam) ∧ wr.cell? ⟨eb, 2, none⟩ = some (.string f.qual) ∧ wr.cell? ⟨eb, 3, none⟩ = some (.int .u64 f.ts) ∧ wr.cell? ⟨eb, 4, none⟩ = some (.int .i64 f.kind) ∧ wr.cell? ⟨eb, 5, none⟩ = some (.string f.val)) ∧ ∀ j, wr.frozen? ⟨eb, j, none⟩ = false := by
  have := h.e.at 0 f rfl
  simp only [Nat.zero_add, Nat.zero_mul] at this
  exact ⟨this, fun j => World.ownsRow.frozenAt h.e j⟩
/-- What lies in the variable is handed back. -/
theorem WInv.back {base cb : Nat} {bv : Value} {n : Nat} {w : World} {eb rb : Nat} {f : Ent} {wr : World} (h : WInv base cb bv n w eb rb f wr) :
    (wr.cell? ⟨rb, 0, none⟩ = some (.string ⟨#[]⟩) ∧ wr.cell? ⟨rb, 1, none⟩ = some (.string ⟨#[]⟩) ∧ wr.cell? ⟨rb, 2, none⟩ = some (.string ⟨#[]⟩) ∧ wr.cell? ⟨rb, 3, none⟩ = some (.int .u64 0) ∧ wr.cell? ⟨rb, 4, none⟩ = some (.int .i64 0) ∧ wr.cell? ⟨rb, 5, none⟩ = some (.string ⟨#[]⟩)) ∧ (∀ j, wr.frozen? ⟨rb, j, none⟩ = false) ∧
    (∀ W9, W9 = ((((((wr.setCell ⟨rb, 0, none⟩ (.string f.row)).setCell ⟨rb, 1, none⟩ (.string f.fam)).setCell ⟨rb, 2, none⟩ (.string f.qual)).setCell ⟨rb, 3, none⟩ (.int .u64 f.ts)).setCell ⟨rb, 4, none⟩ (.int .i64 f.kind)).setCell ⟨rb, 5, none⟩ (.string f.val)) →
      (W9.cell? ⟨rb, 0, none⟩ = some (.string f.row) ∧ W9.cell? ⟨rb, 1, none⟩ = some (.string f.fam) ∧ W9.cell? ⟨rb, 2, none⟩ = some (.string f.qual) ∧ W9.cell? ⟨rb, 3, none⟩ = some (.int .u64 f.ts) ∧ W9.cell? ⟨rb, 4, none⟩ = some (.int .i64 f.kind) ∧ W9.cell? ⟨rb, 5, none⟩ = some (.string f.val)) ∧ DrawAt base cb bv n W9 ∧ Chg (fun k => k = cb) w W9) := by
  have h0 := h.r.at 0 zeroE rfl
  simp only [Nat.zero_add, Nat.zero_mul] at h0
  refine ⟨h0, fun j => World.ownsRow.frozenAt h.r j, fun W9 hW => ?_⟩
  have hp := h.r.put 0 zeroE f rfl
  simp only [Nat.zero_mul, Nat.zero_add] at hp
  have h1 := hp.at 0 f rfl
  simp only [Nat.zero_add, Nat.zero_mul] at h1
  have hl := h.r.lt
  have hcb := h.lt
  have hbb := h.hb
  have hcg : Chg (fun k => k = rb) wr W9 := by
    rw [hW]
    exact (((((Chg.of_set (S := fun k => k = rb) _ _ _ _ rfl).trans (Chg.of_set (S := fun k => k = rb) _ _ _ _ rfl)).trans (Chg.of_set (S := fun k => k = rb) _ _ _ _ rfl)).trans (Chg.of_set (S := fun k => k = rb) _ _ _ _ rfl)).trans (Chg.of_set (S := fun k => k = rb) _ _ _ _ rfl)).trans (Chg.of_set (S := fun k => k = rb) _ _ _ _ rfl)
  refine ⟨by rw [hW]; exact h1, h.d.chg hcg (by omega) (fun k q => by omega), ?_⟩
  have hcg2 : Chg (fun k => k = cb) w W9 := ⟨hcg.os.trans h.c.os, hcg.tape.trans h.c.tape, hcg.output.trans h.c.output, Nat.le_trans h.c.size hcg.size, fun k hk hn => (hcg.block k (Nat.lt_of_lt_of_le hk h.c.size) (by omega)).trans (h.c.block k hk hn)⟩
  exact hcg2

theorem ownE_new (w : World) (base : Nat) (f : Ent) (hb : base ≤ w.heap.size) : OwnE (w.alloc (Obj.cells #[.string f.row, .string f.fam, .string f.qual, .int .u64 f.ts, .int .i64 f.kind, .string f.val] 63)) base w.heap.size 1 [f] :=
  World.ownsRow_lit (base := base) (e := 63) (size := 6) w #[.string f.row, .string f.fam, .string f.qual, .int .u64 f.ts, .int .i64 f.kind, .string f.val] 1 hb (by decide) rfl

set_option maxHeartbeats 4000000 in
theorem write_core (base cb : Nat) (bv : Value) (n : Nat) (w : World) (h : DrawAt base cb bv n w) :
    Calls Try.prog 101 #[.pointer (some ⟨cb, 0, none⟩)] w fun r w' => ∃ e : Ent, r = .returned e.v ∧ e.small ∧ Drew base cb bv n w w' := by
  have hlt := h.lt
  have hbase := h.base
  obtain ⟨Wa, hWa⟩ : ∃ Wa : World, Wa = w.alloc (Obj.cells #[.string ⟨#[]⟩, .string ⟨#[]⟩, .string ⟨#[]⟩, .int .u64 0, .int .i64 0, .string ⟨#[]⟩] 63) := ⟨_, rfl⟩
  have hba : Below w.heap.size w Wa := by rw [hWa]; exact (Below.refl _ _).alloc (Nat.le_refl _) _
  have hza : Wa.heap.size = w.heap.size + 1 := by rw [hWa]; simp
  obtain ⟨Wb, hWb⟩ : ∃ Wb : World, Wb = Wa.alloc (Obj.cells #[.string ⟨#[]⟩, .string ⟨#[]⟩, .string ⟨#[]⟩, .int .u64 0, .int .i64 0, .string ⟨#[]⟩] 63) := ⟨_, rfl⟩
  have hbb : Below Wa.heap.size Wa Wb := by rw [hWb]; exact (Below.refl _ _).alloc (Nat.le_refl _) _
  have H0 : Hid (WInv base cb bv n w (w.heap.size + 1) w.heap.size zeroE Wb) := by
    refine ⟨?_, ?_, by omega, (h.below hba).below hbb, (Chg.of_below hba).trans (Chg.of_below hbb), hlt.2, hbase⟩
    · rw [hWb, ← hza]; exact ownE_new Wa w.heap.size zeroE (by omega)
    · have : OwnE Wa w.heap.size w.heap.size 1 [zeroE] := by rw [hWa]; exact ownE_new w w.heap.size zeroE (Nat.le_refl _)
      exact this.below hbb (by omega)
  clear h hlt
  go_enter Try.func101, Try.ntmps101
  go_wp2_with fail
  rw [← hWa, ← hWb]
  clear hWa hWb hba hbb hza
  generalize w.heap.size + 1 = eb at *
  refine (row_core base cb bv n _ H0.out.d).mono ?_
  rintro e w1 ⟨s1, rfl, hs1, hd1⟩
  have h1 := H0.out.call hd1
  obtain ⟨⟨c0, _⟩, f1⟩ := h1.cells
  have f1' := f1 0
  have H1 : Hid (WInv base cb bv n w eb w.heap.size { zeroE with row := s1 } (w1.setCell ⟨eb, 0, none⟩ (.string s1))) := h1.set 0 _ _ (by omega) rfl
  clear h1 hd1 f1
  go_wp2_with fail
  refine (fam_core base cb bv n _ H1.out.d).mono ?_
  rintro e w2 ⟨s2, rfl, hs2, hd2⟩
  have h2 := H1.out.call hd2
  obtain ⟨⟨_, c1, _⟩, f1⟩ := h2.cells
  have f2' := f1 1
  have H2 : Hid (WInv base cb bv n w eb w.heap.size { zeroE with row := s1, fam := s2 } (w2.setCell ⟨eb, 1, none⟩ (.string s2))) := h2.set 1 _ _ (by omega) rfl
  clear h2 hd2 f1 c0 f1'
  go_wp2_with fail
  refine (qual_core base cb bv n _ H2.out.d).mono ?_
  rintro e w3 ⟨s3, rfl, hs3, hd3⟩
  have h3 := H2.out.call hd3
  obtain ⟨⟨_, _, c2, _⟩, f1⟩ := h3.cells
  have f3' := f1 2
  have H3 : Hid (WInv base cb bv n w eb w.heap.size { zeroE with row := s1, fam := s2, qual := s3 } (w3.setCell ⟨eb, 2, none⟩ (.string s3))) := h3.set 2 _ _ (by omega) rfl
  clear h3 hd3 f1 c1 f2'
  go_wp2_with fail
  refine (ts_core base cb bv n _ H3.out.d).mono ?_
  rintro e w4 ⟨t, rfl, ht, hd4⟩
  have h4 := H3.out.call hd4
  obtain ⟨⟨_, _, _, c3, _⟩, f1⟩ := h4.cells
  have f4' := f1 3
  have H4 : Hid (WInv base cb bv n w eb w.heap.size { zeroE with row := s1, fam := s2, qual := s3, ts := t } (w4.setCell ⟨eb, 3, none⟩ (.int .u64 t))) := h4.set 3 _ _ (by omega) rfl
  clear h4 hd4 f1 c2 f3'
  go_wp2_with fail
  refine (below_core base cb bv n 10 _ H4.out.d (by omega) (by omega)).mono ?_
  rintro e w5 ⟨x, rfl, hx0, hx1, hd5⟩
  have H5 : Hid (WInv base cb bv n w eb w.heap.size { zeroE with row := s1, fam := s2, qual := s3, ts := t } w5) := H4.out.call hd5
  clear hd5 c3 f4'
  have fin : ∀ (f : Ent) (wr : World), WInv base cb bv n w eb w.heap.size f wr → f.small → ∀ W9, W9 = ((((((wr.setCell ⟨w.heap.size, 0, none⟩ (.string f.row)).setCell ⟨w.heap.size, 1, none⟩ (.string f.fam)).setCell ⟨w.heap.size, 2, none⟩ (.string f.qual)).setCell ⟨w.heap.size, 3, none⟩ (.int .u64 f.ts)).setCell ⟨w.heap.size, 4, none⟩ (.int .i64 f.kind)).setCell ⟨w.heap.size, 5, none⟩ (.string f.val)) →
      ∃ e : Ent, Ending.returned (Value.agg #[.string f.row, .string f.fam, .string f.qual, .int .u64 f.ts, .int .i64 f.kind, .string f.val]) = .returned e.v ∧ e.small ∧ Drew base cb bv n w W9 := fun f wr hw hf W9 hW => ⟨f, rfl, hf, (hw.back.2.2 W9 hW).2⟩
  have HF : Hid (∀ (f : Ent) (wr : World), WInv base cb bv n w eb w.heap.size f wr → f.small → ∀ W9, W9 = ((((((wr.setCell ⟨w.heap.size, 0, none⟩ (.string f.row)).setCell ⟨w.heap.size, 1, none⟩ (.string f.fam)).setCell ⟨w.heap.size, 2, none⟩ (.string f.qual)).setCell ⟨w.heap.size, 3, none⟩ (.int .u64 f.ts)).setCell ⟨w.heap.size, 4, none⟩ (.int .i64 f.kind)).setCell ⟨w.heap.size, 5, none⟩ (.string f.val)) →
      ∃ e : Ent, Ending.returned (Value.agg #[.string f.row, .string f.fam, .string f.qual, .int .u64 f.ts, .int .i64 f.kind, .string f.val]) = .returned e.v ∧ e.small ∧ Drew base cb bv n w W9) := fin
  clear fin
  by_cases hx7 : x < 7
  · go_wp2_with fail
    refine (letters_core base cb bv n 0 3 _ H5.out.d (by omega) (by omega) (by omega)).mono ?_
    rintro e w6 ⟨s6, rfl, hs6, hd6⟩
    have h6 := H5.out.call hd6
    obtain ⟨⟨_, _, _, _, _, c5⟩, f1⟩ := h6.cells
    have f6' := f1 5
    have H6 : Hid (WInv base cb bv n w eb w.heap.size ⟨s1, s2, s3, t, 0, s6⟩ (w6.setCell ⟨eb, 5, none⟩ (.string s6)) ∧ (⟨s1, s2, s3, t, 0, s6⟩ : Ent).small) := ⟨h6.set 5 _ _ (by omega) rfl, ⟨hs1, hs2, hs3, by show s6.size ≤ 1000; omega, ht, by simp⟩⟩
    clear h6 hd6 f1
    go_upto_region 12 with fail
    obtain ⟨W7, hW7⟩ : ∃ W7 : World, W7 = w6.setCell ⟨eb, 5, none⟩ (.string s6) := ⟨_, rfl⟩
    rw [← hW7]
    have H7 : Hid (WInv base cb bv n w eb w.heap.size ⟨s1, s2, s3, t, 0, s6⟩ W7 ∧ (⟨s1, s2, s3, t, 0, s6⟩ : Ent).small) := by rw [hW7]; exact H6.out
    clear hW7 H6
    obtain ⟨⟨k0, k1, k2, k3, k4, k5⟩, _⟩ := H7.out.1.cells
    obtain ⟨⟨l0, l1, l2, l3, l4, l5⟩, lf, _⟩ := H7.out.1.back
    simp only at k0 k1 k2 k3 k4 k5
    obtain ⟨W9, hW9⟩ : ∃ W9 : World, W9 = ((((((W7.setCell ⟨w.heap.size, 0, none⟩ (.string (⟨s1, s2, s3, t, 0, s6⟩ : Ent).row)).setCell ⟨w.heap.size, 1, none⟩ (.string (⟨s1, s2, s3, t, 0, s6⟩ : Ent).fam)).setCell ⟨w.heap.size, 2, none⟩ (.string (⟨s1, s2, s3, t, 0, s6⟩ : Ent).qual)).setCell ⟨w.heap.size, 3, none⟩ (.int .u64 (⟨s1, s2, s3, t, 0, s6⟩ : Ent).ts)).setCell ⟨w.heap.size, 4, none⟩ (.int .i64 (⟨s1, s2, s3, t, 0, s6⟩ : Ent).kind)).setCell ⟨w.heap.size, 5, none⟩ (.string (⟨s1, s2, s3, t, 0, s6⟩ : Ent).val)) := ⟨_, rfl⟩
    obtain ⟨⟨p0, p1, p2, p3, p4, p5⟩, _⟩ := H7.out.1.back.2.2 W9 hW9
    have HR := HF.out ⟨s1, s2, s3, t, 0, s6⟩ W7 H7.out.1 H7.out.2 W9 hW9
    simp only at p0 p1 p2 p3 p4 p5 hW9
    go_wp2_with fail
    rw [← hW9]
    exact bodyPost_ret (by simp [results, Try.results101, go_sem, p0, p1, p2, p3, p4, p5]) rfl HR
  · cases hx7e : (x == 7)
    · obtain ⟨⟨_, _, _, _, c4, _⟩, f1⟩ := H5.out.cells
      have f6' := f1 4
      have H6 : Hid (WInv base cb bv n w eb w.heap.size ⟨s1, s2, s3, t, 1, ⟨#[]⟩⟩ (w5.setCell ⟨eb, 4, none⟩ (.int .i64 1)) ∧ (⟨s1, s2, s3, t, 1, ⟨#[]⟩⟩ : Ent).small) := ⟨H5.out.set 4 _ _ (by omega) rfl, ⟨hs1, hs2, hs3, by show (0 : Nat) ≤ 1000; omega, ht, by simp⟩⟩
      clear f1
      go_upto_region 12 with fail
      obtain ⟨W7, hW7⟩ : ∃ W7 : World, W7 = w5.setCell ⟨eb, 4, none⟩ (.int .i64 1) := ⟨_, rfl⟩
      rw [← hW7]
      have H7 : Hid (WInv base cb bv n w eb w.heap.size ⟨s1, s2, s3, t, 1, ⟨#[]⟩⟩ W7 ∧ (⟨s1, s2, s3, t, 1, ⟨#[]⟩⟩ : Ent).small) := by rw [hW7]; exact H6.out
      clear hW7 H6
      obtain ⟨⟨k0, k1, k2, k3, k4, k5⟩, _⟩ := H7.out.1.cells
      obtain ⟨⟨l0, l1, l2, l3, l4, l5⟩, lf, _⟩ := H7.out.1.back
      simp only at k0 k1 k2 k3 k4 k5
      obtain ⟨W9, hW9⟩ : ∃ W9 : World, W9 = ((((((W7.setCell ⟨w.heap.size, 0, none⟩ (.string (⟨s1, s2, s3, t, 1, ⟨#[]⟩⟩ : Ent).row)).setCell ⟨w.heap.size, 1, none⟩ (.string (⟨s1, s2, s3, t, 1, ⟨#[]⟩⟩ : Ent).fam)).setCell ⟨w.heap.size, 2, none⟩ (.string (⟨s1, s2, s3, t, 1, ⟨#[]⟩⟩ : Ent).qual)).setCell ⟨w.heap.size, 3, none⟩ (.int .u64 (⟨s1, s2, s3, t, 1, ⟨#[]⟩⟩ : Ent).ts)).setCell ⟨w.heap.size, 4, none⟩ (.int .i64 (⟨s1, s2, s3, t, 1, ⟨#[]⟩⟩ : Ent).kind)).setCell ⟨w.heap.size, 5, none⟩ (.string (⟨s1, s2, s3, t, 1, ⟨#[]⟩⟩ : Ent).val)) := ⟨_, rfl⟩
      obtain ⟨⟨p0, p1, p2, p3, p4, p5⟩, _⟩ := H7.out.1.back.2.2 W9 hW9
      have HR := HF.out ⟨s1, s2, s3, t, 1, ⟨#[]⟩⟩ W7 H7.out.1 H7.out.2 W9 hW9
      simp only at p0 p1 p2 p3 p4 p5 hW9
      go_wp2_with fail
      rw [← hW9]
      exact bodyPost_ret (by simp [results, Try.results101, go_sem, p0, p1, p2, p3, p4, p5]) rfl HR
    · obtain ⟨⟨_, _, _, _, c4, _⟩, f1⟩ := H5.out.cells
      have f6' := f1 4
      have H6 : Hid (WInv base cb bv n w eb w.heap.size ⟨s1, s2, s3, t, 2, ⟨#[]⟩⟩ (w5.setCell ⟨eb, 4, none⟩ (.int .i64 2)) ∧ (⟨s1, s2, s3, t, 2, ⟨#[]⟩⟩ : Ent).small) := ⟨H5.out.set 4 _ _ (by omega) rfl, ⟨hs1, hs2, hs3, by show (0 : Nat) ≤ 1000; omega, ht, by simp⟩⟩
      clear f1
      go_upto_region 12 with fail
      obtain ⟨W7, hW7⟩ : ∃ W7 : World, W7 = w5.setCell ⟨eb, 4, none⟩ (.int .i64 2) := ⟨_, rfl⟩
      rw [← hW7]
      have H7 : Hid (WInv base cb bv n w eb w.heap.size ⟨s1, s2, s3, t, 2, ⟨#[]⟩⟩ W7 ∧ (⟨s1, s2, s3, t, 2, ⟨#[]⟩⟩ : Ent).small) := by rw [hW7]; exact H6.out
      clear hW7 H6
      obtain ⟨⟨k0, k1, k2, k3, k4, k5⟩, _⟩ := H7.out.1.cells
      obtain ⟨⟨l0, l1, l2, l3, l4, l5⟩, lf, _⟩ := H7.out.1.back
      simp only at k0 k1 k2 k3 k4 k5
      obtain ⟨W9, hW9⟩ : ∃ W9 : World, W9 = ((((((W7.setCell ⟨w.heap.size, 0, none⟩ (.string (⟨s1, s2, s3, t, 2, ⟨#[]⟩⟩ : Ent).row)).setCell ⟨w.heap.size, 1, none⟩ (.string (⟨s1, s2, s3, t, 2, ⟨#[]⟩⟩ : Ent).fam)).setCell ⟨w.heap.size, 2, none⟩ (.string (⟨s1, s2, s3, t, 2, ⟨#[]⟩⟩ : Ent).qual)).setCell ⟨w.heap.size, 3, none⟩ (.int .u64 (⟨s1, s2, s3, t, 2, ⟨#[]⟩⟩ : Ent).ts)).setCell ⟨w.heap.size, 4, none⟩ (.int .i64 (⟨s1, s2, s3, t, 2, ⟨#[]⟩⟩ : Ent).kind)).setCell ⟨w.heap.size, 5, none⟩ (.string (⟨s1, s2, s3, t, 2, ⟨#[]⟩⟩ : Ent).val)) := ⟨_, rfl⟩
      obtain ⟨⟨p0, p1, p2, p3, p4, p5⟩, _⟩ := H7.out.1.back.2.2 W9 hW9
      have HR := HF.out ⟨s1, s2, s3, t, 2, ⟨#[]⟩⟩ W7 H7.out.1 H7.out.2 W9 hW9
      simp only at p0 p1 p2 p3 p4 p5 hW9
      go_wp2_with fail
      rw [← hW9]
      exact bodyPost_ret (by simp [results, Try.results101, go_sem, p0, p1, p2, p3, p4, p5]) rfl HR
end Go.Proofs.Ytnncedndlhfdkac

/-
  The order of keys: spec.CompareKeys and impl.CompareKeys come to one Lean function.
-/
namespace Go.Proofs.Ytnncedndlhfdkac
open Go.ChangeShapes Go.WideShapes Go.ChangeAt Go.RowKit Go.Deep

/-- Two strings against each other. -/
def cB (a b : ByteArray) : Int := Lib.compareBytes a.data.toList b.data.toList

theorem compareBytes_less : ∀ a b : List UInt8, Op.bytesLess a b = true → Lib.compareBytes a b = -1
  | [], [] => by simp [Op.bytesLess]
  | [], _ :: _ => by simp [Lib.compareBytes]
  | _ :: _, [] => by simp [Op.bytesLess]
  | a :: x, b :: y => by
    intro h
    simp only [Op.bytesLess, Bool.or_eq_true, decide_eq_true_eq, Bool.and_eq_true, beq_iff_eq] at h
    unfold Lib.compareBytes
    rcases h with h | ⟨rfl, h⟩
    · rw [if_pos h]
    · have hn : ¬ a < a := by simp
      rw [if_neg hn, if_neg hn]; exact compareBytes_less x y h
theorem compareBytes_self : ∀ a : List UInt8, Lib.compareBytes a a = 0
  | [] => rfl
  | a :: x => by
    unfold Lib.compareBytes
    have hn : ¬ a < a := by simp
    rw [if_neg hn, if_neg hn]; exact compareBytes_self x
theorem compareBytes_more : ∀ a b : List UInt8, Op.bytesLess a b = false → (a == b) = false → Lib.compareBytes a b = 1
  | [], [] => by simp
  | [], _ :: _ => by simp [Op.bytesLess]
  | _ :: _, [] => by simp [Lib.compareBytes]
  | a :: x, b :: y => by
    intro h h2
    simp only [Op.bytesLess, Bool.or_eq_false_iff, decide_eq_false_iff_not] at h
    unfold Lib.compareBytes
    rw [if_neg h.1]
    by_cases hb : b < a
    · rw [if_pos hb]
    · rw [if_neg hb]
      have hab : a = b := by
        have h1 := h.1
        rw [UInt8.lt_iff_toNat_lt] at h1 hb
        exact UInt8.toNat_inj.1 (by omega)
      subst hab
      refine compareBytes_more x y ?_ ?_
      · simpa using h.2
      · simpa using h2
theorem compareBytes_vals (a b : List UInt8) : Lib.compareBytes a b = -1 ∨ Lib.compareBytes a b = 0 ∨ Lib.compareBytes a b = 1 := by
  cases h : Op.bytesLess a b
  · cases h2 : (a == b)
    · exact .inr (.inr (compareBytes_more a b h h2))
    · rw [beq_iff_eq] at h2; subst h2; exact .inr (.inl (compareBytes_self a))
  · exact .inl (compareBytes_less a b h)
theorem cB_vals (a b : ByteArray) : cB a b = -1 ∨ cB a b = 0 ∨ cB a b = 1 := compareBytes_vals _ _
theorem cB_less {a b : ByteArray} (h : Op.bytesLess a.toList b.toList = true) : cB a b = -1 := by
  rw [ByteArray.toList_eq, ByteArray.toList_eq] at h; exact compareBytes_less _ _ h
theorem cB_more {a b : ByteArray} (h : Op.bytesLess a.toList b.toList = false) (h2 : (a.toList == b.toList) = false) : cB a b = 1 := by
  rw [ByteArray.toList_eq, ByteArray.toList_eq] at h h2; exact compareBytes_more _ _ h h2
theorem cB_same {a b : ByteArray} (h2 : (a.toList == b.toList) = true) : cB a b = 0 := by
  rw [ByteArray.toList_eq, ByteArray.toList_eq, beq_iff_eq] at h2; unfold cB; rw [h2]; exact compareBytes_self _

def firstOf (a b : Int) : Int := if a = 0 then b else a
def kindCmp (k l : Int) : Int := if k = 2 then (if l = 2 then 0 else -1) else (if l = 2 then 1 else 0)
def tsCmp (t u : Int) : Int := if u < t then -1 else if t < u then 1 else 0
/-- The order of keys. -/
def keyCmp (a b : Ent) : Int := firstOf (cB a.row b.row) (firstOf (cB a.fam b.fam) (firstOf (cB a.qual b.qual) (firstOf (kindCmp a.kind b.kind) (tsCmp a.ts b.ts))))

theorem ret_int {k : IntKind} {a b : Int} (h : a = b) : Ending.returned (.int k a) = .returned (.int k b) := by rw [h]

set_option maxHeartbeats 400000 in
theorem l1Str_any (a b : ByteArray) (w : World) :
    Calls Try.prog 88 #[.string a, .string b] w fun e w' => e = .returned (.int .i64 (cB a b)) ∧ w' = w := by
  cases h : Op.bytesLess a.toList b.toList
  · cases h2 : (a.toList == b.toList)
    · have H : Hid (cB a b = 1) := cB_more h h2
      go_enter Try.func88, Try.ntmps88
      go_wp2
      go_ret
      exact ⟨ret_int H.out.symm, rfl⟩
    · have H : Hid (cB a b = 0) := cB_same h2
      go_enter Try.func88, Try.ntmps88
      go_wp2
      go_ret
      exact ⟨ret_int H.out.symm, rfl⟩
  · have H : Hid (cB a b = -1) := cB_less h
    go_enter Try.func88, Try.ntmps88
    go_wp2
    go_ret
    exact ⟨ret_int H.out.symm, rfl⟩

set_option maxHeartbeats 400000 in
theorem l1First_any (a b : Int) (w : World) :
    Calls Try.prog 87 #[.int .i64 a, .int .i64 b] w fun e w' => e = .returned (.int .i64 (firstOf a b)) ∧ w' = w := by
  unfold firstOf
  by_cases h : a = 0
  · have h' : (a != 0) = false := by simp [h]
    rw [if_pos h]
    clear h
    go_enter Try.func87, Try.ntmps87
    go_wp2
    go_ret
    exact ⟨rfl, rfl⟩
  · have h' : (a != 0) = true := by simp [h]
    rw [if_neg h]
    clear h
    go_enter Try.func87, Try.ntmps87
    go_wp2
    go_ret
    exact ⟨rfl, rfl⟩

set_option maxHeartbeats 1000000 in
set_option maxRecDepth 100000 in
theorem compareString_any (a b : ByteArray) (w : World) :
    Calls Try.prog 125 #[.string a, .string b] w fun e w' => e = .returned (.int .i64 (cB a b)) ∧ w' = w := by
  go_enter Try.func125, Try.ntmps125
  go_wp2
  rw [run_callFunc_extern Try.func128 (by kernel_rfl) (by kernel_rfl) (by kernel_rfl) (e := Extern.BytealgCompare.compare) (by kernel_rfl), Lib.run_compareString]
  simp only [Result.andThen]
  rw [Oper.upon_value]
  go_wp2
  go_ret
  exact ⟨rfl, rfl⟩

set_option maxHeartbeats 400000 in
theorem stringsCompare_any (a b : ByteArray) (w : World) :
    Calls Try.prog 113 #[.string a, .string b] w fun e w' => e = .returned (.int .i64 (cB a b)) ∧ w' = w := by
  go_enter Try.func113, Try.ntmps113
  go_wp2_with (go_at_call 125; refine (compareString_any _ _ _).mono ?_; rintro e w' ⟨rfl, rfl⟩)
  go_ret
  exact ⟨rfl, rfl⟩

set_option maxHeartbeats 400000 in
theorem cmpU64_any (a b : Int) (w : World) :
    Calls Try.prog 94 #[.int .u64 a, .int .u64 b] w fun e w' => e = .returned (.int .i64 (tsCmp b a)) ∧ w' = w := by
  unfold tsCmp
  by_cases h : a < b
  · rw [if_pos h]
    go_enter Try.func94, Try.ntmps94
    go_wp2
    go_ret
    exact ⟨rfl, rfl⟩
  · rw [if_neg h]
    by_cases h2 : b < a
    · rw [if_pos h2]
      go_enter Try.func94, Try.ntmps94
      go_wp2
      go_ret
      exact ⟨rfl, rfl⟩
    · rw [if_neg h2]
      go_enter Try.func94, Try.ntmps94
      go_wp2
      go_ret
      exact ⟨rfl, rfl⟩
end Go.Proofs.Ytnncedndlhfdkac

/-
  The order of keys: spec.CompareKeys and impl.CompareKeys come to 'keyCmp'.
-/
namespace Go.Proofs.Ytnncedndlhfdkac
open Go.ChangeShapes Go.WideShapes Go.ChangeAt Go.RowKit Go.Deep

def tri (x : Int) : Prop := x = -1 ∨ x = 0 ∨ x = 1
theorem tri_first {a b : Int} (h : tri a) (k : tri b) : tri (firstOf a b) := by
  unfold firstOf; split
  · exact k
  · exact h
theorem tri_kind (k l : Int) : tri (kindCmp k l) := by
  unfold kindCmp tri; repeat' split
  all_goals omega
theorem tri_ts (k l : Int) : tri (tsCmp k l) := by
  unfold tsCmp tri; repeat' split
  all_goals omega
theorem keyCmp_vals (a b : Ent) : keyCmp a b = -1 ∨ keyCmp a b = 0 ∨ keyCmp a b = 1 :=
  tri_first (cB_vals _ _) (tri_first (cB_vals _ _) (tri_first (cB_vals _ _) (tri_first (tri_kind _ _) (tri_ts _ _))))

def colCmp (a b : Ent) : Int := firstOf (cB a.row b.row) (firstOf (cB a.fam b.fam) (cB a.qual b.qual))

set_option maxHeartbeats 400000 in
theorem compareColumns_any (a b : Ent) (w : World) :
    Calls Try.prog 93 #[a.v, b.v] w fun e w' => e = .returned (.int .i64 (colCmp a b)) ∧ Below w.heap.size w w' := by
  unfold colCmp firstOf Ent.v
  by_cases h1 : cB a.row b.row = 0
  · have g1 : (cB a.row b.row != 0) = false := by simp [h1]
    rw [if_pos h1]
    clear h1
    by_cases h2 : cB a.fam b.fam = 0
    · have g2 : (cB a.fam b.fam != 0) = false := by simp [h2]
      rw [if_pos h2]
      clear h2
      go_enter Try.func93, Try.ntmps93
      go_wp2_with (go_at_call 113; refine (stringsCompare_any _ _ _).mono ?_; rintro e w' ⟨rfl, rfl⟩)
      go_ret
      exact ⟨rfl, ((Below.refl _ _).alloc (Nat.le_refl _) _).alloc (by simp) _⟩
    · have g2 : (cB a.fam b.fam != 0) = true := by simp [h2]
      rw [if_neg h2]
      clear h2
      go_enter Try.func93, Try.ntmps93
      go_wp2_with (go_at_call 113; refine (stringsCompare_any _ _ _).mono ?_; rintro e w' ⟨rfl, rfl⟩)
      go_ret
      exact ⟨rfl, ((Below.refl _ _).alloc (Nat.le_refl _) _).alloc (by simp) _⟩
  · have g1 : (cB a.row b.row != 0) = true := by simp [h1]
    rw [if_neg h1]
    clear h1
    go_enter Try.func93, Try.ntmps93
    go_wp2_with (go_at_call 113; refine (stringsCompare_any _ _ _).mono ?_; rintro e w' ⟨rfl, rfl⟩)
    go_ret
    exact ⟨rfl, ((Below.refl _ _).alloc (Nat.le_refl _) _).alloc (by simp) _⟩

theorem firstOf_assoc (a b c : Int) : firstOf (firstOf a b) c = firstOf a (firstOf b c) := by
  unfold firstOf
  by_cases h : a = 0
  · simp [h]
  · simp [h]
theorem keyCmp_col (a b : Ent) : keyCmp a b = firstOf (colCmp a b) (firstOf (kindCmp a.kind b.kind) (tsCmp a.ts b.ts)) := by
  unfold keyCmp colCmp
  rw [firstOf_assoc, firstOf_assoc]
theorem keyCmp_ne {a b : Ent} (h : ¬ colCmp a b = 0) : keyCmp a b = colCmp a b := by
  rw [keyCmp_col]; unfold firstOf; rw [if_neg h]
theorem keyCmp_del1 {a b : Ent} (h : colCmp a b = 0) (h1 : a.kind = 2) (h2 : ¬ b.kind = 2) : keyCmp a b = -1 := by
  rw [keyCmp_col]; unfold firstOf kindCmp; simp [h, h1, h2]
theorem keyCmp_del2 {a b : Ent} (h : colCmp a b = 0) (h1 : ¬ a.kind = 2) (h2 : b.kind = 2) : keyCmp a b = 1 := by
  rw [keyCmp_col]; unfold firstOf kindCmp; simp [h, h1, h2]
theorem keyCmp_ts {a b : Ent} (h : colCmp a b = 0) (h1 : (a.kind = 2) ↔ (b.kind = 2)) : keyCmp a b = tsCmp a.ts b.ts := by
  rw [keyCmp_col]; unfold firstOf kindCmp
  by_cases h2 : a.kind = 2
  · simp [h, h2, h1.1 h2]
  · have h3 : ¬ b.kind = 2 := fun x => h2 (h1.2 x)
    simp [h, h2, h3]

set_option maxHeartbeats 400000 in
theorem compare_any (a b : Ent) (w : World) :
    Calls Try.prog 71 #[a.v, b.v] w fun e w' => e = .returned (.int .i64 (keyCmp a b)) ∧ Below w.heap.size w w' := by
  by_cases h1 : colCmp a b = 0
  · have g1 : (colCmp a b != 0) = false := by simp [h1]
    by_cases ha : a.kind = 2
    · have ga : (a.kind == 2) = true := by simp [ha]
      by_cases hb : b.kind = 2
      · have gb : (b.kind == 2) = true := by simp [hb]
        have H : Hid (keyCmp a b = tsCmp a.ts b.ts) := keyCmp_ts h1 (by simp [ha, hb])
        clear h1 ha hb
        go_enter Try.func71, Try.ntmps71
        go_wp2_with fail
        refine (compareColumns_any a b _).mono ?_
        rintro e w1 ⟨rfl, hb1⟩
        obtain ⟨hc1, hf1⟩ := bcell hb1
        have hz1 : w.heap.size + 1 < w1.heap.size := by have := hb1.size; simp at this; omega
        go_wp2_with fail
        refine (cmpU64_any _ _ _).mono ?_
        rintro e w2 ⟨rfl, rfl⟩
        go_wp2_with fail
        go_ret
        exact ⟨ret_int H.out.symm, (((Below.refl _ _).alloc (Nat.le_refl _) _).alloc (by simp) _).trans (hb1.mono (by simp; omega))⟩
      · have gb : (b.kind == 2) = false := by simp [hb]
        have H : Hid (keyCmp a b = -1) := keyCmp_del1 h1 ha hb
        clear h1 ha hb
        go_enter Try.func71, Try.ntmps71
        go_wp2_with fail
        refine (compareColumns_any a b _).mono ?_
        rintro e w1 ⟨rfl, hb1⟩
        obtain ⟨hc1, hf1⟩ := bcell hb1
        have hz1 : w.heap.size + 1 < w1.heap.size := by have := hb1.size; simp at this; omega
        go_wp2_with fail
        go_ret
        exact ⟨ret_int H.out.symm, (((Below.refl _ _).alloc (Nat.le_refl _) _).alloc (by simp) _).trans (hb1.mono (by simp; omega))⟩
    · have ga : (a.kind == 2) = false := by simp [ha]
      by_cases hb : b.kind = 2
      · have gb : (b.kind == 2) = true := by simp [hb]
        have H : Hid (keyCmp a b = 1) := keyCmp_del2 h1 ha hb
        clear h1 ha hb
        go_enter Try.func71, Try.ntmps71
        go_wp2_with fail
        refine (compareColumns_any a b _).mono ?_
        rintro e w1 ⟨rfl, hb1⟩
        obtain ⟨hc1, hf1⟩ := bcell hb1
        have hz1 : w.heap.size + 1 < w1.heap.size := by have := hb1.size; simp at this; omega
        go_wp2_with fail
        go_ret
        exact ⟨ret_int H.out.symm, (((Below.refl _ _).alloc (Nat.le_refl _) _).alloc (by simp) _).trans (hb1.mono (by simp; omega))⟩
      · have gb : (b.kind == 2) = false := by simp [hb]
        have H : Hid (keyCmp a b = tsCmp a.ts b.ts) := keyCmp_ts h1 (by simp [ha, hb])
        clear h1 ha hb
        go_enter Try.func71, Try.ntmps71
        go_wp2_with fail
        refine (compareColumns_any a b _).mono ?_
        rintro e w1 ⟨rfl, hb1⟩
        obtain ⟨hc1, hf1⟩ := bcell hb1
        have hz1 : w.heap.size + 1 < w1.heap.size := by have := hb1.size; simp at this; omega
        go_wp2_with fail
        refine (cmpU64_any _ _ _).mono ?_
        rintro e w2 ⟨rfl, rfl⟩
        go_wp2_with fail
        go_ret
        exact ⟨ret_int H.out.symm, (((Below.refl _ _).alloc (Nat.le_refl _) _).alloc (by simp) _).trans (hb1.mono (by simp; omega))⟩
  · have g1 : (colCmp a b != 0) = true := by simp [h1]
    have H : Hid (keyCmp a b = colCmp a b) := keyCmp_ne h1
    clear h1
    go_enter Try.func71, Try.ntmps71
    go_wp2_with fail
    refine (compareColumns_any a b _).mono ?_
    rintro e w1 ⟨rfl, hb1⟩
    go_wp2_with fail
    go_ret
    exact ⟨ret_int H.out.symm, (((Below.refl _ _).alloc (Nat.le_refl _) _).alloc (by simp) _).trans (hb1.mono (by simp; omega))⟩

def kt (a b : Ent) (K T : Int) : Prop := keyCmp a b = firstOf (cB a.row b.row) (firstOf (cB a.fam b.fam) (firstOf (cB a.qual b.qual) (firstOf K T)))
theorem kt_of {a b : Ent} {K T : Int} (hk : kindCmp a.kind b.kind = K) (ht : tsCmp a.ts b.ts = T) : kt a b K T := by
  unfold kt keyCmp; rw [hk, ht]
theorem kinds (a b : Ent) :
    ((a.kind == 2) = true ∧ (a.kind != 2) = false ∧ (b.kind == 2) = true ∧ (b.kind != 2) = false ∧ kindCmp a.kind b.kind = 0) ∨
    ((a.kind == 2) = true ∧ (a.kind != 2) = false ∧ (b.kind == 2) = false ∧ (b.kind != 2) = true ∧ kindCmp a.kind b.kind = -1) ∨
    ((a.kind == 2) = false ∧ (a.kind != 2) = true ∧ (b.kind == 2) = true ∧ (b.kind != 2) = false ∧ kindCmp a.kind b.kind = 1) ∨
    ((a.kind == 2) = false ∧ (a.kind != 2) = true ∧ (b.kind == 2) = false ∧ (b.kind != 2) = true ∧ kindCmp a.kind b.kind = 0) := by
  unfold kindCmp
  by_cases ha : a.kind = 2 <;> by_cases hb : b.kind = 2 <;> simp [ha, hb]
theorem tss (a b : Ent) :
    (b.ts < a.ts ∧ ¬ a.ts < b.ts ∧ tsCmp a.ts b.ts = -1) ∨ (¬ b.ts < a.ts ∧ a.ts < b.ts ∧ tsCmp a.ts b.ts = 1) ∨ (¬ b.ts < a.ts ∧ ¬ a.ts < b.ts ∧ tsCmp a.ts b.ts = 0) := by
  unfold tsCmp
  by_cases h1 : b.ts < a.ts
  · exact .inl ⟨h1, by omega, by simp [h1]⟩
  · by_cases h2 : a.ts < b.ts
    · exact .inr (.inl ⟨h1, h2, by simp [h1, h2]⟩)
    · exact .inr (.inr ⟨h1, h2, by simp [h1, h2]⟩)

set_option maxHeartbeats 4000000 in
theorem specCompareKeys_any (a b : Ent) (w : World) :
    Calls Try.prog 61 #[a.v, b.v] w fun e w' => e = .returned (.int .i64 (keyCmp a b)) ∧ Below w.heap.size w w' := by
  unfold Ent.v
  rcases kinds a b with ⟨ga, ga', gb, gb', hk⟩ | ⟨ga, ga', gb, gb', hk⟩ | ⟨ga, ga', gb, gb', hk⟩ | ⟨ga, ga', gb, gb', hk⟩
  all_goals rcases tss a b with ⟨h1, h2, ht⟩ | ⟨h1, h2, ht⟩ | ⟨h1, h2, ht⟩
  all_goals
    have H := kt_of hk ht
    clear hk ht
    go_enter Try.func61, Try.ntmps61
    go_wp2
    go_quiet ((first | (go_at_call 88; exact Calls.quiet_of_same (l1Str_any _ _ _)) | (go_at_call 87; exact Calls.quiet_of_same (l1First_any _ _ _))))
    go_wp2
    go_ret
    exact ⟨ret_int H.symm, below_drewN (((Below.refl _ _).alloc (Nat.le_refl _) _).alloc (by simp) _) _⟩
end Go.Proofs.Ytnncedndlhfdkac

/-
  Runs that are valid: spec.ValidRun and impl.ValidRun.
-/
namespace Go.Proofs.Ytnncedndlhfdkac
open Go.ChangeShapes Go.WideShapes Go.ChangeAt Go.RowKit Go.Deep
set_option linter.unusedVariables false

def Ent.vld (e : Ent) : Bool := vE e.row e.fam e.qual e.kind e.val
/-- One column? -/
def sameCol (a b : Ent) : Bool := (a.row.toList == b.row.toList) && ((a.fam.toList == b.fam.toList) && (a.qual.toList == b.qual.toList))

set_option maxHeartbeats 400000 in
theorem sameColumn_any (a b : Ent) (w : World) :
    Calls Try.prog 62 #[a.v, b.v] w fun e w' => e = .returned (.bool (sameCol a b)) ∧ Below w.heap.size w w' := by
  unfold sameCol Ent.v
  cases h1 : (a.row.toList == b.row.toList)
  · go_enter Try.func62, Try.ntmps62
    go_wp2
    go_ret
    exact ⟨by simp, ((Below.refl _ _).alloc (Nat.le_refl _) _).alloc (by simp) _⟩
  · cases h2 : (a.fam.toList == b.fam.toList)
    · go_enter Try.func62, Try.ntmps62
      go_wp2
      go_ret
      exact ⟨by simp, ((Below.refl _ _).alloc (Nat.le_refl _) _).alloc (by simp) _⟩
    · go_enter Try.func62, Try.ntmps62
      go_wp2
      go_ret
      exact ⟨by simp, ((Below.refl _ _).alloc (Nat.le_refl _) _).alloc (by simp) _⟩

set_option maxHeartbeats 400000 in
theorem column_any (a : Ent) (w : World) :
    Calls Try.prog 77 #[a.v] w fun e w' => e = .returned (.agg #[.string a.row, .string a.fam, .string a.qual]) ∧ Below w.heap.size w w' := by
  unfold Ent.v
  go_enter Try.func77, Try.ntmps77
  go_wp2
  refine bodyPost_ret (v := .agg #[.string a.row, .string a.fam, .string a.qual]) (by simp [results, Try.results77, go_sem]) rfl ⟨rfl, ?_⟩
  exact ((Below.refl _ _).alloc (Nat.le_refl _) _).alloc (by simp) _

theorem colEq_run (a b : Ent) (wx : World) : (binOp .eql 73 (.agg #[.string a.row, .string a.fam, .string a.qual]) (.agg #[.string b.row, .string b.fam, .string b.qual])).run Try.prog wx = .ok (.bool (sameCol a b)) wx := by
  unfold sameCol
  cases h1 : (a.row.toList == b.row.toList)
  · go_simp
  · cases h2 : (a.fam.toList == b.fam.toList)
    · go_simp
    · cases h3 : (a.qual.toList == b.qual.toList)
      · go_simp
      · go_simp

theorem lift_in {P : Program} {f : Nat} {args : Array Value} {w : World} {v : Value} (W0 : World) (h : Below W0.heap.size W0 w) (c : Calls P f args w fun e w' => e = .returned v ∧ Below w.heap.size w w') :
    Calls P f args w fun e w' => e = .returned v ∧ Below W0.heap.size W0 w' ∧ (∀ b o, b < W0.heap.size → w'.cell? ⟨b, o, none⟩ = W0.cell? ⟨b, o, none⟩) := by
  refine c.mono ?_
  rintro e w' ⟨he, hb⟩
  have k := h.trans (hb.mono h.size)
  exact ⟨he, k, fun b o hlt => k.cell (p := ⟨b, o, none⟩) hlt⟩

/-- May 'p' stand right before 'e' in a run? -/
def okPair (p e : Ent) : Bool := (keyCmp p e == -1) && !((p.kind == 2) && ((e.kind == 2) && sameCol p e))

set_option maxHeartbeats 1000000 in
theorem mayPrecede_any (a b : Ent) (w : World) :
    Calls Try.prog 97 #[a.v, b.v] w fun e w' => e = .returned (.bool (okPair a b)) ∧ Below w.heap.size w w' := by
  unfold Ent.v
  cases ga : (a.kind == 2)
  · have H : Hid (okPair a b = decide (keyCmp a b < 0)) := by
      show okPair a b = _
      unfold okPair; rw [ga]
      rcases keyCmp_vals a b with h | h | h <;> rw [h] <;> rfl
    go_enter Try.func97, Try.ntmps97
    go_wp2_with fail
    go_quiet (fail)
    go_wp2_with fail
    refine (compare_any a b _).mono ?_
    rintro e w1 ⟨rfl, hb1⟩
    go_wp2_with fail
    go_ret
    exact ⟨ret_bool H.out.symm, (below_drewN (((Below.refl _ _).alloc (Nat.le_refl _) _).alloc (by simp) _) _).trans (hb1.mono (by simp; omega))⟩
  · cases gb : (b.kind == 2)
    · have H : Hid (okPair a b = decide (keyCmp a b < 0)) := by
        show okPair a b = _
        unfold okPair; rw [ga, gb]
        rcases keyCmp_vals a b with h | h | h <;> rw [h] <;> rfl
      go_enter Try.func97, Try.ntmps97
      go_wp2_with fail
      go_quiet (fail)
      go_wp2_with fail
      refine (compare_any a b _).mono ?_
      rintro e w1 ⟨rfl, hb1⟩
      go_wp2_with fail
      go_ret
      exact ⟨ret_bool H.out.symm, (below_drewN (((Below.refl _ _).alloc (Nat.le_refl _) _).alloc (by simp) _) _).trans (hb1.mono (by simp; omega))⟩
    · go_enter Try.func97, Try.ntmps97
      go_upto_region 1 with fail
      obtain ⟨W0, hW0⟩ : ∃ W0 : World, W0 = (w.alloc (Obj.cells #[.string a.row, .string a.fam, .string a.qual, .int .u64 a.ts, .int .i64 a.kind, .string a.val] 63)).alloc (Obj.cells #[.string b.row, .string b.fam, .string b.qual, .int .u64 b.ts, .int .i64 b.kind, .string b.val] 63) := ⟨_, rfl⟩
      have hb0 : Below w.heap.size w W0 := by rw [hW0]; exact ((Below.refl _ _).alloc (Nat.le_refl _) _).alloc (by simp) _
      have hz0 : w.heap.size + 1 < W0.heap.size := by rw [hW0]; simp
      have ca : ∀ o, W0.cell? ⟨w.heap.size, o, none⟩ = ((w.alloc (Obj.cells #[.string a.row, .string a.fam, .string a.qual, .int .u64 a.ts, .int .i64 a.kind, .string a.val] 63)).alloc (Obj.cells #[.string b.row, .string b.fam, .string b.qual, .int .u64 b.ts, .int .i64 b.kind, .string b.val] 63)).cell? ⟨w.heap.size, o, none⟩ := fun o => by rw [hW0]
      have cb : ∀ o, W0.cell? ⟨w.heap.size + 1, o, none⟩ = ((w.alloc (Obj.cells #[.string a.row, .string a.fam, .string a.qual, .int .u64 a.ts, .int .i64 a.kind, .string a.val] 63)).alloc (Obj.cells #[.string b.row, .string b.fam, .string b.qual, .int .u64 b.ts, .int .i64 b.kind, .string b.val] 63)).cell? ⟨w.heap.size + 1, o, none⟩ := fun o => by rw [hW0]
      rw [← hW0]
      clear hW0
      go_cut [19] (fun s wx => s = .bool (sameCol a b) ∧ Below W0.heap.size W0 wx)
      case first =>
        have e3 := colEq_run a b
        go_region_with (first
          | (go_at_call_of 77 (a.row); refine (lift_in W0 ?hB (column_any a _)).mono ?_; (case hB => (repeat (first | assumption | exact Below.refl _ _ | refine Below.drew ?_))); rintro e w' ⟨rfl, hbb, hcc⟩)
          | (go_at_call_of 77 (b.row); refine (lift_in W0 ?hB (column_any b _)).mono ?_; (case hB => (repeat (first | assumption | exact Below.refl _ _ | refine Below.drew ?_))); rintro e w' ⟨rfl, hbb, hcc⟩))
        all_goals go_wp2_with fail
        all_goals go_meet
        all_goals exact ⟨rfl, by assumption⟩
      case rest =>
      obtain ⟨rfl, h3⟩ := hcut
      have ca3 : ∀ o, wc.cell? ⟨w.heap.size, o, none⟩ = W0.cell? ⟨w.heap.size, o, none⟩ := fun o => h3.cell (p := ⟨w.heap.size, o, none⟩) (by show w.heap.size < _; omega)
      have cb3 : ∀ o, wc.cell? ⟨w.heap.size + 1, o, none⟩ = W0.cell? ⟨w.heap.size + 1, o, none⟩ := fun o => h3.cell (p := ⟨w.heap.size + 1, o, none⟩) hz0
      cases hs : sameCol a b
      · have H : Hid (okPair a b = decide (keyCmp a b < 0)) := by
          show okPair a b = _
          unfold okPair; rw [ga, gb, hs]
          rcases keyCmp_vals a b with h | h | h <;> rw [h] <;> rfl
        go_wp2_with fail
        refine (compare_any a b _).mono ?_
        rintro e w1 ⟨rfl, hb1⟩
        go_wp2_with fail
        go_ret
        exact ⟨ret_bool H.out.symm, (hb0.trans (h3.mono (by omega))).trans (hb1.mono (by have := h3.size; omega))⟩
      · have H : Hid (okPair a b = false) := by
          show okPair a b = _
          unfold okPair; rw [ga, gb, hs]; simp
        go_wp2_with fail
        go_ret
        exact ⟨ret_bool H.out.symm, hb0.trans (h3.mono (by omega))⟩
end Go.Proofs.Ytnncedndlhfdkac

/-
  Runs that are valid: the loops of spec.ValidRun, impl.validWrites, impl.ValidRun.
-/
namespace Go.Proofs.Ytnncedndlhfdkac
open Go.ChangeShapes Go.WideShapes Go.ChangeAt Go.RowKit Go.Deep
set_option linter.unusedVariables false

/-- All of them are valid, and not too many. -/
def GoodW (es : List Ent) : Prop := es.length ≤ 10000 ∧ ∀ e ∈ es, e.vld = true
/-- Each may stand right before the next. -/
def Pairs (es : List Ent) : Prop := ∀ i p e, es[i]? = some p → es[i + 1]? = some e → okPair p e = true
def GoodR (es : List Ent) : Prop := GoodW es ∧ Pairs es

theorem iffF {p : Prop} (h : ¬ p) : (false = true ↔ p) := ⟨fun x => Bool.noConfusion x, fun x => absurd x h⟩
theorem iffT {p : Prop} (h : p) : (true = true ↔ p) := ⟨fun _ => h, fun _ => rfl⟩
theorem vld_of_take {es : List Ent} {k : Nat} {e : Ent} (h : ∀ x ∈ es.take k, x.vld = true) (he : es[k]? = some e) (hv : e.vld = true) : ∀ x ∈ es.take (k + 1), x.vld = true := by
  intro x hx
  rw [List.take_add_one, he] at hx
  simp at hx
  rcases hx with hx | rfl
  · exact h x hx
  · exact hv

set_option maxHeartbeats 400000 in
theorem validWrites_core (b off cap : Nat) (es : List Ent) (w : World) (hE : EntsAt w b off es) (hok : ∀ e ∈ es, e.ok) (hB : b < w.heap.size) (hlen : es.length ≤ cap) (hcap : cap ≤ maxLen) :
    Calls Try.prog 67 #[.slice (some ⟨b, off, none⟩) es.length cap] w fun e w' =>
      ∃ r : Bool, e = .returned (.bool r) ∧ (r = true ↔ GoodW es) ∧ Below w.heap.size w w' := by
  have HE : Hid (EntsAt w b off es) := hE
  have HO : Hid (∀ e ∈ es, e.ok) := hok
  clear hE hok
  unfold maxLen at hcap
  by_cases hbig : 10000 < es.length
  · have H : Hid (¬ GoodW es) := fun h => by have := h.1; omega
    go_enter Try.func67, Try.ntmps67
    go_wp2
    go_ret
    exact ⟨_, rfl, iffF H.out, Below.refl _ _⟩
  go_enter Try.func67, Try.ntmps67
  go_wp2
  go_loopw [10] (fun i wr => ∃ (k : Nat), k ≤ es.length ∧ i = .int .i64 k ∧ (∀ x ∈ es.take k, x.vld = true) ∧ Below w.heap.size w wr) (fun i _ => es.length - (intOf i).toNat)
  case atStart => exact ⟨0, Nat.zero_le _, rfl, by simp, Below.refl _ _⟩
  case round =>
    obtain ⟨k, hk, rfl, hv, hb⟩ := hrel
    have HV : Hid (∀ x ∈ es.take k, x.vld = true) := hv
    clear hv
    by_cases hlt : k < es.length
    · obtain ⟨e, he⟩ : ∃ e, es[k]? = some e := ⟨_, List.getElem?_eq_getElem hlt⟩
      obtain ⟨c0, c1, c2, c3, c4, c5⟩ := (HE.out.below hb hB) k e he
      have HK : Hid (e.ok ∧ es[k]? = some e) := ⟨HO.out e (List.mem_of_getElem? he), he⟩
      clear he
      go_wp2_with fail
      refine (implValid_core e.row e.fam e.qual e.val e.ts e.kind _ HK.out.1.row HK.out.1.fam HK.out.1.qual HK.out.1.val).mono ?_
      rintro e' w1 ⟨rfl, hb1⟩
      have hb2 := (hb.alloc hb.size (Obj.cells #[.string e.row, .string e.fam, .string e.qual, .int .u64 e.ts, .int .i64 e.kind, .string e.val] 63)).trans (hb1.mono (by have := hb.size; simp; omega))
      clear c0 c1 c2 c3 c4 c5 hb1
      cases hv : vE e.row e.fam e.qual e.kind e.val
      · have H : Hid (¬ GoodW es) := fun h => by
          have := h.2 e (List.mem_of_getElem? HK.out.2)
          unfold Ent.vld at this
          rw [hv] at this
          cases this
        go_wp2_with fail
        go_ret
        exact ⟨_, rfl, iffF H.out, hb2⟩
      · have H : Hid (∀ x ∈ es.take (k + 1), x.vld = true) := vld_of_take HV.out HK.out.2 hv
        go_wp2_with fail
        go_roundw
        case rel => exact ⟨k + 1, by omega, by go_num, H.out, hb2⟩
        case measure => simp [intOf]; omega
    · go_wp2
      go_ret
      refine ⟨_, rfl, ⟨fun _ => ⟨by omega, fun e he => ?_⟩, fun _ => rfl⟩, hb⟩
      have := HV.out
      rw [List.take_of_length_le (by omega)] at this
      exact this e he

theorem pairs_short {es : List Ent} (h : es.length ≤ 1) : Pairs es := by
  intro i p e h1 h2
  have := (List.getElem?_eq_some_iff.1 h2).1
  omega

/-- The pairs below place 'k'. -/
def PairsTo (es : List Ent) (k : Nat) : Prop := ∀ i p e, i + 1 < k → es[i]? = some p → es[i + 1]? = some e → okPair p e = true
theorem pairsTo_succ {es : List Ent} {m : Nat} {p e : Ent} (h : PairsTo es (m + 1)) (hp : es[m]? = some p) (he : es[m + 1]? = some e) (ho : okPair p e = true) : PairsTo es (m + 1 + 1) := by
  intro i p' e' hi h1 h2
  by_cases hm : i = m
  · subst hm
    rw [hp] at h1; rw [he] at h2
    simp at h1 h2
    subst h1 h2
    exact ho
  · exact h i p' e' (by omega) h1 h2
theorem pairs_of_to {es : List Ent} {k : Nat} (h : PairsTo es k) (hk : es.length ≤ k) : Pairs es := by
  intro i p e h1 h2
  have := (List.getElem?_eq_some_iff.1 h2).1
  exact h i p e (by omega) h1 h2

set_option maxHeartbeats 1000000 in
theorem implValidRun_core (b off cap : Nat) (es : List Ent) (w : World) (hE : EntsAt w b off es) (hok : ∀ e ∈ es, e.ok) (hB : b < w.heap.size) (hlen : es.length ≤ cap) (hcap : cap ≤ maxLen) :
    Calls Try.prog 74 #[.agg #[.slice (some ⟨b, off, none⟩) es.length cap]] w fun e w' =>
      ∃ r : Bool, e = .returned (.bool r) ∧ (r = true ↔ GoodR es) ∧ Below w.heap.size w w' := by
  obtain ⟨W0, hW0⟩ : ∃ W0 : World, W0 = w.alloc (Obj.cells #[.slice (some ⟨b, off, none⟩) es.length cap] 40) := ⟨_, rfl⟩
  have hb0 : Below w.heap.size w W0 := by rw [hW0]; exact (Below.refl _ _).alloc (Nat.le_refl _) _
  have hz0 : w.heap.size < W0.heap.size := by rw [hW0]; simp
  have ca : W0.cell? ⟨w.heap.size, 0, none⟩ = some (.slice (some ⟨b, off, none⟩) es.length cap) := by rw [hW0]; simp
  have HE : Hid (EntsAt W0 b off es) := hE.below hb0 hB
  have HO : Hid (∀ e ∈ es, e.ok) := hok
  have HC : Hid (cap ≤ maxLen) := hcap
  clear hE hok
  unfold maxLen at hcap
  go_enter Try.func74, Try.ntmps74
  go_wp2_with fail
  rw [← hW0]
  refine (validWrites_core b off cap es _ HE.out HO.out (by omega) hlen HC.out).mono ?_
  rintro e w1 ⟨r, rfl, hr, hb1⟩
  have HR : Hid (r = true ↔ GoodW es) := hr
  clear hr hW0
  have k1 := hb0.trans (hb1.mono (by omega))
  have ca1 : w1.cell? ⟨w.heap.size, 0, none⟩ = some (.slice (some ⟨b, off, none⟩) es.length cap) := by rw [hb1.cell (p := ⟨w.heap.size, 0, none⟩) hz0]; exact ca
  cases r
  · go_wp2_with fail
    go_ret
    exact ⟨_, rfl, iffF (fun h => Bool.noConfusion (HR.out.2 h.1)), k1⟩
  have HR1 : Hid (GoodW es) := HR.out.1 rfl
  clear HR
  go_wp2_with fail
  go_loopw [3] (fun i wr => ∃ (k : Nat), 1 ≤ k ∧ i = .int .i64 k ∧ PairsTo es k ∧ Below w1.heap.size w1 wr) (fun i _ => es.length - (intOf i).toNat)
  case atStart => exact ⟨1, Nat.le_refl _, rfl, fun i p e hi => by omega, Below.refl _ _⟩
  case round =>
    obtain ⟨k, hk, rfl, hP, hb⟩ := hrel
    have HP : Hid (PairsTo es k) := hP
    clear hP
    have hs1 := hb1.size
    have hs2 := hb.size
    have car : wr.cell? ⟨w.heap.size, 0, none⟩ = some (.slice (some ⟨b, off, none⟩) es.length cap) := by rw [hb.cell (p := ⟨w.heap.size, 0, none⟩) (by show w.heap.size < _; omega)]; exact ca1
    obtain ⟨m, rfl⟩ : ∃ m, k = m + 1 := ⟨k - 1, by omega⟩
    by_cases hlt : m + 1 < es.length
    · obtain ⟨p, hp⟩ : ∃ e, es[m]? = some e := ⟨_, List.getElem?_eq_getElem (by omega)⟩
      obtain ⟨e, he⟩ : ∃ e, es[m + 1]? = some e := ⟨_, List.getElem?_eq_getElem hlt⟩
      have HEr := (HE.out.below hb1 (by omega)).below hb (by omega)
      obtain ⟨c0, c1, c2, c3, c4, c5⟩ := HEr m p hp
      obtain ⟨d0, d1, d2, d3, d4, d5⟩ := HEr (m + 1) e he
      have HK : Hid (es[m]? = some p ∧ es[m + 1]? = some e) := ⟨hp, he⟩
      clear hp he HEr
      go_upto_region 6 with fail
      go_cut [27] (fun s wx => s = .bool (!okPair p e) ∧ Below w1.heap.size w1 wx)
      case first =>
        have hw : IntKind.i64.wrap (m : Int) = (m : Int) := Go.IntWalk.i64_in _ (by omega)
        have z1 : (0 : Int) ≤ (m : Int) := by omega
        have z2 : (m : Int) < (es.length : Int) := by omega
        have z3 : (m : Int) + 1 < (es.length : Int) := by omega
        go_region_with (go_at_call 97; refine (mayPrecede_any p e _).mono ?_; rintro e' w' ⟨rfl, hbb⟩)
        all_goals go_wp2_with fail
        all_goals go_meet
        all_goals exact ⟨rfl, hb.drew.trans (hbb.mono (by simp; omega))⟩
      case rest =>
      obtain ⟨rfl, h3⟩ := hcut
      clear c0 c1 c2 c3 c4 c5 d0 d1 d2 d3 d4 d5
      cases ho : okPair p e
      · have H : Hid (¬ GoodR es) := fun h => by
          have := h.2 m p e HK.out.1 HK.out.2
          rw [ho] at this; cases this
        go_wp2_with fail
        go_ret
        exact ⟨_, rfl, iffF H.out, k1.trans (h3.mono (by omega))⟩
      · have H : Hid (PairsTo es (m + 1 + 1)) := pairsTo_succ HP.out HK.out.1 HK.out.2 ho
        go_wp2_with fail
        go_roundw
        case rel => exact ⟨m + 1 + 1, by omega, by go_num, H.out, h3⟩
        case measure => simp [intOf]; omega
    · go_wp2_with fail
      go_ret
      exact ⟨_, rfl, iffT ⟨HR1.out, pairs_of_to HP.out (by omega)⟩, k1.trans (hb.mono (by omega))⟩
end Go.Proofs.Ytnncedndlhfdkac

/-
  spec.l1Into: an entry laid into an ordered list.
-/
namespace Go.Proofs.Ytnncedndlhfdkac
open Go.ChangeShapes Go.WideShapes Go.ChangeAt Go.RowKit Go.Deep
set_option linter.unusedVariables false

/-- One entry appended to a row of the call's own. -/
theorem wpList_append_ent {ops : Array Oper} {rest : List Oper} {o : Oper} {a : Act} {Q : Exit → Act → World → Prop} (w : World) (hgd : o.guard = none) (s x : Operand)
    (ho : o.op = .call { callee := .builtin .append, args := #[s, x], argTypes := #[38, 38] })
    (base g cp n blk : Nat) (fs : List Ent) (e : Ent) (hs : a.eval s = .slice (some ⟨g, 0, none⟩) n cp) (hx : a.eval x = .slice (some ⟨blk, 0, none⟩) 1 1) (hn : n = fs.length) (hO : OwnE w base g cp fs)
    (hc : EntsAt w blk 0 [e]) (hlen : fs.length ≤ 2 ^ 30) (hbase : base ≤ w.heap.size)
    (h : ∀ g' cp' w', OwnE w' base g' cp' (fs ++ [e]) → w.grownBy w' (some g) → wpList Try.prog ops Q rest (a.put o.dst (.slice (some ⟨g', 0, none⟩) (n + 1) cp')) w') : wpList Try.prog ops Q (o :: rest) a w := by
  obtain ⟨i, hi, hz0, hz1, hz2⟩ := info_parts Try.infoEnt
  subst hn
  obtain ⟨c0, c1, c2, c3, c4, c5⟩ := hc 0 e rfl
  refine wpList_append_own w hgd s x 38 ho base 63 i _ 6 80 Try.underlying38 hi hz0 hz1 hz2 rfl (by decide) (.slice (some ⟨g, 0, none⟩) fs.length cp) fs.length (cellsE fs) hs hO ⟨blk, 0, none⟩ 1 1 (cellsE [e]) hx rfl ?_ ?_ ?_ ?_ hbase ?_
  · intro j u hu
    have hj : j < 6 := by
      have := (List.getElem?_eq_some_iff.1 hu).1
      rw [length_cellsE] at this
      simpa using this
    rw [Addr.add_mid, Nat.zero_add]
    simp only [Nat.zero_mul, Nat.zero_add] at c0 c1 c2 c3 c4 c5
    match j, hj, hu with
    | 0, _, hu => simp [cellsE] at hu; rw [← hu]; exact c0
    | 1, _, hu => simp [cellsE] at hu; rw [← hu]; exact c1
    | 2, _, hu => simp [cellsE] at hu; rw [← hu]; exact c2
    | 3, _, hu => simp [cellsE] at hu; rw [← hu]; exact c3
    | 4, _, hu => simp [cellsE] at hu; rw [← hu]; exact c4
    | 5, _, hu => simp [cellsE] at hu; rw [← hu]; exact c5
  · intro u hu
    simp [cellsE] at hu
    rcases hu with rfl | rfl | rfl | rfl | rfl | rfl <;> rfl
  · unfold maxLen; omega
  · omega
  · intro v' w' hown hgr hnil
    rw [← cellsE_append] at hown
    have hlen' : (fs ++ [e]).length = fs.length + 1 := by simp
    rcases hown.2 with ⟨hv, _⟩ | ⟨g', cap', cur, hv, h1, h2, h3⟩
    · have := (hnil.1 hv).1
      simp at this
    · subst hv
      exact h g' cap' w' (by unfold OwnE; rw [hlen']; exact hown) hgr

/-- An entry laid into an ordered list, in the place of one with the same key. -/
def intoG (e : Ent) : List Ent → Bool → List Ent
  | [], done => if done then [] else [e]
  | x :: r, done =>
    if keyCmp x e = -1 then x :: intoG e r done
    else if keyCmp x e = 0 then (if done then intoG e r true else e :: intoG e r true)
    else (if done then x :: intoG e r true else e :: x :: intoG e r true)
def into (L : List Ent) (e : Ent) : List Ent := intoG e L false

theorem length_intoG (e : Ent) : ∀ (L : List Ent) (d : Bool), (intoG e L d).length ≤ L.length + 1
  | [], d => by unfold intoG; split <;> simp
  | x :: r, d => by
    have h1 := length_intoG e r d
    have h2 := length_intoG e r true
    have h3 : ∀ (L : List Ent), (intoG e L true).length ≤ L.length := by
      intro L
      induction L with
      | nil => simp [intoG]
      | cons y s ih =>
        unfold intoG
        split
        · simp; omega
        · split
          · simp; omega
          · simp; omega
    have h4 := h3 r
    unfold intoG
    split
    · simp; omega
    · split
      · split <;> simp <;> omega
      · split <;> simp <;> omega

set_option maxHeartbeats 2000000 in
theorem into_core (b off cap : Nat) (L : List Ent) (e : Ent) (w : World) (hE : EntsAt w b off L) (hB : b < w.heap.size) (hlen : L.length ≤ 1048576) :
    Calls Try.prog 37 #[.slice (some ⟨b, off, none⟩) L.length cap, e.v] w fun r w' =>
      ∃ g cp, r = .returned (.slice (some ⟨g, 0, none⟩) (into L e).length cp) ∧ OwnE w' w.heap.size g cp (into L e) ∧ Below w.heap.size w w' := by
  unfold Ent.v
  obtain ⟨W0, hW0⟩ : ∃ W0 : World, W0 = w.alloc (Obj.cells #[.string e.row, .string e.fam, .string e.qual, .int .u64 e.ts, .int .i64 e.kind, .string e.val] 63) := ⟨_, rfl⟩
  have hb0 : Below w.heap.size w W0 := by rw [hW0]; exact (Below.refl _ _).alloc (Nat.le_refl _) _
  have hz0 : W0.heap.size = w.heap.size + 1 := by rw [hW0]; simp
  have HX : Hid (EntsAt W0 w.heap.size 0 [e]) := by
    show EntsAt W0 w.heap.size 0 [e]
    intro j f hf
    obtain rfl : j = 0 := by
      have := (List.getElem?_eq_some_iff.1 hf).1
      simpa using this
    simp at hf
    subst hf
    rw [hW0]
    simp
  have HE : Hid (EntsAt W0 b off L) := hE.below hb0 hB
  have HS : Hid (OwnE (W0.alloc (Obj.cells #[] 63)) (w.heap.size + 1) (w.heap.size + 1) 0 []) := by
    show OwnE (W0.alloc (Obj.cells #[] 63)) (w.heap.size + 1) (w.heap.size + 1) 0 []
    rw [← hz0]
    exact World.ownsRow_made W0 #[] 0 (Nat.le_refl _) (Nat.zero_le _) (by simp)
  clear hE
  have HZ : Hid (W0.heap.size = w.heap.size + 1) := hz0
  have hz1 : w.heap.size < W0.heap.size := by omega
  have hz2 : W0.heap.size ≤ w.heap.size + 1 := by omega
  clear hz0
  go_enter Try.func37, Try.ntmps37
  go_wp2_with fail
  rw [← hW0]
  clear hW0
  go_loopw [5, 6, 7] (fun o d i wr => ∃ (k g cp : Nat) (fs : List Ent) (dn : Bool), k ≤ L.length ∧ i = .int .i64 k ∧ d = .bool dn ∧ o = .slice (some ⟨g, 0, none⟩) fs.length cp ∧ fs ++ intoG e (L.drop k) dn = into L e ∧ OwnE wr (w.heap.size + 1) g cp fs ∧ Below W0.heap.size W0 wr) (fun _ _ i _ => L.length - (intOf i).toNat)
  case atStart => exact ⟨0, _, 0, [], false, Nat.zero_le _, rfl, rfl, rfl, rfl, HS.out, (Below.refl _ _).alloc (Nat.le_refl _) _⟩
  case round =>
    obtain ⟨k, g, cp, fs, dn, hk, rfl, rfl, rfl, hin, hO, hb⟩ := hrel
    have hfl : fs.length ≤ 1048577 := by
      have h1 := congrArg List.length hin
      have h2 := length_intoG e L false
      rw [List.length_append] at h1
      unfold into at h1
      omega
    have HI : Hid (fs ++ intoG e (L.drop k) dn = into L e) := hin
    have HO : Hid (OwnE wr (w.heap.size + 1) g cp fs) := hO
    have hg := hO.lt
    have hs := hb.size
    clear hin hO
    by_cases hlt : k < L.length
    · obtain ⟨x, hx⟩ : ∃ x, L[k]? = some x := ⟨_, List.getElem?_eq_getElem hlt⟩
      have hdr : L.drop k = x :: L.drop (k + 1) := by
        rw [List.drop_eq_getElem_cons hlt]
        rw [List.getElem?_eq_getElem hlt] at hx
        simp at hx
        rw [hx]
      have HD : Hid (L.drop k = x :: L.drop (k + 1)) := hdr
      clear hdr
      have hec : ∀ wx, Below W0.heap.size W0 wx → EntsAt wx b off L ∧ EntsAt wx w.heap.size 0 [e] := fun wx h => ⟨HE.out.below h (by omega), HX.out.below h (by omega)⟩
      have HEC : Hid (∀ wx, Below W0.heap.size W0 wx → EntsAt wx b off L ∧ EntsAt wx w.heap.size 0 [e]) := hec
      clear hec
      obtain ⟨c0, c1, c2, c3, c4, c5⟩ := (HEC.out wr hb).1 k x hx
      obtain ⟨d0, d1, d2, d3, d4, d5⟩ := (HEC.out wr hb).2 0 e rfl
      simp only [Nat.zero_add, Nat.zero_mul] at d0 d1 d2 d3 d4 d5
      have HXK : Hid (L[k]? = some x) := hx
      clear hx
      have z2 : (k : Int) < (L.length : Int) := by omega
      go_upto_region 6 with fail
      go_cut [8] (fun s wx => s = .int .i64 (keyCmp x e) ∧ Below wr.heap.size wr wx)
      case first =>
        go_region_with (go_at_call 61; refine (specCompareKeys_any x e _).mono ?_; rintro e' w' ⟨rfl, hbb⟩)
        all_goals go_wp2_with fail
        all_goals go_meet
        all_goals exact ⟨rfl, ((Below.refl _ _).drew).trans (hbb.mono (by simp))⟩
      case rest =>
      obtain ⟨rfl, h3⟩ := hcut
      have hb3 := hb.trans (h3.mono hb.size)
      have HO3 : Hid (OwnE wc (w.heap.size + 1) g cp fs) := HO.out.below h3 hg.2
      have hs3 := h3.size
      clear c0 c1 c2 c3 c4 c5 d0 d1 d2 d3 d4 d5
      obtain ⟨c0, c1, c2, c3, c4, c5⟩ := (HEC.out wc hb3).1 k x HXK.out
      obtain ⟨d0, d1, d2, d3, d4, d5⟩ := (HEC.out wc hb3).2 0 e rfl
      simp only [Nat.zero_add, Nat.zero_mul] at d0 d1 d2 d3 d4 d5
      have ent_new : ∀ (wx : World) (f : Ent), EntsAt (wx.alloc (Obj.cells #[.string f.row, .string f.fam, .string f.qual, .int .u64 f.ts, .int .i64 f.kind, .string f.val] 63)) wx.heap.size 0 [f] := by
        intro wx f j y hy
        obtain rfl : j = 0 := by
          have := (List.getElem?_eq_some_iff.1 hy).1
          simpa using this
        simp at hy
        subst hy
        simp
      have HN : Hid (∀ (wx : World) (f : Ent), EntsAt (wx.alloc (Obj.cells #[.string f.row, .string f.fam, .string f.qual, .int .u64 f.ts, .int .i64 f.kind, .string f.val] 63)) wx.heap.size 0 [f]) := ent_new
      clear ent_new
      rcases keyCmp_vals x e with hc | hc | hc
      · have HC : Hid (keyCmp x e = -1) := hc
        go_wp2_with (at_builtin; refine wpList_append_ent _ rfl _ _ rfl (w.heap.size + 1) g cp _ _ fs x rfl rfl rfl ?hO ?hc ?hl ?hb ?_)
        case hO => exact HO3.out.below ((Below.refl _ _).alloc (Nat.le_refl _) _) (by omega)
        case hc => exact HN.out wc x
        case hl => omega
        case hb => simp; omega
        intro g' cp' w' hO' hgr
        have HO' : Hid (OwnE w' (w.heap.size + 1) g' cp' (fs ++ [x])) := hO'
        have hb' : Below W0.heap.size W0 w' := (hb3.alloc hb3.size _).grown hgr (by simp; omega) (fun j hj => by cases hj; omega)
        clear hO' hgr
        go_wp2_with fail
        go_roundw
        case rel =>
          go_light
          refine ⟨k + 1, g', cp', fs ++ [x], dn, by omega, by go_num, rfl, by simp, ?_, HO'.out, hb'⟩
          have h := HI.out
          rw [HD.out] at h
          rw [← h]
          simp [intoG, HC.out]
        case measure => go_light; simp [intOf]; omega
      · have HC : Hid (keyCmp x e = 0) := hc
        cases dn
        · go_wp2_with (at_builtin; refine wpList_append_ent _ rfl _ _ rfl (w.heap.size + 1) g cp _ _ (fs) e rfl rfl rfl ?hO ?hc ?hl ?hb ?_)
          case hO => exact HO3.out.below ((Below.refl _ _).alloc (Nat.le_refl _) _) (by omega)
          case hc => exact HN.out wc e
          case hl => omega
          case hb => simp; omega
          intro g' cp' w' hO' hgr
          have HO' : Hid (OwnE w' (w.heap.size + 1) g' cp' (fs ++ [e])) := hO'
          have hb' : Below W0.heap.size W0 w' := (hb3.alloc hb3.size _).grown hgr (by simp; omega) (fun j hj => by cases hj; omega)
          clear hO' hgr
          go_wp2_with fail
          go_roundw
          case rel =>
            go_light
            refine ⟨k + 1, g', cp', fs ++ [e], true, by omega, by go_num, rfl, by simp, ?_, HO'.out, hb'⟩
            have h := HI.out
            rw [HD.out] at h
            rw [← h]
            simp [intoG, HC.out]
          case measure => go_light; simp [intOf]; omega
        · go_wp2_with fail
          go_roundw
          case rel =>
            go_light
            refine ⟨k + 1, g, cp, fs, true, by omega, by go_num, rfl, by simp, ?_, HO3.out, hb3⟩
            have h := HI.out
            rw [HD.out] at h
            rw [← h]
            simp [intoG, HC.out]
          case measure => go_light; simp [intOf]; omega
      · have HC : Hid (keyCmp x e = 1) := hc
        cases dn
        · go_wp2_with (at_builtin; refine wpList_append_ent _ rfl _ _ rfl (w.heap.size + 1) g cp _ _ (fs) e rfl rfl rfl ?hO ?hc ?hl ?hb ?_)
          case hO => exact HO3.out.below ((Below.refl _ _).alloc (Nat.le_refl _) _) (by omega)
          case hc => exact HN.out wc e
          case hl => omega
          case hb => simp; omega
          intro g1 cp1 w1 hO1 hgr1
          have HO1 : Hid (OwnE w1 (w.heap.size + 1) g1 cp1 (fs ++ [e])) := hO1
          have hb1 : Below W0.heap.size W0 w1 := (hb3.alloc hb3.size _).grown hgr1 (by simp; omega) (fun j hj => by cases hj; omega)
          have hg1 := hO1.lt
          have hs1 := hb1.size
          clear hO1 hgr1 c0 c1 c2 c3 c4 c5
          obtain ⟨c0, c1, c2, c3, c4, c5⟩ := (HEC.out w1 hb1).1 k x HXK.out
          go_wp2_with (at_builtin; refine wpList_append_ent _ rfl _ _ rfl (w.heap.size + 1) g1 cp1 _ _ (fs ++ [e]) x rfl rfl (by simp) ?hO ?hc ?hl ?hb ?_)
          case hO => exact HO1.out.below ((Below.refl _ _).alloc (Nat.le_refl _) _) hg1.2
          case hc => exact HN.out w1 x
          case hl => simp; omega
          case hb => simp; omega
          intro g' cp' w' hO' hgr
          have HO' : Hid (OwnE w' (w.heap.size + 1) g' cp' (fs ++ [e, x])) := hO'
          have hb' : Below W0.heap.size W0 w' := (hb1.alloc hb1.size _).grown hgr (by simp; omega) (fun j hj => by cases hj; omega)
          clear hO' hgr
          go_wp2_with fail
          go_roundw
          case rel =>
            go_light
            refine ⟨k + 1, g', cp', fs ++ [e, x], true, by omega, by go_num, rfl, by simp, ?_, HO'.out, hb'⟩
            have h := HI.out
            rw [HD.out] at h
            rw [← h]
            simp [intoG, HC.out]
          case measure => go_light; simp [intOf]; omega
        · go_wp2_with (at_builtin; refine wpList_append_ent _ rfl _ _ rfl (w.heap.size + 1) g cp _ _ (fs) x rfl rfl rfl ?hO ?hc ?hl ?hb ?_)
          case hO => exact HO3.out.below ((Below.refl _ _).alloc (Nat.le_refl _) _) (by omega)
          case hc => exact HN.out wc x
          case hl => omega
          case hb => simp; omega
          intro g' cp' w' hO' hgr
          have HO' : Hid (OwnE w' (w.heap.size + 1) g' cp' (fs ++ [x])) := hO'
          have hb' : Below W0.heap.size W0 w' := (hb3.alloc hb3.size _).grown hgr (by simp; omega) (fun j hj => by cases hj; omega)
          clear hO' hgr
          go_wp2_with fail
          go_roundw
          case rel =>
            go_light
            refine ⟨k + 1, g', cp', fs ++ [x], true, by omega, by go_num, rfl, by simp, ?_, HO'.out, hb'⟩
            have h := HI.out
            rw [HD.out] at h
            rw [← h]
            simp [intoG, HC.out]
          case measure => go_light; simp [intOf]; omega
    · have hdr : L.drop k = [] := List.drop_eq_nil_of_le (by omega)
      have HD : Hid (L.drop k = []) := hdr
      clear hdr
      have hkk : k = L.length := by omega
      cases dn
      · obtain ⟨d0, d1, d2, d3, d4, d5⟩ := HX.out.below hb (by omega) 0 e rfl
        simp only [Nat.zero_add, Nat.zero_mul] at d0 d1 d2 d3 d4 d5
        have HF : Hid (fs ++ [e] = into L e) := by
          have h := HI.out
          rw [HD.out] at h
          exact h
        go_wp2_with (at_builtin; refine wpList_append_ent _ rfl _ _ rfl (w.heap.size + 1) g cp _ _ fs e rfl rfl rfl ?hO ?hc ?hl ?hb ?_)
        case hO => exact HO.out.below ((Below.refl _ _).alloc (Nat.le_refl _) _) (by omega)
        case hc =>
          intro j y hy
          obtain rfl : j = 0 := by
            have := (List.getElem?_eq_some_iff.1 hy).1
            simpa using this
          simp at hy
          subst hy
          simp
        case hl => omega
        case hb => simp; omega
        intro g' cp' w' hO' hgr
        have HO' : Hid (OwnE w' (w.heap.size + 1) g' cp' (fs ++ [e])) := hO'
        have hb' : Below W0.heap.size W0 w' := (hb.alloc hb.size _).grown hgr (by simp; omega) (fun j hj => by cases hj; omega)
        clear hO' hgr
        go_wp2_with fail
        go_ret
        refine ⟨g', cp', ?_, ?_, hb0.trans (hb'.mono (by omega))⟩
        · rw [← HF.out]; simp
        · rw [← HF.out]; exact HO'.out.mono (by omega)
      · have HF : Hid (fs = into L e) := by
          have h := HI.out
          rw [HD.out] at h
          show fs = into L e
          simpa [intoG] using h
        go_wp2_with fail
        go_ret
        refine ⟨g, cp, ?_, ?_, hb0.trans (hb.mono (by omega))⟩
        · rw [← HF.out]; rfl
        · rw [← HF.out]; exact HO.out.mono (by omega)
end Go.Proofs.Ytnncedndlhfdkac

/-
  The order of keys is a strict order; ordered lists with the same members are one.
-/
namespace Go.Proofs.Ytnncedndlhfdkac
set_option linter.unusedVariables false

theorem cmpB_zero : ∀ a b : List UInt8, Lib.compareBytes a b = 0 ↔ a = b
  | [], [] => by simp [Lib.compareBytes]
  | [], _ :: _ => by simp [Lib.compareBytes]
  | _ :: _, [] => by simp [Lib.compareBytes]
  | a :: x, b :: y => by
    unfold Lib.compareBytes
    by_cases h1 : a < b
    · rw [if_pos h1]
      constructor
      · intro h; cases h
      · intro h
        simp at h
        rw [h.1] at h1
        simp at h1
    · rw [if_neg h1]
      by_cases h2 : b < a
      · rw [if_pos h2]
        constructor
        · intro h; cases h
        · intro h
          simp at h
          rw [h.1] at h2
          simp at h2
      · rw [if_neg h2, cmpB_zero x y]
        have hab : a = b := by
          rw [UInt8.lt_iff_toNat_lt] at h1 h2
          exact UInt8.toNat_inj.1 (by omega)
        simp [hab]
theorem cmpB_neg : ∀ a b : List UInt8, Lib.compareBytes b a = -Lib.compareBytes a b
  | [], [] => by simp [Lib.compareBytes]
  | [], _ :: _ => by simp [Lib.compareBytes]
  | _ :: _, [] => by simp [Lib.compareBytes]
  | a :: x, b :: y => by
    unfold Lib.compareBytes
    have := cmpB_neg x y
    simp only [UInt8.lt_iff_toNat_lt]
    by_cases h1 : a.toNat < b.toNat
    · have h2 : ¬ b.toNat < a.toNat := by omega
      simp [h1, h2]
    · by_cases h2 : b.toNat < a.toNat
      · simp [h1, h2]
      · simp [h1, h2, this]
theorem cmpB_trans : ∀ a b c : List UInt8, Lib.compareBytes a b = -1 → Lib.compareBytes b c = -1 → Lib.compareBytes a c = -1
  | [], [], _ => by simp [Lib.compareBytes]
  | [], _ :: _, [] => by simp [Lib.compareBytes]
  | [], _ :: _, _ :: _ => by simp [Lib.compareBytes]
  | _ :: _, [], _ => by simp [Lib.compareBytes]
  | _ :: _, _ :: _, [] => by simp [Lib.compareBytes]
  | a :: x, b :: y, c :: z => by
    have ih := cmpB_trans x y z
    unfold Lib.compareBytes
    simp only [UInt8.lt_iff_toNat_lt]
    intro h1 h2
    by_cases h3 : a.toNat < c.toNat
    · simp [h3]
    · by_cases p1 : a.toNat < b.toNat
      · by_cases p2 : b.toNat < c.toNat
        · omega
        · by_cases p3 : c.toNat < b.toNat
          · simp [p2, p3] at h2
          · omega
      · by_cases p2 : b.toNat < a.toNat
        · simp [p1, p2] at h1
        · by_cases q1 : b.toNat < c.toNat
          · omega
          · by_cases q2 : c.toNat < b.toNat
            · simp [q1, q2] at h2
            · simp [p1, p2] at h1
              simp [q1, q2] at h2
              have r1 : ¬ c.toNat < a.toNat := by omega
              simp [h3, r1]
              exact ih h1 h2

theorem cB_zero {a b : ByteArray} : cB a b = 0 ↔ a = b := by
  unfold cB
  rw [cmpB_zero]
  constructor
  · intro h; cases a; cases b; simp at h; simpa using h
  · intro h; rw [h]
theorem cB_neg (a b : ByteArray) : cB b a = -cB a b := cmpB_neg _ _
theorem cB_trans {a b c : ByteArray} (h : cB a b = -1) (k : cB b c = -1) : cB a c = -1 := cmpB_trans _ _ _ h k

theorem tsCmp_neg (a b : Int) : tsCmp b a = -tsCmp a b := by
  unfold tsCmp; repeat' split
  all_goals omega
theorem kindCmp_neg (a b : Int) : kindCmp b a = -kindCmp a b := by
  unfold kindCmp; repeat' split
  all_goals omega
theorem firstOf_neg (a b : Int) : firstOf (-a) (-b) = -firstOf a b := by
  unfold firstOf
  by_cases h : a = 0
  · simp [h]
  · simp [h]
theorem keyCmp_neg (a b : Ent) : keyCmp b a = -keyCmp a b := by
  unfold keyCmp
  rw [cB_neg a.row b.row, cB_neg a.fam b.fam, cB_neg a.qual b.qual, kindCmp_neg a.kind b.kind, tsCmp_neg a.ts b.ts, firstOf_neg, firstOf_neg, firstOf_neg, firstOf_neg]

/-- 'firstOf' of two three-valued comparisons that are each an order. -/
theorem firstOf_trans {a b c a' b' c' : Int} (h0 : a = 0 → b = 0 → c = 0) (h1 : a = -1 → b = -1 → c = -1) (h2 : a = -1 → b = 0 → c = -1) (h3 : a = 0 → b = -1 → c = -1)
    (ta : tri a) (tb : tri b) (k : a' = -1 → b' = -1 → c' = -1) (x : firstOf a a' = -1) (y : firstOf b b' = -1) : firstOf c c' = -1 := by
  unfold firstOf at *
  unfold tri at *
  by_cases ha : a = 0
  · rw [if_pos ha] at x
    by_cases hb : b = 0
    · rw [if_pos hb] at y
      rw [if_pos (h0 ha hb)]; exact k x y
    · rw [if_neg hb] at y
      have := h3 ha y
      rw [if_neg (by omega)]; exact this
  · rw [if_neg ha] at x
    by_cases hb : b = 0
    · have := h2 x hb
      rw [if_neg (by omega)]; exact this
    · rw [if_neg hb] at y
      have := h1 x y
      rw [if_neg (by omega)]; exact this
theorem cB_pack (a b c : ByteArray) : (cB a b = 0 → cB b c = 0 → cB a c = 0) ∧ (cB a b = -1 → cB b c = -1 → cB a c = -1) ∧ (cB a b = -1 → cB b c = 0 → cB a c = -1) ∧ (cB a b = 0 → cB b c = -1 → cB a c = -1) := by
  refine ⟨fun h k => ?_, fun h k => cB_trans h k, fun h k => ?_, fun h k => ?_⟩
  · rw [cB_zero] at *; rw [h, k]
  · rw [cB_zero] at k; rw [← k]; exact h
  · rw [cB_zero] at h; rw [h]; exact k
theorem keyCmp_trans {a b c : Ent} (h : keyCmp a b = -1) (k : keyCmp b c = -1) : keyCmp a c = -1 := by
  obtain ⟨r0, r1, r2, r3⟩ := cB_pack a.row b.row c.row
  obtain ⟨f0, f1, f2, f3⟩ := cB_pack a.fam b.fam c.fam
  obtain ⟨q0, q1, q2, q3⟩ := cB_pack a.qual b.qual c.qual
  refine firstOf_trans r0 r1 r2 r3 (cB_vals _ _) (cB_vals _ _) (fun h k => ?_) h k
  refine firstOf_trans f0 f1 f2 f3 (cB_vals _ _) (cB_vals _ _) (fun h k => ?_) h k
  refine firstOf_trans q0 q1 q2 q3 (cB_vals _ _) (cB_vals _ _) (fun h k => ?_) h k
  refine firstOf_trans ?_ ?_ ?_ ?_ (tri_kind _ _) (tri_kind _ _) (fun h k => ?_) h k
  · unfold kindCmp; (repeat' split) <;> omega
  · unfold kindCmp; (repeat' split) <;> omega
  · unfold kindCmp; (repeat' split) <;> omega
  · unfold kindCmp; (repeat' split) <;> omega
  · unfold tsCmp at *
    (repeat' split at h) <;> (repeat' split at k) <;> (repeat' split) <;> omega
theorem keyCmp_self (a : Ent) : keyCmp a a = 0 := by
  have := keyCmp_neg a a
  omega

/-- Ordered, no key twice. -/
def Ord (l : List Ent) : Prop := l.Pairwise fun a b => keyCmp a b = -1
theorem ord_ext : ∀ {l m : List Ent}, Ord l → Ord m → (∀ x, x ∈ l ↔ x ∈ m) → l = m
  | [], [], _, _, _ => rfl
  | [], b :: m, _, _, h => by have := (h b).2 (by simp); simp at this
  | a :: l, [], _, _, h => by have := (h a).1 (by simp); simp at this
  | a :: l, b :: m, hl, hm, h => by
    have hl' := List.pairwise_cons.1 hl
    have hm' := List.pairwise_cons.1 hm
    have hab : a = b := by
      rcases List.mem_cons.1 ((h a).1 (by simp)) with e | e
      · exact e
      · rcases List.mem_cons.1 ((h b).2 (by simp)) with e' | e'
        · exact e'.symm
        · have h1 := hm'.1 a e
          have h2 := hl'.1 b e'
          have := keyCmp_neg a b
          omega
    subst hab
    congr 1
    refine ord_ext hl'.2 hm'.2 (fun x => ⟨fun hx => ?_, fun hx => ?_⟩)
    · rcases List.mem_cons.1 ((h x).1 (List.mem_cons_of_mem _ hx)) with e | e
      · subst e
        have := hl'.1 x hx
        rw [keyCmp_self] at this
        omega
      · exact e
    · rcases List.mem_cons.1 ((h x).2 (List.mem_cons_of_mem _ hx)) with e | e
      · subst e
        have := hm'.1 x hx
        rw [keyCmp_self] at this
        omega
      · exact e

theorem firstOf_zero {a b : Int} : firstOf a b = 0 ↔ a = 0 ∧ b = 0 := by
  unfold firstOf
  by_cases h : a = 0
  · simp [h]
  · simp [h]
theorem kindCmp_zero {a b : Int} : kindCmp a b = 0 ↔ (a = 2 ↔ b = 2) := by
  unfold kindCmp
  by_cases h : a = 2 <;> by_cases k : b = 2 <;> simp [h, k]
theorem tsCmp_zero {a b : Int} : tsCmp a b = 0 ↔ a = b := by
  unfold tsCmp
  (repeat' split) <;> omega
theorem keyCmp_zero {a b : Ent} : keyCmp a b = 0 ↔ a.row = b.row ∧ a.fam = b.fam ∧ a.qual = b.qual ∧ (a.kind = 2 ↔ b.kind = 2) ∧ a.ts = b.ts := by
  unfold keyCmp
  rw [firstOf_zero, firstOf_zero, firstOf_zero, firstOf_zero, cB_zero, cB_zero, cB_zero, kindCmp_zero, tsCmp_zero]
theorem kindCmp_congr {a b c : Int} (h : a = 2 ↔ b = 2) : kindCmp a c = kindCmp b c := by
  unfold kindCmp
  by_cases k : a = 2
  · rw [if_pos k, if_pos (h.1 k)]
  · rw [if_neg k, if_neg (fun x => k (h.2 x))]
theorem keyCmp_congr {a b c : Ent} (h : keyCmp a b = 0) : keyCmp a c = keyCmp b c := by
  obtain ⟨h1, h2, h3, h4, h5⟩ := keyCmp_zero.1 h
  unfold keyCmp
  rw [h1, h2, h3, h5, kindCmp_congr h4]

theorem intoG_true (e : Ent) : ∀ L : List Ent, (∀ x ∈ L, keyCmp e x = -1) → intoG e L true = L
  | [], _ => rfl
  | x :: r, h => by
    have h1 := h x (by simp)
    have h2 := keyCmp_neg e x
    have h3 : keyCmp x e = 1 := by omega
    unfold intoG
    rw [if_neg (by omega), if_neg (by omega), if_pos rfl, intoG_true e r (fun y hy => h y (List.mem_cons_of_mem _ hy))]
theorem into_spec (e : Ent) : ∀ L : List Ent, Ord L → Ord (intoG e L false) ∧ ∀ x, x ∈ intoG e L false ↔ x = e ∨ (x ∈ L ∧ keyCmp x e ≠ 0)
  | [], _ => ⟨by simp [intoG, Ord], fun x => by simp [intoG]⟩
  | x :: r, h => by
    have h' := List.pairwise_cons.1 h
    obtain ⟨ih1, ih2⟩ := into_spec e r h'.2
    rcases keyCmp_vals x e with hc | hc | hc
    · have e1 : intoG e (x :: r) false = x :: intoG e r false := by simp [intoG, hc]
      rw [e1]
      refine ⟨List.pairwise_cons.2 ⟨fun y hy => ?_, ih1⟩, fun y => ?_⟩
      · rcases (ih2 y).1 hy with rfl | ⟨hy, _⟩
        · exact hc
        · exact h'.1 y hy
      · rw [List.mem_cons, ih2, List.mem_cons]
        constructor
        · rintro (rfl | rfl | ⟨h1, h2⟩)
          · exact .inr ⟨.inl rfl, by omega⟩
          · exact .inl rfl
          · exact .inr ⟨.inr h1, h2⟩
        · rintro (rfl | ⟨rfl | h1, h2⟩)
          · exact .inr (.inl rfl)
          · exact .inl rfl
          · exact .inr (.inr ⟨h1, h2⟩)
    · have hr : ∀ y ∈ r, keyCmp e y = -1 := fun y hy => by rw [← keyCmp_congr hc]; exact h'.1 y hy
      have e1 : intoG e (x :: r) false = e :: r := by
        simp [intoG, hc, intoG_true e r hr]
      rw [e1]
      refine ⟨List.pairwise_cons.2 ⟨hr, h'.2⟩, fun y => ?_⟩
      rw [List.mem_cons, List.mem_cons]
      constructor
      · rintro (rfl | h1)
        · exact .inl rfl
        · have h2 := hr y h1
          have h3 := keyCmp_neg e y
          exact .inr ⟨.inr h1, by omega⟩
      · rintro (rfl | ⟨rfl | h1, h2⟩)
        · exact .inl rfl
        · exact absurd hc h2
        · exact .inr h1
    · have hx : keyCmp e x = -1 := by
        have := keyCmp_neg x e
        omega
      have hr : ∀ y ∈ r, keyCmp e y = -1 := fun y hy => keyCmp_trans hx (h'.1 y hy)
      have e1 : intoG e (x :: r) false = e :: x :: r := by
        simp [intoG, hc, intoG_true e r hr]
      rw [e1]
      refine ⟨List.pairwise_cons.2 ⟨fun y hy => ?_, h⟩, fun y => ?_⟩
      · rcases List.mem_cons.1 hy with rfl | hy
        · exact hx
        · exact hr y hy
      · rw [List.mem_cons]
        constructor
        · rintro (rfl | h1)
          · exact .inl rfl
          · refine .inr ⟨h1, ?_⟩
            have h3 := keyCmp_neg e y
            rcases List.mem_cons.1 h1 with rfl | h1
            · omega
            · have := hr y h1
              omega
        · rintro (rfl | ⟨h1, _⟩)
          · exact .inl rfl
          · exact .inr h1
end Go.Proofs.Ytnncedndlhfdkac

