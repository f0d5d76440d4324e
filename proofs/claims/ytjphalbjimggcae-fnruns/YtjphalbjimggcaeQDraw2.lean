/-
  The draws: rows, families, qualifiers, timestamps.
-/
import Derived.Test.YtjphalbjimggcaePkAB
namespace Go.Proofs.Ytjphalbjimggcae
open Go.ChangeShapes Go.WideShapes Go.ChangeAt Go.RowKit Go.Deep
set_option linter.unusedVariables false
set_option linter.unusedSimpArgs false
set_option maxRecDepth 100000

theorem conv_str (c : UInt8) (w : World) : ∃ cx w', (convert 9 22 (.string ⟨#[c]⟩)).run Try.prog w = .ok (.slice (some ⟨w.heap.size, 0, none⟩) 1 cx) w' ∧ Below w.heap.size w w' ∧ w'.cell? ⟨w.heap.size, 0, none⟩ = some (.int .u8 (c.toNat : Int)) := by
  refine ⟨_, _, run_bytes_of_string (P := Try.prog) w 9 22 5 ⟨#[c]⟩ Try.underlying9 Try.underlying22 Try.underlying5, ((Below.refl _ _).drew).alloc (Nat.le_refl _) _, ?_⟩
  have hb : ∀ O : Obj, (w.drew.alloc O).heap[w.heap.size]? = some O := fun O => by
    show (w.heap.push O)[w.heap.size]? = _
    simp
  unfold World.cell?
  rw [hb]
  simp [bytesRow]
  rw [Array.getElem?_append_left (by simp)]
  rfl

set_option maxHeartbeats 2000000 in
theorem many_core (c : UInt8) (m : Nat) (w : World) (hm : m ≤ 1000) :
    Calls Try.prog 88 #[.string ⟨#[c]⟩, .int .i64 m] w fun e w' => ∃ s : ByteArray, e = .returned (.string s) ∧ s.size ≤ 1000 ∧ Below w.heap.size w w' := by
  obtain ⟨W2, hW2⟩ : ∃ W2 : World, W2 = w.alloc (Obj.cells #[] 5) := ⟨_, rfl⟩
  have hb2 : Below w.heap.size w W2 := by rw [hW2]; exact (Below.refl _ _).alloc (Nat.le_refl _) _
  have HB2 : Hid (OwnB W2 w.heap.size w.heap.size 0 []) := by show OwnB W2 _ _ _ _; rw [hW2]; exact ownB_new w w.heap.size (Nat.le_refl _)
  go_enter Try.func88, Try.ntmps88
  go_wp2_with fail
  rw [← hW2]
  clear hW2
  go_loopw [5, 6] (fun o i wr => ∃ (k g cp : Nat) (zs : List UInt8), k ≤ m ∧ i = .int .i64 k ∧ o = .slice (some ⟨g, 0, none⟩) k cp ∧ zs.length = k ∧ OwnB wr w.heap.size g cp zs ∧ Below w.heap.size w wr) (fun _ i _ => m - (intOf i).toNat)
  case atStart => exact ⟨0, _, 0, [], Nat.zero_le _, rfl, rfl, rfl, HB2.out, hb2⟩
  case round =>
    obtain ⟨k, g, cp, zs, hk, rfl, rfl, hzl, hO, hb⟩ := hrel
    have HI : Hid (zs.length = k ∧ OwnB wr w.heap.size g cp zs) := ⟨hzl, hO⟩
    have hgl := World.ownsRow.lt hO g rfl
    have hs := hb.size
    clear hzl hO
    by_cases hlt : k < m
    · have zk : (k : Int) < (m : Int) := by omega
      have HKl : Hid (k = zs.length) := HI.out.1.symm
      obtain ⟨cx, W3, hrun, hb3, hc3⟩ := conv_str c wr
      have hs3 := hb3.size
      go_wp2_with (at_builtin; refine wpList_append_byte _ rfl _ _ rfl w.heap.size g cp _ wr.heap.size zs c rfl cx rfl HKl.out ?hO ?hc ?hl ?hb ?_)
      case hO => exact own_chg (S := fun _ => False) HI.out.2 (Chg.of_below hb3) (fun k _ q => q)
      case hc => exact hc3
      case hl => rw [← HKl.out]; omega
      case hb => omega
      intro g' cp' w' hO' hgr
      have HN : Hid ((zs ++ [c]).length = k + 1 ∧ OwnB w' w.heap.size g' cp' (zs ++ [c])) := ⟨by simp [HI.out.1], hO'⟩
      have hb' : Below w.heap.size w w' := (hb.trans (hb3.mono hs)).grown hgr (by omega) (fun j hj => by cases hj; omega)
      clear hO' hgr hrun
      go_wp2_with fail
      go_roundw
      case rel => exact ⟨k + 1, g', cp', zs ++ [c], by omega, by go_num, rfl, HN.out.1, HN.out.2, hb'⟩
      case measure => go_light; simp [intOf]; omega
    · have zk : ¬ (k : Int) < (m : Int) := by omega
      have hcv := conv_own HI.out.2
      rw [HI.out.1] at hcv
      have HS : Hid ((⟨zs.toArray⟩ : ByteArray).size ≤ 1000) := by
        show (⟨zs.toArray⟩ : ByteArray).size ≤ 1000
        have := HI.out.1
        simp [ByteArray.size]; omega
      go_wp2_with fail
      go_ret
      exact ⟨_, rfl, HS.out, hb⟩

set_option maxHeartbeats 1000000 in
theorem pick_core (base cb : Nat) (bv : Value) (n blk nw : Nat) (w : World) (h : DrawAt base cb bv n w) (h1 : 1 ≤ nw) (h2 : nw ≤ 100) (hne : ¬ blk = cb) (hlt : blk < w.heap.size) (hw : ∀ k, k < nw → ∃ s : ByteArray, w.cell? ⟨blk, k, none⟩ = some (.string s) ∧ s.size ≤ 1000) :
    Calls Try.prog 127 #[.pointer (some ⟨cb, 0, none⟩), .slice (some ⟨blk, 0, none⟩) nw nw] w fun e w' => ∃ s : ByteArray, e = .returned (.string s) ∧ s.size ≤ 1000 ∧ Drew base cb bv n w w' := by
  have HD : Hid (DrawAt base cb bv n w ∧ ∀ k, k < nw → ∃ s : ByteArray, w.cell? ⟨blk, k, none⟩ = some (.string s) ∧ s.size ≤ 1000) := ⟨h, hw⟩
  clear h hw
  go_enter Try.func127, Try.ntmps127
  go_wp2_with fail
  refine (below_core base cb bv n (nw : Int) _ HD.out.1 (by omega) (by omega)).mono ?_
  rintro e w1 ⟨x, rfl, hx0, hx1, hD1, hC1⟩
  obtain ⟨k, rfl⟩ := Int.eq_ofNat_of_zero_le hx0
  obtain ⟨s, hs, hsz⟩ := HD.out.2 k (by omega)
  have c1 : w1.cell? ⟨blk, k, none⟩ = some (.string s) := by rw [hC1.cell (p := ⟨blk, k, none⟩) hlt hne]; exact hs
  have H1 : Hid (DrawAt base cb bv n w1 ∧ Chg (fun k => k = cb) w w1) := ⟨hD1, hC1⟩
  clear hD1 hC1 hs
  go_wp2_with fail
  go_ret
  exact ⟨s, rfl, hsz, H1.out.1, H1.out.2⟩

set_option maxHeartbeats 2000000 in
theorem row_core (base cb : Nat) (bv : Value) (n : Nat) (w : World) (h : DrawAt base cb bv n w) :
    Calls Try.prog 110 #[.pointer (some ⟨cb, 0, none⟩)] w fun e w' => ∃ s : ByteArray, e = .returned (.string s) ∧ s.size ≤ 1000 ∧ Drew base cb bv n w w' := by
  have HD : Hid (DrawAt base cb bv n w) := h
  clear h
  go_enter Try.func110, Try.ntmps110
  go_wp2_with fail
  refine (once_core base cb bv n 40 _ HD.out (by omega) (by omega)).mono ?_
  rintro e w1 ⟨v, rfl, hv, hD1, hC1⟩
  have H1 : Hid (DrawAt base cb bv n w1 ∧ Chg (fun k => k = cb) w w1) := ⟨hD1, hC1⟩
  clear hD1 hC1
  rcases hv with rfl | rfl
  · go_wp2_with fail
    refine (many_core 97 64 _ (by omega)).mono ?_
    rintro e w2 ⟨s, rfl, hs, hb2⟩
    have H2 : Hid (DrawAt base cb bv n w2 ∧ Chg (fun k => k = cb) w w2) := ⟨H1.out.1.below hb2, H1.out.2.trans (Chg.of_below hb2)⟩
    go_wp2_with fail
    go_ret
    exact ⟨s, rfl, hs, H2.out.1, H2.out.2⟩
  · go_wp2_with fail
    refine (once_core base cb bv n 25 _ H1.out.1 (by omega) (by omega)).mono ?_
    rintro e w2 ⟨v, rfl, hv, hD2, hC2⟩
    have H2 : Hid (DrawAt base cb bv n w2 ∧ Chg (fun k => k = cb) w w2) := ⟨hD2, H1.out.2.trans hC2⟩
    clear hD2 hC2
    have hcl := H2.out.1.lt.2
    rcases hv with rfl | rfl
    · go_wp2_with fail
      refine (pick_core base cb bv n _ 6 _ (H2.out.1.below ((Below.refl _ _).alloc (Nat.le_refl _) _)) (by omega) (by omega) (by omega) (by simp) ?_).mono ?_
      · intro k hk
        match k, hk with
        | 0, _ => exact ⟨_, by simp; rfl, by decide⟩
        | 1, _ => exact ⟨_, by simp; rfl, by decide⟩
        | 2, _ => exact ⟨_, by simp; rfl, by decide⟩
        | 3, _ => exact ⟨_, by simp; rfl, by decide⟩
        | 4, _ => exact ⟨_, by simp; rfl, by decide⟩
        | 5, _ => exact ⟨_, by simp; rfl, by decide⟩
      · rintro e w3 ⟨s, rfl, hs, hD3, hC3⟩
        have H3 : Hid (DrawAt base cb bv n w3 ∧ Chg (fun k => k = cb) w w3) := ⟨hD3, (H2.out.2.alloc_new _).trans hC3⟩
        clear hD3 hC3
        go_wp2_with fail
        go_ret
        exact ⟨s, rfl, hs, H3.out.1, H3.out.2⟩
    · go_wp2_with fail
      refine (letters_core base cb bv n 1 2 _ H2.out.1 (by omega) (by omega) (by omega)).mono ?_
      rintro e w3 ⟨s, rfl, hs, hD3, hC3⟩
      have H3 : Hid (DrawAt base cb bv n w3 ∧ Chg (fun k => k = cb) w w3) := ⟨hD3, H2.out.2.trans hC3⟩
      clear hD3 hC3
      go_wp2_with fail
      go_ret
      exact ⟨s, rfl, by omega, H3.out.1, H3.out.2⟩

set_option maxHeartbeats 2000000 in
theorem fam_core (base cb : Nat) (bv : Value) (n : Nat) (w : World) (h : DrawAt base cb bv n w) :
    Calls Try.prog 111 #[.pointer (some ⟨cb, 0, none⟩)] w fun e w' => ∃ s : ByteArray, e = .returned (.string s) ∧ s.size ≤ 1000 ∧ Drew base cb bv n w w' := by
  have HD : Hid (DrawAt base cb bv n w) := h
  clear h
  go_enter Try.func111, Try.ntmps111
  go_wp2_with fail
  refine (once_core base cb bv n 3 _ HD.out (by omega) (by omega)).mono ?_
  rintro e w1 ⟨v, rfl, hv, hD1, hC1⟩
  have H1 : Hid (DrawAt base cb bv n w1 ∧ Chg (fun k => k = cb) w w1) := ⟨hD1, hC1⟩
  clear hD1 hC1
  have hcl := H1.out.1.lt.2
  rcases hv with rfl | rfl
  · go_wp2_with fail
    go_ret
    exact ⟨_, rfl, by decide, H1.out.1, H1.out.2⟩
  · go_wp2_with fail
    refine (pick_core base cb bv n _ 6 _ (H1.out.1.below ((Below.refl _ _).alloc (Nat.le_refl _) _)) (by omega) (by omega) (by omega) (by simp) ?_).mono ?_
    · intro k hk
      match k, hk with
      | 0, _ => exact ⟨_, by simp; rfl, by decide⟩
      | 1, _ => exact ⟨_, by simp; rfl, by decide⟩
      | 2, _ => exact ⟨_, by simp; rfl, by decide⟩
      | 3, _ => exact ⟨_, by simp; rfl, by decide⟩
      | 4, _ => exact ⟨_, by simp; rfl, by decide⟩
      | 5, _ => exact ⟨_, by simp; rfl, by decide⟩
    · rintro e w3 ⟨s, rfl, hs, hD3, hC3⟩
      have H3 : Hid (DrawAt base cb bv n w3 ∧ Chg (fun k => k = cb) w w3) := ⟨hD3, (H1.out.2.alloc_new _).trans hC3⟩
      clear hD3 hC3
      go_wp2_with fail
      go_ret
      exact ⟨s, rfl, hs, H3.out.1, H3.out.2⟩
set_option maxHeartbeats 2000000 in
theorem qual_core (base cb : Nat) (bv : Value) (n : Nat) (w : World) (h : DrawAt base cb bv n w) :
    Calls Try.prog 112 #[.pointer (some ⟨cb, 0, none⟩)] w fun e w' => ∃ s : ByteArray, e = .returned (.string s) ∧ s.size ≤ 1000 ∧ Drew base cb bv n w w' := by
  have HD : Hid (DrawAt base cb bv n w) := h
  clear h
  go_enter Try.func112, Try.ntmps112
  go_wp2_with fail
  refine (once_core base cb bv n 12 _ HD.out (by omega) (by omega)).mono ?_
  rintro e w1 ⟨v, rfl, hv, hD1, hC1⟩
  have H1 : Hid (DrawAt base cb bv n w1 ∧ Chg (fun k => k = cb) w w1) := ⟨hD1, hC1⟩
  clear hD1 hC1
  have hcl := H1.out.1.lt.2
  rcases hv with rfl | rfl
  · go_wp2_with fail
    refine (pick_core base cb bv n _ 4 _ (H1.out.1.below ((Below.refl _ _).alloc (Nat.le_refl _) _)) (by omega) (by omega) (by omega) (by simp) ?_).mono ?_
    · intro k hk
      match k, hk with
      | 0, _ => exact ⟨_, by simp; rfl, by decide⟩
      | 1, _ => exact ⟨_, by simp; rfl, by decide⟩
      | 2, _ => exact ⟨_, by simp; rfl, by decide⟩
      | 3, _ => exact ⟨_, by simp; rfl, by decide⟩
    · rintro e w3 ⟨s, rfl, hs, hD3, hC3⟩
      have H3 : Hid (DrawAt base cb bv n w3 ∧ Chg (fun k => k = cb) w w3) := ⟨hD3, (H1.out.2.alloc_new _).trans hC3⟩
      clear hD3 hC3
      go_wp2_with fail
      go_ret
      exact ⟨s, rfl, hs, H3.out.1, H3.out.2⟩
  · go_wp2_with fail
    refine (letters_core base cb bv n 1 2 _ H1.out.1 (by omega) (by omega) (by omega)).mono ?_
    rintro e w3 ⟨s, rfl, hs, hD3, hC3⟩
    have H3 : Hid (DrawAt base cb bv n w3 ∧ Chg (fun k => k = cb) w w3) := ⟨hD3, H1.out.2.trans hC3⟩
    clear hD3 hC3
    go_wp2_with fail
    go_ret
    exact ⟨s, rfl, by omega, H3.out.1, H3.out.2⟩
set_option maxHeartbeats 1000000 in
theorem ts_core (base cb : Nat) (bv : Value) (n : Nat) (w : World) (h : DrawAt base cb bv n w) :
    Calls Try.prog 113 #[.pointer (some ⟨cb, 0, none⟩)] w fun e w' => ∃ t : Int, e = .returned (.int .u64 t) ∧ (0 ≤ t ∧ t ≤ 18446744073709551615) ∧ Drew base cb bv n w w' := by
  have HD : Hid (DrawAt base cb bv n w) := h
  clear h
  go_enter Try.func113, Try.ntmps113
  go_wp2_with fail
  refine (once_core base cb bv n 30 _ HD.out (by omega) (by omega)).mono ?_
  rintro e w1 ⟨v, rfl, hv, hD1, hC1⟩
  have H1 : Hid (DrawAt base cb bv n w1 ∧ Chg (fun k => k = cb) w w1) := ⟨hD1, hC1⟩
  clear hD1 hC1
  rcases hv with rfl | rfl
  · go_wp2_with fail
    go_ret
    exact ⟨_, rfl, ⟨by omega, by omega⟩, H1.out.1, H1.out.2⟩
  · go_wp2_with fail
    refine (below_core base cb bv n 6 _ H1.out.1 (by omega) (by omega)).mono ?_
    rintro e w2 ⟨x, rfl, hx0, hx1, hD2, hC2⟩
    have H2 : Hid (DrawAt base cb bv n w2 ∧ Chg (fun k => k = cb) w w2) := ⟨hD2, H1.out.2.trans hC2⟩
    clear hD2 hC2
    go_wp2_with fail
    go_ret
    exact ⟨x, rfl, ⟨by omega, by omega⟩, H2.out.1, H2.out.2⟩
end Go.Proofs.Ytjphalbjimggcae
