/-
  impl.ValidCells, spec.ValidCells.
-/
import Derived.Test.YtodaanmbbgdclabPuts
import Derived.Test.YtodaanmbbgdclabVRun3
import Derived.Test.YtodaanmbbgdclabSub
namespace Go.Proofs.Ytodaanmbbgdclab
open Go.ChangeShapes Go.WideShapes Go.ChangeAt Go.RowKit Go.Deep
set_option linter.unusedVariables false
set_option linter.unusedSimpArgs false
set_option maxRecDepth 100000

theorem putE_ok {e : Ent} (h : e.ok) : (putE e).ok := ⟨h.row, h.fam, h.qual, h.val, h.ts, (show (Lit.int .i64 0).wf = true by decide)⟩
theorem okPair_put (a b : Ent) : okPair (putE a) (putE b) = (keyCmp (putE a) (putE b) == -1) := by
  unfold okPair putE; simp
set_option maxHeartbeats 2000000 in
theorem cellCompare_any (a b : Ent) (w : World) :
    Calls Try.prog 34 #[a.c, b.c] w fun e w' => e = .returned (.int .i64 (keyCmp (putE a) (putE b))) ∧ Below w.heap.size w w' := by
  unfold Ent.c
  obtain ⟨W0, hW0⟩ : ∃ W0 : World, W0 = (w.alloc (Obj.cells #[.string a.row, .string a.fam, .string a.qual, .int .u64 a.ts, .string a.val] 58)).alloc (Obj.cells #[.string b.row, .string b.fam, .string b.qual, .int .u64 b.ts, .string b.val] 58) := ⟨_, rfl⟩
  have hb0 : Below w.heap.size w W0 := by rw [hW0]; exact ((Below.refl _ _).alloc (Nat.le_refl _) _).alloc (by simp) _
  have hz0 : W0.heap.size = w.heap.size + 2 := by rw [hW0]; simp
  have HA : Hid (CelsAt W0 w.heap.size 0 [a] ∧ CelsAt W0 (w.heap.size + 1) 0 [b]) := by
    rw [hW0]
    refine ⟨(cel_new w a).below ((Below.refl _ _).alloc (Nat.le_refl _) _) (by simp), ?_⟩
    have := cel_new (w.alloc (Obj.cells #[.string a.row, .string a.fam, .string a.qual, .int .u64 a.ts, .string a.val] 58)) b
    simpa using this
  have q : ∀ n : Out W0, CelsAt n.u w.heap.size 0 [a] ∧ CelsAt n.u (w.heap.size + 1) 0 [b] := fun n => ⟨HA.out.1.below n.out (by omega), HA.out.2.below n.out (by omega)⟩
  have a0 : ∀ n : Out W0, n.u.cell? ⟨w.heap.size, 0, none⟩ = some (.string a.row) := fun n => by simpa using ((q n).1 0 a rfl).1
  have a1 : ∀ n : Out W0, n.u.cell? ⟨w.heap.size, 1, none⟩ = some (.string a.fam) := fun n => by simpa using ((q n).1 0 a rfl).2.1
  have a2 : ∀ n : Out W0, n.u.cell? ⟨w.heap.size, 2, none⟩ = some (.string a.qual) := fun n => by simpa using ((q n).1 0 a rfl).2.2.1
  have a3 : ∀ n : Out W0, n.u.cell? ⟨w.heap.size, 3, none⟩ = some (.int .u64 a.ts) := fun n => by simpa using ((q n).1 0 a rfl).2.2.2.1
  have a4 : ∀ n : Out W0, n.u.cell? ⟨w.heap.size, 4, none⟩ = some (.string a.val) := fun n => by simpa using ((q n).1 0 a rfl).2.2.2.2
  have b0 : ∀ n : Out W0, n.u.cell? ⟨w.heap.size + 1, 0, none⟩ = some (.string b.row) := fun n => by simpa using ((q n).2 0 b rfl).1
  have b1 : ∀ n : Out W0, n.u.cell? ⟨w.heap.size + 1, 1, none⟩ = some (.string b.fam) := fun n => by simpa using ((q n).2 0 b rfl).2.1
  have b2 : ∀ n : Out W0, n.u.cell? ⟨w.heap.size + 1, 2, none⟩ = some (.string b.qual) := fun n => by simpa using ((q n).2 0 b rfl).2.2.1
  have b3 : ∀ n : Out W0, n.u.cell? ⟨w.heap.size + 1, 3, none⟩ = some (.int .u64 b.ts) := fun n => by simpa using ((q n).2 0 b rfl).2.2.2.1
  have b4 : ∀ n : Out W0, n.u.cell? ⟨w.heap.size + 1, 4, none⟩ = some (.string b.val) := fun n => by simpa using ((q n).2 0 b rfl).2.2.2.2
  clear q HA
  go_enter Try.func34, Try.ntmps34
  go_upto_region 1 with fail
  rw [← hW0]
  clear hW0 hz0
  have inh : Nonempty (Out W0) := ⟨⟨W0, Below.refl _ _⟩⟩
  refine wp_region_out (by kernel_rfl) (by kernel_rfl) ?_
  repeat (go_big_quiet_step ((first | (go_at_call 33; exact Calls.out_of (implPut_any _ _)) | (go_at_call 44; exact Calls.out_of (compare_any (putE a) (putE b) _)))))
  refine wpQuiet_nil ?_
  rintro w1 ⟨⟨wx, hb1⟩, rfl⟩
  go_wp2_with fail
  go_ret
  exact ⟨rfl, hb0.trans (hb1.mono hb0.size)⟩

/-- Whether it holds is told. -/
def ValPost (P : Prop) (w : World) (e : Ending) (w' : World) : Prop := ∃ r : Bool, e = .returned (.bool r) ∧ (r = true ↔ P) ∧ Below w.heap.size w w'
theorem pairsTo_one (es : List Ent) : PairsTo es 1 := fun i p e hi => by omega
theorem goodPut_pair {L : List Ent} {i : Nat} {p c : Ent} (h : GoodR (L.map putE)) (hp : L[i]? = some p) (hc : L[i + 1]? = some c) : keyCmp (putE p) (putE c) = -1 := by
  have h1 := h.2 i (putE p) (putE c) (by rw [List.getElem?_map, hp]; rfl) (by rw [List.getElem?_map, hc]; rfl)
  rw [okPair_put] at h1
  simpa using h1
set_option maxHeartbeats 8000000 in
theorem implCells_core (g cap : Nat) (L : List Ent) (base : Nat) (w : World) (hC : OwnC w base g cap L) (hok : ∀ e ∈ L, e.ok) (hn : L.length ≤ 1048576) :
    Calls Try.prog 14 #[.slice (some ⟨g, 0, none⟩) L.length cap] w (ValPost (GoodR (L.map putE)) w) := by
  have HC : Hid (OwnC w base g cap L ∧ ∀ e ∈ L, e.ok) := ⟨hC, hok⟩
  have hgl := hC.lt.2
  clear hC hok
  by_cases hbig : 10000 < L.length
  · have H : Hid (¬ GoodR (L.map putE)) := fun h => by have := h.1.1; rw [List.length_map] at this; omega
    have z : (10000 : Int) < (L.length : Int) := by omega
    go_enter Try.func14, Try.ntmps14
    go_wp2_with fail
    go_ret
    exact ⟨_, rfl, iffF H.out, Below.refl _ _⟩
  have z : ¬ (10000 : Int) < (L.length : Int) := by omega
  go_enter Try.func14, Try.ntmps14
  go_wp2_with fail
  go_loopw [10] (fun iv wr => ∃ (k : Nat), k ≤ L.length ∧ iv = .int .i64 (k : Int) ∧ (∀ x ∈ L.take k, (putE x).vld = true) ∧ PairsTo (L.map putE) k ∧ Below w.heap.size w wr) (fun iv _ => L.length - (intOf iv).toNat)
  case atStart => exact ⟨0, Nat.zero_le _, rfl, by simp, fun i p e hi => by omega, Below.refl _ _⟩
  case round =>
    obtain ⟨k, hk, rfl, hv, hP, hb⟩ := hrel
    have HV : Hid ((∀ x ∈ L.take k, (putE x).vld = true) ∧ PairsTo (L.map putE) k) := ⟨hv, hP⟩
    have hs := hb.size
    clear hv hP
    by_cases hlt : k < L.length
    · obtain ⟨c, hc⟩ : ∃ c, L[k]? = some c := ⟨_, List.getElem?_eq_getElem hlt⟩
      have HCc : Hid (L[k]? = some c ∧ c.ok) := ⟨hc, HC.out.2 c (List.mem_of_getElem? hc)⟩
      have HR : Hid (CelsAt wr g 0 L) := HC.out.1.at.below hb hgl
      obtain ⟨c0, c1, c2, c3, c4⟩ := HR.out k c hc
      simp only [Nat.zero_add] at c0 c1 c2 c3 c4
      have zk : (k : Int) < (L.length : Int) := by omega
      obtain ⟨W1, hW1⟩ : ∃ W1 : World, W1 = wr.alloc (Obj.cells #[.string c.row, .string c.fam, .string c.qual, .int .u64 c.ts, .string c.val] 58) := ⟨_, rfl⟩
      have HW1 : Hid (CelsAt W1 wr.heap.size 0 [c] ∧ CelsAt W1 g 0 L ∧ Below w.heap.size w W1 ∧ W1.heap.size = wr.heap.size + 1) := by
        have hba : Below wr.heap.size wr W1 := by rw [hW1]; exact (Below.refl _ _).alloc (Nat.le_refl _) _
        refine ⟨by rw [hW1]; exact cel_new wr c, HR.out.below hba (by omega), hb.trans (hba.mono hs), by rw [hW1]; simp⟩
      clear hc
      go_upto_region 6 with fail
      rw [← hW1]
      clear hW1 c0 c1 c2 c3 c4 HR
      have hz1 := HW1.out.2.2.2
      have q : ∀ n : Out W1, CelsAt n.u wr.heap.size 0 [c] := fun n => HW1.out.1.below n.out (by omega)
      have a0 : ∀ n : Out W1, n.u.cell? ⟨wr.heap.size, 0, none⟩ = some (.string c.row) := fun n => by simpa using ((q n) 0 c rfl).1
      have a1 : ∀ n : Out W1, n.u.cell? ⟨wr.heap.size, 1, none⟩ = some (.string c.fam) := fun n => by simpa using ((q n) 0 c rfl).2.1
      have a2 : ∀ n : Out W1, n.u.cell? ⟨wr.heap.size, 2, none⟩ = some (.string c.qual) := fun n => by simpa using ((q n) 0 c rfl).2.2.1
      have a3 : ∀ n : Out W1, n.u.cell? ⟨wr.heap.size, 3, none⟩ = some (.int .u64 c.ts) := fun n => by simpa using ((q n) 0 c rfl).2.2.2.1
      have a4 : ∀ n : Out W1, n.u.cell? ⟨wr.heap.size, 4, none⟩ = some (.string c.val) := fun n => by simpa using ((q n) 0 c rfl).2.2.2.2
      clear q hz1
      have inh : Nonempty (Out W1) := ⟨⟨W1, Below.refl _ _⟩⟩
      obtain ⟨bv, hbv⟩ : ∃ bv, bv = (putE c).vld := ⟨_, rfl⟩
      have HVal : Hid (∀ n : Out W1, Calls Try.prog 32 #[(putE c).v] n.u fun e w' => e = .returned (.bool bv) ∧ Below n.u.heap.size n.u w') := fun n => by
        rw [hbv]
        exact implValid_core _ _ _ _ _ _ n.u HCc.out.2.row HCc.out.2.fam HCc.out.2.qual HCc.out.2.val
      have HBv : Hid ((putE c).vld = bv) := hbv.symm
      clear hbv
      cases bv
      · have HF : Hid (¬ GoodR (L.map putE)) := fun h => by
          have := h.1.2 (putE c) (List.mem_map.2 ⟨c, List.mem_of_getElem? HCc.out.1, rfl⟩)
          rw [HBv.out] at this; cases this
        refine wp_region_out (by kernel_rfl) (by kernel_rfl) ?_
        repeat (go_big_quiet_step ((first | (go_at_call 33; exact Calls.out_of (implPut_any _ _)) | (go_at_call 32; exact Calls.out_of (HVal.out _)))))
        refine wpQuiet_nil ?_
        rintro w2 ⟨⟨wx, hb2⟩, rfl⟩
        go_wp2_with fail
        go_ret
        exact ⟨_, rfl, iffF HF.out, HW1.out.2.2.1.trans (hb2.mono HW1.out.2.2.1.size)⟩
      have HVN : Hid (∀ x ∈ L.take (k + 1), (putE x).vld = true) := by
        intro x hx
        rw [List.take_add_one, HCc.out.1] at hx
        rcases List.mem_append.1 hx with hx | hx
        · exact HV.out.1 x hx
        · simp at hx; subst hx; exact HBv.out
      by_cases hk0 : k = 0
      · subst hk0
        refine wp_region_out (by kernel_rfl) (by kernel_rfl) ?_
        repeat (go_big_quiet_step ((first | (go_at_call 33; exact Calls.out_of (implPut_any _ _)) | (go_at_call 32; exact Calls.out_of (HVal.out _)))))
        refine wpQuiet_nil ?_
        rintro w2 ⟨⟨wx, hb2⟩, rfl⟩
        go_wp2_with fail
        go_roundw
        case rel => exact ⟨1, by omega, by go_num, HVN.out, pairsTo_one _, HW1.out.2.2.1.trans (hb2.mono HW1.out.2.2.1.size)⟩
        case measure => simp [intOf]; omega
      obtain ⟨m, rfl⟩ : ∃ m, k = m + 1 := ⟨k - 1, by omega⟩
      obtain ⟨p, hp⟩ : ∃ p, L[m]? = some p := ⟨_, List.getElem?_eq_getElem (by omega)⟩
      have HPp : Hid (L[m]? = some p) := hp
      have q : ∀ n : Out W1, CelsAt n.u g 0 L := fun n => HW1.out.2.1.below n.out (by have := HW1.out.2.2.2; omega)
      have p0 : ∀ n : Out W1, n.u.cell? ⟨g, m * 5, none⟩ = some (.string p.row) := fun n => by simpa using ((q n) m p hp).1
      have p1 : ∀ n : Out W1, n.u.cell? ⟨g, m * 5 + 1, none⟩ = some (.string p.fam) := fun n => by simpa using ((q n) m p hp).2.1
      have p2 : ∀ n : Out W1, n.u.cell? ⟨g, m * 5 + 2, none⟩ = some (.string p.qual) := fun n => by simpa using ((q n) m p hp).2.2.1
      have p3 : ∀ n : Out W1, n.u.cell? ⟨g, m * 5 + 3, none⟩ = some (.int .u64 p.ts) := fun n => by simpa using ((q n) m p hp).2.2.2.1
      have p4 : ∀ n : Out W1, n.u.cell? ⟨g, m * 5 + 4, none⟩ = some (.string p.val) := fun n => by simpa using ((q n) m p hp).2.2.2.2
      clear q hp
      obtain ⟨kc, hkc⟩ : ∃ kc, kc = keyCmp (putE p) (putE c) := ⟨_, rfl⟩
      have HCm : Hid (∀ n : Out W1, Calls Try.prog 34 #[p.c, c.c] n.u fun e w' => e = .returned (.int .i64 kc) ∧ Below n.u.heap.size n.u w') := fun n => by
        rw [hkc]; exact cellCompare_any p c n.u
      have HKc : Hid (kc = keyCmp (putE p) (putE c)) := hkc
      have zm : (m : Int) < (L.length : Int) := by omega
      have zm0 : (0 : Int) < (m : Int) + 1 := by omega
      clear hkc
      by_cases hneg : 0 ≤ kc
      · have HF : Hid (¬ GoodR (L.map putE)) := fun h => by
          have := goodPut_pair h HPp.out HCc.out.1
          rw [← HKc.out] at this; omega
        refine wp_region_out (by kernel_rfl) (by kernel_rfl) ?_
        repeat (go_big_quiet_step ((first | (go_at_call 33; exact Calls.out_of (implPut_any _ _)) | (go_at_call 32; exact Calls.out_of (HVal.out _)) | (go_at_call 34; exact Calls.out_of (HCm.out _)))))
        refine wpQuiet_nil ?_
        rintro w2 ⟨⟨wx, hb2⟩, rfl⟩
        go_wp2_with fail
        go_ret
        exact ⟨_, rfl, iffF HF.out, HW1.out.2.2.1.trans (hb2.mono HW1.out.2.2.1.size)⟩
      · have HPN : Hid (PairsTo (L.map putE) (m + 1 + 1)) := by
          refine pairsTo_succ HV.out.2 (p := putE p) (e := putE c) (by rw [List.getElem?_map, HPp.out]; rfl) (by rw [List.getElem?_map, HCc.out.1]; rfl) ?_
          rw [okPair_put]
          rcases keyCmp_vals (putE p) (putE c) with h | h | h
          · rw [h]; rfl
          · rw [HKc.out, h] at hneg; omega
          · rw [HKc.out, h] at hneg; omega
        refine wp_region_out (by kernel_rfl) (by kernel_rfl) ?_
        repeat (go_big_quiet_step ((first | (go_at_call 33; exact Calls.out_of (implPut_any _ _)) | (go_at_call 32; exact Calls.out_of (HVal.out _)) | (go_at_call 34; exact Calls.out_of (HCm.out _)))))
        refine wpQuiet_nil ?_
        rintro w2 ⟨⟨wx, hb2⟩, rfl⟩
        go_wp2_with fail
        go_roundw
        case rel => exact ⟨m + 1 + 1, by omega, by go_num, HVN.out, HPN.out, HW1.out.2.2.1.trans (hb2.mono HW1.out.2.2.1.size)⟩
        case measure => simp [intOf]; omega
    · have hkl : k = L.length := by omega
      have HF : Hid (GoodR (L.map putE)) := by
        refine ⟨⟨by rw [List.length_map]; omega, fun e he => ?_⟩, pairs_of_to HV.out.2 (by rw [List.length_map]; omega)⟩
        obtain ⟨x, hx, rfl⟩ := List.mem_map.1 he
        exact HV.out.1 x (by rw [List.take_of_length_le (by omega)]; exact hx)
      have zk : ¬ (k : Int) < (L.length : Int) := by omega
      clear hkl
      go_wp2_with fail
      go_ret
      exact ⟨_, rfl, iffT HF.out, hb⟩

set_option maxHeartbeats 1000000 in
theorem specCells_core (g cap : Nat) (L : List Ent) (base : Nat) (w : World) (hC : OwnC w base g cap L) (hok : ∀ e ∈ L, e.ok) (hn : L.length ≤ 1048576) :
    Calls Try.prog 12 #[.slice (some ⟨g, 0, none⟩) L.length cap] w (ValPost (GoodR (L.map putE)) w) := by
  have HC : Hid (OwnC w base g cap L ∧ ∀ e ∈ L, e.ok) := ⟨hC, hok⟩
  clear hC hok
  go_enter Try.func12, Try.ntmps12
  go_wp2_with fail
  refine (puts_core g cap L base w HC.out.1 hn).mono ?_
  rintro e w1 ⟨g1, cp1, rfl, hO1, hb1⟩
  have HO : Hid (OwnE w1 w.heap.size g1 cp1 (L.map putE) ∧ cp1 ≤ maxLen ∧ L.length ≤ cp1) := by
    refine ⟨hO1, ?_⟩
    rcases hO1.2 with ⟨h0, _⟩ | ⟨g', cap', cur, hv, _, _, hn, hcap, _, _⟩
    · cases h0
    · simp only [Value.slice.injEq, Option.some.injEq, Addr.mk.injEq, and_true, true_and] at hv
      obtain ⟨rfl, rfl⟩ := hv
      rw [List.length_map] at hn
      exact ⟨hcap, hn⟩
  have hl : L.length = (L.map putE).length := (List.length_map ..).symm
  have HV : Hid (Calls Try.prog 7 #[.agg #[.slice (some ⟨g1, 0, none⟩) L.length cp1]] w1 fun e w' => ∃ r : Bool, e = .returned (.bool r) ∧ (r = true ↔ GoodR (L.map putE)) ∧ Below w1.heap.size w1 w') := by
    show Calls _ _ _ _ _
    have := specValidRun_core g1 0 cp1 (L.map putE) w1 HO.out.1.at (fun e he => by obtain ⟨x, hx, rfl⟩ := List.mem_map.1 he; exact putE_ok (HC.out.2 x hx)) HO.out.1.lt.2 (by rw [List.length_map]; exact HO.out.2.2) HO.out.2.1
    rw [List.length_map] at this
    exact this
  clear hO1 hl
  go_wp2_with fail
  refine HV.out.mono ?_
  rintro e w2 ⟨r, rfl, hr, hb2⟩
  have HR : Hid (r = true ↔ GoodR (L.map putE)) := hr
  clear hr
  go_wp2_with fail
  go_ret
  exact ⟨r, rfl, HR.out, hb1.trans (hb2.mono hb1.size)⟩
end Go.Proofs.Ytodaanmbbgdclab
