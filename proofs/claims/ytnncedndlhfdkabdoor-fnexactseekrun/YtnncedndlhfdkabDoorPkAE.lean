import Derived.Deep.RegionWith
import Derived.Test.YtnncedndlhfdkabDoorPkAD
import Derived.Test.YtnncedndlhfdkabDoorPkAC
import Derived.Test.YtnncedndlhfdkabDoorPkAB
/-
  spec.l2Entries: the walk.
-/
namespace Go.Proofs.YtnncedndlhfdkabDoor
open Go.ChangeShapes Go.WideShapes Go.ChangeAt Go.RowKit Go.Deep
set_option linter.unusedVariables false
set_option linter.unusedSimpArgs false
set_option maxRecDepth 100000

abbrev Blk.v (k : Blk) : Value := .agg #[.int .i64 (k.fr : Int), .int .i64 (k.til : Int), .int .i64 (k.count : Int), .string k.row]
/-- What l2Entries hands back. -/
def EntPost (w : World) (xs : List UInt8) (k : Blk) (r : Ending) (w' : World) : Prop :=
  ∃ (g cp : Nat) (err : Int) (l : List Ent), r = .returned (.tuple #[.int .i64 err, .slice (some ⟨g, 0, none⟩) l.length cp]) ∧ (err, l) = blkM xs k ∧ OwnE w' w.heap.size g cp l ∧ (∀ e ∈ l, e.ok) ∧ Below w.heap.size w w'

/-- The reader's box and the row of entries. -/
structure JS (w0 : World) (R : Nat) (vs : List Value) (g cp : Nat) (l : List Ent) (wr : World) : Prop where
  box : BoxAt wr w0.heap.size 59 3 R vs
  row : OwnE wr w0.heap.size g cp l
  ne : ¬ R = g
  below : Below w0.heap.size w0 wr
theorem JS.call {w0 : World} {R : Nat} {vs : List Value} {g cp : Nat} {l : List Ent} {wr w1 : World} (h : JS w0 R vs g cp l wr) (hb : Below wr.heap.size wr w1) : JS w0 R vs g cp l w1 :=
  ⟨h.box.below hb, h.row.below hb h.row.lt.2, h.ne, h.below.trans (hb.mono h.below.size)⟩
theorem OwnE.chg' {S : Nat → Prop} {w w' : World} {base g cp : Nat} {l : List Ent} (h : OwnE w base g cp l) (hc : Chg S w w') (hn : ¬ S g) : OwnE w' base g cp l := own_chg h hc (fun k q => by simp [Value.ownBlock] at q; subst q; exact hn)
theorem JS.set3 {w0 : World} {R : Nat} {vs : List Value} {g cp : Nat} {l : List Ent} {wr : World} (h : JS w0 R vs g cp l wr) (x y z : Value) : JS w0 R [x, y, z] g cp l (set3 wr R x y z) := by
  have hc : Chg (fun k => k = R) wr (Go.Proofs.YtnncedndlhfdkabDoor.set3 wr R x y z) := ((Chg.of_set wr R 0 x (S := fun q => q = R) rfl).trans (Chg.of_set _ R 1 y (S := fun q => q = R) rfl)).trans (Chg.of_set _ R 2 z (S := fun q => q = R) rfl)
  exact ⟨h.box.set3 x y z, h.row.chg' hc (fun q => h.ne q.symm), h.ne, below_set3 h.below h.box.lt.1 x y z⟩
/-- .. beside a variable of the round's. -/
theorem JS.beside {w0 : World} {R : Nat} {vs : List Value} {g cp : Nat} {l : List Ent} {wr : World} (h : JS w0 R vs g cp l wr) {E : Nat} (h1 : ¬ R = E) (h2 : ¬ g = E) (h3 : w0.heap.size ≤ E) (j : Nat) (u : Value) : JS w0 R vs g cp l (wr.setCell ⟨E, j, none⟩ u) :=
  ⟨h.box.beside h1 j u, h.row.chg' (Chg.of_set wr E j u (S := fun q => q = E) rfl) h2, h.ne, below_set h.below h3 j u⟩
theorem JS.app {w0 : World} {R : Nat} {vs : List Value} {g cp g' cp' : Nat} {l l' : List Ent} {wr w1 : World} (h : JS w0 R vs g cp l wr) (hO : OwnE w1 w0.heap.size g' cp' l') (hgr : wr.grownBy w1 (some g)) (hat : g' = g ∨ g' = wr.heap.size) : JS w0 R vs g' cp' l' w1 := by
  have hi := h.box.lt
  have hn := h.ne
  exact ⟨h.box.chg (Chg.of_grown hgr (S := fun k => k = g) (fun k hk => by cases hk; rfl)) hn, hO, by omega, h.below.grown hgr h.below.size (fun k hk => by cases hk; exact h.row.lt.1)⟩

theorem wpList_append_entA {ops : Array Oper} {rest : List Oper} {o : Oper} {a : Act} {Q : Exit → Act → World → Prop} (w : World) (hgd : o.guard = none) (s x : Operand)
    (ho : o.op = .call { callee := .builtin .append, args := #[s, x], argTypes := #[38, 38] })
    (base g cp n b m cx : Nat) (fs es : List Ent) (hs : a.eval s = .slice (some ⟨g, 0, none⟩) n cp) (hx : a.eval x = .slice (some ⟨b, 0, none⟩) m cx) (hn : n = fs.length) (hm : m = es.length) (hO : OwnE w base g cp fs)
    (hc : EntsAt w b 0 es) (hlen : fs.length + es.length ≤ 2 ^ 30) (hbase : base ≤ w.heap.size)
    (h : ∀ g' cp' w', OwnE w' base g' cp' (fs ++ es) → w.grownBy w' (some g) → (g' = g ∨ g' = w.heap.size) → wpList Tryd.prog ops Q rest (a.put o.dst (.slice (some ⟨g', 0, none⟩) (n + m) cp')) w') : wpList Tryd.prog ops Q (o :: rest) a w := by
  subst hn hm
  obtain ⟨i, hi, hz0, hz1, hz2⟩ := info_parts Tryd.infoEnt
  refine wpList_append_own_at w hgd s x 38 ho base 25 i _ 6 80 Tryd.underlying38 hi hz0 hz1 hz2 rfl (by decide) (.slice (some ⟨g, 0, none⟩) fs.length cp) fs.length (cellsE fs) hs hO ⟨b, 0, none⟩ es.length cx (cellsE es) hx (length_cellsE es) (cells_of_ents hc) (one_cells es) ?_ ?_ hbase ?_
  · unfold maxLen; omega
  · omega
  · intro v' w' hO' hgr hnil hat
    rcases hO'.2 with ⟨h0, _⟩ | ⟨g', cap', cur, hv, _, _, hn, hcap, _, _⟩
    · have := (hnil.1 h0).1
      cases this
    · subst hv
      refine h g' cap' w' ?_ hgr ?_
      · unfold OwnE
        rw [List.length_append, cellsE_append]
        exact hO'
      · simp [Value.ownBlock] at hat
        exact hat
theorem ok_of_read {e : Ent} (hv : e.vld = true) (h0 : 0 ≤ e.ts) (h1 : e.ts < 18446744073709551616) : e.ok := by
  obtain ⟨v1, v2, v3, v4, v5, v6, v7, v8⟩ := vld_parts hv
  refine ⟨by unfold maxLen; omega, by unfold maxLen; omega, by unfold maxLen; omega, by unfold maxLen; omega, ?_, ?_⟩
  · simp only [Lit.wf, Bool.and_eq_true, decide_eq_true_eq]
    have h1 : IntKind.u64.min = 0 := rfl
    have h2 : IntKind.u64.max = 18446744073709551615 := rfl
    omega
  · simp only [Lit.wf, Bool.and_eq_true, decide_eq_true_eq]
    have h1 : IntKind.i64.min = -9223372036854775808 := rfl
    have h2 : IntKind.i64.max = 9223372036854775807 := rfl
    omega
/-- The first two fields of an entry, read. -/
theorem entRead1 {xs before : List UInt8} {i i1 i2 n : Nat} {b1 b2 : Bool} {rest : ByteArray} (h1 : GotNum xs i false i1 b1 n) (h2 : GotStr xs i1 b1 i2 b2 rest) (h : b2 = true ∨ before.length < n) : getEnt before (xs.drop i) = none := by
  unfold getEnt
  cases b1 with
  | true => rw [gotNum_none h1]
  | false =>
    rw [(gotNum_bad h1).2]
    simp only []
    cases b2 with
    | true => rw [gotStr_none h2]
    | false =>
      rw [(gotStr_good h2).2]
      simp only []
      rw [if_pos (by rcases h with h | h; cases h; exact h)]
/-- .. and the others. -/
theorem entRead2 {xs before : List UInt8} {i i1 i2 i3 i4 i5 i6 i7 n ts kind : Nat} {b1 b3 b4 b5 b6 b7 : Bool} {rest fam qual val : ByteArray} (h1 : GotNum xs i false i1 b1 n) (h2 : GotStr xs i1 b1 i2 false rest) (hn : ¬ before.length < n)
    (h3 : GotStr xs i2 false i3 b3 fam) (h4 : GotStr xs i3 b3 i4 b4 qual) (h5 : GotNum xs i4 b4 i5 b5 ts) (h6 : GotNum xs i5 b5 i6 b6 kind) (h7 : GotStr xs i6 b6 i7 b7 val) :
    (b7 = true → getEnt before (xs.drop i) = none) ∧ (b7 = false → getEnt before (xs.drop i) =
      if 2 < kind ∨ ¬ shared before (before.take n ++ bl rest) = n ∨ (⟨ba (before.take n ++ bl rest), fam, qual, (ts : Int), (kind : Int), val⟩ : Ent).vld = false then none
      else some (⟨ba (before.take n ++ bl rest), fam, qual, (ts : Int), (kind : Int), val⟩, xs.drop i7)) := by
  obtain ⟨rfl, q2⟩ := gotStr_good h2
  obtain ⟨_, q1⟩ := gotNum_bad h1
  constructor
  · rintro rfl
    unfold getEnt
    rw [q1]
    simp only []
    rw [q2]
    simp only []
    rw [if_neg hn]
    cases b3 with
    | true => rw [gotStr_none h3]
    | false =>
      rw [(gotStr_good h3).2]
      simp only []
      cases b4 with
      | true => rw [gotStr_none h4]
      | false =>
        rw [(gotStr_good h4).2]
        simp only []
        cases b5 with
        | true => rw [gotNum_none h5]
        | false =>
          rw [(gotNum_bad h5).2]
          simp only []
          cases b6 with
          | true => rw [gotNum_none h6]
          | false =>
            rw [(gotNum_bad h6).2]
            simp only []
            rw [gotStr_none h7]
  · rintro rfl
    obtain ⟨rfl, q7⟩ := gotStr_good h7
    obtain ⟨rfl, q6⟩ := gotNum_bad h6
    obtain ⟨rfl, q5⟩ := gotNum_bad h5
    obtain ⟨rfl, q4⟩ := gotStr_good h4
    obtain ⟨_, q3⟩ := gotStr_good h3
    unfold getEnt
    rw [q1]
    simp only []
    rw [q2]
    simp only []
    rw [if_neg hn, q3]
    simp only []
    rw [q4]
    simp only []
    rw [q5]
    simp only []
    rw [q6]
    simp only []
    rw [q7]
    simp only [ba_bl]
set_option maxHeartbeats 5000000 in
theorem l2Entries_core (b off cap : Nat) (xs : List UInt8) (k : Blk) (w : World) (hx : BysAt w b off xs) (hb : b < w.heap.size) (hlen : xs.length ≤ 2 ^ 30) (hcap : xs.length ≤ cap) (hcm : cap ≤ maxLen) (hk : k.in xs.length) :
    Calls Tryd.prog 10 #[.slice (some ⟨b, off, none⟩) xs.length cap, k.v] w fun r w' => EntPost w xs k r w' := by
  obtain ⟨fr, til, count, row⟩ := k
  obtain ⟨h1, h2, h3, h4, h5⟩ := hk
  simp only [] at h1 h2 h3 h4 h5
  obtain ⟨W1, hW1⟩ : ∃ W1 : World, W1 = w.alloc (Obj.cells #[.int .i64 (fr : Int), .int .i64 (til : Int), .int .i64 (count : Int), .string row] 37) := ⟨_, rfl⟩
  have hb1 : Below w.heap.size w W1 := by rw [hW1]; exact (Below.refl _ _).alloc (Nat.le_refl _) _
  have z1 : W1.heap.size = w.heap.size + 1 := by rw [hW1]; simp
  have HK : Hid (W1.cell? ⟨w.heap.size, 0, none⟩ = some (.int .i64 (fr : Int)) ∧ W1.cell? ⟨w.heap.size, 1, none⟩ = some (.int .i64 (til : Int)) ∧ W1.cell? ⟨w.heap.size, 2, none⟩ = some (.int .i64 (count : Int)) ∧ W1.cell? ⟨w.heap.size, 3, none⟩ = some (.string row)) := by
    rw [hW1]; refine ⟨?_, ?_, ?_, ?_⟩ <;> simp
  have HX1 : Hid (BysAt W1 b off xs) := hx.below hb1 hb
  obtain ⟨N, hN⟩ : ∃ N : Nat, xs.length = N := ⟨_, rfl⟩
  have HN : Hid (xs.length = N) := hN
  have HCm : Hid (cap ≤ maxLen) := hcm
  rw [hN] at hlen hcap h3 ⊢
  clear hx hN hcm
  obtain ⟨m, hm⟩ : ∃ m : Nat, m = til - fr := ⟨_, rfl⟩
  have hmi : fr + m = til := by omega
  obtain ⟨bd, hbd⟩ : ∃ bd, bd = (xs.drop fr).take m := ⟨_, rfl⟩
  have hbdl : bd.length = m := by rw [hbd, List.length_take, List.length_drop, HN.out]; omega
  have HBd : Hid (bd = (xs.drop fr).take m ∧ bd.length = m ∧ m = til - fr) := ⟨hbd, hbdl, hm⟩
  have HXw : Hid (∀ w' : World, Below W1.heap.size W1 w' → BysAt w' b (off + fr) bd ∧ BysAt w' b off xs) := fun w' h => ⟨by rw [hbd]; exact bys_sub (HX1.out.below h (by omega)) fr m, HX1.out.below h (by omega)⟩
  have HKw : Hid (∀ w' : World, Below W1.heap.size W1 w' → w'.cell? ⟨w.heap.size, 1, none⟩ = some (.int .i64 (til : Int)) ∧ w'.cell? ⟨w.heap.size, 2, none⟩ = some (.int .i64 (count : Int)) ∧ w'.cell? ⟨w.heap.size, 3, none⟩ = some (.string row)) := by
    intro w' h
    have hlt : w.heap.size < W1.heap.size := by omega
    rw [h.cell (p := ⟨w.heap.size, 1, none⟩) hlt, h.cell (p := ⟨w.heap.size, 2, none⟩) hlt, h.cell (p := ⟨w.heap.size, 3, none⟩) hlt]
    exact HK.out.2
  clear hbd hm hbdl
  have y1 : (fr : Int) ≤ (til : Int) := by omega
  have y2 : (til : Int) ≤ (cap : Int) := by omega
  have y3 : ¬ fr = cap := by omega
  obtain ⟨W2, hW2⟩ : ∃ W2 : World, W2 = W1.alloc (Obj.cells #[] 25) := ⟨_, rfl⟩
  have hb2 : Below W1.heap.size W1 W2 := by rw [hW2]; exact (Below.refl _ _).alloc (Nat.le_refl _) _
  have z2 : W2.heap.size = W1.heap.size + 1 := by rw [hW2]; simp
  have HO2 : Hid (OwnE W2 W1.heap.size W1.heap.size 0 []) := by
    rw [hW2]; exact World.ownsRow_made W1 #[] 0 (Nat.le_refl _) (Nat.zero_le _) (by simp)
  go_enter Tryd.func10, Tryd.ntmps10
  go_upto_region 1 with fail
  rw [← hW1]
  clear hW1
  obtain ⟨q0, q1, _⟩ := HK.out
  go_upto_region 3 with fail
  rw [← hW2]
  clear hW2 q0 q1
  rw [← HBd.out.2.2]
  obtain ⟨g0, hg0⟩ : ∃ g0 : Nat, g0 = w.heap.size + 1 := ⟨_, rfl⟩
  rw [← hg0]
  rw [z1, ← hg0] at HO2
  have HG0 : Hid (g0 = w.heap.size + 1) := hg0
  clear hg0
  obtain ⟨c2, hc2⟩ : ∃ c2 : Nat, c2 = cap - fr := ⟨_, rfl⟩
  have hc2m : m ≤ c2 := by omega
  rw [← hc2]
  clear hc2 y1 y2 y3
  obtain ⟨cx, hcx⟩ : ∃ c : Nat, (crc bd).toNat = c := ⟨_, rfl⟩
  have hcx2 : cx < 4294967296 := by rw [← hcx]; exact (crc bd).isLt
  have HCx : Hid ((crc bd).toNat = cx) := hcx
  obtain ⟨fx, hfxd⟩ : ∃ c : Nat, fixAt xs til = c := ⟨_, rfl⟩
  have hfx2 : fx < 4294967296 := by rw [← hfxd]; exact fixAt_lt _ _
  have HFx : Hid (fixAt xs til = fx) := hfxd
  have HCrc : Hid (∀ w' : World, Below W1.heap.size W1 w' → Calls Tryd.prog 20 #[.slice (some ⟨b, off + fr, none⟩) m c2] w' fun e w'' => e = .returned (.int .u32 (cx : Int)) ∧ w'' = w') := by
    intro w' h
    have := specCrc_core b (off + fr) c2 bd w' (HXw.out w' h).1 (by rw [HBd.out.2.1]; unfold maxLen; omega)
    rw [HBd.out.2.1, hcx] at this
    exact this
  have HFix : Hid (∀ w' : World, Below W1.heap.size W1 w' → Calls Tryd.prog 19 #[.slice (some ⟨b, off, none⟩) N cap, .int .i64 (til : Int)] w' fun e w'' => e = .returned (.int .u32 (fx : Int)) ∧ Below w'.heap.size w' w'') := by
    intro w' h
    have := l2GetFixed_core b off cap xs til w' (HXw.out w' h).2 (by rw [HN.out]; exact hlen) (by rw [HN.out]; omega)
    rw [HN.out, hfxd] at this
    exact this
  clear hcx hfxd
  have sz2 := hb2.size
  go_cut [33] (fun s wx => ∃ c : Bool, s = .bool c ∧ (c = true ↔ ¬ cx = fx) ∧ Below W2.heap.size W2 wx)
  case first =>
    have k1 : W2.cell? ⟨w.heap.size, 1, none⟩ = some (.int .i64 (til : Int)) := (HKw.out W2 hb2).1
    have kb : Below W1.heap.size W1 W2 := hb2
    have kc : Below W2.heap.size W2 W2 := Below.refl _ _
    go_region_with (first
      | (go_at_call 20; refine (HCrc.out _ ?hB).mono ?_; (case hB => (repeat (first | assumption | refine Below.drew ?_))); rintro e1 w1' ⟨rfl, hw1'⟩; rw [hw1']; clear hw1' w1')
      | (go_at_call 19; refine (HFix.out _ ?hB).mono ?_; (case hB => (repeat (first | assumption | refine Below.drew ?_))); rintro e2 w2' ⟨rfl, hw2'⟩; have hz2' : Below W2.heap.size W2 w2' := (Below.drew kc).trans hw2'; clear hw2'))
    all_goals go_wp2_with fail
    all_goals go_meet
    all_goals exact ⟨_, rfl, by rw [bne_iff_ne]; omega, hz2'⟩
  case rest =>
  obtain ⟨c, rfl, hc, hbc⟩ := hcut
  have sc := hbc.size
  have kw : Below w.heap.size w wc := (hb1.trans (hb2.mono (by omega))).trans (hbc.mono (by omega))
  have k1 : Below W1.heap.size W1 wc := hb2.trans (hbc.mono sz2)
  have HOc : Hid (OwnE wc W1.heap.size g0 0 []) := by
    have h := HO2.out.below hbc (by have := HG0.out; omega)
    rw [HG0.out, ← z1] at h
    rw [HG0.out, ← z1]
    exact h
  clear HO2 hbc HCrc HFix
  cases c with
  | true =>
    have HI : Hid (blkM xs ⟨fr, til, count, row⟩ = (2, [])) := by
      show blkM xs ⟨fr, til, count, row⟩ = (2, [])
      unfold blkM
      simp only []
      rw [← HBd.out.2.2, ← HBd.out.1, HCx.out, HFx.out, if_pos (hc.1 rfl)]
    clear hc
    go_wp2_with fail
    go_ret2
    exact ⟨g0, 0, 2, [], rfl, HI.out.symm, OwnE.mono HOc.out (by omega), fun e he => by simp at he, kw⟩
  | false =>
  have hsum : cx = fx := Decidable.not_not.1 (fun q => by have := hc.2 q; cases this)
  have HI0 : Hid (blkM xs ⟨fr, til, count, row⟩ = entEnd (bl row) (getEnts count [] bd)) := by
    show blkM xs ⟨fr, til, count, row⟩ = _
    unfold blkM
    simp only []
    rw [← HBd.out.2.2, ← HBd.out.1, HCx.out, HFx.out, if_neg (fun q => q hsum)]
  clear hc hsum HCx HFx
  obtain ⟨W4, hW4⟩ : ∃ W4 : World, W4 = wc.alloc (Obj.cells #[.slice (some ⟨b, off + fr, none⟩) m c2, .int .i64 0, .bool false] 59) := ⟨_, rfl⟩
  have hb4 : Below wc.heap.size wc W4 := by rw [hW4]; exact (Below.refl _ _).alloc (Nat.le_refl _) _
  obtain ⟨R, hR⟩ : ∃ R : Nat, R = wc.heap.size := ⟨_, rfl⟩
  have HS4 : Hid (JS W1 R [.slice (some ⟨b, off + fr, none⟩) m c2, .int .i64 0, .bool false] g0 0 [] W4) := by
    refine ⟨?_, HOc.out.below hb4 (by have := HOc.out.lt; omega), by have := HOc.out.lt; omega, k1.trans (hb4.mono (by omega))⟩
    rw [hW4, hR]; exact boxAt_new wc _ (by omega) rfl
  go_upto_region 8 with fail
  rw [← hW4, ← hR]
  clear hW4 hR hb4 HOc kw k1 sc
  have HX : Hid (bd.length = m) := HBd.out.2.1
  go_loopw [7, 9, 10] (fun o s kk wr => ∃ (k i g cp : Nat) (bf : ByteArray) (l : List Ent), o = .slice (some ⟨g, 0, none⟩) l.length cp ∧ s = .string bf ∧ kk = .int .i64 (k : Int) ∧ EntsTo count bd k l (bl bf) (bd.drop i) ∧ i ≤ m ∧ bf.size ≤ 64 ∧ (∀ e ∈ l, e.ok) ∧ JS W1 R [.slice (some ⟨b, off + fr, none⟩) m c2, .int .i64 (i : Int), .bool false] g cp l wr) (fun _ _ kk _ => count - (intOf kk).toNat)
  case atStart => exact ⟨0, 0, g0, 0, ⟨#[]⟩, [], rfl, rfl, rfl, entsTo_zero _ _, Nat.zero_le _, by decide, fun e he => by simp at he, HS4.out⟩
  case round =>
    clear HS4
    obtain ⟨k, i0, g, cp, bf, l, rfl, rfl, rfl, hET, hi0, hbf, hokl, hJS⟩ := hrel
    have hkK : k ≤ count := hET.1
    have hlk : l.length ≤ 1000 := by have := hET.2.1; omega
    have HET : Hid (EntsTo count bd k l (bl bf) (bd.drop i0) ∧ ∀ e ∈ l, e.ok) := ⟨hET, hokl⟩
    have HJ : Hid (JS W1 R [.slice (some ⟨b, off + fr, none⟩) m c2, .int .i64 (i0 : Int), .bool false] g cp l wr) := hJS
    have kcnt := (HKw.out wr hJS.below).2.1
    clear hET hokl hJS
    by_cases hlt : k < count
    · have zk : (k : Int) < (count : Int) := by omega
      obtain ⟨V0, hV0⟩ : ∃ V : World, V = wr.alloc (Obj.cells #[.string ⟨#[]⟩, .string ⟨#[]⟩, .string ⟨#[]⟩, .int .u64 0, .int .i64 0, .string ⟨#[]⟩] 25) := ⟨_, rfl⟩
      obtain ⟨E, hE⟩ : ∃ E : Nat, E = wr.heap.size := ⟨_, rfl⟩
      have hRl := HJ.out.box.lt
      have hgl := HJ.out.row.lt
      have hER : ¬ E = R := by omega
      have hEg : ¬ E = g := by omega
      have hE1 : W1.heap.size ≤ E := by have := HJ.out.below.size; omega
      have HS0 : Hid (JS W1 R [.slice (some ⟨b, off + fr, none⟩) m c2, .int .i64 (i0 : Int), .bool false] g cp l V0 ∧ BoxAt V0 W1.heap.size 25 6 E [.string ⟨#[]⟩, .string ⟨#[]⟩, .string ⟨#[]⟩, .int .u64 0, .int .i64 0, .string ⟨#[]⟩]) := by
        have hbv : Below wr.heap.size wr V0 := by rw [hV0]; exact (Below.refl _ _).alloc (Nat.le_refl _) _
        refine ⟨HJ.out.call hbv, ?_⟩
        rw [hV0, hE]; exact boxAt_new wr _ (by rw [← hE]; exact hE1) rfl
      go_upto_region 14 with fail
      rw [← hV0, ← hE]
      clear hV0 hE hRl HJ kcnt
      -- n
      have r0 := HS0.out.1.box.cell (j := 0) rfl
      have r1 := HS0.out.1.box.cell (j := 1) rfl
      have r2 := HS0.out.1.box.cell (j := 2) rfl
      have sA := HS0.out.1.below.size
      have hgn := l2GetNum_core b (off + fr) c2 bd i0 false V0 (HXw.out V0 HS0.out.1.below).1 (by omega) (by rw [HX.out]; omega) (by rw [HX.out]; exact hi0)
      rw [HX.out] at hgn
      go_wp2_with fail
      clear r0 r1 r2
      refine hgn.mono ?_
      rintro r u1 ⟨i1, b1, n, rfl, hG1, hb1⟩
      rw [HX.out]
      have hi1 := hG1.1
      rw [HX.out] at hi1
      have hsz1 := hG1.2.1
      have HG1 : Hid (GotNum bd i0 false i1 b1 n) := hG1
      have HT1 : Hid (JS W1 R [.slice (some ⟨b, off + fr, none⟩) m c2, .int .i64 (i0 : Int), .bool false] g cp l u1 ∧ BoxAt u1 W1.heap.size 25 6 E [.string ⟨#[]⟩, .string ⟨#[]⟩, .string ⟨#[]⟩, .int .u64 0, .int .i64 0, .string ⟨#[]⟩]) := ⟨HS0.out.1.call hb1, HS0.out.2.below hb1⟩
      clear hG1 hb1 hgn HS0 sA
      have f0 := HT1.out.1.box.frozen 0
      have f1 := HT1.out.1.box.frozen 1
      have f2 := HT1.out.1.box.frozen 2
      have r0 := HT1.out.1.box.cell (j := 0) rfl
      have r1 := HT1.out.1.box.cell (j := 1) rfl
      have r2 := HT1.out.1.box.cell (j := 2) rfl
      obtain ⟨V1, hV1⟩ : ∃ V : World, V = set3 u1 R (.slice (some ⟨b, off + fr, none⟩) m c2) (.int .i64 (i1 : Int)) (.bool b1) := ⟨_, rfl⟩
      have HS1 : Hid (JS W1 R [.slice (some ⟨b, off + fr, none⟩) m c2, .int .i64 (i1 : Int), .bool b1] g cp l V1 ∧ BoxAt V1 W1.heap.size 25 6 E [.string ⟨#[]⟩, .string ⟨#[]⟩, .string ⟨#[]⟩, .int .u64 0, .int .i64 0, .string ⟨#[]⟩]) := by rw [hV1]; exact ⟨HT1.out.1.set3 _ _ _, HT1.out.2.beside3 hER _ _ _⟩
      unfold set3 at hV1
      go_upto_region 15 with fail
      rw [← hV1]
      clear hV1 f0 f1 f2 r0 r1 r2 HT1
      -- rest
      have r0 := HS1.out.1.box.cell (j := 0) rfl
      have r1 := HS1.out.1.box.cell (j := 1) rfl
      have r2 := HS1.out.1.box.cell (j := 2) rfl
      have sA := HS1.out.1.below.size
      have hgn := l2GetStr_core b (off + fr) c2 bd i1 b1 V1 (HXw.out V1 HS1.out.1.below).1 (by omega) (by rw [HX.out]; omega) (by rw [HX.out]; exact hc2m) (by rw [HX.out]; exact hi1)
      rw [HX.out] at hgn
      go_wp2_with fail
      clear r0 r1 r2
      refine hgn.mono ?_
      rintro r u2 ⟨i2, b2, rest, rfl, hG2, hb2⟩
      rw [HX.out]
      have hi2 := hG2.1
      rw [HX.out] at hi2
      have hsz2 := hG2.2.1
      rw [HX.out] at hsz2
      have HG2 : Hid (GotStr bd i1 b1 i2 b2 rest) := hG2
      have HT2 : Hid (JS W1 R [.slice (some ⟨b, off + fr, none⟩) m c2, .int .i64 (i1 : Int), .bool b1] g cp l u2 ∧ BoxAt u2 W1.heap.size 25 6 E [.string ⟨#[]⟩, .string ⟨#[]⟩, .string ⟨#[]⟩, .int .u64 0, .int .i64 0, .string ⟨#[]⟩]) := ⟨HS1.out.1.call hb2, HS1.out.2.below hb2⟩
      clear hG2 hb2 hgn HS1 sA
      have f0 := HT2.out.1.box.frozen 0
      have f1 := HT2.out.1.box.frozen 1
      have f2 := HT2.out.1.box.frozen 2
      have r0 := HT2.out.1.box.cell (j := 0) rfl
      have r1 := HT2.out.1.box.cell (j := 1) rfl
      have r2 := HT2.out.1.box.cell (j := 2) rfl
      obtain ⟨V2, hV2⟩ : ∃ V : World, V = set3 u2 R (.slice (some ⟨b, off + fr, none⟩) m c2) (.int .i64 (i2 : Int)) (.bool b2) := ⟨_, rfl⟩
      have HS2 : Hid (JS W1 R [.slice (some ⟨b, off + fr, none⟩) m c2, .int .i64 (i2 : Int), .bool b2] g cp l V2 ∧ BoxAt V2 W1.heap.size 25 6 E [.string ⟨#[]⟩, .string ⟨#[]⟩, .string ⟨#[]⟩, .int .u64 0, .int .i64 0, .string ⟨#[]⟩]) := by rw [hV2]; exact ⟨HT2.out.1.set3 _ _ _, HT2.out.2.beside3 hER _ _ _⟩
      unfold set3 at hV2
      go_upto_region 16 with fail
      rw [← hV2]
      clear hV2 f0 f1 f2 r0 r1 r2 HT2
      have r2 := HS2.out.1.box.cell (j := 2) rfl
      have hbf2 : (bf.size : Int) ≤ 64 := by omega
      go_cut [62] (fun s wx => ∃ c : Bool, s = .bool c ∧ (c = true ↔ b2 = true ∨ bf.size < n) ∧ wx = V2)
      case first =>
        cases b2 with
        | true =>
          go_wp2_with fail
          go_meet
          exact ⟨true, rfl, by simp, rfl⟩
        | false =>
          by_cases c1 : bf.size < n
          · have y1 : (bf.size : Int) < (n : Int) := by omega
            go_wp2_with fail
            go_meet
            exact ⟨true, rfl, by simp [c1], rfl⟩
          · have y1 : ¬ (bf.size : Int) < (n : Int) := by omega
            go_wp2_with fail
            go_meet
            exact ⟨false, rfl, by simp; omega, rfl⟩
      case rest =>
      obtain ⟨c, rfl, hc, hwc⟩ := hcut
      rw [hwc]
      clear hwc wc r2
      cases c with
      | true =>
        have HI : Hid (blkM xs ⟨fr, til, count, row⟩ = (3, [])) := by
          show blkM xs ⟨fr, til, count, row⟩ = (3, [])
          rw [HI0.out, HET.out.1.stop hlt (entRead1 HG1.out HG2.out (by rw [bl_len]; exact hc.1 rfl))]; rfl
        have sV := HS2.out.1.below.size
        have HW : Hid (OwnE (V2.alloc (Obj.cells #[] 25)) w.heap.size V2.heap.size 0 [] ∧ Below w.heap.size w (V2.alloc (Obj.cells #[] 25))) := ⟨World.ownsRow_made V2 #[] 0 (by omega) (Nat.zero_le _) (by simp), (hb1.trans (HS2.out.1.below.mono (by omega))).alloc (by omega) _⟩
        clear hc
        go_wp2_with fail
        go_ret2
        exact ⟨V2.heap.size, 0, 3, [], rfl, HI.out.symm, HW.out.1, fun e he => by simp at he, HW.out.2⟩
      | false =>
      have hcf : ¬ (b2 = true ∨ bf.size < n) := fun q => by have := hc.2 q; cases this
      have hb2f : b2 = false := by
        cases b2 with
        | true => exact absurd (.inl rfl) hcf
        | false => rfl
      subst hb2f
      have hnb : n ≤ bf.size := Nat.not_lt.1 (fun q => hcf (.inr q))
      clear hc hcf
      go_upto_region 23 with fail
      obtain ⟨rw', hrw⟩ : ∃ s : ByteArray, s = bf.extract 0 n ++ rest := ⟨_, rfl⟩
      have HRow : Hid (bl rw' = (bl bf).take n ++ bl rest) := by
        show bl rw' = _
        rw [hrw]
        show (bf.extract 0 n ++ rest).data.toList = _
        rw [ByteArray.data_append, Array.toList_append, Lib.extract_data]
        simp
      have hrsz : rw'.size ≤ 64 + m := by
        rw [← bl_len, HRow.out, List.length_append, bl_len, List.length_take]
        omega
      have HBa : Hid (ba ((bl bf).take n ++ bl rest) = rw') := by rw [← HRow.out]; exact ba_bl _
      rw [← hrw]
      clear hrw
      -- fam
      have r0 := HS2.out.1.box.cell (j := 0) rfl
      have r1 := HS2.out.1.box.cell (j := 1) rfl
      have r2 := HS2.out.1.box.cell (j := 2) rfl
      have sA := HS2.out.1.below.size
      have hgn := l2GetStr_core b (off + fr) c2 bd i2 false V2 (HXw.out V2 HS2.out.1.below).1 (by omega) (by rw [HX.out]; omega) (by rw [HX.out]; exact hc2m) (by rw [HX.out]; exact hi2)
      rw [HX.out] at hgn
      go_wp2_with fail
      clear r0 r1 r2
      refine hgn.mono ?_
      rintro r u3 ⟨i3, b3, fam, rfl, hG3, hb3⟩
      rw [HX.out]
      have hi3 := hG3.1
      rw [HX.out] at hi3
      have hsz3 := hG3.2.1
      rw [HX.out] at hsz3
      have HG3 : Hid (GotStr bd i2 false i3 b3 fam) := hG3
      have HT3 : Hid (JS W1 R [.slice (some ⟨b, off + fr, none⟩) m c2, .int .i64 (i2 : Int), .bool false] g cp l u3 ∧ BoxAt u3 W1.heap.size 25 6 E [.string ⟨#[]⟩, .string ⟨#[]⟩, .string ⟨#[]⟩, .int .u64 0, .int .i64 0, .string ⟨#[]⟩]) := ⟨HS2.out.1.call hb3, HS2.out.2.below hb3⟩
      clear hG3 hb3 hgn HS2 sA
      have f0 := HT3.out.1.box.frozen 0
      have f1 := HT3.out.1.box.frozen 1
      have f2 := HT3.out.1.box.frozen 2
      have r0 := HT3.out.1.box.cell (j := 0) rfl
      have r1 := HT3.out.1.box.cell (j := 1) rfl
      have r2 := HT3.out.1.box.cell (j := 2) rfl
      obtain ⟨V3, hV3⟩ : ∃ V : World, V = set3 u3 R (.slice (some ⟨b, off + fr, none⟩) m c2) (.int .i64 (i3 : Int)) (.bool b3) := ⟨_, rfl⟩
      have HS3 : Hid (JS W1 R [.slice (some ⟨b, off + fr, none⟩) m c2, .int .i64 (i3 : Int), .bool b3] g cp l V3 ∧ BoxAt V3 W1.heap.size 25 6 E [.string ⟨#[]⟩, .string ⟨#[]⟩, .string ⟨#[]⟩, .int .u64 0, .int .i64 0, .string ⟨#[]⟩]) := by rw [hV3]; exact ⟨HT3.out.1.set3 _ _ _, HT3.out.2.beside3 hER _ _ _⟩
      unfold set3 at hV3
      go_upto_region 24 with fail
      rw [← hV3]
      clear hV3 f0 f1 f2 r0 r1 r2 HT3
      -- qual
      have r0 := HS3.out.1.box.cell (j := 0) rfl
      have r1 := HS3.out.1.box.cell (j := 1) rfl
      have r2 := HS3.out.1.box.cell (j := 2) rfl
      have sA := HS3.out.1.below.size
      have hgn := l2GetStr_core b (off + fr) c2 bd i3 b3 V3 (HXw.out V3 HS3.out.1.below).1 (by omega) (by rw [HX.out]; omega) (by rw [HX.out]; exact hc2m) (by rw [HX.out]; exact hi3)
      rw [HX.out] at hgn
      go_wp2_with fail
      clear r0 r1 r2
      refine hgn.mono ?_
      rintro r u4 ⟨i4, b4, qual, rfl, hG4, hb4⟩
      rw [HX.out]
      have hi4 := hG4.1
      rw [HX.out] at hi4
      have hsz4 := hG4.2.1
      rw [HX.out] at hsz4
      have HG4 : Hid (GotStr bd i3 b3 i4 b4 qual) := hG4
      have HT4 : Hid (JS W1 R [.slice (some ⟨b, off + fr, none⟩) m c2, .int .i64 (i3 : Int), .bool b3] g cp l u4 ∧ BoxAt u4 W1.heap.size 25 6 E [.string ⟨#[]⟩, .string ⟨#[]⟩, .string ⟨#[]⟩, .int .u64 0, .int .i64 0, .string ⟨#[]⟩]) := ⟨HS3.out.1.call hb4, HS3.out.2.below hb4⟩
      clear hG4 hb4 hgn HS3 sA
      have f0 := HT4.out.1.box.frozen 0
      have f1 := HT4.out.1.box.frozen 1
      have f2 := HT4.out.1.box.frozen 2
      have r0 := HT4.out.1.box.cell (j := 0) rfl
      have r1 := HT4.out.1.box.cell (j := 1) rfl
      have r2 := HT4.out.1.box.cell (j := 2) rfl
      obtain ⟨V4, hV4⟩ : ∃ V : World, V = set3 u4 R (.slice (some ⟨b, off + fr, none⟩) m c2) (.int .i64 (i4 : Int)) (.bool b4) := ⟨_, rfl⟩
      have HS4 : Hid (JS W1 R [.slice (some ⟨b, off + fr, none⟩) m c2, .int .i64 (i4 : Int), .bool b4] g cp l V4 ∧ BoxAt V4 W1.heap.size 25 6 E [.string ⟨#[]⟩, .string ⟨#[]⟩, .string ⟨#[]⟩, .int .u64 0, .int .i64 0, .string ⟨#[]⟩]) := by rw [hV4]; exact ⟨HT4.out.1.set3 _ _ _, HT4.out.2.beside3 hER _ _ _⟩
      unfold set3 at hV4
      go_upto_region 25 with fail
      rw [← hV4]
      clear hV4 f0 f1 f2 r0 r1 r2 HT4
      -- ts
      have r0 := HS4.out.1.box.cell (j := 0) rfl
      have r1 := HS4.out.1.box.cell (j := 1) rfl
      have r2 := HS4.out.1.box.cell (j := 2) rfl
      have sA := HS4.out.1.below.size
      have hgn := l2GetNum_core b (off + fr) c2 bd i4 b4 V4 (HXw.out V4 HS4.out.1.below).1 (by omega) (by rw [HX.out]; omega) (by rw [HX.out]; exact hi4)
      rw [HX.out] at hgn
      go_wp2_with fail
      clear r0 r1 r2
      refine hgn.mono ?_
      rintro r u5 ⟨i5, b5, ts, rfl, hG5, hb5⟩
      rw [HX.out]
      have hi5 := hG5.1
      rw [HX.out] at hi5
      have hsz5 := hG5.2.1
      have HG5 : Hid (GotNum bd i4 b4 i5 b5 ts) := hG5
      have HT5 : Hid (JS W1 R [.slice (some ⟨b, off + fr, none⟩) m c2, .int .i64 (i4 : Int), .bool b4] g cp l u5 ∧ BoxAt u5 W1.heap.size 25 6 E [.string ⟨#[]⟩, .string ⟨#[]⟩, .string ⟨#[]⟩, .int .u64 0, .int .i64 0, .string ⟨#[]⟩]) := ⟨HS4.out.1.call hb5, HS4.out.2.below hb5⟩
      clear hG5 hb5 hgn HS4 sA
      have f0 := HT5.out.1.box.frozen 0
      have f1 := HT5.out.1.box.frozen 1
      have f2 := HT5.out.1.box.frozen 2
      have r0 := HT5.out.1.box.cell (j := 0) rfl
      have r1 := HT5.out.1.box.cell (j := 1) rfl
      have r2 := HT5.out.1.box.cell (j := 2) rfl
      obtain ⟨V5, hV5⟩ : ∃ V : World, V = set3 u5 R (.slice (some ⟨b, off + fr, none⟩) m c2) (.int .i64 (i5 : Int)) (.bool b5) := ⟨_, rfl⟩
      have HS5 : Hid (JS W1 R [.slice (some ⟨b, off + fr, none⟩) m c2, .int .i64 (i5 : Int), .bool b5] g cp l V5 ∧ BoxAt V5 W1.heap.size 25 6 E [.string ⟨#[]⟩, .string ⟨#[]⟩, .string ⟨#[]⟩, .int .u64 0, .int .i64 0, .string ⟨#[]⟩]) := by rw [hV5]; exact ⟨HT5.out.1.set3 _ _ _, HT5.out.2.beside3 hER _ _ _⟩
      unfold set3 at hV5
      go_upto_region 26 with fail
      rw [← hV5]
      clear hV5 f0 f1 f2 r0 r1 r2 HT5
      -- kind
      have r0 := HS5.out.1.box.cell (j := 0) rfl
      have r1 := HS5.out.1.box.cell (j := 1) rfl
      have r2 := HS5.out.1.box.cell (j := 2) rfl
      have sA := HS5.out.1.below.size
      have hgn := l2GetNum_core b (off + fr) c2 bd i5 b5 V5 (HXw.out V5 HS5.out.1.below).1 (by omega) (by rw [HX.out]; omega) (by rw [HX.out]; exact hi5)
      rw [HX.out] at hgn
      go_wp2_with fail
      clear r0 r1 r2
      refine hgn.mono ?_
      rintro r u6 ⟨i6, b6, kind, rfl, hG6, hb6⟩
      rw [HX.out]
      have hi6 := hG6.1
      rw [HX.out] at hi6
      have hsz6 := hG6.2.1
      have HG6 : Hid (GotNum bd i5 b5 i6 b6 kind) := hG6
      have HT6 : Hid (JS W1 R [.slice (some ⟨b, off + fr, none⟩) m c2, .int .i64 (i5 : Int), .bool b5] g cp l u6 ∧ BoxAt u6 W1.heap.size 25 6 E [.string ⟨#[]⟩, .string ⟨#[]⟩, .string ⟨#[]⟩, .int .u64 0, .int .i64 0, .string ⟨#[]⟩]) := ⟨HS5.out.1.call hb6, HS5.out.2.below hb6⟩
      clear hG6 hb6 hgn HS5 sA
      have f0 := HT6.out.1.box.frozen 0
      have f1 := HT6.out.1.box.frozen 1
      have f2 := HT6.out.1.box.frozen 2
      have r0 := HT6.out.1.box.cell (j := 0) rfl
      have r1 := HT6.out.1.box.cell (j := 1) rfl
      have r2 := HT6.out.1.box.cell (j := 2) rfl
      obtain ⟨V6, hV6⟩ : ∃ V : World, V = set3 u6 R (.slice (some ⟨b, off + fr, none⟩) m c2) (.int .i64 (i6 : Int)) (.bool b6) := ⟨_, rfl⟩
      have HS6 : Hid (JS W1 R [.slice (some ⟨b, off + fr, none⟩) m c2, .int .i64 (i6 : Int), .bool b6] g cp l V6 ∧ BoxAt V6 W1.heap.size 25 6 E [.string ⟨#[]⟩, .string ⟨#[]⟩, .string ⟨#[]⟩, .int .u64 0, .int .i64 0, .string ⟨#[]⟩]) := by rw [hV6]; exact ⟨HT6.out.1.set3 _ _ _, HT6.out.2.beside3 hER _ _ _⟩
      unfold set3 at hV6
      go_upto_region 27 with fail
      rw [← hV6]
      clear hV6 f0 f1 f2 r0 r1 r2 HT6
      -- val
      have r0 := HS6.out.1.box.cell (j := 0) rfl
      have r1 := HS6.out.1.box.cell (j := 1) rfl
      have r2 := HS6.out.1.box.cell (j := 2) rfl
      have sA := HS6.out.1.below.size
      have hgn := l2GetStr_core b (off + fr) c2 bd i6 b6 V6 (HXw.out V6 HS6.out.1.below).1 (by omega) (by rw [HX.out]; omega) (by rw [HX.out]; exact hc2m) (by rw [HX.out]; exact hi6)
      rw [HX.out] at hgn
      go_wp2_with fail
      clear r0 r1 r2
      refine hgn.mono ?_
      rintro r u7 ⟨i7, b7, val, rfl, hG7, hb7⟩
      rw [HX.out]
      have hi7 := hG7.1
      rw [HX.out] at hi7
      have hsz7 := hG7.2.1
      rw [HX.out] at hsz7
      have HG7 : Hid (GotStr bd i6 b6 i7 b7 val) := hG7
      have HT7 : Hid (JS W1 R [.slice (some ⟨b, off + fr, none⟩) m c2, .int .i64 (i6 : Int), .bool b6] g cp l u7 ∧ BoxAt u7 W1.heap.size 25 6 E [.string ⟨#[]⟩, .string ⟨#[]⟩, .string ⟨#[]⟩, .int .u64 0, .int .i64 0, .string ⟨#[]⟩]) := ⟨HS6.out.1.call hb7, HS6.out.2.below hb7⟩
      clear hG7 hb7 hgn HS6 sA
      have f0 := HT7.out.1.box.frozen 0
      have f1 := HT7.out.1.box.frozen 1
      have f2 := HT7.out.1.box.frozen 2
      have r0 := HT7.out.1.box.cell (j := 0) rfl
      have r1 := HT7.out.1.box.cell (j := 1) rfl
      have r2 := HT7.out.1.box.cell (j := 2) rfl
      obtain ⟨V7, hV7⟩ : ∃ V : World, V = set3 u7 R (.slice (some ⟨b, off + fr, none⟩) m c2) (.int .i64 (i7 : Int)) (.bool b7) := ⟨_, rfl⟩
      have HS7 : Hid (JS W1 R [.slice (some ⟨b, off + fr, none⟩) m c2, .int .i64 (i7 : Int), .bool b7] g cp l V7 ∧ BoxAt V7 W1.heap.size 25 6 E [.string ⟨#[]⟩, .string ⟨#[]⟩, .string ⟨#[]⟩, .int .u64 0, .int .i64 0, .string ⟨#[]⟩]) := by rw [hV7]; exact ⟨HT7.out.1.set3 _ _ _, HT7.out.2.beside3 hER _ _ _⟩
      unfold set3 at hV7
      go_upto_region 28 with fail
      rw [← hV7]
      clear hV7 f0 f1 f2 r0 r1 r2 HT7
      have HRd : Hid ((b7 = true → getEnt (bl bf) (bd.drop i0) = none) ∧ (b7 = false → getEnt (bl bf) (bd.drop i0) =
          if 2 < kind ∨ ¬ shared (bl bf) (bl rw') = n ∨ (⟨rw', fam, qual, (ts : Int), (kind : Int), val⟩ : Ent).vld = false then none else some (⟨rw', fam, qual, (ts : Int), (kind : Int), val⟩, bd.drop i7))) := by
        have h := entRead2 (before := bl bf) HG1.out HG2.out (by rw [bl_len]; omega) HG3.out HG4.out HG5.out HG6.out HG7.out
        rw [HBa.out, ← HRow.out] at h
        exact h
      clear HG1 HG2 HG3 HG4 HG5 HG6 HG7 HBa HRow
      have f0 := HS7.out.2.frozen 0
      have f1 := HS7.out.2.frozen 1
      have f2 := HS7.out.2.frozen 2
      have f3 := HS7.out.2.frozen 3
      have f5 := HS7.out.2.frozen 5
      have r0 := HS7.out.2.cell (j := 0) rfl
      have r1 := HS7.out.2.cell (j := 1) rfl
      have r2 := HS7.out.2.cell (j := 2) rfl
      have r3 := HS7.out.2.cell (j := 3) rfl
      have r5 := HS7.out.2.cell (j := 5) rfl
      obtain ⟨V8, hV8⟩ : ∃ V : World, V = ((((V7.setCell ⟨E, 0, none⟩ (.string rw')).setCell ⟨E, 1, none⟩ (.string fam)).setCell ⟨E, 2, none⟩ (.string qual)).setCell ⟨E, 3, none⟩ (.int .u64 (ts : Int))).setCell ⟨E, 5, none⟩ (.string val) := ⟨_, rfl⟩
      have HS8 : Hid (JS W1 R [.slice (some ⟨b, off + fr, none⟩) m c2, .int .i64 (i7 : Int), .bool b7] g cp l V8 ∧ BoxAt V8 W1.heap.size 25 6 E [.string rw', .string fam, .string qual, .int .u64 (ts : Int), .int .i64 0, .string val]) := by
        rw [hV8]
        refine ⟨?_, ?_⟩
        · have hR' : ¬ R = E := fun q => hER q.symm
          have hg' : ¬ g = E := fun q => hEg q.symm
          exact ((((HS7.out.1.beside hR' hg' hE1 0 _).beside hR' hg' hE1 1 _).beside hR' hg' hE1 2 _).beside hR' hg' hE1 3 _).beside hR' hg' hE1 5 _
        · exact ((((HS7.out.2.set 0 _).set 1 _).set 2 _).set 3 _).set 5 _
      go_upto_region 33 with fail
      rw [← hV8]
      clear hV8 f0 f1 f2 f3 f5 r0 r1 r2 r3 r5 HS7
      have r2 := HS8.out.1.box.cell (j := 2) rfl
      go_cut [117] (fun s wx => ∃ c : Bool, s = .bool c ∧ (c = true ↔ b7 = true ∨ 2 < kind ∨ ¬ shared (bl bf) (bl rw') = n) ∧ Below V8.heap.size V8 wx)
      case first =>
        cases b7 with
        | true =>
          go_wp2_with fail
          go_meet
          exact ⟨true, rfl, by simp, Below.refl _ _⟩
        | false =>
          by_cases c1 : 2 < kind
          · have y1 : (2 : Int) < (kind : Int) := by omega
            go_wp2_with fail
            go_meet
            exact ⟨true, rfl, by simp [c1], Below.refl _ _⟩
          · have y1 : ¬ (2 : Int) < (kind : Int) := by omega
            obtain ⟨sh', hsh⟩ : ∃ q : Nat, q = shared (bl bf) (bl rw') := ⟨_, rfl⟩
            have hsl : sh' ≤ 64 := by rw [hsh]; have := (shared_le (bl bf) (bl rw')).1; rw [bl_len] at this; omega
            have hcs := l2Shared_core bf rw' V8 (by unfold maxLen; omega) (by unfold maxLen; omega)
            rw [← hsh] at hcs
            have HSh : Hid (sh' = shared (bl bf) (bl rw')) := hsh
            clear hsh
            go_wp2_with fail
            refine hcs.mono ?_
            rintro e v9 ⟨rfl, hb9⟩
            clear hcs
            by_cases c2 : sh' = n
            · subst c2
              go_wp2_with fail
              go_meet
              exact ⟨false, by simp, by rw [← HSh.out]; simp; omega, hb9⟩
            · have y2 : ¬ (sh' : Int) = (n : Int) := by omega
              go_wp2_with fail
              go_meet
              exact ⟨true, by first | rfl | (simp [c2]; omega) | simp [c2], by rw [← HSh.out]; simp [c2], hb9⟩
      case rest =>
      obtain ⟨c, rfl, hc, hbc⟩ := hcut
      have HSc : Hid (JS W1 R [.slice (some ⟨b, off + fr, none⟩) m c2, .int .i64 (i7 : Int), .bool b7] g cp l wc ∧ BoxAt wc W1.heap.size 25 6 E [.string rw', .string fam, .string qual, .int .u64 (ts : Int), .int .i64 0, .string val]) := ⟨HS8.out.1.call hbc, HS8.out.2.below hbc⟩
      clear hbc HS8 r2
      have sC := HSc.out.1.below.size
      have BC := HSc.out.1.below
      cases c with
      | true =>
        have HNone : Hid (getEnt (bl bf) (bd.drop i0) = none) := by
          show getEnt (bl bf) (bd.drop i0) = none
          cases b7 with
          | true => exact HRd.out.1 rfl
          | false =>
            rw [HRd.out.2 rfl, if_pos]
            rcases hc.1 rfl with h | h | h
            · cases h
            · exact .inl h
            · exact .inr (.inl h)
        clear hc
        have HI : Hid (blkM xs ⟨fr, til, count, row⟩ = (3, [])) := by
          show blkM xs ⟨fr, til, count, row⟩ = (3, [])
          rw [HI0.out, HET.out.1.stop hlt HNone.out]; rfl
        have HW : Hid (OwnE (wc.alloc (Obj.cells #[] 25)) w.heap.size wc.heap.size 0 [] ∧ Below w.heap.size w (wc.alloc (Obj.cells #[] 25))) := ⟨World.ownsRow_made wc #[] 0 (by omega) (Nat.zero_le _) (by simp), (hb1.trans (BC.mono (by omega))).alloc (by omega) _⟩
        go_wp2_with fail
        go_ret2
        exact ⟨wc.heap.size, 0, 3, [], rfl, HI.out.symm, HW.out.1, fun e he => by simp at he, HW.out.2⟩
      | false =>
      have hcf : ¬ (b7 = true ∨ 2 < kind ∨ ¬ shared (bl bf) (bl rw') = n) := fun q => by have := hc.2 q; cases this
      have hb7f : b7 = false := by
        cases b7 with
        | true => exact absurd (.inl rfl) hcf
        | false => rfl
      subst hb7f
      have hkd : kind ≤ 2 := Nat.not_lt.1 (fun q => hcf (.inr (.inl q)))
      have hsn : shared (bl bf) (bl rw') = n := Decidable.not_not.1 (fun q => hcf (.inr (.inr q)))
      obtain ⟨en, hen⟩ : ∃ e : Ent, e = ⟨rw', fam, qual, (ts : Int), (kind : Int), val⟩ := ⟨_, rfl⟩
      have HRd2 : Hid (getEnt (bl bf) (bd.drop i0) = if en.vld = false then none else some (en, bd.drop i7)) := by
        show getEnt (bl bf) (bd.drop i0) = _
        rw [HRd.out.2 rfl, ← hen]
        by_cases q : en.vld = false
        · rw [if_pos (.inr (.inr q)), if_pos q]
        · rw [if_neg (by rintro (h | h | h); omega; exact h hsn; exact q h), if_neg q]
      have HEn : Hid (en = ⟨rw', fam, qual, (ts : Int), (kind : Int), val⟩) := hen
      clear hc hcf HRd hsn hen
      have f4 := HSc.out.2.frozen 4
      have r4 := HSc.out.2.cell (j := 4) rfl
      obtain ⟨V9, hV9⟩ : ∃ V : World, V = wc.setCell ⟨E, 4, none⟩ (.int .i64 (kind : Int)) := ⟨_, rfl⟩
      have HS9 : Hid (JS W1 R [.slice (some ⟨b, off + fr, none⟩) m c2, .int .i64 (i7 : Int), .bool false] g cp l V9 ∧ BoxAt V9 W1.heap.size 25 6 E [.string rw', .string fam, .string qual, .int .u64 (ts : Int), .int .i64 (kind : Int), .string val]) := by
        rw [hV9]
        exact ⟨HSc.out.1.beside (fun q => hER q.symm) (fun q => hEg q.symm) hE1 4 _, HSc.out.2.set 4 _⟩
      go_upto_region 36 with fail
      rw [← hV9]
      clear hV9 f4 r4 HSc sC BC
      have r0 := HS9.out.2.cell (j := 0) rfl
      have r1 := HS9.out.2.cell (j := 1) rfl
      have r2 := HS9.out.2.cell (j := 2) rfl
      have r3 := HS9.out.2.cell (j := 3) rfl
      have r4 := HS9.out.2.cell (j := 4) rfl
      have r5 := HS9.out.2.cell (j := 5) rfl
      have hvc := specValid_core rw' fam qual val (ts : Int) (kind : Int) V9 (by unfold maxLen; omega) (by unfold maxLen; omega) (by unfold maxLen; omega) (by unfold maxLen; omega)
      obtain ⟨vd, hvd⟩ : ∃ v : Bool, v = vE rw' fam qual (kind : Int) val := ⟨_, rfl⟩
      have HVd : Hid (en.vld = vd) := by rw [HEn.out, hvd]; exact rfl
      rw [← hvd] at hvc
      clear hvd
      go_wp2_with fail
      clear r0 r1 r2 r3 r4 r5
      refine hvc.mono ?_
      rintro e u10 ⟨rfl, hb10⟩
      have HS10 : Hid (JS W1 R [.slice (some ⟨b, off + fr, none⟩) m c2, .int .i64 (i7 : Int), .bool false] g cp l u10 ∧ BoxAt u10 W1.heap.size 25 6 E [.string rw', .string fam, .string qual, .int .u64 (ts : Int), .int .i64 (kind : Int), .string val]) := ⟨HS9.out.1.call hb10, HS9.out.2.below hb10⟩
      clear hvc hb10 HS9
      have sC := HS10.out.1.below.size
      have BC := HS10.out.1.below
      cases vd with
      | false =>
        have HNone : Hid (getEnt (bl bf) (bd.drop i0) = none) := by
          show getEnt (bl bf) (bd.drop i0) = none
          rw [HRd2.out, if_pos HVd.out]
        have HI : Hid (blkM xs ⟨fr, til, count, row⟩ = (3, [])) := by
          show blkM xs ⟨fr, til, count, row⟩ = (3, [])
          rw [HI0.out, HET.out.1.stop hlt HNone.out]; rfl
        have HW : Hid (OwnE (u10.alloc (Obj.cells #[] 25)) w.heap.size u10.heap.size 0 [] ∧ Below w.heap.size w (u10.alloc (Obj.cells #[] 25))) := ⟨World.ownsRow_made u10 #[] 0 (by omega) (Nat.zero_le _) (by simp), (hb1.trans (BC.mono (by omega))).alloc (by omega) _⟩
        go_wp2_with fail
        go_ret2
        exact ⟨u10.heap.size, 0, 3, [], rfl, HI.out.symm, HW.out.1, fun e he => by simp at he, HW.out.2⟩
      | true =>
        have HSome : Hid (getEnt (bl bf) (bd.drop i0) = some (en, bd.drop i7)) := by
          show getEnt (bl bf) (bd.drop i0) = _
          rw [HRd2.out, if_neg (by rw [HVd.out]; decide)]
        have r0 := HS10.out.2.cell (j := 0) rfl
        have r1 := HS10.out.2.cell (j := 1) rfl
        have r2 := HS10.out.2.cell (j := 2) rfl
        have r3 := HS10.out.2.cell (j := 3) rfl
        have r4 := HS10.out.2.cell (j := 4) rfl
        have r5 := HS10.out.2.cell (j := 5) rfl
        obtain ⟨WD, hWD⟩ : ∃ V : World, V = u10.alloc (Obj.cells #[.string rw', .string fam, .string qual, .int .u64 (ts : Int), .int .i64 (kind : Int), .string val] 25) := ⟨_, rfl⟩
        have hbD : Below u10.heap.size u10 WD := by rw [hWD]; exact (Below.refl _ _).alloc (Nat.le_refl _) _
        have zD : WD.heap.size = u10.heap.size + 1 := by rw [hWD]; simp
        have HTD : Hid (JS W1 R [.slice (some ⟨b, off + fr, none⟩) m c2, .int .i64 (i7 : Int), .bool false] g cp l WD ∧ EntsAt WD u10.heap.size 0 [en]) := by
          refine ⟨HS10.out.1.call hbD, ?_⟩
          rw [hWD, HEn.out]
          exact ent_box u10 ⟨rw', fam, qual, (ts : Int), (kind : Int), val⟩
        have sD := HTD.out.1.below.size
        clear hbD
        go_wp2_with (at_builtin; rw [← hWD]; refine wpList_append_entA _ rfl _ _ rfl W1.heap.size g cp l.length u10.heap.size 1 1 l [en] rfl rfl rfl rfl ?hO ?hc ?hl ?hb ?_)
        case hO => first | exact HTD.out.1.row | (rw [← hWD]; exact HTD.out.1.row)
        case hc => first | exact HTD.out.2 | (rw [← hWD]; exact HTD.out.2)
        case hl => first | omega | (simp; omega)
        case hb => first | exact sD | omega
        intro g' cp' wE hOE hgrE hatE
        try rw [← hWD] at hgrE
        try rw [← z1] at hOE
        have hatE2 : g' = g ∨ g' = WD.heap.size := by
          rcases hatE with h | h
          · exact .inl h
          · right
            first | exact h | (rw [h, zD])
        have HTE : Hid (JS W1 R [.slice (some ⟨b, off + fr, none⟩) m c2, .int .i64 (i7 : Int), .bool false] g' cp' (l ++ [en]) wE) := HTD.out.1.app hOE hgrE hatE2
        have HEE : Hid (EntsTo count bd (k + 1) (l ++ [en]) (bl rw') (bd.drop i7) ∧ ∀ e ∈ l ++ [en], e.ok) := by
          refine ⟨?_, ?_⟩
          · have h := HET.out.1.more hlt HSome.out
            have hr : en.row = rw' := by rw [HEn.out]
            rw [hr] at h
            exact h
          · intro e he
            rcases List.mem_append.1 he with he | he
            · exact HET.out.2 e he
            · simp at he
              subst he
              refine ok_of_read HVd.out ?_ ?_
              · rw [HEn.out]; show (0 : Int) ≤ (ts : Int); omega
              · rw [HEn.out]; show (ts : Int) < _; omega
        have hr64 : rw'.size ≤ 64 := by
          have h := (vld_parts HVd.out).2.1
          rw [HEn.out] at h
          exact h
        have hle : l.length + 1 = (l ++ [en]).length := by simp
        rw [hle]
        clear hOE hgrE hatE hatE2 hWD HTD sD zD r0 r1 r2 r3 r4 r5 HS10 HSome HRd2
        go_wp2_with fail
        go_roundw
        case rel => exact ⟨k + 1, i7, g', cp', rw', l ++ [en], by simp, rfl, by go_num, HEE.out.1, hi7, hr64, HEE.out.2, HTE.out⟩
        case measure => simp [intOf]; omega
    · obtain rfl : k = count := by omega
      have hl1 : 1 ≤ l.length := by have := HET.out.1.2.1; omega
      obtain ⟨e0, he0⟩ : ∃ e0, l[0]? = some e0 := ⟨_, List.getElem?_eq_getElem (by omega)⟩
      have hrow0 : row0 l = bl e0.row := by
        cases l with
        | nil => simp at he0
        | cons x t => simp at he0; subst he0; rfl
      have c0 : wr.cell? ⟨g, 0, none⟩ = some (.string e0.row) := by
        have := (HJ.out.row.at 0 e0 he0).1
        simpa using this
      have ks := (HKw.out wr HJ.out.below).2.2
      have r1 := HJ.out.box.cell (j := 1) rfl
      have HD : Hid (blkM xs ⟨fr, til, k, row⟩ = if bd.drop i0 ≠ [] ∨ bl e0.row ≠ bl row then (3, []) else (0, l)) := by
        show blkM xs ⟨fr, til, k, row⟩ = _
        rw [HI0.out, HET.out.1.done, ← hrow0]; rfl
      have hdr : (bd.drop i0 = []) ↔ i0 = m := by
        rw [List.drop_eq_nil_iff, HX.out]
        omega
      have HDr : Hid (((bd.drop i0 = []) ↔ i0 = m) ∧ ∀ e ∈ l, e.ok) := ⟨hdr, HET.out.2⟩
      clear hdr hrow0 he0 HET HI0
      have zl : (0 : Int) < (l.length : Int) := by omega
      go_upto_region 40 with fail
      go_cut [144] (fun s wx => ∃ c : Bool, s = .bool c ∧ (c = true ↔ ¬ i0 = m ∨ ¬ e0.row = row) ∧ Below wr.heap.size wr wx)
      case first =>
        by_cases hi : i0 = m
        · subst hi
          by_cases hr : e0.row = row
          · subst hr
            go_region
            all_goals go_wp2_with fail
            all_goals go_meet
            all_goals exact ⟨false, by simp, by simp, (Below.refl _ _).drew⟩
          · have hne : (e0.row.toList == row.toList) = false := by
              rw [beq_eq_false_iff_ne]
              exact fun q => hr (toList_inj q)
            go_region
            all_goals go_wp2_with fail
            all_goals go_meet
            all_goals exact ⟨true, by simp [hne], by simp [hr], (Below.refl _ _).drew⟩
        · have y5 : ¬ (i0 : Int) = (m : Int) := by omega
          have y6 : ((i0 : Int) != (m : Int)) = true := by rw [bne_iff_ne]; exact y5
          go_region
          all_goals go_wp2_with fail
          all_goals go_meet
          all_goals exact ⟨true, by simp, by simp [hi], (Below.refl _ _).drew⟩
      case rest =>
      obtain ⟨c, rfl, hc, hbc⟩ := hcut
      have HJc := HJ.out.call hbc
      have HJ2 : Hid (OwnE wc W1.heap.size g cp l ∧ Below W1.heap.size W1 wc) := ⟨HJc.row, HJc.below⟩
      have sC := HJc.below.size
      clear c0 ks r1 hbc HJc HJ
      cases c with
      | true =>
        have HI : Hid (blkM xs ⟨fr, til, k, row⟩ = (3, [])) := by
          show blkM xs ⟨fr, til, k, row⟩ = (3, [])
          rw [HD.out, if_pos]
          rcases hc.1 rfl with h | h
          · exact .inl (fun q => h (HDr.out.1.1 q))
          · exact .inr (fun q => h (bytes_inj q))
        have HW : Hid (OwnE (wc.alloc (Obj.cells #[] 25)) w.heap.size wc.heap.size 0 [] ∧ Below w.heap.size w (wc.alloc (Obj.cells #[] 25))) := ⟨World.ownsRow_made wc #[] 0 (by omega) (Nat.zero_le _) (by simp), (hb1.trans (HJ2.out.2.mono (by omega))).alloc (by omega) _⟩
        clear hc
        go_wp2_with fail
        go_ret2
        exact ⟨wc.heap.size, 0, 3, [], rfl, HI.out.symm, HW.out.1, fun e he => by simp at he, HW.out.2⟩
      | false =>
        have hcf : ¬ (¬ i0 = m ∨ ¬ e0.row = row) := fun q => by have := hc.2 q; cases this
        have HI : Hid (blkM xs ⟨fr, til, k, row⟩ = (0, l)) := by
          show blkM xs ⟨fr, til, k, row⟩ = (0, l)
          rw [HD.out, if_neg]
          rintro (h | h)
          · exact h (HDr.out.1.2 (Decidable.not_not.1 (fun q => hcf (.inl q))))
          · refine hcf (.inr (fun q => h (by rw [q])))
        have HW : Hid (OwnE wc w.heap.size g cp l ∧ Below w.heap.size w wc) := ⟨OwnE.mono HJ2.out.1 (by omega), hb1.trans (HJ2.out.2.mono (by omega))⟩
        clear hc hcf
        go_wp2_with fail
        go_ret2
        exact ⟨g, cp, 0, l, rfl, HI.out.symm, HW.out.1, HDr.out.2, HW.out.2⟩
end Go.Proofs.YtnncedndlhfdkabDoor

/-
  (*impl.byteReader).entry.
-/
namespace Go.Proofs.YtnncedndlhfdkabDoor
open Go.ChangeShapes Go.WideShapes Go.ChangeAt Go.RowKit Go.Deep
set_option linter.unusedVariables false
set_option linter.unusedSimpArgs false
set_option maxRecDepth 100000

theorem Chg.put {S : Nat → Prop} {a w : World} {g : Nat} (h : Chg S a w) (hs : S g) (j : Nat) (u : Value) : Chg S a (w.setCell ⟨g, j, none⟩ u) := h.trans (Chg.of_set w g j u hs)
def EntP (w : World) (base g b : Nat) (bf : ByteArray) (xs : List UInt8) (code : Int) (e : Ending) (w' : World) : Prop :=
  Chg (fun k => k = g) w w' ∧ ((∃ (x : Ent) (t : List UInt8), getEnt (bl bf) xs = some (x, t) ∧ e = .returned x.v ∧ x.ok ∧ t.length ≤ xs.length ∧ RdE w' base g b t code) ∨ (getEnt (bl bf) xs = none ∧ e = Corr code))
/-- The state between two readings of 'entry': the reader before 't', the result's variable, the entry's. -/
structure EntJ (w W : World) (base g b : Nat) (t xs : List UInt8) (code : Int) (vs : List Value) : Prop where
  rd : RdE W base g b t code
  len : t.length ≤ xs.length
  res : BoxAt W w.heap.size 25 6 w.heap.size [.string ⟨#[]⟩, .string ⟨#[]⟩, .string ⟨#[]⟩, .int .u64 0, .int .i64 0, .string ⟨#[]⟩]
  ent : BoxAt W w.heap.size 25 6 (w.heap.size + 1) vs
  chg : Chg (fun k => k = g) w W
theorem EntJ.read {w W W' : World} {base g b : Nat} {t t' xs : List UInt8} {code : Int} {vs : List Value} (h : EntJ w W base g b t xs code vs) (hg : g < w.heap.size) (hc : Chg (fun k => k = g) W W') (hr : RdE W' base g b t' code) (hl : t'.length ≤ t.length) : EntJ w W' base g b t' xs code vs :=
  ⟨hr, Nat.le_trans hl h.len, h.res.chg hc (by omega), h.ent.chg hc (by omega), h.chg.trans hc⟩
theorem EntJ.set {w W : World} {base g b : Nat} {t xs : List UInt8} {code : Int} {vs : List Value} (h : EntJ w W base g b t xs code vs) (hg : g < w.heap.size) (hb : b < w.heap.size) (j : Nat) (u : Value) : EntJ w (W.setCell ⟨w.heap.size + 1, j, none⟩ u) base g b t xs code (vs.set j u) := by
  have hs := h.chg.size
  refine ⟨h.rd.chg (Chg.of_set W (w.heap.size + 1) j u (S := fun k => k = w.heap.size + 1) rfl) (by omega) (by omega), h.len, h.res.beside (by omega) j u, h.ent.set j u, ?_⟩
  exact ⟨h.chg.os, h.chg.tape, h.chg.output, by simp only [World.setCell]; have := h.chg.size; simp; omega, fun k hk hn => (Below.heap_setCell _ _ _ _ (by simp; omega)).trans (h.chg.block k hk hn)⟩

set_option maxHeartbeats 8000000 in
theorem rdEntry_core (base g b : Nat) (bf : ByteArray) (xs : List UInt8) (code : Int) (w : World) (h : RdE w base g b xs code) (hg : g < w.heap.size) (hb : b < w.heap.size) (hbf : bf.size ≤ 2 ^ 31) (hxs : xs.length ≤ 2 ^ 30) :
    Calls Tryd.prog 31 #[.pointer (some ⟨g, 0, none⟩), .string bf] w fun e w' => EntP w base g b bf xs code e w' := by
  obtain ⟨W, hW⟩ : ∃ W : World, W = (w.alloc (Obj.cells #[.string ⟨#[]⟩, .string ⟨#[]⟩, .string ⟨#[]⟩, .int .u64 0, .int .i64 0, .string ⟨#[]⟩] 25)).alloc (Obj.cells #[.string ⟨#[]⟩, .string ⟨#[]⟩, .string ⟨#[]⟩, .int .u64 0, .int .i64 0, .string ⟨#[]⟩] 25) := ⟨_, rfl⟩
  have HJ : Hid (EntJ w W base g b xs xs code [.string ⟨#[]⟩, .string ⟨#[]⟩, .string ⟨#[]⟩, .int .u64 0, .int .i64 0, .string ⟨#[]⟩]) := by
    have hbW : Below w.heap.size w W := by rw [hW]; exact ((Below.refl _ _).alloc (Nat.le_refl _) _).alloc (by simp) _
    refine ⟨h.chg (S := fun _ => False) (Chg.of_below hbW) (fun q => q) (fun q => q), Nat.le_refl _, ?_, ?_, Chg.of_below hbW⟩
    · rw [hW]
      exact (boxAt_new w _ (Nat.le_refl _) rfl).below ((Below.refl _ _).alloc (Nat.le_refl _) _)
    · rw [hW]
      have := boxAt_new (w.alloc (Obj.cells #[.string ⟨#[]⟩, .string ⟨#[]⟩, .string ⟨#[]⟩, .int .u64 0, .int .i64 0, .string ⟨#[]⟩] 25)) (base := w.heap.size) (t := 25) (sz := 6) #[.string ⟨#[]⟩, .string ⟨#[]⟩, .string ⟨#[]⟩, .int .u64 0, .int .i64 0, .string ⟨#[]⟩] (by simp) rfl
      simpa using this
  clear h
  go_enter Tryd.func31, Tryd.ntmps31
  go_upto_region 2 with fail
  rw [← hW]
  clear hW
  go_wp2_with fail
  refine (rdRow_core base g b bf xs code W HJ.out.rd hbf hxs).mono ?_
  rintro e w1 ⟨hC1, (⟨row, t1, hr1, rfl, hs1, hl1, hR1⟩ | ⟨hr1, rfl⟩)⟩
  case inr =>
    exact ⟨rfl, HJ.out.chg.trans hC1, .inr ⟨by rw [getEnt_row, hr1], rfl⟩⟩
  have HE1 : Hid (getEnt (bl bf) xs = eT1 (bl row) t1) := by
    show getEnt (bl bf) xs = _
    rw [getEnt_row, hr1]
  have hrow : row.size ≤ 4294967296 := by omega
  have HJ1 : Hid (EntJ w w1 base g b t1 xs code [.string ⟨#[]⟩, .string ⟨#[]⟩, .string ⟨#[]⟩, .int .u64 0, .int .i64 0, .string ⟨#[]⟩]) := HJ.out.read hg hC1 hR1 hl1
  clear hC1 hr1 hs1 hl1 hR1 HJ
  have k0 := HJ1.out.ent.cell (j := 0) rfl
  have f0 := HJ1.out.ent.frozen 0
  obtain ⟨V1, hV1⟩ : ∃ V1 : World, V1 = w1.setCell ⟨w.heap.size + 1, 0, none⟩ (.string row) := ⟨_, rfl⟩
  have HK1 : Hid (EntJ w V1 base g b t1 xs code [.string row, .string ⟨#[]⟩, .string ⟨#[]⟩, .int .u64 0, .int .i64 0, .string ⟨#[]⟩]) := by rw [hV1]; exact HJ1.out.set hg hb 0 _
  go_upto_region 3 with fail
  rw [← hV1]
  clear hV1 k0 f0 HJ1
  -- fam
  go_wp2_with fail
  refine (text_core base g b t1 code V1 HK1.out.rd).mono ?_
  rintro e w2 ⟨hC2, (⟨fam, t2, hr2, rfl, hs2, hR2⟩ | ⟨hr2, rfl⟩)⟩
  case inr =>
    exact ⟨rfl, HK1.out.chg.trans hC2, .inr ⟨by rw [HE1.out]; unfold eT1; rw [hr2], rfl⟩⟩
  have hl1 := HK1.out.len
  have HE2 : Hid (getEnt (bl bf) xs = eT2 (bl row) (bl fam) t2) := by
    show getEnt (bl bf) xs = _
    rw [HE1.out]; unfold eT1; rw [hr2]
  have hfam : fam.size ≤ 4294967296 := by omega
  have HJ2 : Hid (EntJ w w2 base g b t2 xs code [.string row, .string ⟨#[]⟩, .string ⟨#[]⟩, .int .u64 0, .int .i64 0, .string ⟨#[]⟩]) := HK1.out.read hg hC2 hR2 (by omega)
  clear hC2 hr2 hs2 hR2 HK1 HE1 hl1
  have k0 := HJ2.out.ent.cell (j := 1) rfl
  have f0 := HJ2.out.ent.frozen 1
  obtain ⟨V2, hV2⟩ : ∃ V2 : World, V2 = w2.setCell ⟨w.heap.size + 1, 1, none⟩ (.string fam) := ⟨_, rfl⟩
  have HK2 : Hid (EntJ w V2 base g b t2 xs code [.string row, .string fam, .string ⟨#[]⟩, .int .u64 0, .int .i64 0, .string ⟨#[]⟩]) := by rw [hV2]; exact HJ2.out.set hg hb 1 _
  go_upto_region 4 with fail
  rw [← hV2]
  clear hV2 k0 f0 HJ2
  -- qual
  go_wp2_with fail
  refine (text_core base g b t2 code V2 HK2.out.rd).mono ?_
  rintro e w3 ⟨hC3, (⟨qual, t3, hr3, rfl, hs3, hR3⟩ | ⟨hr3, rfl⟩)⟩
  case inr =>
    exact ⟨rfl, HK2.out.chg.trans hC3, .inr ⟨by rw [HE2.out]; unfold eT2; rw [hr3], rfl⟩⟩
  have hl2 := HK2.out.len
  have HE3 : Hid (getEnt (bl bf) xs = eT3 (bl row) (bl fam) (bl qual) t3) := by
    show getEnt (bl bf) xs = _
    rw [HE2.out]; unfold eT2; rw [hr3]
  have hqual : qual.size ≤ 4294967296 := by omega
  have HJ3 : Hid (EntJ w w3 base g b t3 xs code [.string row, .string fam, .string ⟨#[]⟩, .int .u64 0, .int .i64 0, .string ⟨#[]⟩]) := HK2.out.read hg hC3 hR3 (by omega)
  clear hC3 hr3 hs3 hR3 HK2 HE2 hl2
  have k0 := HJ3.out.ent.cell (j := 2) rfl
  have f0 := HJ3.out.ent.frozen 2
  obtain ⟨V3, hV3⟩ : ∃ V3 : World, V3 = w3.setCell ⟨w.heap.size + 1, 2, none⟩ (.string qual) := ⟨_, rfl⟩
  have HK3 : Hid (EntJ w V3 base g b t3 xs code [.string row, .string fam, .string qual, .int .u64 0, .int .i64 0, .string ⟨#[]⟩]) := by rw [hV3]; exact HJ3.out.set hg hb 2 _
  go_upto_region 5 with fail
  rw [← hV3]
  clear hV3 k0 f0 HJ3
  -- ts
  go_wp2_with fail
  refine (number_core base g b t3 code V3 HK3.out.rd).mono ?_
  rintro e w4 ⟨hC4, (⟨ts, t4, hr4, rfl, hts, hs4, hR4⟩ | ⟨hr4, rfl⟩)⟩
  case inr =>
    exact ⟨rfl, HK3.out.chg.trans hC4, .inr ⟨by rw [HE3.out]; unfold eT3; rw [hr4], rfl⟩⟩
  have HE4 : Hid (getEnt (bl bf) xs = eT4 (bl row) (bl fam) (bl qual) ts t4) := by
    show getEnt (bl bf) xs = _
    rw [HE3.out]; unfold eT3; rw [hr4]
  have HTs : Hid (ts < 2 ^ 64) := hts
  have HJ4 : Hid (EntJ w w4 base g b t4 xs code [.string row, .string fam, .string qual, .int .u64 0, .int .i64 0, .string ⟨#[]⟩]) := HK3.out.read hg hC4 hR4 hs4
  clear hC4 hr4 hs4 hR4 HK3 HE3 hts
  have k0 := HJ4.out.ent.cell (j := 3) rfl
  have f0 := HJ4.out.ent.frozen 3
  obtain ⟨V4, hV4⟩ : ∃ V4 : World, V4 = w4.setCell ⟨w.heap.size + 1, 3, none⟩ (.int .u64 (ts : Int)) := ⟨_, rfl⟩
  have HK4 : Hid (EntJ w V4 base g b t4 xs code [.string row, .string fam, .string qual, .int .u64 (ts : Int), .int .i64 0, .string ⟨#[]⟩]) := by rw [hV4]; exact HJ4.out.set hg hb 3 _
  go_upto_region 6 with fail
  rw [← hV4]
  clear hV4 k0 f0 HJ4
  -- kind
  go_wp2_with fail
  refine (number_core base g b t4 code V4 HK4.out.rd).mono ?_
  rintro e w5 ⟨hC5, (⟨kn, t5, hr5, rfl, hkn, hs5, hR5⟩ | ⟨hr5, rfl⟩)⟩
  case inr =>
    exact ⟨rfl, HK4.out.chg.trans hC5, .inr ⟨by rw [HE4.out]; unfold eT4; rw [hr5], rfl⟩⟩
  obtain ⟨kz, hkz⟩ : ∃ kz, kz = RowKit.wrap64 (kn : Int) := ⟨_, rfl⟩
  have HE5 : Hid (getEnt (bl bf) xs = eT5 (bl row) (bl fam) (bl qual) ts kn t5) := by
    show getEnt (bl bf) xs = _
    rw [HE4.out]; unfold eT4; rw [hr5]
  have HKn : Hid (kn < 2 ^ 64 ∧ kz = RowKit.wrap64 (kn : Int)) := ⟨hkn, hkz⟩
  have HJ5 : Hid (EntJ w w5 base g b t5 xs code [.string row, .string fam, .string qual, .int .u64 (ts : Int), .int .i64 0, .string ⟨#[]⟩]) := HK4.out.read hg hC5 hR5 hs5
  clear hC5 hr5 hs5 hR5 HK4 HE4 hkn
  have k0 := HJ5.out.ent.cell (j := 4) rfl
  have f0 := HJ5.out.ent.frozen 4
  obtain ⟨V5, hV5⟩ : ∃ V5 : World, V5 = w5.setCell ⟨w.heap.size + 1, 4, none⟩ (.int .i64 kz) := ⟨_, rfl⟩
  have HK5 : Hid (EntJ w V5 base g b t5 xs code [.string row, .string fam, .string qual, .int .u64 (ts : Int), .int .i64 kz, .string ⟨#[]⟩]) := by rw [hV5]; exact HJ5.out.set hg hb 4 _
  rw [hkz] at hV5
  clear hkz
  go_upto_region 7 with fail
  rw [← hV5]
  rw [← HKn.out.2]
  clear hV5 k0 f0 HJ5
  -- val
  go_wp2_with fail
  refine (text_core base g b t5 code V5 HK5.out.rd).mono ?_
  rintro e w6 ⟨hC6, (⟨val, t6, hr6, rfl, hs6, hR6⟩ | ⟨hr6, rfl⟩)⟩
  case inr =>
    exact ⟨rfl, HK5.out.chg.trans hC6, .inr ⟨by rw [HE5.out]; unfold eT5; rw [hr6], rfl⟩⟩
  have hl5 := HK5.out.len
  have hval : val.size ≤ 4294967296 := by omega
  have HJ6 : Hid (EntJ w w6 base g b t6 xs code [.string row, .string fam, .string qual, .int .u64 (ts : Int), .int .i64 kz, .string ⟨#[]⟩]) := HK5.out.read hg hC6 hR6 (by omega)
  obtain ⟨x, hx⟩ : ∃ x : Ent, x = ⟨row, fam, qual, (ts : Int), kz, val⟩ := ⟨_, rfl⟩
  have HE6 : Hid (getEnt (bl bf) xs = if x.vld = true then some (x, t6) else none) := by
    show getEnt (bl bf) xs = _
    rw [HE5.out]; unfold eT5; rw [hr6]
    simp only [ba_bl]
    by_cases hk2 : kn ≤ 2
    · have e1 : kz = (kn : Int) := by
        rw [HKn.out.2]
        unfold RowKit.wrap64
        omega
      rw [hx, e1]
      by_cases hv : (⟨row, fam, qual, (ts : Int), (kn : Int), val⟩ : Ent).vld = true
      · rw [if_pos hv, if_neg]
        rw [hv]; rintro (q | q)
        · omega
        · cases q
      · rw [if_neg hv, if_pos (.inr (by simpa using hv))]
    · have e2 : kz < 0 ∨ 2 < kz := by
        have := HKn.out.1
        rw [HKn.out.2]
        unfold RowKit.wrap64
        omega
      rw [if_pos (.inl (by omega)), if_neg]
      rw [hx]
      unfold Ent.vld
      rw [vE_kind e2]
      simp
  have HX : Hid (x = ⟨row, fam, qual, (ts : Int), kz, val⟩) := hx
  clear hC6 hr6 hs6 hR6 HK5 HE5 hl5 hx
  have k0 := HJ6.out.ent.cell (j := 5) rfl
  have f0 := HJ6.out.ent.frozen 5
  obtain ⟨V6, hV6⟩ : ∃ V6 : World, V6 = w6.setCell ⟨w.heap.size + 1, 5, none⟩ (.string val) := ⟨_, rfl⟩
  have HK6 : Hid (EntJ w V6 base g b t6 xs code [.string row, .string fam, .string qual, .int .u64 (ts : Int), .int .i64 kz, .string val]) := by rw [hV6]; exact HJ6.out.set hg hb 5 _
  go_upto_region 8 with fail
  rw [← hV6]
  clear hV6 k0 f0 HJ6
  have elt := HK6.out.ent.lt.2
  have q0 : ∀ n : Out V6, n.u.cell? ⟨w.heap.size + 1, 0, none⟩ = some (.string row) := fun n => (n.out.cell (p := ⟨w.heap.size + 1, 0, none⟩) elt).trans (HK6.out.ent.cell (j := 0) rfl)
  have q1 : ∀ n : Out V6, n.u.cell? ⟨w.heap.size + 1, 1, none⟩ = some (.string fam) := fun n => (n.out.cell (p := ⟨w.heap.size + 1, 1, none⟩) elt).trans (HK6.out.ent.cell (j := 1) rfl)
  have q2 : ∀ n : Out V6, n.u.cell? ⟨w.heap.size + 1, 2, none⟩ = some (.string qual) := fun n => (n.out.cell (p := ⟨w.heap.size + 1, 2, none⟩) elt).trans (HK6.out.ent.cell (j := 2) rfl)
  have q3 : ∀ n : Out V6, n.u.cell? ⟨w.heap.size + 1, 3, none⟩ = some (.int .u64 (ts : Int)) := fun n => (n.out.cell (p := ⟨w.heap.size + 1, 3, none⟩) elt).trans (HK6.out.ent.cell (j := 3) rfl)
  have q4 : ∀ n : Out V6, n.u.cell? ⟨w.heap.size + 1, 4, none⟩ = some (.int .i64 kz) := fun n => (n.out.cell (p := ⟨w.heap.size + 1, 4, none⟩) elt).trans (HK6.out.ent.cell (j := 4) rfl)
  have q5 : ∀ n : Out V6, n.u.cell? ⟨w.heap.size + 1, 5, none⟩ = some (.string val) := fun n => (n.out.cell (p := ⟨w.heap.size + 1, 5, none⟩) elt).trans (HK6.out.ent.cell (j := 5) rfl)
  have e1 : ∀ n : Out V6, n.u.cell? ⟨g, 1, none⟩ = some (.int .i64 code) := by
    obtain ⟨off, cap, hA⟩ := HK6.out.rd
    exact fun n => (n.out.cell (p := ⟨g, 1, none⟩) hA.box.lt.2).trans (hA.box.cell (j := 1) rfl)
  have HV : Hid (∀ w', Calls Tryd.prog 41 #[.agg #[.string row, .string fam, .string qual, .int .u64 (ts : Int), .int .i64 kz, .string val]] w' fun e w'' => e = .returned (.bool x.vld) ∧ Below w'.heap.size w' w'') := fun w' => by
    rw [HX.out]
    exact implValid_core row fam qual val (ts : Int) kz w' (by unfold maxLen; omega) (by unfold maxLen; omega) (by unfold maxLen; omega) (by unfold maxLen; omega)
  clear elt
  by_cases hv : x.vld = true
  · have h6 := HE6.out
    rw [if_pos hv] at h6
    rw [hv] at HV
    have HF : Hid (getEnt (bl bf) xs = some (x, t6)) := h6
    have HOk : Hid x.ok := by
      refine ok_of_read hv ?_ ?_
      · rw [HX.out]; show (0 : Int) ≤ (ts : Int); omega
      · rw [HX.out]; show (ts : Int) < 18446744073709551616; have := HTs.out; omega
    clear h6 HE6 hv
    refine wp_region_out (by kernel_rfl) (by kernel_rfl) ?_
    repeat (go_big_quiet_step ((first | rfl | (go_at_call 41; exact Calls.out_of (HV.out _)) | (go_at_call 26; exact Calls.out_of ((demand_yes _ _).mono fun e w' ⟨he, hw⟩ => ⟨he, hw ▸ Below.refl _ _⟩)))))
    refine wpQuiet_nil ?_
    rintro wy ⟨⟨wx, hby⟩, rfl⟩
    have HJ7 : Hid (EntJ w wy base g b t6 xs code [.string row, .string fam, .string qual, .int .u64 (ts : Int), .int .i64 kz, .string val]) := by
      obtain ⟨off, cap, hA⟩ := HK6.out.rd
      exact ⟨⟨off, cap, hA.chg (S := fun _ => False) (Chg.of_below hby) (fun q => q) (fun q => q)⟩, HK6.out.len, HK6.out.res.below hby, HK6.out.ent.below hby, HK6.out.chg.trans (Chg.of_below hby)⟩
    clear q0 q1 q2 q3 q4 q5 e1 hby HK6 HV
    have q0 := HJ7.out.ent.cell (j := 0) rfl
    have q1 := HJ7.out.ent.cell (j := 1) rfl
    have q2 := HJ7.out.ent.cell (j := 2) rfl
    have q3 := HJ7.out.ent.cell (j := 3) rfl
    have q4 := HJ7.out.ent.cell (j := 4) rfl
    have q5 := HJ7.out.ent.cell (j := 5) rfl
    have r0 := HJ7.out.res.cell (j := 0) rfl
    have r1 := HJ7.out.res.cell (j := 1) rfl
    have r2 := HJ7.out.res.cell (j := 2) rfl
    have r3 := HJ7.out.res.cell (j := 3) rfl
    have r4 := HJ7.out.res.cell (j := 4) rfl
    have r5 := HJ7.out.res.cell (j := 5) rfl
    have f0 := HJ7.out.res.frozen 0
    have f1 := HJ7.out.res.frozen 1
    have f2 := HJ7.out.res.frozen 2
    have f3 := HJ7.out.res.frozen 3
    have f4 := HJ7.out.res.frozen 4
    have f5 := HJ7.out.res.frozen 5
    obtain ⟨W7, hW7⟩ : ∃ W7 : World, W7 = (((((wy.setCell ⟨w.heap.size, 0, none⟩ (.string row)).setCell ⟨w.heap.size, 1, none⟩ (.string fam)).setCell ⟨w.heap.size, 2, none⟩ (.string qual)).setCell ⟨w.heap.size, 3, none⟩ (.int .u64 (ts : Int))).setCell ⟨w.heap.size, 4, none⟩ (.int .i64 kz)).setCell ⟨w.heap.size, 5, none⟩ (.string val) := ⟨_, rfl⟩
    have hB7 : BoxAt W7 w.heap.size 25 6 w.heap.size [.string row, .string fam, .string qual, .int .u64 (ts : Int), .int .i64 kz, .string val] := by
      rw [hW7]
      exact (((((HJ7.out.res.set 0 _).set 1 _).set 2 _).set 3 _).set 4 _).set 5 _
    have hS7 : Chg (fun k => k = w.heap.size) wy W7 := by
      rw [hW7]
      exact ((((((Chg.refl (fun k => k = w.heap.size) wy).put (g := w.heap.size) rfl 0 _).put (g := w.heap.size) rfl 1 _).put (g := w.heap.size) rfl 2 _).put (g := w.heap.size) rfl 3 _).put (g := w.heap.size) rfl 4 _).put (g := w.heap.size) rfl 5 _
    have hC7 : Chg (fun k => k = g) w W7 := by
      have h1 := HJ7.out.chg
      exact ⟨hS7.os.trans h1.os, hS7.tape.trans h1.tape, hS7.output.trans h1.output, Nat.le_trans h1.size hS7.size, fun k hk hn => (hS7.block k (Nat.lt_of_lt_of_le hk h1.size) (by omega)).trans (h1.block k hk hn)⟩
    have hR7 : RdE W7 base g b t6 code := HJ7.out.rd.chg hS7 (by omega) (by omega)
    have p0 := hB7.cell (j := 0) rfl
    have p1 := hB7.cell (j := 1) rfl
    have p2 := hB7.cell (j := 2) rfl
    have p3 := hB7.cell (j := 3) rfl
    have p4 := hB7.cell (j := 4) rfl
    have p5 := hB7.cell (j := 5) rfl
    go_wp2_with fail
    rw [← hW7]
    exact bodyPost_ret (v := x.v) (by rw [HX.out]; simp [results, Tryd.results31, go_sem, p0, p1, p2, p3, p4, p5]) rfl ⟨hC7, .inl ⟨x, t6, HF.out, rfl, HOk.out, HJ7.out.len, hR7⟩⟩
  · have hvf : x.vld = false := by simpa using hv
    have h6 := HE6.out
    rw [if_neg hv] at h6
    rw [hvf] at HV
    have HF : Hid (getEnt (bl bf) xs = none) := h6
    clear h6 HE6 hv hvf
    refine wp_region_demand 33 28 (.tmp 32) code [(28, .bool false), (32, .int .i64 code)] rfl (fun m => by kernel_rfl) (by kernel_rfl) (fun a' h => ⟨h (28, _) (by simp), h (32, _) (by simp)⟩) ?q ?_
    case q => exact fun a' w' hb hd => ⟨hd, HK6.out.chg.trans (Chg.of_below hb), .inr ⟨HF.out, rfl⟩⟩
    intro m
    dsimp only [List.dropLast, fk, List.cons_append, List.nil_append]
    repeat (go_big_quiet_step ((first | rfl | (go_at_call 41; exact Calls.out_of (HV.out _)))))
    refine wpQuiet_nil ?_
    exact ⟨rfl, slots2 rfl rfl⟩
end Go.Proofs.YtnncedndlhfdkabDoor

/-
  (*impl.fileReader).entries.
-/
namespace Go.Proofs.YtnncedndlhfdkabDoor
open Go.ChangeShapes Go.WideShapes Go.ChangeAt Go.RowKit Go.Deep
set_option linter.unusedVariables false
set_option linter.unusedSimpArgs false
set_option maxRecDepth 100000

/-- What 'entries' answers. -/
def freM (sum count : Nat) (row body : List UInt8) : Int × List Ent :=
  if (crc body).toNat ≠ sum then (2, []) else entEnd row (getEnts count [] body)
def FreP (w : World) (r : Int × List Ent) (e : Ending) (w' : World) : Prop :=
  Below w.heap.size w w' ∧ ((r.1 = 0 ∧ ∃ g cp, e = .returned (.slice (some ⟨g, 0, none⟩) r.2.length cp) ∧ OwnE w' w.heap.size g cp r.2 ∧ (∀ x ∈ r.2, x.ok)) ∨ (r.1 ≠ 0 ∧ e = Corr r.1))
abbrev blkV (b off cap n sum count : Nat) (row : ByteArray) : List Value := [.slice (some ⟨b, off, none⟩) n cap, .int .u32 (sum : Int), .int .i64 (count : Int), .string row]
/-- Between two entries. -/
structure FreJ (w wr : World) (B rb b off cap n sum count : Nat) (row : ByteArray) (t : List UInt8) (g cp : Nat) (l : List Ent) : Prop where
  rd : RdE wr w.heap.size rb b t 3
  blk : BoxAt wr w.heap.size 51 4 w.heap.size (blkV b off cap n sum count row)
  ents : OwnE wr B g cp l
  below : Below w.heap.size w wr
  len : t.length ≤ n
  size : B ≤ wr.heap.size
theorem FreJ.read {w wr w' : World} {B rb b off cap n sum count : Nat} {row : ByteArray} {t t' : List UInt8} {g cp : Nat} {l : List Ent} (h : FreJ w wr B rb b off cap n sum count row t g cp l) (h0 : w.heap.size < rb) (h1 : rb < B) (hc : Chg (fun k => k = rb) wr w') (hr : RdE w' w.heap.size rb b t' 3) (hl : t'.length ≤ t.length) : FreJ w w' B rb b off cap n sum count row t' g cp l :=
  ⟨hr, h.blk.chg hc (by omega), h.ents.chg' hc (by have := h.ents.lt.1; omega), Chg.below h.below hc h.below.size (by omega), Nat.le_trans hl h.len, Nat.le_trans h.size hc.size⟩
theorem FreJ.grow {w wr w' : World} {B rb b off cap n sum count : Nat} {row : ByteArray} {t : List UInt8} {g cp : Nat} {l : List Ent} (h : FreJ w wr B rb b off cap n sum count row t g cp l) (hb : Below wr.heap.size wr w') : FreJ w w' B rb b off cap n sum count row t g cp l :=
  ⟨h.rd.chg (S := fun _ => False) (Chg.of_below hb) (fun q => q) (fun q => q), h.blk.below hb, h.ents.below hb h.ents.lt.2, h.below.trans (hb.mono h.below.size), h.len, Nat.le_trans h.size hb.size⟩
theorem FreJ.app {w wr w' : World} {B rb b off cap n sum count : Nat} {row : ByteArray} {t : List UInt8} {g cp g' cp' : Nat} {l l' : List Ent} (h : FreJ w wr B rb b off cap n sum count row t g cp l) (h0 : w.heap.size < rb) (h1 : rb < B) (hb : b < w.heap.size) (hO : OwnE w' B g' cp' l') (hg : wr.grownBy w' (some g)) : FreJ w w' B rb b off cap n sum count row t g' cp' l' := by
  have hlt := h.ents.lt.1
  have hc : Chg (fun k => k = g) wr w' := Chg.of_grown hg (fun k hk => by cases hk; rfl)
  exact ⟨h.rd.chg hc (by omega) (by omega), h.blk.chg hc (by omega), hO, h.below.grown hg h.below.size (fun k hk => by cases hk; omega), h.len, Nat.le_trans h.size hg.size⟩

set_option maxHeartbeats 8000000 in
theorem entries_core (fb b off cap sum count : Nat) (row : ByteArray) (body : List UInt8) (w : World) (hT : TabAt w fb 0) (hfb : fb < w.heap.size) (hE : BysAt w b off body) (hb : b < w.heap.size) (hl : body.length ≤ 2 ^ 30) (hr : body.length < cap) (hcm : cap ≤ maxLen)
    (hc1 : 1 ≤ count) (hc2 : count ≤ 1000) :
    Calls Tryd.prog 15 #[.pointer (some ⟨fb, 0, none⟩), .agg #[.slice (some ⟨b, off, none⟩) body.length cap, .int .u32 (sum : Int), .int .i64 (count : Int), .string row]] w fun e w' => FreP w (freM sum count (bl row) body) e w' := by
  obtain ⟨W, hW⟩ : ∃ W : World, W = w.alloc (Obj.cells #[.slice (some ⟨b, off, none⟩) body.length cap, .int .u32 (sum : Int), .int .i64 (count : Int), .string row] 51) := ⟨_, rfl⟩
  have hbW : Below w.heap.size w W := by rw [hW]; exact (Below.refl _ _).alloc (Nat.le_refl _) _
  have hzW : W.heap.size = w.heap.size + 1 := by rw [hW]; simp
  have HB : Hid (BoxAt W w.heap.size 51 4 w.heap.size (blkV b off cap body.length sum count row)) := by
    rw [hW]; exact boxAt_new w _ (Nat.le_refl _) rfl
  have HX : Hid (TabAt W fb 0 ∧ BysAt W b off body ∧ body.length < cap ∧ cap ≤ maxLen) := ⟨hT.below hbW hfb, hE.below hbW hb, hr, hcm⟩
  obtain ⟨cx, hcx⟩ : ∃ cx, cx = (crc body).toNat := ⟨_, rfl⟩
  have HCx : Hid (cx = (crc body).toNat) := hcx
  obtain ⟨R, hR⟩ : ∃ R, R = freM sum count (bl row) body := ⟨_, rfl⟩
  have HRR : Hid (R = freM sum count (bl row) body) := hR
  rw [← hR]
  clear hT hE hr hcm hcx hR
  go_enter Tryd.func15, Tryd.ntmps15
  go_upto_region 1 with fail
  rw [← hW]
  clear hW
  have blt := HB.out.lt.2
  have q0 : ∀ n : Out W, n.u.cell? ⟨w.heap.size, 0, none⟩ = some (.slice (some ⟨b, off, none⟩) body.length cap) := fun n => (n.out.cell (p := ⟨w.heap.size, 0, none⟩) blt).trans (HB.out.cell (j := 0) rfl)
  have q1 : ∀ n : Out W, n.u.cell? ⟨w.heap.size, 1, none⟩ = some (.int .u32 (sum : Int)) := fun n => (n.out.cell (p := ⟨w.heap.size, 1, none⟩) blt).trans (HB.out.cell (j := 1) rfl)
  have HCrc : Hid (∀ n : Out W, Calls Tryd.prog 29 #[.pointer (some ⟨fb, 0, none⟩), .slice (some ⟨b, off, none⟩) body.length cap] n.u fun e w' => e = .returned (.int .u32 (cx : Int)) ∧ Below n.u.heap.size n.u w') := fun n => by
    rw [HCx.out]
    refine (tableOf_core fb 0 b off cap body n.u (HX.out.1.below n.out (by omega)) (HX.out.2.1.below n.out (by omega)) (by unfold maxLen; omega)).mono ?_
    rintro e w' ⟨rfl, rfl⟩
    exact ⟨rfl, Below.refl _ _⟩
  by_cases hsum : cx = sum
  case neg =>
    have HR2 : Hid (R = (2, [])) := by
      show R = _
      rw [HRR.out]; unfold freM; rw [← HCx.out, if_pos hsum]
    have z1 : ¬ (cx : Int) = (sum : Int) := by omega
    clear hsum
    refine wp_region_demand 18 17 (.const (.int .i64 2)) 2 [(17, .bool false)] rfl (fun m => by kernel_rfl) (by kernel_rfl) (fun a' h => ⟨h (17, _) (by simp), rfl⟩) ?q ?_
    case q => exact fun a' w' hb hd => ⟨hd, hbW.trans (hb.mono hbW.size), .inr ⟨by rw [HR2.out]; simp, by rw [HR2.out]⟩⟩
    intro m
    dsimp only [List.dropLast, fk, List.cons_append, List.nil_append]
    repeat (go_big_quiet_step ((first | rfl | (go_at_call 29; exact Calls.out_of (HCrc.out _)))))
    refine wpQuiet_nil ?_
    exact ⟨rfl, slots1 (congrArg Value.bool (beq_eq_false_iff_ne.2 z1))⟩
  subst hsum
  have HI0 : Hid (R = entEnd (bl row) (getEnts count [] body)) := by
    show R = _
    rw [HRR.out]; unfold freM; rw [← HCx.out, if_neg (fun q => q rfl)]
  refine wp_region_out (by kernel_rfl) (by kernel_rfl) ?_
  repeat (go_big_quiet_step ((first | rfl | (go_at_call 29; exact Calls.out_of (HCrc.out _)) | (go_at_call 26; exact Calls.out_of ((demand_yes _ _).mono fun e w' ⟨he, hw⟩ => ⟨he, hw ▸ Below.refl _ _⟩)))))
  refine wpQuiet_nil ?_
  rintro w1 ⟨⟨wx, hb1⟩, rfl⟩
  have HB1 : Hid (BoxAt w1 w.heap.size 51 4 w.heap.size (blkV b off cap body.length cx count row)) := HB.out.below hb1
  have HX1 : Hid (BysAt w1 b off body ∧ Below w.heap.size w w1) := ⟨HX.out.2.1.below hb1 (by omega), hbW.trans (hb1.mono hbW.size)⟩
  have s1 := hb1.size
  clear q0 q1 HCrc HB blt hb1
  have c0 := HB1.out.cell (j := 0) rfl
  have c2 := HB1.out.cell (j := 2) rfl
  obtain ⟨i, hi, hz0, hz1, hz2⟩ := info_parts Tryd.infoEnt
  have HI : Hid (Tryd.prog.info? 25 = some i ∧ i.zero = some (.agg #[.string ⟨#[]⟩, .string ⟨#[]⟩, .string ⟨#[]⟩, .int .u64 0, .int .i64 0, .string ⟨#[]⟩]) ∧ i.size = 6 ∧ i.bytes = 80) := ⟨hi, hz0, hz1, hz2⟩
  clear hi hz0 hz1 hz2
  have hb' : b < w1.heap.size := by omega
  obtain ⟨W2, hW2⟩ : ∃ W2 : World, W2 = w1.alloc (Obj.cells #[.slice (some ⟨b, off, none⟩) body.length cap, .int .i64 3] 76) := ⟨_, rfl⟩
  have hb2 : Below w1.heap.size w1 W2 := by rw [hW2]; exact (Below.refl _ _).alloc (Nat.le_refl _) _
  have z2 : W2.heap.size = w1.heap.size + 1 := by rw [hW2]; simp
  have HR2 : Hid (RdE W2 w.heap.size w1.heap.size b body 3) := by
    refine ⟨off, cap, ?_, HX1.out.1.below hb2 hb', by omega, by omega, HX.out.2.2.1, hl, HX.out.2.2.2⟩
    rw [hW2]
    exact boxAt_new w1 _ (by omega) rfl
  have HB2 : Hid (BoxAt W2 w.heap.size 51 4 w.heap.size (blkV b off cap body.length cx count row) ∧ Below w.heap.size w W2) := ⟨HB1.out.below hb2, HX1.out.2.trans (hb2.mono (by omega))⟩
  go_upto_region 3 with fail
  rw [← hW2]
  clear hW2 c0 c2 HB1
  have c2 := HB2.out.1.cell (j := 2) rfl
  go_wp2_with (at_make; refine wpList_make_own _ rfl _ _ 38 rfl W2.heap.size 25 i _ 6 Tryd.underlying38 HI.out.1 HI.out.2.1 HI.out.2.2.1 _ _ _ count rfl rfl rfl ?hb ?hm ?hs ?_)
  case hb => rw [HI.out.2.2.2]; omega
  case hm => unfold maxLen; omega
  case hs => exact Nat.le_refl _
  intro w3 hown hgrow
  have hb3 : Below W2.heap.size W2 w3 := (Below.refl _ _).grown hgrow (Nat.le_refl _) (fun k hk => by cases hk)
  have HJ0 : Hid (FreJ w w3 (w1.heap.size + 1) w1.heap.size b off cap body.length cx count row body (w1.heap.size + 1) count []) :=
    ⟨HR2.out.chg (S := fun _ => False) (Chg.of_below hb3) (fun q => q) (fun q => q), HB2.out.1.below hb3, hown, HB2.out.2.trans (hb3.mono HB2.out.2.size), Nat.le_refl _, by have := hb3.size; omega⟩
  have hs3 := HB2.out.2.size
  clear hown hgrow hb3 HB2 HR2 hb2 c2
  have c2 := HJ0.out.blk.cell (j := 2) rfl
  go_wp2_with fail
  obtain ⟨B, hBz⟩ : ∃ B, B = w1.heap.size + 1 := ⟨_, rfl⟩
  obtain ⟨rb, hrb⟩ : ∃ rb, rb = w1.heap.size := ⟨_, rfl⟩
  have HN : Hid (w.heap.size < rb ∧ rb < B) := by
    have := HX1.out.2.size
    exact ⟨by omega, by omega⟩
  rw [← hBz, ← hrb] at HJ0
  rw [← hBz, ← hrb]
  clear c2 z2 hBz hrb s1 hs3 hb'
  go_loopw [6, 7, 27] (fun o s kk wr => ∃ (k g cp : Nat) (bf : ByteArray) (l : List Ent) (t : List UInt8), o = .slice (some ⟨g, 0, none⟩) l.length cp ∧ s = .string bf ∧ kk = .int .i64 (k : Int) ∧ EntsTo count body k l (bl bf) t ∧ bf.size ≤ 64 ∧ (∀ e ∈ l, e.ok) ∧ FreJ w wr B rb b off cap body.length cx count row t g cp l) (fun _ _ kk _ => count - (intOf kk).toNat)
  case atStart => exact ⟨0, B, count, ⟨#[]⟩, [], body, rfl, rfl, rfl, entsTo_zero count body, by decide, fun e he => by simp at he, HJ0.out⟩
  case round =>
    clear HJ0 HI
    obtain ⟨k, g, cp, bf, l, t, rfl, rfl, rfl, hET, hbf, hok, hJ⟩ := hrel
    have HET : Hid (EntsTo count body k l (bl bf) t ∧ ∀ e ∈ l, e.ok) := ⟨hET, hok⟩
    have HJ : Hid (FreJ w wr B rb b off cap body.length cx count row t g cp l) := hJ
    have hk := hET.1
    have hll : l.length ≤ 1000 := by have := hET.2.1; omega
    have hJb := hJ.below.size
    have hJs := hJ.size
    have hJl := hJ.len
    clear hET hok hJ
    by_cases hlt : k < count
    · have zk : (k : Int) < (count : Int) := by omega
      go_wp2_with fail
      refine (rdEntry_core w.heap.size rb b bf t 3 wr HJ.out.rd (by have := HN.out; omega) (by omega) (by omega) (by omega)).mono ?_
      rintro e w4 ⟨hC4, (⟨x, t', hx, rfl, hxo, htl, hR4⟩ | ⟨hx, rfl⟩)⟩
      case inr =>
        have HR2 : Hid (R = (3, [])) := by
          show R = _
          rw [HI0.out, HET.out.1.stop hlt hx]; rfl
        exact ⟨rfl, Chg.below HJ.out.below hC4 HJ.out.below.size (by have := HN.out; omega), .inr ⟨by rw [HR2.out]; simp, by rw [HR2.out]⟩⟩
      have HX4 : Hid (EntsTo count body (k + 1) (l ++ [x]) (bl x.row) t' ∧ (∀ e ∈ l ++ [x], e.ok) ∧ x.row.size ≤ 64) := by
        refine ⟨HET.out.1.more hlt hx, ?_, (vld_parts (getEnt_ok hx)).2.1⟩
        intro e he
        rcases List.mem_append.1 he with he | he
        · exact HET.out.2 e he
        · simp at he; subst he; exact hxo
      have HJ4 : Hid (FreJ w w4 B rb b off cap body.length cx count row t' g cp l) := HJ.out.read HN.out.1 HN.out.2 hC4 hR4 htl
      clear hC4 hx hxo htl hR4 HJ HET
      obtain ⟨WD, hWD⟩ : ∃ V : World, V = (w4.alloc (Obj.cells #[.string x.row, .string x.fam, .string x.qual, .int .u64 x.ts, .int .i64 x.kind, .string x.val] 25)).alloc (Obj.cells #[.string x.row, .string x.fam, .string x.qual, .int .u64 x.ts, .int .i64 x.kind, .string x.val] 25) := ⟨_, rfl⟩
      have hbD : Below w4.heap.size w4 WD := by rw [hWD]; exact ((Below.refl _ _).alloc (Nat.le_refl _) _).alloc (by simp) _
      have zD : WD.heap.size = w4.heap.size + 2 := by rw [hWD]; simp
      have HTD : Hid (FreJ w WD B rb b off cap body.length cx count row t' g cp l ∧ EntsAt WD (w4.heap.size + 1) 0 [x] ∧ WD.cell? ⟨w4.heap.size, 0, none⟩ = some (.string x.row)) := by
        refine ⟨HJ4.out.grow hbD, ?_, ?_⟩
        · rw [hWD]
          have := ent_box (w4.alloc (Obj.cells #[.string x.row, .string x.fam, .string x.qual, .int .u64 x.ts, .int .i64 x.kind, .string x.val] 25)) x
          simpa using this
        · rw [hWD, World.cell?_alloc_lt _ _ ⟨w4.heap.size, 0, none⟩ (by simp)]
          simp
      have sD := HTD.out.1.size
      clear hbD
      go_wp2_with (at_builtin; rw [← hWD]; refine wpList_append_entA _ rfl _ _ rfl B g cp l.length (w4.heap.size + 1) 1 1 l [x] rfl rfl rfl rfl ?hO ?hc ?hl ?hb ?_)
      case hO => first | exact HTD.out.1.ents | (rw [← hWD]; exact HTD.out.1.ents)
      case hc => first | exact HTD.out.2.1 | (rw [← hWD]; exact HTD.out.2.1)
      case hl => first | omega | (simp; omega)
      case hb => first | exact sD | omega
      intro g' cp' wE hOE hgrE hatE
      try rw [← hWD] at hgrE
      have HJE : Hid (FreJ w wE B rb b off cap body.length cx count row t' g' cp' (l ++ [x])) := HTD.out.1.app HN.out.1 HN.out.2 hb hOE hgrE
      have c0 : wE.cell? ⟨w4.heap.size, 0, none⟩ = some (.string x.row) := by
        have hgl := HTD.out.1.ents.lt
        have hc : Chg (fun k => k = g) WD wE := Chg.of_grown hgrE (fun k hk => by cases hk; rfl)
        rw [hc.cell (p := ⟨w4.heap.size, 0, none⟩) (by show w4.heap.size < _; omega) (by show ¬ w4.heap.size = g; have := HJ4.out.ents.lt; omega)]
        exact HTD.out.2.2
      have hle : l.length + 1 = (l ++ [x]).length := by simp
      rw [hle]
      clear hOE hgrE hatE hWD HTD sD zD HJ4 hle
      go_wp2_with fail
      go_roundw
      case rel => exact ⟨k + 1, g', cp', x.row, l ++ [x], t', by simp, rfl, by go_num, HX4.out.1, HX4.out.2.2, HX4.out.2.1, HJE.out⟩
      case measure => simp [intOf]; omega
    · obtain rfl : k = count := by omega
      have hl1 : 1 ≤ l.length := by have := HET.out.1.2.1; omega
      obtain ⟨e0, he0⟩ : ∃ e0, l[0]? = some e0 := ⟨_, List.getElem?_eq_getElem (by omega)⟩
      have hrow0 : row0 l = bl e0.row := by
        cases l with
        | nil => simp at he0
        | cons x t => simp at he0; subst he0; rfl
      have HD : Hid (R = if t ≠ [] ∨ bl e0.row ≠ bl row then (3, []) else (0, l)) := by
        show R = _
        rw [HI0.out, HET.out.1.done, ← hrow0]; rfl
      have HE0 : Hid (l[0]? = some e0) := he0
      obtain ⟨off', cap', hA⟩ := HJ.out.rd
      have HA : Hid (RdAt wr w.heap.size rb b off' cap' t 3) := hA
      clear hA he0 hrow0 HI0
      by_cases ht : t = []
      case neg =>
        have HR2 : Hid (R = (3, [])) := by
          show R = _
          rw [HD.out, if_pos (.inl ht)]
        go_wp2_with fail
        refine (end_bad w.heap.size rb b off' cap' t 3 wr HA.out ht).mono ?_
        rintro e w5 ⟨rfl, hb5⟩
        exact ⟨rfl, HJ.out.below.trans (hb5.mono hJb), .inr ⟨by rw [HR2.out]; simp, by rw [HR2.out]⟩⟩
      subst ht
      go_wp2_with fail
      refine (end_ok w.heap.size rb b off' cap' 3 wr HA.out).mono ?_
      rintro e w5 ⟨rfl, hb5⟩
      have HJ5 : Hid (FreJ w w5 B rb b off cap body.length cx k row [] g cp l) := HJ.out.grow hb5
      clear hb5 HA HJ
      have glt := HJ5.out.ents.lt.2
      have blt := HJ5.out.blk.lt.2
      have q0 : ∀ n : Out w5, n.u.cell? ⟨g, 0, none⟩ = some (.string e0.row) := fun n => (n.out.cell (p := ⟨g, 0, none⟩) glt).trans (by have := (HJ5.out.ents.at 0 e0 HE0.out).1; simpa using this)
      have q1 : ∀ n : Out w5, n.u.cell? ⟨w.heap.size, 3, none⟩ = some (.string row) := fun n => (n.out.cell (p := ⟨w.heap.size, 3, none⟩) blt).trans (HJ5.out.blk.cell (j := 3) rfl)
      have zl : (0 : Int) < (l.length : Int) := by omega
      clear glt blt
      go_upto_region 12 with fail
      by_cases hre : e0.row = row
      · have HR2 : Hid (R = (0, l)) := by
          show R = _
          rw [HD.out, if_neg]
          rintro (q | q)
          · exact q rfl
          · rw [hre] at q; exact q rfl
        subst hre
        refine wp_region_out (by kernel_rfl) (by kernel_rfl) ?_
        repeat (go_big_quiet_step ((first | rfl | (go_at_call 26; exact Calls.out_of ((demand_yes _ _).mono fun e w' ⟨he, hw⟩ => ⟨he, hw ▸ Below.refl _ _⟩)))))
        refine wpQuiet_nil ?_
        rintro wy ⟨⟨wx, hby⟩, rfl⟩
        have HJ6 : Hid (FreJ w wy B rb b off cap body.length cx k e0.row [] g cp l) := HJ5.out.grow hby
        clear q0 q1 hby HJ5
        go_wp2_with fail
        go_ret
        refine ⟨HJ6.out.below, .inl ⟨by rw [HR2.out], g, cp, by rw [HR2.out]; rfl, by rw [HR2.out]; exact HJ6.out.ents.mono (by have := HN.out; omega), by rw [HR2.out]; exact HET.out.2⟩⟩
      · have HR2 : Hid (R = (3, [])) := by
          show R = _
          rw [HD.out, if_pos (.inr (fun q => hre (bytes_inj q)))]
        have hne : (e0.row.toList == row.toList) = false := by
          rw [beq_eq_false_iff_ne]
          exact fun q => hre (toList_inj q)
        refine wp_region_demand 46 45 (.const (.int .i64 3)) 3 [(45, .bool false)] rfl (fun m => by kernel_rfl) (by kernel_rfl) (fun a' h => ⟨h (45, _) (by simp), rfl⟩) ?q ?_
        case q => exact fun a' w' hb hd => ⟨hd, HJ5.out.below.trans (hb.mono HJ5.out.below.size), .inr ⟨by rw [HR2.out]; simp, by rw [HR2.out]⟩⟩
        intro m
        dsimp only [List.dropLast, fk, List.cons_append, List.nil_append]
        repeat (go_big_quiet_step (rfl))
        refine wpQuiet_nil ?_
        exact ⟨rfl, slots1 rfl⟩
end Go.Proofs.YtnncedndlhfdkabDoor

