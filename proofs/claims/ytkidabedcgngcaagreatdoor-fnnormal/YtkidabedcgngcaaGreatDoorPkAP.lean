import Derived.Test.YtkidabedcgngcaaGreatDoorPkAO
import Derived.Test.YtkidabedcgngcaaGreatDoorPkAL
import Derived.Test.YtkidabedcgngcaaGreatDoorPkAM
/-
  laySeq.
-/
namespace Go.Proofs.YtkidabedcgngcaaGreatDoor
open Go.ChangeShapes Go.WideShapes Go.ChangeAt Go.RowKit Go.Deep
set_option linter.unusedVariables false
set_option linter.unusedSimpArgs false
set_option maxRecDepth 100000

theorem lyS_snoc : ∀ (ts : List Pat) (t : Pat) (em : Bool) (g : Lay), lyS (ts ++ [t]) em g = (lyS ts em g).seq (em && nulS ts) (nulB t) (lyP t (lyS ts em g).nx)
  | [], t, em, g => by simp [lyS, nulS]
  | s :: ts, t, em, g => by
    simp only [List.cons_append, lyS, lyS_snoc ts t, nulS, Bool.and_assoc]
theorem nulS_snoc (ts : List Pat) (t : Pat) : nulS (ts ++ [t]) = (nulS ts && nulB t) := by
  rw [nulS_all, nulS_all, List.all_append]; simp
theorem wtS_app : ∀ (l m : List Pat), wtS (l ++ m) = wtS l + wtS m
  | [], m => by simp [wtS]
  | t :: l, m => by simp only [List.cons_append, wtS, wtS_app l m]; omega
/-- The boxes of laySeq and layAlt beside the matcher: the node's (type nt), the answer's, the span so far. -/
structure SqB (w X : World) (nt : Nat) (uv : Value) (base M : Nat) (T : Nat → PS) (G cp a : Nat) (E : Nat → PS) (en : PS) (mp : Nat) (F L : PS) (G0 : Nat) : Prop where
  mtr : MtrI X base M T G cp a E en mp
  node : BoxAt X w.heap.size nt 1 w.heap.size [uv]
  ans : BoxAt X w.heap.size 183 8 (w.heap.size + 1) zsA.toList
  sofar : BoxAt X w.heap.size 183 8 (w.heap.size + 1 + 1) (spL F L)
  chg : Chg (fun k => k = M ∨ k = G0) w X
  at_ : G = G0 ∨ w.heap.size ≤ G
section
variable {w X X' : World} {nt : Nat} {uv : Value} {base M : Nat} {T : Nat → PS} {G cp a : Nat} {E : Nat → PS} {en : PS} {mp : Nat} {F L : PS} {G0 : Nat}
theorem SqB.below (h : SqB w X nt uv base M T G cp a E en mp F L G0) (hb : Below X.heap.size X X') : SqB w X' nt uv base M T G cp a E en mp F L G0 :=
  ⟨h.mtr.below hb, h.node.below hb, h.ans.below hb, h.sofar.below hb, h.chg.trans (Chg.of_below hb), h.at_⟩
theorem SqB.gs (h : SqB w X nt uv base M T G cp a E en mp F L G0) (hnt : nt ≠ 178) : ¬ G = w.heap.size ∧ ¬ G = w.heap.size + 1 ∧ ¬ G = w.heap.size + 1 + 1 :=
  ⟨fun q => own_apart h.mtr.row h.node (fun e => hnt e.symm) G rfl (by rw [q]; rfl), fun q => own_apart h.mtr.row h.ans (by decide) G rfl (by rw [q]; rfl), fun q => own_apart h.mtr.row h.sofar (by decide) G rfl (by rw [q]; rfl)⟩
/-- lay has laid a part. -/
theorem SqB.laid (h : SqB w X nt uv base M T G cp a E en mp F L G0) (hnt : nt ≠ 178) (hM : M < w.heap.size) {l : Lay} {G1 cp1 : Nat} (hm : MtrI X' base M (withT T l) G1 cp1 l.nx (withE E l) en mp) (hc : Chg (fun k => k = M ∨ k = G) X X') (ha : G1 = G ∨ X.heap.size ≤ G1) : SqB w X' nt uv base M (withT T l) G1 cp1 l.nx (withE E l) en mp F L G0 := by
  obtain ⟨g1, g2, g3⟩ := h.gs hnt
  refine ⟨hm, h.node.chg hc (by omega), h.ans.chg hc (by omega), h.sofar.chg hc (by omega), ?_, ?_⟩
  · refine ⟨hc.os.trans h.chg.os, hc.tape.trans h.chg.tape, hc.output.trans h.chg.output, Nat.le_trans h.chg.size hc.size, fun j hj hn => (hc.block j (Nat.lt_of_lt_of_le hj h.chg.size) (fun q => ?_)).trans (h.chg.block j hj hn)⟩
    rcases q with q | q
    · exact hn (.inl q)
    · rcases h.at_ with z | z
      · exact hn (.inr (by omega))
      · omega
  · have := h.chg.size
    rcases ha with q | q
    · rw [q]; exact h.at_
    · exact .inr (by omega)
theorem SqB.conn (h : SqB w X nt uv base M T G cp a E en mp F L G0) (hnt : nt ≠ 178) {E' : Nat → PS} (hm : MtrI X' base M T G cp a E' en mp) (hc : Chg (fun k => k = G) X X') : SqB w X' nt uv base M T G cp a E' en mp F L G0 := by
  obtain ⟨g1, g2, g3⟩ := h.gs hnt
  refine ⟨hm, h.node.chg hc (by omega), h.ans.chg hc (by omega), h.sofar.chg hc (by omega), ?_, h.at_⟩
  refine ⟨hc.os.trans h.chg.os, hc.tape.trans h.chg.tape, hc.output.trans h.chg.output, Nat.le_trans h.chg.size hc.size, fun j hj hn => (hc.block j (Nat.lt_of_lt_of_le hj h.chg.size) (fun q => ?_)).trans (h.chg.block j hj hn)⟩
  rcases h.at_ with z | z
  · exact hn (.inr (by omega))
  · omega
theorem SqB.set (h : SqB w X nt uv base M T G cp a E en mp F L G0) (hM : M < w.heap.size) (hnt : nt ≠ 178) {o : Nat} (S : PS) {F' L' : PS} (he : setL4 (spL F L) o S = spL F' L') (hlow : base ≤ w.heap.size) : SqB w (set4 X (w.heap.size + 1 + 1) o S) nt uv base M T G cp a E en mp F' L' G0 := by
  obtain ⟨g1, g2, g3⟩ := h.gs hnt
  have hc : Chg (fun k => k = w.heap.size + 1 + 1) X (set4 X (w.heap.size + 1 + 1) o S) := chg_set4 X _ _ _ rfl
  refine ⟨h.mtr.chg hc (by omega) g3 (fun k q => by omega), h.node.chg hc (by omega), h.ans.chg hc (by omega), ?_, chg_own h.chg (hc.mono (fun k q => by omega)), h.at_⟩
  have h1 := own_set4 h.sofar o S
  rw [he] at h1
  exact h1
end
theorem set_first (F L S : PS) : setL4 (spL F L) 0 S = spL S L := rfl
theorem set_last (F L S : PS) : setL4 (spL F L) 4 S = spL F S := rfl
/-- laySeq at the seq u. -/
def LqC (base : Nat) (w0 : World) (ts : List Pat) (u : Value) : Prop := ∃ (sa : Option Addr) (sn sc : Nat), u = .slice sa sn sc ∧ ∀ (M : Nat) (T : Nat → PS) (G cp a : Nat) (E : Nat → PS) (en : PS) (mp : Nat) (w : World), MtrI w base M T G cp a E en mp → Below base w0 w → a + wtS ts ≤ 256 →
  Calls Tryz.prog 157 #[.pointer (some ⟨M, 0, none⟩), .agg #[.slice sa sn sc]] w (LayR base M T G E en mp (lyS ts true (Lay.no a)) w)
def SqI (w X : World) (uv : Value) (base M : Nat) (T : Nat → PS) (G cp : Nat) (E : Nat → PS) (en : PS) (mp : Nat) (g : Lay) (G0 : Nat) : Prop := SqB w X 206 uv base M (withT T g) G cp g.nx (withE E g) en mp g.fst g.lst G0
set_option maxHeartbeats 4000000 in
theorem laySeq_nil (base : Nat) (w0 : World) : LqC base w0 [] (.slice none 0 0) := by
  refine ⟨none, 0, 0, rfl, fun M T G cp a E en mp w h hw0 hwt => ?_⟩
  obtain ⟨W0, hW0⟩ : ∃ W0 : World, W0 = ((w.alloc (.cells #[.slice none 0 0] 206)).alloc (.cells zsA 183)).alloc (.cells zsA 183) := ⟨_, rfl⟩
  have hM0 := h.ltM
  have hlow := Nat.le_of_lt (Nat.lt_of_le_of_lt h.ltM.1 h.ltM.2)
  have HGb : Hid (base ≤ G) := h.ltG.1
  have HW0 : Hid (SqB w W0 206 (.slice none 0 0) base M (withT T (Lay.no a)) G cp a (withE E (Lay.no a)) en mp (Lay.no a).fst (Lay.no a).lst G) := by
    have b1 := boxAt_new w (base := w.heap.size) (t := 206) (sz := 1) #[.slice none 0 0] (Nat.le_refl _) rfl
    have b2 := boxAt_new (w.alloc (.cells #[.slice none 0 0] 206)) (base := w.heap.size) (t := 183) (sz := 8) zsA (by simp) rfl
    have b3 := boxAt_new ((w.alloc (.cells #[.slice none 0 0] 206)).alloc (.cells zsA 183)) (base := w.heap.size) (t := 183) (sz := 8) zsA (by simp; omega) rfl
    rw [World.size_alloc] at b2
    rw [World.size_alloc, World.size_alloc] at b3
    have k1 : ∀ (x : World) (o : Obj), Below x.heap.size x (x.alloc o) := fun x o => (Below.refl _ _).alloc (Nat.le_refl _) _
    have k0 : Below w.heap.size w W0 := by rw [hW0]; exact (((Below.refl _ _).alloc (Nat.le_refl _) _).alloc (by simp) _).alloc (by simp; omega) _
    have hz : spL (Lay.no a).fst (Lay.no a).lst = zsA.toList := by
      show spL sNo sNo = _
      simp only [spL, wdN_no]; rfl
    refine ⟨(h.below k0).iff (fun b p _ _ => by simp [withT, Lay.no]) (fun q p _ _ => by simp [withE, Lay.no]) (fun p hp q => by have := h.new p hp q; simp [withE, Lay.no, this]), ?_, ?_, ?_, Chg.of_below k0, .inl rfl⟩
    · rw [hW0]; exact (b1.below (k1 _ _)).below (k1 _ _)
    · rw [hW0]; exact b2.below (k1 _ _)
    · rw [hz, hW0]; exact b3
  clear h
  go_enter Tryz.func157, Tryz.ntmps157
  go_wp2_with fail
  have hW0' := hW0
  simp only [zsA] at hW0'
  rw [← hW0']
  clear hW0 hW0'
  go_loopw [14] (fun iv wr => iv = .int .i64 0 ∧ wr = W0) (fun _ _ => 0)
  case atStart => exact ⟨rfl, rfl⟩
  case round =>
    obtain ⟨rfl, rfl⟩ := hrel
    have HJ := HW0
    have s0 := HJ.out.sofar.cell (j := 0) rfl
    have s1 := HJ.out.sofar.cell (j := 1) rfl
    have s2 := HJ.out.sofar.cell (j := 2) rfl
    have s3 := HJ.out.sofar.cell (j := 3) rfl
    have s4 := HJ.out.sofar.cell (j := 4) rfl
    have s5 := HJ.out.sofar.cell (j := 5) rfl
    have s6 := HJ.out.sofar.cell (j := 6) rfl
    have s7 := HJ.out.sofar.cell (j := 7) rfl
    have r0 := HJ.out.ans.cell (j := 0) rfl
    have r1 := HJ.out.ans.cell (j := 1) rfl
    have r2 := HJ.out.ans.cell (j := 2) rfl
    have r3 := HJ.out.ans.cell (j := 3) rfl
    have r4 := HJ.out.ans.cell (j := 4) rfl
    have r5 := HJ.out.ans.cell (j := 5) rfl
    have r6 := HJ.out.ans.cell (j := 6) rfl
    have r7 := HJ.out.ans.cell (j := 7) rfl
    have f0 := HJ.out.ans.frozen 0
    have f1 := HJ.out.ans.frozen 1
    have f2 := HJ.out.ans.frozen 2
    have f3 := HJ.out.ans.frozen 3
    have f4 := HJ.out.ans.frozen 4
    have f5 := HJ.out.ans.frozen 5
    have f6 := HJ.out.ans.frozen 6
    have f7 := HJ.out.ans.frozen 7
    have HF : Hid (LayR base M T G E en mp (lyS [] true (Lay.no a)) w (.returned (spV (lyS [] true (Lay.no a)).fst (lyS [] true (Lay.no a)).lst)) (setSp wr (w.heap.size + 1) (lyS [] true (Lay.no a)).fst (lyS [] true (Lay.no a)).lst) ∧ BoxAt (setSp wr (w.heap.size + 1) (lyS [] true (Lay.no a)).fst (lyS [] true (Lay.no a)).lst) w.heap.size 183 8 (w.heap.size + 1) (spL (lyS [] true (Lay.no a)).fst (lyS [] true (Lay.no a)).lst)) := by
      obtain ⟨f1, f2, f3⟩ := lay_fin HJ.out.mtr HJ.out.ans HJ.out.chg (lyS [] true (Lay.no a)).fst (lyS [] true (Lay.no a)).lst
      exact ⟨⟨_, _, rfl, ⟨f1, f3, HJ.out.at_⟩⟩, f2⟩
    go_wp2_with fail
    exact bodyPost_ret (v := spV (lyS [] true (Lay.no a)).fst (lyS [] true (Lay.no a)).lst) (span_res157 (base := w.heap.size) (g := w.heap.size + 1) rfl HF.out.2) rfl HF.out.1
set_option maxHeartbeats 8000000 in
theorem laySeq_some {base : Nat} {w0 : World} {lo : Nat → Prop} {ts : List Pat} {g0 cp0 : Nat} {us : List Value} (hul : us.length = ts.length) (hV : ValsAt w0 lo g0 us) (hlo : g0 < base) (hN : ∀ (i : Nat) x t, us[i]? = some x → ts[i]? = some t → LyC base w0 t x ∧ NulV w0 t x) (hw5 : base = w0.heap.size) : LqC base w0 ts (.slice (some ⟨g0, 0, none⟩) ts.length cp0) := by
  refine ⟨_, _, _, rfl, fun M T G cp a E en mp w h hw0 hwt => ?_⟩
  obtain ⟨n, hn⟩ : ∃ n, n = ts.length := ⟨_, rfl⟩
  have hn5 : n ≤ 256 := by have := wtS_len ts; omega
  rw [← hn]
  obtain ⟨W0, hW0⟩ : ∃ W0 : World, W0 = ((w.alloc (.cells #[.slice (some ⟨g0, 0, none⟩) n cp0] 206)).alloc (.cells zsA 183)).alloc (.cells zsA 183) := ⟨_, rfl⟩
  have hM0 := h.ltM
  have hlow := Nat.le_of_lt (Nat.lt_of_le_of_lt h.ltM.1 h.ltM.2)
  have HGb : Hid (base ≤ G) := h.ltG.1
  have HW0 : Hid (SqB w W0 206 (.slice (some ⟨g0, 0, none⟩) n cp0) base M (withT T (Lay.no a)) G cp a (withE E (Lay.no a)) en mp (Lay.no a).fst (Lay.no a).lst G) := by
    have b1 := boxAt_new w (base := w.heap.size) (t := 206) (sz := 1) #[.slice (some ⟨g0, 0, none⟩) n cp0] (Nat.le_refl _) rfl
    have b2 := boxAt_new (w.alloc (.cells #[.slice (some ⟨g0, 0, none⟩) n cp0] 206)) (base := w.heap.size) (t := 183) (sz := 8) zsA (by simp) rfl
    have b3 := boxAt_new ((w.alloc (.cells #[.slice (some ⟨g0, 0, none⟩) n cp0] 206)).alloc (.cells zsA 183)) (base := w.heap.size) (t := 183) (sz := 8) zsA (by simp; omega) rfl
    rw [World.size_alloc] at b2
    rw [World.size_alloc, World.size_alloc] at b3
    have k1 : ∀ (x : World) (o : Obj), Below x.heap.size x (x.alloc o) := fun x o => (Below.refl _ _).alloc (Nat.le_refl _) _
    have k0 : Below w.heap.size w W0 := by rw [hW0]; exact (((Below.refl _ _).alloc (Nat.le_refl _) _).alloc (by simp) _).alloc (by simp; omega) _
    have hz : spL (Lay.no a).fst (Lay.no a).lst = zsA.toList := by
      show spL sNo sNo = _
      simp only [spL, wdN_no]; rfl
    refine ⟨(h.below k0).iff (fun b p _ _ => by simp [withT, Lay.no]) (fun q p _ _ => by simp [withE, Lay.no]) (fun p hp q => by have := h.new p hp q; simp [withE, Lay.no, this]), ?_, ?_, ?_, Chg.of_below k0, .inl rfl⟩
    · rw [hW0]; exact (b1.below (k1 _ _)).below (k1 _ _)
    · rw [hW0]; exact b2.below (k1 _ _)
    · rw [hz, hW0]; exact b3
  have HH : Hid (n = ts.length ∧ us.length = n ∧ ValsAt w0 lo g0 us ∧ Below base w0 w ∧ (∀ (i : Nat) x t, us[i]? = some x → ts[i]? = some t → LyC base w0 t x ∧ NulV w0 t x) ∧ a + wtS ts ≤ 256 ∧ base = w0.heap.size) := ⟨hn, by rw [hn]; exact hul, hV, hw0, hN, hwt, hw5⟩
  clear h hul hV hN hw0 hn hwt hw5
  go_enter Tryz.func157, Tryz.ntmps157
  go_wp2_with fail
  have hW0' := hW0
  simp only [zsA] at hW0'
  rw [← hW0']
  clear hW0 hW0'
  go_loopw [6, 14] (fun ev iv wr => ∃ (k Gk ck : Nat), k ≤ n ∧ iv = .int .i64 k ∧ ev = .bool (nulS (ts.take k)) ∧ Hid (SqI w wr (.slice (some ⟨g0, 0, none⟩) n cp0) base M T Gk ck E en mp (lyS (ts.take k) true (Lay.no a)) G)) (fun _ iv _ => n - (intOf iv).toNat)
  case atStart => exact ⟨0, G, cp, Nat.zero_le _, rfl, rfl, HW0.out⟩
  case round =>
    clear HW0
    obtain ⟨k, Gk, ck, hk, rfl, rfl, HJ⟩ := hrel
    by_cases hlt : k < n
    · have zk : (k : Int) < (n : Int) := by omega
      obtain ⟨x, hx⟩ : ∃ x, us[k]? = some x := ⟨_, List.getElem?_eq_getElem (by rw [HH.out.2.1]; exact hlt)⟩
      obtain ⟨t, ht⟩ : ∃ t, ts[k]? = some t := ⟨_, List.getElem?_eq_getElem (by rw [← HH.out.1]; exact hlt)⟩
      obtain ⟨HLy, X, c, f, rfl, hT, HC⟩ := HH.out.2.2.2.2.1 k x t hx ht
      have hbw : Below base w0 wr := Chg.below HH.out.2.2.2.1 HJ.out.chg hlow (fun j q => by rcases q with q | q; omega; have := HGb.out; omega)
      have c0 : wr.cell? ⟨g0, k, none⟩ = some (.iface X (.agg c)) := by rw [hbw.cell (p := ⟨g0, k, none⟩) hlo]; exact HH.out.2.2.1.val k _ hx
      obtain ⟨gk, hgk⟩ : ∃ gk, gk = lyS (ts.take k) true (Lay.no a) := ⟨_, rfl⟩
      obtain ⟨l, hl⟩ : ∃ l, l = lyP t gk.nx := ⟨_, rfl⟩
      obtain ⟨em, hem⟩ : ∃ em, em = nulS (ts.take k) := ⟨_, rfl⟩
      have htk : ts.take (k + 1) = ts.take k ++ [t] := by rw [List.take_add_one, ht]; rfl
      have hwk : wtS (ts.take k) + wtP t ≤ wtS ts := by
        have h1 : ts = ts.take (k + 1) ++ ts.drop (k + 1) := (List.take_append_drop _ _).symm
        have h2 := congrArg wtS h1
        rw [wtS_app, htk, wtS_app] at h2
        simp only [wtS] at h2
        omega
      have hnxk : gk.nx ≤ a + wtS (ts.take k) := by rw [hgk]; have := nx_S (ts.take k) true (Lay.no a); simpa [Lay.no] using this
      have hwt := HH.out.2.2.2.2.2.1
      have hspk : Spt a gk := by rw [hgk]; exact (cor_S (ts.take k) a (Lay.no a) (fun x => x = []) true (cor_no a)).spt
      have hspl : Spt gk.nx l := by rw [hl]; exact (cor_P t gk.nx).spt
      have hnl : l.nx ≤ 256 := by have := nx_P t gk.nx; rw [hl]; omega
      rw [← hgk] at HJ
      have HNx : Hid (∀ nt, nt = nulB t → lyS (ts.take (k + 1)) true (Lay.no a) = gk.seq em nt l ∧ nulS (ts.take (k + 1)) = (em && nt)) := fun nt hnt => by
        rw [htk, lyS_snoc, nulS_snoc, ← hgk, ← hem, ← hl, hnt]; exact ⟨by simp, rfl⟩
      have HL : Hid (Calls Tryz.prog 135 #[.pointer (some ⟨M, 0, none⟩), .iface X (.agg c)] wr (LayR base M (withT T gk) Gk (withE E gk) en mp l wr)) := by
        rw [hl]; exact HLy M (withT T gk) Gk ck gk.nx (withE E gk) en mp wr HJ.out.mtr hbw (by omega)
      have HSp : Hid (Spt a gk ∧ Spt gk.nx l ∧ l.nx ≤ 256 ∧ (∀ wx, Below base w0 wx → Below w0.heap.size w0 wx)) := ⟨hspk, hspl, hnl, fun wx hq => by rw [← HH.out.2.2.2.2.2.2]; exact hq⟩
      have HBw : Hid (Below base w0 wr) := hbw
      rw [← hem]
      clear hx ht HLy hbw hgk hl hem htk hwk hnxk hwt hspk hspl hnl
      go_wp2_with fail
      refine HL.out.mono ?_
      rintro e w1 ⟨G1, cp1, rfl, H1⟩
      clear c0 HL
      obtain ⟨W2, hW2⟩ : ∃ W2 : World, W2 = w1.alloc (.cells (spL l.fst l.lst).toArray 183) := ⟨_, rfl⟩
      have k2 : Below w1.heap.size w1 W2 := by rw [hW2]; exact (Below.refl _ _).alloc (Nat.le_refl _) _
      have h1q := HJ.out.laid (by decide) hM0.2 H1.out.1 H1.out.2.1 H1.out.2.2
      have hw1 : w.heap.size ≤ w1.heap.size := h1q.chg.size
      have HW2 : Hid (SqB w W2 206 (.slice (some ⟨g0, 0, none⟩) n cp0) base M (withT (withT T gk) l) G1 cp1 l.nx (withE (withE E gk) l) en mp gk.fst gk.lst G ∧ BoxAt W2 w.heap.size 183 8 w1.heap.size (spL l.fst l.lst)) := ⟨h1q.below k2, by rw [hW2]; exact boxAt_new w1 _ hw1 rfl⟩
      have hwn : w.heap.size + 1 + 1 < w1.heap.size := h1q.sofar.lt.2
      have s0 := HW2.out.1.sofar.cell (j := 0) rfl
      have s1 := HW2.out.1.sofar.cell (j := 1) rfl
      have s2 := HW2.out.1.sofar.cell (j := 2) rfl
      have s3 := HW2.out.1.sofar.cell (j := 3) rfl
      have s4 := HW2.out.1.sofar.cell (j := 4) rfl
      have s5 := HW2.out.1.sofar.cell (j := 5) rfl
      have s6 := HW2.out.1.sofar.cell (j := 6) rfl
      have s7 := HW2.out.1.sofar.cell (j := 7) rfl
      have ee0 := HW2.out.2.cell (j := 0) rfl
      have ee1 := HW2.out.2.cell (j := 1) rfl
      have ee2 := HW2.out.2.cell (j := 2) rfl
      have ee3 := HW2.out.2.cell (j := 3) rfl
      have ee4 := HW2.out.2.cell (j := 4) rfl
      have ee5 := HW2.out.2.cell (j := 5) rfl
      have ee6 := HW2.out.2.cell (j := 6) rfl
      have ee7 := HW2.out.2.cell (j := 7) rfl
      have HCo : Hid (Calls Tryz.prog 156 #[.pointer (some ⟨M, 0, none⟩), psV gk.lst, psV l.fst] W2 fun e w' => (∃ v, e = .returned v) ∧ Hid (MtrI w' base M (withT (withT T gk) l) G1 cp1 l.nx (fun p q => withE (withE E gk) l p q || (gk.lst p && l.fst q)) en mp ∧ Chg (fun k => k = G1) W2 w')) := connect_core gk.lst l.fst W2 HW2.out.1.mtr (fun p hp => by have h1 := (HSp.out.1.lst p hp).2; have h2 := HSp.out.2.1.le; omega) HSp.out.2.2.1
      clear h1q k2 H1
      go_upto_region 7 with fail
      have hW2' := hW2
      simp only [spL] at hW2'
      rw [← hW2']
      clear hW2 hW2'
      go_wp2_with fail
      refine HCo.out.mono ?_
      rintro e w3 ⟨⟨v, rfl⟩, H3⟩
      have hGt : ¬ G1 = w1.heap.size := fun q => own_apart HW2.out.1.mtr.row HW2.out.2 (by decide) G1 rfl (by rw [q]; rfl)
      have HW3 : Hid (SqB w w3 206 (.slice (some ⟨g0, 0, none⟩) n cp0) base M (withT (withT T gk) l) G1 cp1 l.nx (fun p q => withE (withE E gk) l p q || (gk.lst p && l.fst q)) en mp gk.fst gk.lst G ∧ BoxAt w3 w.heap.size 183 8 w1.heap.size (spL l.fst l.lst)) := ⟨HW2.out.1.conn (by decide) H3.out.1 H3.out.2, HW2.out.2.chg H3.out.2 (fun q => hGt q.symm)⟩
      clear H3 HCo HW2
      clear s0 s1 s2 s3 s4 s5 s6 s7 ee0 ee1 ee2 ee3 ee4 ee5 ee6 ee7
      have s0 := HW3.out.1.sofar.cell (j := 0) rfl
      have s1 := HW3.out.1.sofar.cell (j := 1) rfl
      have s2 := HW3.out.1.sofar.cell (j := 2) rfl
      have s3 := HW3.out.1.sofar.cell (j := 3) rfl
      have s4 := HW3.out.1.sofar.cell (j := 4) rfl
      have s5 := HW3.out.1.sofar.cell (j := 5) rfl
      have s6 := HW3.out.1.sofar.cell (j := 6) rfl
      have s7 := HW3.out.1.sofar.cell (j := 7) rfl
      have f0 := HW3.out.1.sofar.frozen 0
      have f1 := HW3.out.1.sofar.frozen 1
      have f2 := HW3.out.1.sofar.frozen 2
      have f3 := HW3.out.1.sofar.frozen 3
      have f4 := HW3.out.1.sofar.frozen 4
      have f5 := HW3.out.1.sofar.frozen 5
      have f6 := HW3.out.1.sofar.frozen 6
      have f7 := HW3.out.1.sofar.frozen 7
      have ee0 := HW3.out.2.cell (j := 0) rfl
      have ee1 := HW3.out.2.cell (j := 1) rfl
      have ee2 := HW3.out.2.cell (j := 2) rfl
      have ee3 := HW3.out.2.cell (j := 3) rfl
      have ee4 := HW3.out.2.cell (j := 4) rfl
      have ee5 := HW3.out.2.cell (j := 5) rfl
      have ee6 := HW3.out.2.cell (j := 6) rfl
      have ee7 := HW3.out.2.cell (j := 7) rfl
      have HUf : Hid (∀ wx : World, Calls Tryz.prog 161 #[psV gk.fst, psV l.fst] wx fun e w' => e = .returned (psV (sOr gk.fst l.fst)) ∧ Below wx.heap.size wx w') := fun wx => union_core gk.fst l.fst wx
      have HUl : Hid (∀ wx : World, Calls Tryz.prog 161 #[psV gk.lst, psV l.lst] wx fun e w' => e = .returned (psV (sOr gk.lst l.lst)) ∧ Below wx.heap.size wx w') := fun wx => union_core gk.lst l.lst wx
      have HMo : Hid (∀ wx, Chg (fun k => k = M ∨ k = G) w wx → Below w0.heap.size w0 wx) := fun wx hq => HSp.out.2.2.2 wx (Chg.below HH.out.2.2.2.1 hq hlow (fun j q => by rcases q with q | q; omega; have := HGb.out; omega))
      cases em with
      | true =>
        go_wp2_with fail
        refine (HUf.out _).mono ?_
        rintro e w4 ⟨rfl, hb4⟩
        have HW4 : Hid (SqB w (set4 w4 (w.heap.size + 1 + 1) 0 (sOr gk.fst l.fst)) 206 (.slice (some ⟨g0, 0, none⟩) n cp0) base M (withT (withT T gk) l) G1 cp1 l.nx (fun p q => withE (withE E gk) l p q || (gk.lst p && l.fst q)) en mp (sOr gk.fst l.fst) gk.lst G ∧ BoxAt (set4 w4 (w.heap.size + 1 + 1) 0 (sOr gk.fst l.fst)) w.heap.size 183 8 w1.heap.size (spL l.fst l.lst)) := ⟨(HW3.out.1.below hb4).set hM0.2 (by decide) _ (set_first _ _ _) hlow, (HW3.out.2.below hb4).chg (chg_set4 (S := fun j => j = w.heap.size + 1 + 1) w4 _ _ _ rfl) (by omega)⟩
        have HB4 := HW3.out.1.sofar.below hb4
        clear s0 s1 s2 s3 s4 s5 s6 s7 f0 f1 f2 f3 f4 f5 f6 f7 ee0 ee1 ee2 ee3 ee4 ee5 ee6 ee7
        have s0 := HB4.cell (j := 0) rfl
        have s1 := HB4.cell (j := 1) rfl
        have s2 := HB4.cell (j := 2) rfl
        have s3 := HB4.cell (j := 3) rfl
        have s4 := HB4.cell (j := 4) rfl
        have s5 := HB4.cell (j := 5) rfl
        have s6 := HB4.cell (j := 6) rfl
        have s7 := HB4.cell (j := 7) rfl
        have f0 := HB4.frozen 0
        have f1 := HB4.frozen 1
        have f2 := HB4.frozen 2
        have f3 := HB4.frozen 3
        have f4 := HB4.frozen 4
        have f5 := HB4.frozen 5
        have f6 := HB4.frozen 6
        have f7 := HB4.frozen 7
        clear HB4 hb4
        go_upto_region 10 with fail
        obtain ⟨W5, hW5⟩ : ∃ W5 : World, W5 = set4 w4 (w.heap.size + 1 + 1) 0 (sOr gk.fst l.fst) := ⟨_, rfl⟩
        have hW5' := hW5
        simp only [set4, Nat.zero_add] at hW5'
        rw [← hW5']
        rw [← hW5] at HW4
        clear hW5 hW5'
        clear s0 s1 s2 s3 s4 s5 s6 s7 f0 f1 f2 f3 f4 f5 f6 f7
        have HCe := HC.out W5 (HMo.out W5 HW4.out.1.chg)
        cases hnb : nulB t with
        | true =>
          rw [hnb] at HCe
          have HNy := HNx.out true hnb.symm
          have HNz : Hid (lyS (ts.take (k + 1)) true (Lay.no a) = gk.seq true true l ∧ nulS (ts.take (k + 1)) = true) := ⟨HNy.1, by rw [HNy.2]; rfl⟩
          have HCf : Hid (Calls Tryz.prog f #[.agg c] W5 fun e w'' => e = .returned (.bool true) ∧ Below W5.heap.size W5 w'') := HCe
          clear hnb HCe HNy
          rcases hT with ⟨rfl, rfl⟩ | ⟨rfl, rfl⟩ | ⟨rfl, rfl⟩ | ⟨rfl, rfl⟩
          all_goals go_wp2_with fail
          all_goals refine HCf.out.mono ?_
          all_goals rintro e w6 ⟨rfl, hb6⟩
          all_goals have HW6 : Hid (SqB w w6 206 (.slice (some ⟨g0, 0, none⟩) n cp0) base M (withT (withT T gk) l) G1 cp1 l.nx (fun p q => withE (withE E gk) l p q || (gk.lst p && l.fst q)) en mp (sOr gk.fst l.fst) gk.lst G ∧ BoxAt w6 w.heap.size 183 8 w1.heap.size (spL l.fst l.lst)) := ⟨HW4.out.1.below hb6, HW4.out.2.below hb6⟩
          all_goals have s4 := HW6.out.1.sofar.cell (j := 4) rfl
          all_goals have f4 := HW6.out.1.sofar.frozen 4
          all_goals have ee4 := HW6.out.2.cell (j := 4) rfl
          all_goals have s5 := HW6.out.1.sofar.cell (j := 5) rfl
          all_goals have f5 := HW6.out.1.sofar.frozen 5
          all_goals have ee5 := HW6.out.2.cell (j := 5) rfl
          all_goals have s6 := HW6.out.1.sofar.cell (j := 6) rfl
          all_goals have f6 := HW6.out.1.sofar.frozen 6
          all_goals have ee6 := HW6.out.2.cell (j := 6) rfl
          all_goals have s7 := HW6.out.1.sofar.cell (j := 7) rfl
          all_goals have f7 := HW6.out.1.sofar.frozen 7
          all_goals have ee7 := HW6.out.2.cell (j := 7) rfl
          all_goals go_wp2_with fail
          all_goals refine (HUl.out _).mono ?_
          all_goals rintro e w7 ⟨rfl, hb7⟩
          all_goals clear s4 s5 s6 s7 f4 f5 f6 f7
          all_goals have HB7 := HW6.out.1.sofar.below hb7
          all_goals have s4 := HB7.cell (j := 4) rfl
          all_goals have f4 := HB7.frozen 4
          all_goals have s5 := HB7.cell (j := 5) rfl
          all_goals have f5 := HB7.frozen 5
          all_goals have s6 := HB7.cell (j := 6) rfl
          all_goals have f6 := HB7.frozen 6
          all_goals have s7 := HB7.cell (j := 7) rfl
          all_goals have f7 := HB7.frozen 7
          all_goals have HW8 : Hid (SqI w (set4 w7 (w.heap.size + 1 + 1) 4 (sOr gk.lst l.lst)) (.slice (some ⟨g0, 0, none⟩) n cp0) base M T G1 cp1 E en mp (gk.seq true true l) G) := (by
            have h8 := (HW6.out.1.below hb7).set hM0.2 (by decide) (sOr gk.lst l.lst) (set_last _ _ _) hlow
            refine ⟨h8.mtr.iff (fun b p _ _ => by simp [withT, Lay.seq, Bool.or_assoc]) (fun q p _ _ => by simp [withE, Lay.seq, Bool.or_assoc]) (fun p hp q => ?_), h8.node, h8.ans, h8.sofar, h8.chg, h8.at_⟩
            have := h8.mtr.new p hp q
            simpa [withE, Lay.seq, Bool.or_assoc] using this)
          all_goals rw [← HNz.out.1] at HW8
          all_goals simp only [set4] at HW8
          all_goals have hen := HNz.out.2
          all_goals clear HB7 hb7
          all_goals go_wp2_with fail
          all_goals refine ⟨⟨k + 1, G1, cp1, by omega, by go_num, by rw [hen], HW8⟩, ?_⟩
          all_goals go_light
          all_goals simp [intOf]
          all_goals omega
        | false =>
          rw [hnb] at HCe
          have HNy := HNx.out false hnb.symm
          have HNz : Hid (lyS (ts.take (k + 1)) true (Lay.no a) = gk.seq true false l ∧ nulS (ts.take (k + 1)) = false) := ⟨HNy.1, by rw [HNy.2]; rfl⟩
          have HCf : Hid (Calls Tryz.prog f #[.agg c] W5 fun e w'' => e = .returned (.bool false) ∧ Below W5.heap.size W5 w'') := HCe
          clear hnb HCe HNy
          rcases hT with ⟨rfl, rfl⟩ | ⟨rfl, rfl⟩ | ⟨rfl, rfl⟩ | ⟨rfl, rfl⟩
          all_goals go_wp2_with fail
          all_goals refine HCf.out.mono ?_
          all_goals rintro e w6 ⟨rfl, hb6⟩
          all_goals have HW6 : Hid (SqB w w6 206 (.slice (some ⟨g0, 0, none⟩) n cp0) base M (withT (withT T gk) l) G1 cp1 l.nx (fun p q => withE (withE E gk) l p q || (gk.lst p && l.fst q)) en mp (sOr gk.fst l.fst) gk.lst G ∧ BoxAt w6 w.heap.size 183 8 w1.heap.size (spL l.fst l.lst)) := ⟨HW4.out.1.below hb6, HW4.out.2.below hb6⟩
          all_goals have s4 := HW6.out.1.sofar.cell (j := 4) rfl
          all_goals have f4 := HW6.out.1.sofar.frozen 4
          all_goals have ee4 := HW6.out.2.cell (j := 4) rfl
          all_goals have s5 := HW6.out.1.sofar.cell (j := 5) rfl
          all_goals have f5 := HW6.out.1.sofar.frozen 5
          all_goals have ee5 := HW6.out.2.cell (j := 5) rfl
          all_goals have s6 := HW6.out.1.sofar.cell (j := 6) rfl
          all_goals have f6 := HW6.out.1.sofar.frozen 6
          all_goals have ee6 := HW6.out.2.cell (j := 6) rfl
          all_goals have s7 := HW6.out.1.sofar.cell (j := 7) rfl
          all_goals have f7 := HW6.out.1.sofar.frozen 7
          all_goals have ee7 := HW6.out.2.cell (j := 7) rfl
          all_goals have HW8 : Hid (SqI w (set4 w6 (w.heap.size + 1 + 1) 4 l.lst) (.slice (some ⟨g0, 0, none⟩) n cp0) base M T G1 cp1 E en mp (gk.seq true false l) G) := (by
            have h8 := HW6.out.1.set hM0.2 (by decide) l.lst (set_last _ _ _) hlow
            refine ⟨h8.mtr.iff (fun b p _ _ => by simp [withT, Lay.seq, Bool.or_assoc]) (fun q p _ _ => by simp [withE, Lay.seq, Bool.or_assoc]) (fun p hp q => ?_), h8.node, h8.ans, h8.sofar, h8.chg, h8.at_⟩
            have := h8.mtr.new p hp q
            simpa [withE, Lay.seq, Bool.or_assoc] using this)
          all_goals rw [← HNz.out.1] at HW8
          all_goals simp only [set4] at HW8
          all_goals have hen := HNz.out.2
          all_goals go_wp2_with fail
          all_goals refine ⟨⟨k + 1, G1, cp1, by omega, by go_num, by rw [hen], HW8⟩, ?_⟩
          all_goals go_light
          all_goals simp [intOf]
          all_goals omega
      | false =>
        go_upto_region 10 with fail
        obtain ⟨W5, hW5⟩ : ∃ W5 : World, W5 = w3 := ⟨_, rfl⟩
        have HW4 := HW3
        rw [← hW5] at HW4
        rw [← hW5]
        clear s0 s1 s2 s3 s4 s5 s6 s7 f0 f1 f2 f3 f4 f5 f6 f7 ee0 ee1 ee2 ee3 ee4 ee5 ee6 ee7
        clear hW5
        have HCe := HC.out W5 (HMo.out W5 HW4.out.1.chg)
        cases hnb : nulB t with
        | true =>
          rw [hnb] at HCe
          have HNy := HNx.out true hnb.symm
          have HNz : Hid (lyS (ts.take (k + 1)) true (Lay.no a) = gk.seq false true l ∧ nulS (ts.take (k + 1)) = false) := ⟨HNy.1, by rw [HNy.2]; rfl⟩
          have HCf : Hid (Calls Tryz.prog f #[.agg c] W5 fun e w'' => e = .returned (.bool true) ∧ Below W5.heap.size W5 w'') := HCe
          clear hnb HCe HNy
          rcases hT with ⟨rfl, rfl⟩ | ⟨rfl, rfl⟩ | ⟨rfl, rfl⟩ | ⟨rfl, rfl⟩
          all_goals go_wp2_with fail
          all_goals refine HCf.out.mono ?_
          all_goals rintro e w6 ⟨rfl, hb6⟩
          all_goals have HW6 : Hid (SqB w w6 206 (.slice (some ⟨g0, 0, none⟩) n cp0) base M (withT (withT T gk) l) G1 cp1 l.nx (fun p q => withE (withE E gk) l p q || (gk.lst p && l.fst q)) en mp gk.fst gk.lst G ∧ BoxAt w6 w.heap.size 183 8 w1.heap.size (spL l.fst l.lst)) := ⟨HW4.out.1.below hb6, HW4.out.2.below hb6⟩
          all_goals have s4 := HW6.out.1.sofar.cell (j := 4) rfl
          all_goals have f4 := HW6.out.1.sofar.frozen 4
          all_goals have ee4 := HW6.out.2.cell (j := 4) rfl
          all_goals have s5 := HW6.out.1.sofar.cell (j := 5) rfl
          all_goals have f5 := HW6.out.1.sofar.frozen 5
          all_goals have ee5 := HW6.out.2.cell (j := 5) rfl
          all_goals have s6 := HW6.out.1.sofar.cell (j := 6) rfl
          all_goals have f6 := HW6.out.1.sofar.frozen 6
          all_goals have ee6 := HW6.out.2.cell (j := 6) rfl
          all_goals have s7 := HW6.out.1.sofar.cell (j := 7) rfl
          all_goals have f7 := HW6.out.1.sofar.frozen 7
          all_goals have ee7 := HW6.out.2.cell (j := 7) rfl
          all_goals go_wp2_with fail
          all_goals refine (HUl.out _).mono ?_
          all_goals rintro e w7 ⟨rfl, hb7⟩
          all_goals clear s4 s5 s6 s7 f4 f5 f6 f7
          all_goals have HB7 := HW6.out.1.sofar.below hb7
          all_goals have s4 := HB7.cell (j := 4) rfl
          all_goals have f4 := HB7.frozen 4
          all_goals have s5 := HB7.cell (j := 5) rfl
          all_goals have f5 := HB7.frozen 5
          all_goals have s6 := HB7.cell (j := 6) rfl
          all_goals have f6 := HB7.frozen 6
          all_goals have s7 := HB7.cell (j := 7) rfl
          all_goals have f7 := HB7.frozen 7
          all_goals have HW8 : Hid (SqI w (set4 w7 (w.heap.size + 1 + 1) 4 (sOr gk.lst l.lst)) (.slice (some ⟨g0, 0, none⟩) n cp0) base M T G1 cp1 E en mp (gk.seq false true l) G) := (by
            have h8 := (HW6.out.1.below hb7).set hM0.2 (by decide) (sOr gk.lst l.lst) (set_last _ _ _) hlow
            refine ⟨h8.mtr.iff (fun b p _ _ => by simp [withT, Lay.seq, Bool.or_assoc]) (fun q p _ _ => by simp [withE, Lay.seq, Bool.or_assoc]) (fun p hp q => ?_), h8.node, h8.ans, h8.sofar, h8.chg, h8.at_⟩
            have := h8.mtr.new p hp q
            simpa [withE, Lay.seq, Bool.or_assoc] using this)
          all_goals rw [← HNz.out.1] at HW8
          all_goals simp only [set4] at HW8
          all_goals have hen := HNz.out.2
          all_goals clear HB7 hb7
          all_goals go_wp2_with fail
          all_goals refine ⟨⟨k + 1, G1, cp1, by omega, by go_num, by rw [hen], HW8⟩, ?_⟩
          all_goals go_light
          all_goals simp [intOf]
          all_goals omega
        | false =>
          rw [hnb] at HCe
          have HNy := HNx.out false hnb.symm
          have HNz : Hid (lyS (ts.take (k + 1)) true (Lay.no a) = gk.seq false false l ∧ nulS (ts.take (k + 1)) = false) := ⟨HNy.1, by rw [HNy.2]; rfl⟩
          have HCf : Hid (Calls Tryz.prog f #[.agg c] W5 fun e w'' => e = .returned (.bool false) ∧ Below W5.heap.size W5 w'') := HCe
          clear hnb HCe HNy
          rcases hT with ⟨rfl, rfl⟩ | ⟨rfl, rfl⟩ | ⟨rfl, rfl⟩ | ⟨rfl, rfl⟩
          all_goals go_wp2_with fail
          all_goals refine HCf.out.mono ?_
          all_goals rintro e w6 ⟨rfl, hb6⟩
          all_goals have HW6 : Hid (SqB w w6 206 (.slice (some ⟨g0, 0, none⟩) n cp0) base M (withT (withT T gk) l) G1 cp1 l.nx (fun p q => withE (withE E gk) l p q || (gk.lst p && l.fst q)) en mp gk.fst gk.lst G ∧ BoxAt w6 w.heap.size 183 8 w1.heap.size (spL l.fst l.lst)) := ⟨HW4.out.1.below hb6, HW4.out.2.below hb6⟩
          all_goals have s4 := HW6.out.1.sofar.cell (j := 4) rfl
          all_goals have f4 := HW6.out.1.sofar.frozen 4
          all_goals have ee4 := HW6.out.2.cell (j := 4) rfl
          all_goals have s5 := HW6.out.1.sofar.cell (j := 5) rfl
          all_goals have f5 := HW6.out.1.sofar.frozen 5
          all_goals have ee5 := HW6.out.2.cell (j := 5) rfl
          all_goals have s6 := HW6.out.1.sofar.cell (j := 6) rfl
          all_goals have f6 := HW6.out.1.sofar.frozen 6
          all_goals have ee6 := HW6.out.2.cell (j := 6) rfl
          all_goals have s7 := HW6.out.1.sofar.cell (j := 7) rfl
          all_goals have f7 := HW6.out.1.sofar.frozen 7
          all_goals have ee7 := HW6.out.2.cell (j := 7) rfl
          all_goals have HW8 : Hid (SqI w (set4 w6 (w.heap.size + 1 + 1) 4 l.lst) (.slice (some ⟨g0, 0, none⟩) n cp0) base M T G1 cp1 E en mp (gk.seq false false l) G) := (by
            have h8 := HW6.out.1.set hM0.2 (by decide) l.lst (set_last _ _ _) hlow
            refine ⟨h8.mtr.iff (fun b p _ _ => by simp [withT, Lay.seq, Bool.or_assoc]) (fun q p _ _ => by simp [withE, Lay.seq, Bool.or_assoc]) (fun p hp q => ?_), h8.node, h8.ans, h8.sofar, h8.chg, h8.at_⟩
            have := h8.mtr.new p hp q
            simpa [withE, Lay.seq, Bool.or_assoc] using this)
          all_goals rw [← HNz.out.1] at HW8
          all_goals simp only [set4] at HW8
          all_goals have hen := HNz.out.2
          all_goals go_wp2_with fail
          all_goals refine ⟨⟨k + 1, G1, cp1, by omega, by go_num, by rw [hen], HW8⟩, ?_⟩
          all_goals go_light
          all_goals simp [intOf]
          all_goals omega
    · obtain rfl : k = n := by omega
      have zk : ¬ (k : Int) < (k : Int) := by omega
      have hfull : ts.take k = ts := by rw [HH.out.1, List.take_length]
      rw [hfull] at HJ
      clear hfull
      have s0 := HJ.out.sofar.cell (j := 0) rfl
      have s1 := HJ.out.sofar.cell (j := 1) rfl
      have s2 := HJ.out.sofar.cell (j := 2) rfl
      have s3 := HJ.out.sofar.cell (j := 3) rfl
      have s4 := HJ.out.sofar.cell (j := 4) rfl
      have s5 := HJ.out.sofar.cell (j := 5) rfl
      have s6 := HJ.out.sofar.cell (j := 6) rfl
      have s7 := HJ.out.sofar.cell (j := 7) rfl
      have r0 := HJ.out.ans.cell (j := 0) rfl
      have r1 := HJ.out.ans.cell (j := 1) rfl
      have r2 := HJ.out.ans.cell (j := 2) rfl
      have r3 := HJ.out.ans.cell (j := 3) rfl
      have r4 := HJ.out.ans.cell (j := 4) rfl
      have r5 := HJ.out.ans.cell (j := 5) rfl
      have r6 := HJ.out.ans.cell (j := 6) rfl
      have r7 := HJ.out.ans.cell (j := 7) rfl
      have f0 := HJ.out.ans.frozen 0
      have f1 := HJ.out.ans.frozen 1
      have f2 := HJ.out.ans.frozen 2
      have f3 := HJ.out.ans.frozen 3
      have f4 := HJ.out.ans.frozen 4
      have f5 := HJ.out.ans.frozen 5
      have f6 := HJ.out.ans.frozen 6
      have f7 := HJ.out.ans.frozen 7
      have HF : Hid (LayR base M T G E en mp (lyS ts true (Lay.no a)) w (.returned (spV (lyS ts true (Lay.no a)).fst (lyS ts true (Lay.no a)).lst)) (setSp wr (w.heap.size + 1) (lyS ts true (Lay.no a)).fst (lyS ts true (Lay.no a)).lst) ∧ BoxAt (setSp wr (w.heap.size + 1) (lyS ts true (Lay.no a)).fst (lyS ts true (Lay.no a)).lst) w.heap.size 183 8 (w.heap.size + 1) (spL (lyS ts true (Lay.no a)).fst (lyS ts true (Lay.no a)).lst)) := by
        obtain ⟨f1, f2, f3⟩ := lay_fin HJ.out.mtr HJ.out.ans HJ.out.chg (lyS ts true (Lay.no a)).fst (lyS ts true (Lay.no a)).lst
        exact ⟨⟨_, _, rfl, ⟨f1, f3, HJ.out.at_⟩⟩, f2⟩
      go_wp2_with fail
      exact bodyPost_ret (v := spV (lyS ts true (Lay.no a)).fst (lyS ts true (Lay.no a)).lst) (span_res157 (base := w.heap.size) (g := w.heap.size + 1) rfl HF.out.2) rfl HF.out.1
end Go.Proofs.YtkidabedcgngcaaGreatDoor

/-
  layAlt.
-/
namespace Go.Proofs.YtkidabedcgngcaaGreatDoor
open Go.ChangeShapes Go.WideShapes Go.ChangeAt Go.RowKit Go.Deep
set_option linter.unusedVariables false
set_option linter.unusedSimpArgs false
set_option maxRecDepth 100000

theorem lyA_snoc : ∀ (os : List (List Pat)) (ts : List Pat) (g : Lay), lyA (os ++ [ts]) g = (lyA os g).alt (lyS ts true (Lay.no (lyA os g).nx))
  | [], ts, g => by simp [lyA]
  | o :: os, ts, g => by simp only [List.cons_append, lyA, lyA_snoc os ts]
theorem wtA_app : ∀ (l m : List (List Pat)), wtA (l ++ m) = wtA l + wtA m
  | [], m => by simp [wtA]
  | t :: l, m => by simp only [List.cons_append, wtA, wtA_app l m]; omega
set_option maxHeartbeats 4000000 in
/-- lay at a seq in an interface. -/
theorem lay_seqnode {base : Nat} {w0 : World} {ts : List Pat} {u : Value} (h : LqC base w0 ts u) : ∃ (sa : Option Addr) (sn sc : Nat), u = .slice sa sn sc ∧ ∀ (M : Nat) (T : Nat → PS) (G cp a : Nat) (E : Nat → PS) (en : PS) (mp : Nat) (w : World), MtrI w base M T G cp a E en mp → Below base w0 w → a + wtS ts ≤ 256 →
  Calls Tryz.prog 135 #[.pointer (some ⟨M, 0, none⟩), .iface 206 (.agg #[.slice sa sn sc])] w (LayR base M T G E en mp (lyS ts true (Lay.no a)) w) := by
  obtain ⟨sa, sn, sc, rfl, H⟩ := h
  refine ⟨sa, sn, sc, rfl, fun M T G cp a E en mp w h hw0 hwt => ?_⟩
  obtain ⟨l, hl⟩ : ∃ l, l = lyS ts true (Lay.no a) := ⟨_, rfl⟩
  obtain ⟨W0, hW0⟩ : ∃ W0 : World, W0 = (w.alloc (.cells zsA 183)).alloc (.cells #[.slice sa sn sc] 206) := ⟨_, rfl⟩
  have HW0 : Hid (BoxAt W0 w.heap.size 183 8 w.heap.size zsA.toList ∧ Below w.heap.size w W0 ∧ MtrI W0 base M T G cp a E en mp) := by
    have b1 := boxAt_new w (base := w.heap.size) (t := 183) (sz := 8) zsA (Nat.le_refl _) rfl
    have k0 : Below w.heap.size w W0 := by rw [hW0]; exact ((Below.refl _ _).alloc (Nat.le_refl _) _).alloc (by simp) _
    refine ⟨?_, k0, h.below k0⟩
    rw [hW0]; exact b1.below ((Below.refl _ _).alloc (Nat.le_refl _) _)
  have hM0 := h.ltM
  have hG0 := h.ltG
  have HL : Hid (Calls Tryz.prog 157 #[.pointer (some ⟨M, 0, none⟩), .agg #[.slice sa sn sc]] W0 (LayR base M T G E en mp l W0)) := by
    rw [hl]; exact H M T G cp a E en mp W0 HW0.out.2.2 (hw0.trans (HW0.out.2.1.mono (by omega))) hwt
  rw [← hl]
  clear h H hl hw0
  have hAs := asSB #[.slice sa sn sc]
  have hAs2 := asSC #[.slice sa sn sc]
  have hAs3 := asSR #[.slice sa sn sc]
  have hAs4 := asSS #[.slice sa sn sc]
  go_enter Tryz.func135, Tryz.ntmps135
  go_wp2_with fail
  have hW0' := hW0
  simp only [zsA] at hW0'
  rw [← hW0']
  clear hW0 hW0' hAs hAs2 hAs3 hAs4
  refine HL.out.mono ?_
  rintro e w5 ⟨G1, cp1, rfl, H1⟩
  have q0 := HW0.out.2.1.size
  have HB5 := HW0.out.1.chg H1.out.2.1 (by omega)
  have r0 := HB5.cell (j := 0) rfl
  have r1 := HB5.cell (j := 1) rfl
  have r2 := HB5.cell (j := 2) rfl
  have r3 := HB5.cell (j := 3) rfl
  have r4 := HB5.cell (j := 4) rfl
  have r5 := HB5.cell (j := 5) rfl
  have r6 := HB5.cell (j := 6) rfl
  have r7 := HB5.cell (j := 7) rfl
  have f0 := HB5.frozen 0
  have f1 := HB5.frozen 1
  have f2 := HB5.frozen 2
  have f3 := HB5.frozen 3
  have f4 := HB5.frozen 4
  have f5 := HB5.frozen 5
  have f6 := HB5.frozen 6
  have f7 := HB5.frozen 7
  have HF : Hid (LayR base M T G E en mp l w (.returned (spV l.fst l.lst)) (setSp w5 w.heap.size l.fst l.lst) ∧ BoxAt (setSp w5 w.heap.size l.fst l.lst) w.heap.size 183 8 w.heap.size (spL l.fst l.lst)) := by
    obtain ⟨f1, f2, f3⟩ := lay_fin H1.out.1 HB5 ((Chg.of_below HW0.out.2.1).trans H1.out.2.1) l.fst l.lst
    exact ⟨⟨G1, cp1, rfl, ⟨f1, f3, by rcases H1.out.2.2 with q | q; exact .inl q; exact .inr (by omega)⟩⟩, f2⟩
  clear HB5
  go_wp2_with fail
  exact bodyPost_ret (v := spV l.fst l.lst) (span_res135 (base := w.heap.size) (g := w.heap.size) rfl HF.out.2) rfl HF.out.1
def AlI (w X : World) (uv : Value) (base M : Nat) (T : Nat → PS) (G cp : Nat) (E : Nat → PS) (en : PS) (mp : Nat) (g : Lay) (G0 : Nat) : Prop := SqB w X 142 uv base M (withT T g) G cp g.nx (withE E g) en mp g.fst g.lst G0
set_option maxHeartbeats 8000000 in
theorem layAlt_core {base : Nat} {w0 : World} {lo : Nat → Prop} {os : List (List Pat)} {g0 cp0 : Nat} {us : List Value} (hul : us.length = os.length) (hV : ValsAt w0 lo g0 us) (hlo : g0 < base) (hN : ∀ (i : Nat) x t, us[i]? = some x → os[i]? = some t → LqC base w0 t x) (M : Nat) (T : Nat → PS) (G cp a : Nat) (E : Nat → PS) (en : PS) (mp : Nat) (w : World) (h : MtrI w base M T G cp a E en mp) (hw0 : Below base w0 w) (hwt : a + wtA os ≤ 256) :
  Calls Tryz.prog 158 #[.pointer (some ⟨M, 0, none⟩), .agg #[.slice (some ⟨g0, 0, none⟩) os.length cp0]] w (LayR base M T G E en mp (lyA os (Lay.no a)) w) := by
  obtain ⟨n, hn⟩ : ∃ n, n = os.length := ⟨_, rfl⟩
  have hn5 : n ≤ 256 := by have := wtA_len os; omega
  rw [← hn]
  obtain ⟨W0, hW0⟩ : ∃ W0 : World, W0 = ((w.alloc (.cells #[.slice (some ⟨g0, 0, none⟩) n cp0] 142)).alloc (.cells zsA 183)).alloc (.cells zsA 183) := ⟨_, rfl⟩
  have hM0 := h.ltM
  have hlow := Nat.le_of_lt (Nat.lt_of_le_of_lt h.ltM.1 h.ltM.2)
  have HGb : Hid (base ≤ G) := h.ltG.1
  have HW0 : Hid (SqB w W0 142 (.slice (some ⟨g0, 0, none⟩) n cp0) base M (withT T (Lay.no a)) G cp a (withE E (Lay.no a)) en mp (Lay.no a).fst (Lay.no a).lst G) := by
    have b1 := boxAt_new w (base := w.heap.size) (t := 142) (sz := 1) #[.slice (some ⟨g0, 0, none⟩) n cp0] (Nat.le_refl _) rfl
    have b2 := boxAt_new (w.alloc (.cells #[.slice (some ⟨g0, 0, none⟩) n cp0] 142)) (base := w.heap.size) (t := 183) (sz := 8) zsA (by simp) rfl
    have b3 := boxAt_new ((w.alloc (.cells #[.slice (some ⟨g0, 0, none⟩) n cp0] 142)).alloc (.cells zsA 183)) (base := w.heap.size) (t := 183) (sz := 8) zsA (by simp; omega) rfl
    rw [World.size_alloc] at b2
    rw [World.size_alloc, World.size_alloc] at b3
    have k1 : ∀ (x : World) (o : Obj), Below x.heap.size x (x.alloc o) := fun x o => (Below.refl _ _).alloc (Nat.le_refl _) _
    have k0 : Below w.heap.size w W0 := by rw [hW0]; exact (((Below.refl _ _).alloc (Nat.le_refl _) _).alloc (by simp) _).alloc (by simp; omega) _
    have hz : spL (Lay.no a).fst (Lay.no a).lst = zsA.toList := by
      show spL sNo sNo = _
      simp only [spL, wdN_no]; rfl
    refine ⟨(h.below k0).iff (fun b p _ _ => by simp [withT, Lay.no]) (fun q p _ _ => by simp [withE, Lay.no]) (fun p hp q => by have := h.new p hp q; simp [withE, Lay.no, this]), ?_, ?_, ?_, Chg.of_below k0, .inl rfl⟩
    · rw [hW0]; exact (b1.below (k1 _ _)).below (k1 _ _)
    · rw [hW0]; exact b2.below (k1 _ _)
    · rw [hz, hW0]; exact b3
  have HH : Hid (n = os.length ∧ us.length = n ∧ ValsAt w0 lo g0 us ∧ Below base w0 w ∧ (∀ (i : Nat) x t, us[i]? = some x → os[i]? = some t → LqC base w0 t x) ∧ a + wtA os ≤ 256) := ⟨hn, by rw [hn]; exact hul, hV, hw0, hN, hwt⟩
  clear h hul hV hN hw0 hn hwt
  go_enter Tryz.func158, Tryz.ntmps158
  go_wp2_with fail
  have hW0' := hW0
  simp only [zsA] at hW0'
  rw [← hW0']
  clear hW0 hW0'
  go_loopw [13] (fun iv wr => ∃ (k Gk ck : Nat), k ≤ n ∧ iv = .int .i64 k ∧ Hid (AlI w wr (.slice (some ⟨g0, 0, none⟩) n cp0) base M T Gk ck E en mp (lyA (os.take k) (Lay.no a)) G)) (fun iv _ => n - (intOf iv).toNat)
  case atStart => exact ⟨0, G, cp, Nat.zero_le _, rfl, HW0.out⟩
  case round =>
    clear HW0
    obtain ⟨k, Gk, ck, hk, rfl, HJ⟩ := hrel
    by_cases hlt : k < n
    · have zk : (k : Int) < (n : Int) := by omega
      obtain ⟨x, hx⟩ : ∃ x, us[k]? = some x := ⟨_, List.getElem?_eq_getElem (by rw [HH.out.2.1]; exact hlt)⟩
      obtain ⟨t, ht⟩ : ∃ t, os[k]? = some t := ⟨_, List.getElem?_eq_getElem (by rw [← HH.out.1]; exact hlt)⟩
      obtain ⟨sa, sn, sc, rfl, HLy⟩ := lay_seqnode (HH.out.2.2.2.2.1 k x t hx ht)
      have hbw : Below base w0 wr := Chg.below HH.out.2.2.2.1 HJ.out.chg hlow (fun j q => by rcases q with q | q; omega; have := HGb.out; omega)
      have c0 : wr.cell? ⟨g0, k, none⟩ = some (.slice sa sn sc) := by rw [hbw.cell (p := ⟨g0, k, none⟩) hlo]; exact HH.out.2.2.1.val k _ hx
      obtain ⟨gk, hgk⟩ : ∃ gk, gk = lyA (os.take k) (Lay.no a) := ⟨_, rfl⟩
      obtain ⟨l, hl⟩ : ∃ l, l = lyS t true (Lay.no gk.nx) := ⟨_, rfl⟩
      have htk : os.take (k + 1) = os.take k ++ [t] := by rw [List.take_add_one, ht]; rfl
      have hwk : wtA (os.take k) + wtS t ≤ wtA os := by
        have h1 : os = os.take (k + 1) ++ os.drop (k + 1) := (List.take_append_drop _ _).symm
        have h2 := congrArg wtA h1
        rw [wtA_app, htk, wtA_app] at h2
        simp only [wtA] at h2
        omega
      have hnxk : gk.nx ≤ a + wtA (os.take k) := by rw [hgk]; have := nx_A (os.take k) (Lay.no a); simpa [Lay.no] using this
      have hwt := HH.out.2.2.2.2.2
      rw [← hgk] at HJ
      have HNx : Hid (lyA (os.take (k + 1)) (Lay.no a) = gk.alt l) := by show _ = _; rw [htk, lyA_snoc, ← hgk, ← hl]
      have k0 : ∀ o : Obj, Below wr.heap.size wr (wr.alloc o) := fun o => (Below.refl _ _).alloc (Nat.le_refl _) _
      have HJ0 : Hid (∀ o : Obj, SqB w (wr.alloc o) 142 (.slice (some ⟨g0, 0, none⟩) n cp0) base M (withT T gk) Gk ck gk.nx (withE E gk) en mp gk.fst gk.lst G) := fun o => SqB.below HJ.out (k0 o)
      have HL : Hid (∀ o : Obj, Calls Tryz.prog 135 #[.pointer (some ⟨M, 0, none⟩), .iface 206 (.agg #[.slice sa sn sc])] (wr.alloc o) (LayR base M (withT T gk) Gk (withE E gk) en mp l (wr.alloc o))) := fun o => by
        rw [hl]; exact HLy M (withT T gk) Gk ck gk.nx (withE E gk) en mp _ (HJ0.out o).mtr (hbw.trans ((k0 o).mono (by have := HJ.out.chg.size; omega))) (by omega)
      clear hx ht HLy hbw hgk hl htk hwk hnxk hwt k0
      go_wp2_with fail
      refine (HL.out _).mono ?_
      rintro e w1 ⟨G1, cp1, rfl, H1⟩
      clear c0 HL
      obtain ⟨W2, hW2⟩ : ∃ W2 : World, W2 = w1.alloc (.cells (spL l.fst l.lst).toArray 183) := ⟨_, rfl⟩
      have k2 : Below w1.heap.size w1 W2 := by rw [hW2]; exact (Below.refl _ _).alloc (Nat.le_refl _) _
      have h1q := (HJ0.out _).laid (by decide) hM0.2 H1.out.1 H1.out.2.1 H1.out.2.2
      have hw1 : w.heap.size ≤ w1.heap.size := h1q.chg.size
      have HW2 : Hid (SqB w W2 142 (.slice (some ⟨g0, 0, none⟩) n cp0) base M (withT (withT T gk) l) G1 cp1 l.nx (withE (withE E gk) l) en mp gk.fst gk.lst G ∧ BoxAt W2 w.heap.size 183 8 w1.heap.size (spL l.fst l.lst)) := ⟨h1q.below k2, by rw [hW2]; exact boxAt_new w1 _ hw1 rfl⟩
      have hwn : w.heap.size + 1 + 1 < w1.heap.size := h1q.sofar.lt.2
      have s0 := HW2.out.1.sofar.cell (j := 0) rfl
      have s1 := HW2.out.1.sofar.cell (j := 1) rfl
      have s2 := HW2.out.1.sofar.cell (j := 2) rfl
      have s3 := HW2.out.1.sofar.cell (j := 3) rfl
      have s4 := HW2.out.1.sofar.cell (j := 4) rfl
      have s5 := HW2.out.1.sofar.cell (j := 5) rfl
      have s6 := HW2.out.1.sofar.cell (j := 6) rfl
      have s7 := HW2.out.1.sofar.cell (j := 7) rfl
      have f0 := HW2.out.1.sofar.frozen 0
      have f1 := HW2.out.1.sofar.frozen 1
      have f2 := HW2.out.1.sofar.frozen 2
      have f3 := HW2.out.1.sofar.frozen 3
      have f4 := HW2.out.1.sofar.frozen 4
      have f5 := HW2.out.1.sofar.frozen 5
      have f6 := HW2.out.1.sofar.frozen 6
      have f7 := HW2.out.1.sofar.frozen 7
      have ee0 := HW2.out.2.cell (j := 0) rfl
      have ee1 := HW2.out.2.cell (j := 1) rfl
      have ee2 := HW2.out.2.cell (j := 2) rfl
      have ee3 := HW2.out.2.cell (j := 3) rfl
      have ee4 := HW2.out.2.cell (j := 4) rfl
      have ee5 := HW2.out.2.cell (j := 5) rfl
      have ee6 := HW2.out.2.cell (j := 6) rfl
      have ee7 := HW2.out.2.cell (j := 7) rfl
      have HUf : Hid (∀ wx : World, Calls Tryz.prog 161 #[psV gk.fst, psV l.fst] wx fun e w' => e = .returned (psV (sOr gk.fst l.fst)) ∧ Below wx.heap.size wx w') := fun wx => union_core gk.fst l.fst wx
      have HUl : Hid (∀ wx : World, Calls Tryz.prog 161 #[psV gk.lst, psV l.lst] wx fun e w' => e = .returned (psV (sOr gk.lst l.lst)) ∧ Below wx.heap.size wx w') := fun wx => union_core gk.lst l.lst wx
      clear h1q k2 H1
      go_upto_region 6 with fail
      have hW2' := hW2
      simp only [spL] at hW2'
      rw [← hW2']
      clear hW2 hW2'
      go_wp2_with fail
      refine (HUf.out _).mono ?_
      rintro e w4 ⟨rfl, hb4⟩
      have HW4 : Hid (SqB w (set4 w4 (w.heap.size + 1 + 1) 0 (sOr gk.fst l.fst)) 142 (.slice (some ⟨g0, 0, none⟩) n cp0) base M (withT (withT T gk) l) G1 cp1 l.nx (withE (withE E gk) l) en mp (sOr gk.fst l.fst) gk.lst G ∧ BoxAt (set4 w4 (w.heap.size + 1 + 1) 0 (sOr gk.fst l.fst)) w.heap.size 183 8 w1.heap.size (spL l.fst l.lst)) := ⟨(HW2.out.1.below hb4).set hM0.2 (by decide) _ (set_first _ _ _) hlow, (HW2.out.2.below hb4).chg (chg_set4 (S := fun j => j = w.heap.size + 1 + 1) w4 _ _ _ rfl) (by omega)⟩
      have HB4 := HW2.out.1.sofar.below hb4
      clear s0 s1 s2 s3 s4 s5 s6 s7 f0 f1 f2 f3 f4 f5 f6 f7 ee0 ee1 ee2 ee3 ee4 ee5 ee6 ee7
      have s0 := HB4.cell (j := 0) rfl
      have s1 := HB4.cell (j := 1) rfl
      have s2 := HB4.cell (j := 2) rfl
      have s3 := HB4.cell (j := 3) rfl
      have s4 := HB4.cell (j := 4) rfl
      have s5 := HB4.cell (j := 5) rfl
      have s6 := HB4.cell (j := 6) rfl
      have s7 := HB4.cell (j := 7) rfl
      have f0 := HB4.frozen 0
      have f1 := HB4.frozen 1
      have f2 := HB4.frozen 2
      have f3 := HB4.frozen 3
      have f4 := HB4.frozen 4
      have f5 := HB4.frozen 5
      have f6 := HB4.frozen 6
      have f7 := HB4.frozen 7
      clear HB4 hb4
      go_upto_region 7 with fail
      obtain ⟨W5, hW5⟩ : ∃ W5 : World, W5 = set4 w4 (w.heap.size + 1 + 1) 0 (sOr gk.fst l.fst) := ⟨_, rfl⟩
      have hW5' := hW5
      simp only [set4, Nat.zero_add] at hW5'
      rw [← hW5']
      rw [← hW5] at HW4
      clear hW5 hW5'
      clear s0 s1 s2 s3 s4 s5 s6 s7 f0 f1 f2 f3 f4 f5 f6 f7
      have s0 := HW4.out.1.sofar.cell (j := 0) rfl
      have s1 := HW4.out.1.sofar.cell (j := 1) rfl
      have s2 := HW4.out.1.sofar.cell (j := 2) rfl
      have s3 := HW4.out.1.sofar.cell (j := 3) rfl
      have s4 := HW4.out.1.sofar.cell (j := 4) rfl
      have s5 := HW4.out.1.sofar.cell (j := 5) rfl
      have s6 := HW4.out.1.sofar.cell (j := 6) rfl
      have s7 := HW4.out.1.sofar.cell (j := 7) rfl
      have f0 := HW4.out.1.sofar.frozen 0
      have f1 := HW4.out.1.sofar.frozen 1
      have f2 := HW4.out.1.sofar.frozen 2
      have f3 := HW4.out.1.sofar.frozen 3
      have f4 := HW4.out.1.sofar.frozen 4
      have f5 := HW4.out.1.sofar.frozen 5
      have f6 := HW4.out.1.sofar.frozen 6
      have f7 := HW4.out.1.sofar.frozen 7
      have ee0 := HW4.out.2.cell (j := 0) rfl
      have ee1 := HW4.out.2.cell (j := 1) rfl
      have ee2 := HW4.out.2.cell (j := 2) rfl
      have ee3 := HW4.out.2.cell (j := 3) rfl
      have ee4 := HW4.out.2.cell (j := 4) rfl
      have ee5 := HW4.out.2.cell (j := 5) rfl
      have ee6 := HW4.out.2.cell (j := 6) rfl
      have ee7 := HW4.out.2.cell (j := 7) rfl
      go_wp2_with fail
      refine (HUl.out _).mono ?_
      rintro e w7 ⟨rfl, hb7⟩
      clear s0 s1 s2 s3 s4 s5 s6 s7 f0 f1 f2 f3 f4 f5 f6 f7 ee0 ee1 ee2 ee3 ee4 ee5 ee6 ee7
      have HB7 := HW4.out.1.sofar.below hb7
      have s0 := HB7.cell (j := 0) rfl
      have s1 := HB7.cell (j := 1) rfl
      have s2 := HB7.cell (j := 2) rfl
      have s3 := HB7.cell (j := 3) rfl
      have s4 := HB7.cell (j := 4) rfl
      have s5 := HB7.cell (j := 5) rfl
      have s6 := HB7.cell (j := 6) rfl
      have s7 := HB7.cell (j := 7) rfl
      have f0 := HB7.frozen 0
      have f1 := HB7.frozen 1
      have f2 := HB7.frozen 2
      have f3 := HB7.frozen 3
      have f4 := HB7.frozen 4
      have f5 := HB7.frozen 5
      have f6 := HB7.frozen 6
      have f7 := HB7.frozen 7
      have HW8 : Hid (AlI w (set4 w7 (w.heap.size + 1 + 1) 4 (sOr gk.lst l.lst)) (.slice (some ⟨g0, 0, none⟩) n cp0) base M T G1 cp1 E en mp (gk.alt l) G) := by
        have h8 := (HW4.out.1.below hb7).set hM0.2 (by decide) (sOr gk.lst l.lst) (set_last _ _ _) hlow
        refine ⟨h8.mtr.iff (fun b p _ _ => by simp [withT, Lay.alt, Bool.or_assoc]) (fun q p _ _ => by simp [withE, Lay.alt, Bool.or_assoc]) (fun p hp q => ?_), h8.node, h8.ans, h8.sofar, h8.chg, h8.at_⟩
        have := h8.mtr.new p hp q
        simpa [withE, Lay.alt, Bool.or_assoc] using this
      rw [← HNx.out] at HW8
      simp only [set4] at HW8
      clear HB7 hb7
      go_wp2_with fail
      refine ⟨⟨k + 1, G1, cp1, by omega, by go_num, HW8⟩, ?_⟩
      go_light
      simp [intOf]
      omega
    · obtain rfl : k = n := by omega
      have zk : ¬ (k : Int) < (k : Int) := by omega
      have hfull : os.take k = os := by rw [HH.out.1, List.take_length]
      rw [hfull] at HJ
      clear hfull
      have s0 := HJ.out.sofar.cell (j := 0) rfl
      have s1 := HJ.out.sofar.cell (j := 1) rfl
      have s2 := HJ.out.sofar.cell (j := 2) rfl
      have s3 := HJ.out.sofar.cell (j := 3) rfl
      have s4 := HJ.out.sofar.cell (j := 4) rfl
      have s5 := HJ.out.sofar.cell (j := 5) rfl
      have s6 := HJ.out.sofar.cell (j := 6) rfl
      have s7 := HJ.out.sofar.cell (j := 7) rfl
      have r0 := HJ.out.ans.cell (j := 0) rfl
      have r1 := HJ.out.ans.cell (j := 1) rfl
      have r2 := HJ.out.ans.cell (j := 2) rfl
      have r3 := HJ.out.ans.cell (j := 3) rfl
      have r4 := HJ.out.ans.cell (j := 4) rfl
      have r5 := HJ.out.ans.cell (j := 5) rfl
      have r6 := HJ.out.ans.cell (j := 6) rfl
      have r7 := HJ.out.ans.cell (j := 7) rfl
      have f0 := HJ.out.ans.frozen 0
      have f1 := HJ.out.ans.frozen 1
      have f2 := HJ.out.ans.frozen 2
      have f3 := HJ.out.ans.frozen 3
      have f4 := HJ.out.ans.frozen 4
      have f5 := HJ.out.ans.frozen 5
      have f6 := HJ.out.ans.frozen 6
      have f7 := HJ.out.ans.frozen 7
      have HF : Hid (LayR base M T G E en mp (lyA os (Lay.no a)) w (.returned (spV (lyA os (Lay.no a)).fst (lyA os (Lay.no a)).lst)) (setSp wr (w.heap.size + 1) (lyA os (Lay.no a)).fst (lyA os (Lay.no a)).lst) ∧ BoxAt (setSp wr (w.heap.size + 1) (lyA os (Lay.no a)).fst (lyA os (Lay.no a)).lst) w.heap.size 183 8 (w.heap.size + 1) (spL (lyA os (Lay.no a)).fst (lyA os (Lay.no a)).lst)) := by
        obtain ⟨f1, f2, f3⟩ := lay_fin HJ.out.mtr HJ.out.ans HJ.out.chg (lyA os (Lay.no a)).fst (lyA os (Lay.no a)).lst
        exact ⟨⟨_, _, rfl, ⟨f1, f3, HJ.out.at_⟩⟩, f2⟩
      go_wp2_with fail
      exact bodyPost_ret (v := spV (lyA os (Lay.no a)).fst (lyA os (Lay.no a)).lst) (span_res158 (base := w.heap.size) (g := w.heap.size + 1) rfl HF.out.2) rfl HF.out.1
end Go.Proofs.YtkidabedcgngcaaGreatDoor

/-
  lay at any node.
-/
namespace Go.Proofs.YtkidabedcgngcaaGreatDoor
open Go.ChangeShapes Go.WideShapes Go.ChangeAt Go.RowKit Go.Deep
set_option linter.unusedVariables false
set_option linter.unusedSimpArgs false
set_option maxRecDepth 100000

set_option maxHeartbeats 4000000 in
theorem lay_altnode {base : Nat} {w0 : World} {os : List (List Pat)} {g0 n cp0 : Nat} (H : ∀ (M : Nat) (T : Nat → PS) (G cp a : Nat) (E : Nat → PS) (en : PS) (mp : Nat) (w : World), MtrI w base M T G cp a E en mp → Below base w0 w → a + wtA os ≤ 256 →
  Calls Tryz.prog 158 #[.pointer (some ⟨M, 0, none⟩), .agg #[.slice (some ⟨g0, 0, none⟩) n cp0]] w (LayR base M T G E en mp (lyA os (Lay.no a)) w)) : LyC base w0 (.alt os) (.iface 142 (.agg #[.slice (some ⟨g0, 0, none⟩) n cp0])) := by
  intro M T G cp a E en mp w h hw0 hwt
  obtain ⟨l, hl⟩ : ∃ l, l = lyA os (Lay.no a) := ⟨_, rfl⟩
  have hl2 : lyP (.alt os) a = l := by rw [hl]; simp only [lyP]
  simp only [wtP] at hwt
  obtain ⟨W0, hW0⟩ : ∃ W0 : World, W0 = (w.alloc (.cells zsA 183)).alloc (.cells #[.slice (some ⟨g0, 0, none⟩) n cp0] 142) := ⟨_, rfl⟩
  have HW0 : Hid (BoxAt W0 w.heap.size 183 8 w.heap.size zsA.toList ∧ Below w.heap.size w W0 ∧ MtrI W0 base M T G cp a E en mp) := by
    have b1 := boxAt_new w (base := w.heap.size) (t := 183) (sz := 8) zsA (Nat.le_refl _) rfl
    have k0 : Below w.heap.size w W0 := by rw [hW0]; exact ((Below.refl _ _).alloc (Nat.le_refl _) _).alloc (by simp) _
    refine ⟨?_, k0, h.below k0⟩
    rw [hW0]; exact b1.below ((Below.refl _ _).alloc (Nat.le_refl _) _)
  have hM0 := h.ltM
  have hG0 := h.ltG
  have HL : Hid (Calls Tryz.prog 158 #[.pointer (some ⟨M, 0, none⟩), .agg #[.slice (some ⟨g0, 0, none⟩) n cp0]] W0 (LayR base M T G E en mp l W0)) := by
    rw [hl]; exact H M T G cp a E en mp W0 HW0.out.2.2 (hw0.trans (HW0.out.2.1.mono (by omega))) (by omega)
  rw [hl2]
  clear h H hl hl2 hw0
  have hAs := asAB #[.slice (some ⟨g0, 0, none⟩) n cp0]
  have hAs2 := asAC #[.slice (some ⟨g0, 0, none⟩) n cp0]
  have hAs3 := asAR #[.slice (some ⟨g0, 0, none⟩) n cp0]
  have hAs4 := asAS #[.slice (some ⟨g0, 0, none⟩) n cp0]
  have hAs5 := asAA #[.slice (some ⟨g0, 0, none⟩) n cp0]
  go_enter Tryz.func135, Tryz.ntmps135
  go_wp2_with fail
  have hW0' := hW0
  simp only [zsA] at hW0'
  rw [← hW0']
  clear hW0 hW0' hAs hAs2 hAs3 hAs4 hAs5
  refine HL.out.mono ?_
  rintro e w5 ⟨G1, cp1, rfl, H1⟩
  have q0 := HW0.out.2.1.size
  have HB5 := HW0.out.1.chg H1.out.2.1 (by omega)
  have r0 := HB5.cell (j := 0) rfl
  have f0 := HB5.frozen 0
  have r1 := HB5.cell (j := 1) rfl
  have f1 := HB5.frozen 1
  have r2 := HB5.cell (j := 2) rfl
  have f2 := HB5.frozen 2
  have r3 := HB5.cell (j := 3) rfl
  have f3 := HB5.frozen 3
  have r4 := HB5.cell (j := 4) rfl
  have f4 := HB5.frozen 4
  have r5 := HB5.cell (j := 5) rfl
  have f5 := HB5.frozen 5
  have r6 := HB5.cell (j := 6) rfl
  have f6 := HB5.frozen 6
  have r7 := HB5.cell (j := 7) rfl
  have f7 := HB5.frozen 7
  have HF : Hid (LayR base M T G E en mp l w (.returned (spV l.fst l.lst)) (setSp w5 w.heap.size l.fst l.lst) ∧ BoxAt (setSp w5 w.heap.size l.fst l.lst) w.heap.size 183 8 w.heap.size (spL l.fst l.lst)) := by
    obtain ⟨f1, f2, f3⟩ := lay_fin H1.out.1 HB5 ((Chg.of_below HW0.out.2.1).trans H1.out.2.1) l.fst l.lst
    exact ⟨⟨G1, cp1, rfl, ⟨f1, f3, by rcases H1.out.2.2 with q | q; exact .inl q; exact .inr (by omega)⟩⟩, f2⟩
  clear HB5
  go_wp2_with fail
  exact bodyPost_ret (v := spV l.fst l.lst) (span_res135 (base := w.heap.size) (g := w.heap.size) rfl HF.out.2) rfl HF.out.1
/-- A node in memory is laid. -/
theorem lay_seqs {base : Nat} {w0 : World} {lo : Nat → Prop} (hlo : ∀ k, lo k → k < base) (hw5 : base = w0.heap.size) {ts : List Pat} {u : Value} (h : SeqIs (fun t v => wtP t ≤ 500 → LyC base w0 t v ∧ NulV w0 t v) w0 lo ts u) (hwt : wtS ts ≤ 500) : LqC base w0 ts u := by
  rcases h with ⟨rfl, rfl⟩ | ⟨g, cp, us, rfl, hul, hV, hN⟩
  · exact laySeq_nil base w0
  · exact laySeq_some hul hV (hlo g hV.blk) (fun i x t hx ht => hN i x t hx ht (Nat.le_trans (wtS_mem (List.mem_of_getElem? ht)) hwt)) hw5
theorem lay_all {base : Nat} {w0 : World} {lo : Nat → Prop} (hlo : ∀ k, lo k → k < base) (hw5 : base = w0.heap.size) : ∀ (n : Nat) {t : Pat} {v : Value}, NodeIs n w0 lo t v → wtP t ≤ 500 → LyC base w0 t v
  | 0, _, _, h, _ => h.elim
  | n + 1, .byte b, v, h, _ => by
    rw [show v = byteV b from h]
    intro M T G cp a E en mp w hm _ hwt
    simp only [wtP] at hwt
    exact lay_byte b w hm (by omega)
  | n + 1, .cls f, v, h, _ => by
    rw [show v = clsV f from h]
    intro M T G cp a E en mp w hm _ hwt
    simp only [wtP] at hwt
    exact lay_cls f w hm (by omega)
  | n + 1, .rep t o r, v, ⟨u, h1, h2⟩, hw => by
    rw [h1]
    exact lay_rep (NodeOk.iface ⟨n, h2⟩) (lay_all hlo hw5 n h2 (by simpa only [wtP] using hw)) o r
  | n + 1, .alt os, v, ⟨u, h1, ⟨g, cp, us, h2, h3, h4, h5⟩⟩, hw => by
    rw [h1, h2]
    simp only [wtP] at hw
    refine lay_altnode (fun M T G cp' a E en mp w hm hw0 hwt => layAlt_core h3 h4 (hlo g h4.blk) (fun i x ts hx hts => ?_) M T G cp' a E en mp w hm hw0 hwt)
    exact lay_seqs hlo hw5 ((h5 i x ts hx hts).mono (fun t v q hq => ⟨lay_all hlo hw5 n q hq, nul_all n q hq⟩) (fun _ _ q => q)) (by have := wtA_mem (List.mem_of_getElem? hts); omega)
end Go.Proofs.YtkidabedcgngcaaGreatDoor

/-
  makeMatcher.
-/
namespace Go.Proofs.YtkidabedcgngcaaGreatDoor
open Go.ChangeShapes Go.WideShapes Go.ChangeAt Go.RowKit Go.Deep
set_option linter.unusedVariables false
set_option linter.unusedSimpArgs false
set_option maxRecDepth 100000

def mtrZ (fv mv : Value) : Array Value := (Array.replicate 1024 (.int .u64 0)) ++ #[fv, .int .u64 0, .int .u64 0, .int .u64 0, .int .u64 0, mv]
theorem build_mtr0 (a : Option Addr) (n c : Nat) (m : Option Nat) (w : World) : (Instr.build 181 #[(1, .slice a n c), (3, .map m)]).run Tryz.prog w = .ok (.agg (mtrZ (.slice a n c) (.map m))) w := by kernel_rfl
theorem mtrA_some : ∃ F : Value → Value → Array Value, ∀ fv mv, F fv mv = mtrZ fv mv := ⟨_, fun _ _ => rfl⟩
noncomputable def mtrA (fv mv : Value) : Array Value := Classical.choose mtrA_some fv mv
theorem mtrA_eq (fv mv : Value) : mtrA fv mv = mtrZ fv mv := Classical.choose_spec mtrA_some fv mv
theorem build_mtr (a : Option Addr) (n c : Nat) (m : Option Nat) (w : World) : (Instr.build 181 #[(1, .slice a n c), (3, .map m)]).run Tryz.prog w = .ok (.agg (mtrA (.slice a n c) (.map m))) w := by rw [mtrA_eq]; exact build_mtr0 a n c m w
theorem mtrA_size (fv mv : Value) : (mtrA fv mv).size = 1030 := by rw [mtrA_eq]; simp [mtrZ]
theorem mtrA_list (fv : Value) (mp : Nat) : (mtrA fv (.map (some mp))).toList = rngV 1030 (mV (fun _ => sNo) fv sNo mp) := by
  rw [mtrA_eq]
  refine List.ext_getElem? (fun i => ?_)
  by_cases hi : i < 1030
  · rw [rngV_get hi]
    unfold mtrZ mV eV
    rw [Array.toList_append, Array.toList_replicate]
    by_cases h1 : i < 1024
    · rw [List.getElem?_append_left (by simpa using h1), if_pos h1, wdN_no]
      rw [List.getElem?_replicate, if_pos h1]; rfl
    · rw [List.getElem?_append_right (by simpa using h1), if_neg h1]
      simp only [List.length_replicate, wdN_no]
      rcases (by omega : i = 1024 ∨ i = 1025 ∨ i = 1026 ∨ i = 1027 ∨ i = 1028 ∨ i = 1029) with rfl | rfl | rfl | rfl | rfl | rfl <;> rfl
  · rw [List.getElem?_eq_none (by simp [mtrZ]; omega), List.getElem?_eq_none (by rw [rngV_len]; omega)]
/-- The matcher as it is made. -/
theorem mtr_made (w : World) (hT : TabD w) (u : Value) : MtrI ((((w.alloc (.cells #[u] 142)).alloc (.cells z4 178)).alloc (.map #[] 0)).alloc (.cells (mtrA (.slice (some ⟨w.heap.size + 1, 0, none⟩) 1 1) (.map (some (w.heap.size + 1 + 1)))) 181)) w.heap.size (w.heap.size + 1 + 1 + 1) (fun _ => sNo) (w.heap.size + 1) 1 1 (fun _ => sNo) sNo (w.heap.size + 1 + 1) := by
  obtain ⟨W1, hW1⟩ : ∃ W1 : World, W1 = w.alloc (.cells #[u] 142) := ⟨_, rfl⟩
  have k1 : ∀ (x : World) (o : Obj), Below x.heap.size x (x.alloc o) := fun x o => (Below.refl _ _).alloc (Nat.le_refl _) _
  have z1 : W1.heap.size = w.heap.size + 1 := by rw [hW1]; simp
  rw [← hW1]
  obtain ⟨W2, hW2⟩ : ∃ W2 : World, W2 = W1.alloc (.cells z4 178) := ⟨_, rfl⟩
  have z2 : W2.heap.size = w.heap.size + 1 + 1 := by rw [hW2]; simp [z1]
  have r2 : W2.ownsRow w.heap.size 178 4 (.slice (some ⟨w.heap.size + 1, 0, none⟩) 1 1) 1 z4.toList := by
    have := World.ownsRow_lit W1 (base := w.heap.size) (e := 178) (size := 4) z4 1 (by omega) (by decide) rfl
    rw [z1] at this
    rw [hW2]; exact this
  rw [← hW2]
  obtain ⟨W3, hW3⟩ : ∃ W3 : World, W3 = W2.alloc (.map #[] 0) := ⟨_, rfl⟩
  have z3 : W3.heap.size = w.heap.size + 1 + 1 + 1 := by rw [hW3]; simp [z2]
  rw [← hW3]
  have h3 : Below W2.heap.size W2 W3 := by rw [hW3]; exact k1 _ _
  have b4 := boxAt_new W3 (base := w.heap.size) (t := 181) (sz := 1030) (mtrA (.slice (some ⟨w.heap.size + 1, 0, none⟩) 1 1) (.map (some (w.heap.size + 1 + 1)))) (by omega) (mtrA_size _ _)
  rw [mtrA_list, z3] at b4
  have hw : Below w.heap.size w W1 := by rw [hW1]; exact k1 _ _
  have hw2 : Below W1.heap.size W1 W2 := by rw [hW2]; exact k1 _ _
  refine ⟨b4, ?_, fun p _ q => rfl, ?_, hT.lt⟩
  · have r4 := own_chg (own_chg r2 (Chg.of_below h3 (S := fun _ => False)) (fun _ _ q => q)) (Chg.of_below (k1 W3 (.cells (mtrA (.slice (some ⟨w.heap.size + 1, 0, none⟩) 1 1) (.map (some (w.heap.size + 1 + 1)))) 181)) (S := fun _ => False)) (fun _ _ q => q)
    have e : rngV (4 * 1) (eV (fun _ => sNo)) = z4.toList := by
      have := eV_snoc (E := fun _ => sNo) (a := 0) (fun _ => rfl)
      rw [← this]; rfl
    rw [e]; exact r4
  · exact (((hT.chg (Chg.of_below hw (S := fun _ => False)) (fun q => q)).chg (Chg.of_below hw2 (S := fun _ => False)) (fun q => q)).chg (Chg.of_below h3 (S := fun _ => False)) (fun q => q)).chg (Chg.of_below (k1 W3 _) (S := fun _ => False)) (fun q => q)
end Go.Proofs.YtkidabedcgngcaaGreatDoor

/-
  makeMatcher.
-/
namespace Go.Proofs.YtkidabedcgngcaaGreatDoor
open Go.ChangeShapes Go.WideShapes Go.ChangeAt Go.RowKit Go.Deep
set_option linter.unusedVariables false
set_option linter.unusedSimpArgs false
set_option maxRecDepth 100000

/-- What follows each position of a pattern, 0 being the place ahead of them all. -/
def mkE (l : Lay) : Nat → PS := fun p q => l.ed p q || (p == 0 && l.fst q)
def mkT (l : Lay) : Nat → PS := fun b p => l.tk p (UInt8.ofNat b)
def mkN (l : Lay) (em : Bool) : PS := fun p => l.lst p || (em && p == 0)
def MkR (os : List (List Pat)) (w : World) (e : Ending) (w' : World) : Prop := ∃ M G cp mp, e = .returned (.pointer (some ⟨M, 0, none⟩)) ∧
  Hid (MtrI w' w.heap.size M (mkT (lyA os (Lay.no 1))) G cp (lyA os (Lay.no 1)).nx (mkE (lyA os (Lay.no 1))) (mkN (lyA os (Lay.no 1)) (nulA os)) mp ∧ w'.heap[mp]? = some (.map #[] 0) ∧ w.heap.size ≤ mp ∧ Below w.heap.size w w')
theorem MtrI.ends4 {w : World} {base M : Nat} {T : Nat → PS} {G cp a : Nat} {E : Nat → PS} {en : PS} {mp : Nat} (h : MtrI w base M T G cp a E en mp) : w.cell? ⟨M, 1025, none⟩ = some (.int .u64 (wdN en 0 : Int)) ∧ w.cell? ⟨M, 1026, none⟩ = some (.int .u64 (wdN en 1 : Int)) ∧ w.cell? ⟨M, 1027, none⟩ = some (.int .u64 (wdN en 2 : Int)) ∧ w.cell? ⟨M, 1028, none⟩ = some (.int .u64 (wdN en 3 : Int)) ∧ w.frozen? ⟨M, 1025, none⟩ = false ∧ w.frozen? ⟨M, 1026, none⟩ = false ∧ w.frozen? ⟨M, 1027, none⟩ = false ∧ w.frozen? ⟨M, 1028, none⟩ = false :=
  ⟨h.ends (j := 0) (by omega), h.ends (j := 1) (by omega), h.ends (j := 2) (by omega), h.ends (j := 3) (by omega), h.frzM _, h.frzM _, h.frzM _, h.frzM _⟩
theorem chg_map {S : Nat → Prop} {w w' : World} {mp : Nat} (h : w.heap[mp]? = some (.map #[] 0)) (hc : Chg S w w') (hn : ¬ S mp) : w'.heap[mp]? = some (.map #[] 0) := (hc.block mp (Array.getElem?_eq_some_iff.1 h).1 hn).trans h
theorem box_map {w : World} {base t sz g mp : Nat} {vs : List Value} (h : BoxAt w base t sz g vs) (hm : w.heap[mp]? = some (.map #[] 0)) : ¬ mp = g := fun q => by
  have := h.heap
  rw [← q, hm] at this
  cases this
theorem row_map {w : World} {base e size g n cp mp : Nat} {vs : List Value} (h : w.ownsRow base e size (.slice (some ⟨g, 0, none⟩) n cp) n vs) (hm : w.heap[mp]? = some (.map #[] 0)) : ¬ mp = g := fun q => by
  rcases h.2 with ⟨h0, _⟩ | ⟨g', cap', cur, hv, _, hh, _⟩
  · cases h0
  · simp at hv
    rw [← hv.1, ← q, hm] at hh
    cases hh
theorem make_ps (w : World) : (Instr.makeSlice 175 (.int .i64 1) (.int .i64 1)).run Tryz.prog w = .ok (.slice (some ⟨w.heap.size, 0, none⟩) 1 1) (w.alloc (.cells z4 178)) := by kernel_rfl
theorem make_mp (w : World) : (Instr.makeMap 176 none).run Tryz.prog w = .ok (.map (some w.heap.size)) (w.alloc (.map #[] 0)) := by kernel_rfl
theorem wpList_build_mtr {ops : Array Oper} {rest : List Oper} {o : Oper} {a : Act} {Q : Exit → Act → World → Prop} (w : World) (hgd : o.guard = none) (x y : Operand) (ho : o.op = .build 181 #[(1, x), (3, y)]) {b : Option Addr} {n c : Nat} {m : Option Nat} (hx : a.eval x = .slice b n c) (hy : a.eval y = .map m)
    (h : wpList Tryz.prog ops Q rest (a.put o.dst (.agg (mtrA (.slice b n c) (.map m)))) w) : wpList Tryz.prog ops Q (o :: rest) a w := by
  refine wpList_plain hgd fun K hK => ?_
  have hb := build_mtr b n c m w
  unfold Oper.wp execOp
  simp only [ho, Sem.run_bind, Sem.run_pure, Result.andThen_ok, List.map_toArray, List.map_cons, List.map_nil, hx, hy, hb]
  exact hK _ _ h
set_option maxHeartbeats 8000000 in
theorem makeMatcher_core {lo : Nat → Prop} {d : Nat} {os : List (List Pat)} {u : Value} (w : World) (hT : TabD w) (hlo : ∀ k, lo k → k < w.heap.size) (hA : AltIs (NodeIs d w lo) w lo os u) (hwt : wtA os ≤ 250) : ∃ (sa : Option Addr) (sn sc : Nat), u = .slice sa sn sc ∧ Calls Tryz.prog 105 #[.agg #[.slice sa sn sc]] w (MkR os w) := by
  have hAl := hA
  obtain ⟨g, cp0, us, rfl, h3, h4, h5⟩ := hA
  refine ⟨_, _, _, rfl, ?_⟩
  obtain ⟨n, hn⟩ : ∃ n, n = os.length := ⟨_, rfl⟩
  have hLy : LyC w.heap.size w (.alt os) (.iface 142 (.agg #[.slice (some ⟨g, 0, none⟩) os.length cp0])) := lay_all hlo rfl (d + 1) (t := .alt os) ⟨_, rfl, hAl⟩ (by simp only [wtP]; omega)
  obtain ⟨T0, c0, f0, hv, hT0, HC⟩ := nul_all (d + 1) (w := w) (lo := lo) (t := .alt os) (v := .iface 142 (.agg #[.slice (some ⟨g, 0, none⟩) os.length cp0])) ⟨_, rfl, hAl⟩ (by simp only [wtP]; omega)
  simp only [Value.iface.injEq, Value.agg.injEq] at hv
  obtain ⟨rfl, rfl⟩ := hv
  have hf0 : f0 = 136 := by
    rcases hT0 with ⟨q, _⟩ | ⟨q, _⟩ | ⟨q, _⟩ | ⟨_, q⟩
    · exact absurd q (by decide)
    · exact absurd q (by decide)
    · exact absurd q (by decide)
    · exact q
  subst hf0
  rw [← hn] at hLy HC ⊢
  obtain ⟨l, hl⟩ : ∃ l, l = lyA os (Lay.no 1) := ⟨_, rfl⟩
  have hl2 : lyP (.alt os) 1 = l := by rw [hl]; simp only [lyP]
  obtain ⟨em, hem⟩ : ∃ em, em = nulA os := ⟨_, rfl⟩
  have HNul : Hid (∀ w', Below w.heap.size w w' → Calls Tryz.prog 136 #[.agg #[.slice (some ⟨g, 0, none⟩) n cp0]] w' fun e w'' => e = .returned (.bool em) ∧ Below w'.heap.size w' w'') := fun w' hw => by
    have := HC.out w' hw; rw [hem]; simpa only [nulB] using this
  obtain ⟨W0, hW0⟩ : ∃ W0 : World, W0 = (((w.alloc (.cells #[.slice (some ⟨g, 0, none⟩) n cp0] 142)).alloc (.cells z4 178)).alloc (.map #[] 0)).alloc (.cells (mtrA (.slice (some ⟨w.heap.size + 1, 0, none⟩) 1 1) (.map (some (w.heap.size + 1 + 1)))) 181) := ⟨_, rfl⟩
  have k0 : Below w.heap.size w W0 := by rw [hW0]; exact ((((Below.refl _ _).alloc (Nat.le_refl _) _).alloc (by simp) _).alloc (by simp; omega) _).alloc (by simp; omega) _
  have hmd := mtr_made w hT (.slice (some ⟨g, 0, none⟩) n cp0)
  rw [← hW0] at hmd
  have hmap : W0.heap[w.heap.size + 1 + 1]? = some (.map #[] 0) := by
    rw [hW0]
    have z : (((w.alloc (.cells #[.slice (some ⟨g, 0, none⟩) n cp0] 142)).alloc (.cells z4 178))).heap.size = w.heap.size + 1 + 1 := by simp
    rw [← z]
    exact (Below.heap_alloc _ _ _ (by simp)).trans (World.alloc_heap_new _ _)
  have hnode : BoxAt W0 w.heap.size 142 1 w.heap.size [.slice (some ⟨g, 0, none⟩) n cp0] := by
    have k1 : ∀ (x : World) (o : Obj), Below x.heap.size x (x.alloc o) := fun x o => (Below.refl _ _).alloc (Nat.le_refl _) _
    have b1 := boxAt_new w (base := w.heap.size) (t := 142) (sz := 1) #[.slice (some ⟨g, 0, none⟩) n cp0] (Nat.le_refl _) rfl
    rw [hW0]; exact ((b1.below (k1 _ _)).below (k1 _ _)).below (k1 _ _)
  have HL : Hid (Calls Tryz.prog 135 #[.pointer (some ⟨w.heap.size + 1 + 1 + 1, 0, none⟩), .iface 142 (.agg #[.slice (some ⟨g, 0, none⟩) n cp0])] W0 (LayR w.heap.size (w.heap.size + 1 + 1 + 1) (fun _ => sNo) (w.heap.size + 1) (fun _ => sNo) sNo (w.heap.size + 1 + 1) l W0)) := by
    rw [← hl2]; exact hLy _ _ _ _ _ _ _ _ W0 hmd k0 (by simp only [wtP]; omega)
  have HW0 : Hid (W0.heap[w.heap.size + 1 + 1]? = some (.map #[] 0) ∧ BoxAt W0 w.heap.size 142 1 w.heap.size [.slice (some ⟨g, 0, none⟩) n cp0] ∧ Below w.heap.size w W0) := ⟨hmap, hnode, k0⟩
  have hspl : Spt 1 l := by rw [← hl2]; exact (cor_P (.alt os) 1).spt
  have HSp : Hid (Spt 1 l ∧ l = lyA os (Lay.no 1) ∧ em = nulA os) := ⟨hspl, hl, hem⟩
  have hbd := build_mtr (some ⟨w.heap.size + 1, 0, none⟩) 1 1 (some (w.heap.size + 1 + 1))
  have b0 := hnode.cell (j := 0) rfl
  have hsz := mtrA_size (.slice (some ⟨w.heap.size + 1, 0, none⟩) 1 1) (.map (some (w.heap.size + 1 + 1)))
  clear hAl h3 h4 h5 hLy HC hT0 hl hl2 hem hmd hmap hnode k0 hspl hlo hT hn
  have hmk := make_ps
  have hmm := make_mp
  go_enter Tryz.func105, Tryz.ntmps105
  go_upto_region 2 with (refine wpList_build_mtr _ rfl _ _ rfl rfl rfl ?_)
  rw [← hW0]
  clear hW0 hbd hsz hmk hmm
  go_wp2_with fail
  refine HL.out.mono ?_
  rintro e w1 ⟨G1, cp1, rfl, H1⟩
  obtain ⟨W2, hW2⟩ : ∃ W2 : World, W2 = w1.alloc (.cells (spL l.fst l.lst).toArray 183) := ⟨_, rfl⟩
  have k2 : Below w1.heap.size w1 W2 := by rw [hW2]; exact (Below.refl _ _).alloc (Nat.le_refl _) _
  have HW2 : Hid (MtrI W2 w.heap.size (w.heap.size + 1 + 1 + 1) (withT (fun _ => sNo) l) G1 cp1 l.nx (withE (fun _ => sNo) l) sNo (w.heap.size + 1 + 1) ∧ BoxAt W2 w.heap.size 142 1 w.heap.size [.slice (some ⟨g, 0, none⟩) n cp0] ∧ BoxAt W2 w.heap.size 183 8 w1.heap.size (spL l.fst l.lst) ∧ W2.heap[w.heap.size + 1 + 1]? = some (.map #[] 0) ∧ Below w.heap.size w W2) := by
    have q1 := HW0.out.2.2.size
    have q2 := H1.out.2.1.size
    have hnd := HW0.out.2.1.chg H1.out.2.1 (by omega)
    have hmp := chg_map HW0.out.1 H1.out.2.1 (by omega)
    have hb1 : Below w.heap.size w w1 := Chg.below HW0.out.2.2 H1.out.2.1 q1 (fun k q => by omega)
    exact ⟨H1.out.1.below k2, hnd.below k2, by rw [hW2]; exact boxAt_new w1 _ (by omega) rfl, chg_map hmp (Chg.of_below k2 (S := fun _ => False)) (fun q => q), hb1.trans (k2.mono (by omega))⟩
  have hnx : 1 ≤ l.nx := HSp.out.1.le
  have hcap := HW2.out.1.caps
  have z0 : (0 : Int) < (l.nx : Int) := by omega
  have z00 : 0 < l.nx := by omega
  have c0 := HW2.out.1.fol
  have g0 := HW2.out.2.2.1.cell (j := 0) rfl
  have g1 := HW2.out.2.2.1.cell (j := 1) rfl
  have g2 := HW2.out.2.2.1.cell (j := 2) rfl
  have g3 := HW2.out.2.2.1.cell (j := 3) rfl
  have g4 := HW2.out.2.2.1.cell (j := 4) rfl
  have g5 := HW2.out.2.2.1.cell (j := 5) rfl
  have g6 := HW2.out.2.2.1.cell (j := 6) rfl
  have g7 := HW2.out.2.2.1.cell (j := 7) rfl
  obtain ⟨e0, e1, e2, e3, y0, y1, y2, y3⟩ := HW2.out.1.edge4 (p := 0) (by omega)
  simp only [Nat.zero_mul, Nat.zero_add] at e0 e1 e2 e3 y0 y1 y2 y3
  clear b0 HL H1
  go_upto_region 3 with fail
  have hW2' := hW2
  simp only [spL] at hW2'
  rw [← hW2']
  clear hW2 hW2' k2
  have HS0 : Hid (W2.drew.cell? ⟨w.heap.size + 1 + 1 + 1, 1024, none⟩ = some (.slice (some ⟨G1, 0, none⟩) l.nx cp1) ∧ W2.drew.cell? ⟨w1.heap.size, 0, none⟩ = some (.int .u64 (wdN l.fst 0 : Int)) ∧ W2.drew.cell? ⟨w1.heap.size, 1, none⟩ = some (.int .u64 (wdN l.fst 1 : Int)) ∧ W2.drew.cell? ⟨w1.heap.size, 2, none⟩ = some (.int .u64 (wdN l.fst 2 : Int)) ∧ W2.drew.cell? ⟨w1.heap.size, 3, none⟩ = some (.int .u64 (wdN l.fst 3 : Int))) := ⟨c0, g0, g1, g2, g3⟩
  refine wp_region_T 7 (fun wz => wz.cell? ⟨w.heap.size + 1 + 1 + 1, 1024, none⟩ = some (.slice (some ⟨G1, 0, none⟩) l.nx cp1) ∧ wz.cell? ⟨w1.heap.size, 0, none⟩ = some (.int .u64 (wdN l.fst 0 : Int)) ∧ wz.cell? ⟨w1.heap.size, 1, none⟩ = some (.int .u64 (wdN l.fst 1 : Int)) ∧ wz.cell? ⟨w1.heap.size, 2, none⟩ = some (.int .u64 (wdN l.fst 2 : Int)) ∧ wz.cell? ⟨w1.heap.size, 3, none⟩ = some (.int .u64 (wdN l.fst 3 : Int))) (by kernel_rfl) ?_
  refine anyT_take (i := 0) (v := ?vm0) rfl (by kernel_rfl) (by kernel_rfl) (by kernel_rfl) (by kernel_rfl) (by decide) (fun _ _ _ h => h) (Or.inl ⟨by rfl, ?ym0⟩) HS0.out ?_
  case ym0 => (intro wz hSw; obtain ⟨d0, d1, d2, d3, d4⟩ := hSw; go_simp; (try with_reducible rfl))
  try simp only [Act.put, List.getElem_toArray, List.getElem_cons_zero, List.getElem_cons_succ, List.setIfInBounds_toArray, List.set_cons_zero, List.set_cons_succ]
  refine anyT_take (i := 1) (v := ?vm1) rfl (by kernel_rfl) (by kernel_rfl) (by kernel_rfl) (by kernel_rfl) (by decide) (fun _ _ _ h => h) (Or.inl ⟨by rfl, ?ym1⟩) HS0.out ?_
  case ym1 => (intro wz hSw; obtain ⟨d0, d1, d2, d3, d4⟩ := hSw; go_simp; (try with_reducible rfl))
  try simp only [Act.put, List.getElem_toArray, List.getElem_cons_zero, List.getElem_cons_succ, List.setIfInBounds_toArray, List.set_cons_zero, List.set_cons_succ]
  refine anyT_take (i := 2) (v := ?vm2) rfl (by kernel_rfl) (by kernel_rfl) (by kernel_rfl) (by kernel_rfl) (by decide) (fun _ _ _ h => h) (Or.inl ⟨by rfl, ?ym2⟩) HS0.out ?_
  case ym2 => (intro wz hSw; obtain ⟨d0, d1, d2, d3, d4⟩ := hSw; go_simp; (try with_reducible rfl))
  try simp only [Act.put, List.getElem_toArray, List.getElem_cons_zero, List.getElem_cons_succ, List.setIfInBounds_toArray, List.set_cons_zero, List.set_cons_succ]
  refine anyT_take (i := 3) (v := ?vm3) rfl (by kernel_rfl) (by kernel_rfl) (by kernel_rfl) (by kernel_rfl) (by decide) (fun _ _ _ h => h) (Or.inl ⟨by rfl, ?ym3⟩) HS0.out ?_
  case ym3 => (intro wz hSw; obtain ⟨d0, d1, d2, d3, d4⟩ := hSw; go_simp; (try with_reducible rfl))
  try simp only [Act.put, List.getElem_toArray, List.getElem_cons_zero, List.getElem_cons_succ, List.setIfInBounds_toArray, List.set_cons_zero, List.set_cons_succ]
  refine anyT_take (i := 4) (v := ?vm4) rfl (by kernel_rfl) (by kernel_rfl) (by kernel_rfl) (by kernel_rfl) (by decide) (fun _ _ _ h => h) (Or.inl ⟨by rfl, ?ym4⟩) HS0.out ?_
  case ym4 => (intro wz hSw; obtain ⟨d0, d1, d2, d3, d4⟩ := hSw; go_simp; (try with_reducible rfl))
  try simp only [Act.put, List.getElem_toArray, List.getElem_cons_zero, List.getElem_cons_succ, List.setIfInBounds_toArray, List.set_cons_zero, List.set_cons_succ]
  refine anyT_take (i := 5) (v := ?vm5) rfl (by kernel_rfl) (by kernel_rfl) (by kernel_rfl) (by kernel_rfl) (by decide) (fun _ _ _ h => h) (Or.inl ⟨by rfl, ?ym5⟩) HS0.out ?_
  case ym5 => (intro wz hSw; obtain ⟨d0, d1, d2, d3, d4⟩ := hSw; go_simp; (try with_reducible rfl))
  try simp only [Act.put, List.getElem_toArray, List.getElem_cons_zero, List.getElem_cons_succ, List.setIfInBounds_toArray, List.set_cons_zero, List.set_cons_succ]
  refine anyT_take (i := 6) (v := ?vm6) rfl (by kernel_rfl) (by kernel_rfl) (by kernel_rfl) (by kernel_rfl) (by decide) (fun _ _ _ h => h) (Or.inl ⟨by rfl, ?ym6⟩) HS0.out ?_
  case ym6 => (intro wz hSw; obtain ⟨d0, d1, d2, d3, d4⟩ := hSw; go_simp; (try with_reducible rfl))
  try simp only [Act.put, List.getElem_toArray, List.getElem_cons_zero, List.getElem_cons_succ, List.setIfInBounds_toArray, List.set_cons_zero, List.set_cons_succ]
  refine anyT_one (i := 7) (by kernel_rfl) rfl (fun K hK => ?_)
  go_simp
  refine hK.out _ _ (.inl rfl) ?_
  clear hK
  try simp only [Act.put, List.getElem_toArray, List.getElem_cons_zero, List.getElem_cons_succ, List.setIfInBounds_toArray, List.set_cons_zero, List.set_cons_succ]
  refine anyT_done (by kernel_rfl) ?_
  obtain ⟨W3, hW3⟩ : ∃ W3 : World, W3 = (set4 W2 G1 0 l.fst).drew := ⟨_, rfl⟩
  have hG1 : w.heap.size ≤ G1 := HW2.out.1.ltG.1
  have HW3 : Hid (MtrI W3 w.heap.size (w.heap.size + 1 + 1 + 1) (withT (fun _ => sNo) l) G1 cp1 l.nx (updE (withE (fun _ => sNo) l) 0 l.fst) sNo (w.heap.size + 1 + 1) ∧ BoxAt W3 w.heap.size 142 1 w.heap.size [.slice (some ⟨g, 0, none⟩) n cp0] ∧ BoxAt W3 w.heap.size 183 8 w1.heap.size (spL l.fst l.lst) ∧ W3.heap[w.heap.size + 1 + 1]? = some (.map #[] 0) ∧ Below w.heap.size w W3) := by
    have kd : Below (set4 W2 G1 0 l.fst).heap.size (set4 W2 G1 0 l.fst) W3 := by rw [hW3]; exact (Below.refl _ _).drew
    have hc : Chg (fun k => k = G1) W2 W3 := (chg_set4 (S := fun k => k = G1) W2 G1 0 l.fst rfl).trans (Chg.of_below kd)
    have hm := HW2.out.1.setE (p := 0) (by omega) l.fst
    simp only [Nat.mul_zero] at hm
    have hm := hm.below kd
    have hb : ∀ {t sz g : Nat} {vs : List Value}, t ≠ 178 → BoxAt W2 w.heap.size t sz g vs → BoxAt W3 w.heap.size t sz g vs := fun hne h => h.chg hc (fun q => own_apart HW2.out.1.row h (fun e => hne e.symm) G1 rfl (by rw [← q]; rfl))
    have hmp := HW2.out.2.2.2.1
    exact ⟨hm, hb (by decide) HW2.out.2.1, hb (by decide) HW2.out.2.2.1, chg_map hmp hc (row_map HW2.out.1.row hmp), Chg.below HW2.out.2.2.2.2 hc HW2.out.2.2.2.2.size (fun k q => by omega)⟩
  have hW3' := hW3
  simp only [set4, Nat.zero_add] at hW3'
  rw [← hW3']
  clear hW3 hW3' HS0 c0 e0 e1 e2 e3 y0 y1 y2 y3 g0 g1 g2 g3 g4 g5 g6 g7
  obtain ⟨e0, e1, e2, e3, y0, y1, y2, y3⟩ := HW3.out.1.ends4
  have g4 := HW3.out.2.2.1.cell (j := 4) rfl
  have g5 := HW3.out.2.2.1.cell (j := 5) rfl
  have g6 := HW3.out.2.2.1.cell (j := 6) rfl
  have g7 := HW3.out.2.2.1.cell (j := 7) rfl
  go_upto_region 5 with fail
  obtain ⟨W4, hW4⟩ : ∃ W4 : World, W4 = set4 W3 (w.heap.size + 1 + 1 + 1) 1025 l.lst := ⟨_, rfl⟩
  have HW4 : Hid (MtrI W4 w.heap.size (w.heap.size + 1 + 1 + 1) (mkT l) G1 cp1 l.nx (mkE l) l.lst (w.heap.size + 1 + 1) ∧ BoxAt W4 w.heap.size 142 1 w.heap.size [.slice (some ⟨g, 0, none⟩) n cp0] ∧ W4.heap[w.heap.size + 1 + 1]? = some (.map #[] 0) ∧ Below w.heap.size w W4) := by
    have hc : Chg (fun k => k = (w.heap.size + 1 + 1 + 1)) W3 W4 := by rw [hW4]; exact chg_set4 _ _ _ _ rfl
    have hm := HW3.out.1.setEn l.lst
    rw [← hW4] at hm
    refine ⟨hm.iff (fun b p _ _ => by simp [mkT, withT, sNo]) (fun q p _ _ => ?_) (fun p hp q => ?_), HW3.out.2.1.chg hc (by omega), chg_map HW3.out.2.2.2.1 hc (by omega), Chg.below HW3.out.2.2.2.2 hc HW3.out.2.2.2.2.size (fun k q => by omega)⟩
    · unfold mkE updE
      by_cases h0 : q = 0
      · subst h0
        have he : l.ed 0 p = false := by
          cases hx : l.ed 0 p with
          | false => rfl
          | true => have := (HSp.out.1.ed 0 p hx).1.1; omega
        simp [he]
      · rw [if_neg h0]; simp [withE, sNo, h0]
    · have h0 : ¬ p = 0 := by omega
      have := hm.new p hp q
      unfold updE at this
      rw [if_neg h0] at this
      simp [withE, sNo] at this
      simp [mkE, this, h0]
  have hW4' := hW4
  simp only [set4, Nat.reduceAdd] at hW4'
  rw [← hW4']
  clear hW4 hW4' e0 e1 e2 e3 y0 y1 y2 y3 g4 g5 g6 g7
  have b0 := HW4.out.2.1.cell (j := 0) rfl
  go_wp2_with fail
  refine (HNul.out _ HW4.out.2.2.2).mono ?_
  rintro e w5 ⟨rfl, hb5⟩
  have HW5 : Hid (MtrI w5 w.heap.size (w.heap.size + 1 + 1 + 1) (mkT l) G1 cp1 l.nx (mkE l) l.lst (w.heap.size + 1 + 1) ∧ w5.heap[w.heap.size + 1 + 1]? = some (.map #[] 0) ∧ Below w.heap.size w w5) := ⟨HW4.out.1.below hb5, chg_map HW4.out.2.2.1 (Chg.of_below hb5 (S := fun _ => False)) (fun q => q), HW4.out.2.2.2.trans (hb5.mono HW4.out.2.2.2.size)⟩
  clear hb5 b0
  cases em with
  | false =>
    go_wp2_with fail
    go_ret
    refine ⟨_, G1, cp1, w.heap.size + 1 + 1, rfl, ?_⟩
    rw [← HSp.out.2.1, ← HSp.out.2.2]
    exact ⟨HW5.out.1.iffEn (fun p _ => by simp [mkN]), HW5.out.2.1, by omega, HW5.out.2.2⟩
  | true =>
    obtain ⟨e0, e1, e2, e3, y0, y1, y2, y3⟩ := HW5.out.1.ends4
    have HWi : Hid (∀ wx : World, Calls Tryz.prog 137 #[psV l.lst, .int .i64 0] wx fun e w' => e = .returned (psV (sOr l.lst (sOne 0))) ∧ Below wx.heap.size wx w') := fun wx => with_core l.lst 0 (by omega) wx
    go_wp2_with fail
    refine (HWi.out _).mono ?_
    rintro e w6 ⟨rfl, hb6⟩
    have h6 := HW5.out.1.below hb6
    clear e0 e1 e2 e3 y0 y1 y2 y3
    obtain ⟨e0, e1, e2, e3, y0, y1, y2, y3⟩ := h6.ends4
    have HF : Hid (MkR os w (.returned (.pointer (some ⟨w.heap.size + 1 + 1 + 1, 0, none⟩))) (set4 w6 (w.heap.size + 1 + 1 + 1) 1025 (sOr l.lst (sOne 0)))) := by
      have hc : Chg (fun k => k = (w.heap.size + 1 + 1 + 1)) w6 (set4 w6 (w.heap.size + 1 + 1 + 1) 1025 (sOr l.lst (sOne 0))) := chg_set4 _ _ _ _ rfl
      have hb : Below w.heap.size w w6 := HW5.out.2.2.trans (hb6.mono HW5.out.2.2.size)
      have hmp := chg_map HW5.out.2.1 (Chg.of_below hb6 (S := fun _ => False)) (fun q => q)
      refine ⟨_, G1, cp1, w.heap.size + 1 + 1, rfl, ?_⟩
      rw [← HSp.out.2.1, ← HSp.out.2.2]
      exact ⟨(h6.setEn _).iffEn (fun p _ => by simp [mkN, sOr, sOne]), chg_map hmp hc (by omega), by omega, Chg.below hb hc hb.size (fun k q => by omega)⟩
    simp only [set4, Nat.reduceAdd] at HF
    clear h6 hb6
    go_wp2_with fail
    go_ret
    exact HF.out
end Go.Proofs.YtkidabedcgngcaaGreatDoor

