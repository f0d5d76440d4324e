/-
  (*impl.patternReader).alt, over a contract of seq; all of the reader by induction.
-/
import Derived.Test.YthkmecppjhcidacPi
import Derived.Maps.AppendAt
namespace Go.Proofs.Ythkmecppjhcidac
open Go.ChangeShapes Go.WideShapes Go.ChangeAt Go.RowKit Go.Deep
set_option linter.unusedVariables false
set_option linter.unusedSimpArgs false
set_option maxRecDepth 100000

structure AltJ (p : ByteArray) (base g i o : Nat) (w : World) (k : Nat) (os : List (List Pat)) (us : List Value) (gq cp : Nat) (wr : World) : Prop where
  ok : AltOk (sb p) o i k os
  nxt : ∀ c, (sb p)[k]? = some c → isEnd c
  rd : PrAt wr base g p k o
  res : BoxAt wr w.heap.size 162 1 w.heap.size [.slice none 0 0]
  row : OwnQ wr (w.heap.size + 1) gq cp us
  len : us.length = os.length
  seqs : ∀ (i : Nat) x ts, us[i]? = some x → os[i]? = some ts → SeqAt wr (fun j => w.heap.size + 1 ≤ j ∧ ¬ j = gq) ts x
  chg : Chg (fun k => k = g) w wr
  glt : g < w.heap.size
theorem OwnQ.chg {S : Nat → Prop} {w w' : World} {base gq cp : Nat} {us : List Value} (h : OwnQ w base gq cp us) (hc : Chg S w w') (hn : ¬ S gq) : OwnQ w' base gq cp us := own_chg h hc (fun k q => by simp [Value.ownBlock] at q; subst q; exact hn)
variable {p : ByteArray} {base g i o : Nat} {w : World} {k : Nat} {os : List (List Pat)} {us : List Value} {gq cp : Nat} {wr : World}
theorem AltJ.read {w' : World} {k' : Nat} (h : AltJ p base g i o w k os us gq cp wr) (hC : Chg (fun k => k = g) wr w') (hP : PrAt w' base g p k' o) :
    BoxAt w' w.heap.size 162 1 w.heap.size [.slice none 0 0] ∧ OwnQ w' (w.heap.size + 1) gq cp us ∧ (∀ (i : Nat) x ts, us[i]? = some x → os[i]? = some ts → SeqAt w' (fun j => w.heap.size + 1 ≤ j ∧ ¬ j = gq) ts x) ∧ Chg (fun k => k = g) w w' := by
  have hg := h.glt
  have hq := h.row.lt
  exact ⟨h.res.chg hC (by omega), h.row.chg hC (by omega), fun i x ts hx ht => (h.seqs i x ts hx ht).move hC (fun q hq => by subst hq; exact fun z => by have := z.1; omega) (fun q _ z => z), h.chg.trans hC⟩
/-- One option appended to the list of options. -/
theorem wpList_append_seq {ops : Array Oper} {rest : List Oper} {oo : Oper} {a : Act} {Q : Exit → Act → World → Prop} (w : World) (hgd : oo.guard = none) (s x : Operand)
    (ho : oo.op = .call { callee := .builtin .append, args := #[s, x], argTypes := #[160, 160] })
    (base gq cp n b : Nat) (us : List Value) (y : Value) (hs : a.eval s = .slice (some ⟨gq, 0, none⟩) n cp) (hx : a.eval x = .slice (some ⟨b, 0, none⟩) 1 1) (hn : n = us.length) (hO : OwnQ w base gq cp us)
    (hc : w.cell? ⟨b, 0, none⟩ = some y) (hy : y.oneCell' = true) (hlen : us.length ≤ 1000) (hbase : base ≤ w.heap.size)
    (h : ∀ g' cp' w', OwnQ w' base g' cp' (us ++ [y]) → w.grownBy w' (some gq) → (g' = gq ∨ g' = w.heap.size) → wpList Try.prog ops Q rest (a.put oo.dst (.slice (some ⟨g', 0, none⟩) (n + 1) cp')) w') : wpList Try.prog ops Q (oo :: rest) a w := by
  subst hn
  obtain ⟨i, hi, hz0, hz1, hz2⟩ := info_parts Try.infoSeq
  refine wpList_append_own_at w hgd s x 160 ho base 184 i _ 1 24 Try.underlying160 hi hz0 hz1 hz2 rfl (by decide) (.slice (some ⟨gq, 0, none⟩) us.length cp) us.length us hs hO ⟨b, 0, none⟩ 1 1 [y] hx rfl ?_ ?_ ?_ ?_ hbase ?_
  · intro j u hu
    have hj : j = 0 := by have := (List.getElem?_eq_some_iff.1 hu).1; simpa using this
    subst hj
    simp at hu
    rw [Addr.add_mid, ← hu]; exact hc
  · intro u hu
    simp at hu; subst hu; exact hy
  · unfold maxLen; omega
  · omega
  · intro v' w' hO' hgr hnil hat
    rcases hO'.2 with ⟨h0, _⟩ | ⟨g', cap', cur, hv, _, _, hn, hcap, _, _⟩
    · have := (hnil.1 h0).1
      cases this
    · subst hv
      refine h g' cap' w' ?_ hgr ?_
      · unfold OwnQ
        rw [List.length_append]
        exact hO'
      · simp [Value.ownBlock] at hat
        exact hat
theorem SeqAt.slice {w : World} {R : Nat → Prop} {ts : List Pat} {u : Value} (h : SeqAt w R ts u) : ∃ a n cp, u = .slice a n cp := by
  obtain ⟨n, h | ⟨g, cp, us, h1, _⟩⟩ := h
  · exact ⟨_, _, _, h.2⟩
  · exact ⟨_, _, _, h1⟩

set_option maxHeartbeats 8000000 in
theorem alt_of {p : ByteArray} {m : Nat} (H : SeqC p m) (hp : p.size ≤ 200) : AltC p m := by
  intro base g i o w hm hi ho h
  have hgl := h.lt.2
  obtain ⟨W0, hW0⟩ : ∃ W0 : World, W0 = w.alloc (Obj.cells #[.slice none 0 0] 162) := ⟨_, rfl⟩
  have HW0 : Hid (PrAt W0 base g p i o ∧ BoxAt W0 w.heap.size 162 1 w.heap.size [.slice none 0 0] ∧ Chg (fun k => k = g) w W0 ∧ W0.heap.size = w.heap.size + 1) := by
    have hb : Below w.heap.size w W0 := by rw [hW0]; exact (Below.refl _ _).alloc (Nat.le_refl _) _
    refine ⟨BoxAt.below h hb, ?_, Chg.of_below hb, by rw [hW0]; simp⟩
    rw [hW0]; exact boxAt_new w _ (Nat.le_refl _) rfl
  clear h
  go_enter Try.func125, Try.ntmps125
  go_upto_region 1 with fail
  rw [← hW0]
  clear hW0
  go_wp2_with fail
  refine (H base g i o W0 hm hi ho HW0.out.1).mono ?_
  rintro e w1 ⟨hC1, (⟨k, ts, u, hS, hE, rfl, hU, hP1⟩ | ⟨c, k, hc0, hk, rfl⟩)⟩
  case inr => exact ⟨rfl, HW0.out.2.2.1.trans hC1, .inr ⟨c, k, hc0, hk, rfl⟩⟩
  obtain ⟨ua, un, uc, rfl⟩ := hU.slice
  have hkp : i ≤ k ∧ k ≤ p.size := by have h1 := hS.le; have h2 := hS.lei; rw [sb_len] at h1; exact ⟨h2, h1⟩
  obtain ⟨W2, hW2⟩ : ∃ W2 : World, W2 = w1.alloc (Obj.cells #[.slice ua un uc] 184) := ⟨_, rfl⟩
  have HJ0 : Hid (AltJ p base g i o w k [ts] [.slice ua un uc] w1.heap.size 1 W2) := by
    have hb : Below w1.heap.size w1 W2 := by rw [hW2]; exact (Below.refl _ _).alloc (Nat.le_refl _) _
    have hz := HW0.out.2.2.2
    have hs := hC1.size
    refine ⟨AltOk.one hS, hE, BoxAt.below hP1 hb, (HW0.out.2.1.chg hC1 (by omega)).below hb, ?_, rfl, ?_, (HW0.out.2.2.1.trans hC1).trans (Chg.of_below hb), hgl⟩
    · rw [hW2]
      exact World.ownsRow_lit w1 #[.slice ua un uc] 1 (by omega) (by decide) rfl
    · intro j x ss hx hss
      have hj : j = 0 := by have := (List.getElem?_eq_some_iff.1 hx).1; simpa using this
      subst hj
      simp at hx hss
      subst hx hss
      exact hU.move (S := fun _ => False) (Chg.of_below hb) (fun q hq => hq.elim) (fun q hq z => ⟨by have := z.1; omega, by omega⟩)
  clear hC1 hS hE hU hP1 HW0
  go_wp2_with fail
  rw [← hW2]
  obtain ⟨gq0, hgq0⟩ : ∃ gq0, gq0 = w1.heap.size := ⟨_, rfl⟩
  rw [← hgq0] at HJ0
  rw [← hgq0]
  clear hW2 hgq0
  go_loopw [3] (fun sv wr => ∃ (k gq cp : Nat) (os : List (List Pat)) (us : List Value), i ≤ k ∧ k ≤ p.size ∧ us.length ≤ k + 1 ∧ sv = .slice (some ⟨gq, 0, none⟩) us.length cp ∧ AltJ p base g i o w k os us gq cp wr) (fun _ wr => p.size - atOf wr g)
  case atStart => exact ⟨k, gq0, 1, [ts], [.slice ua un uc], hkp.1, hkp.2, by simp, rfl, HJ0.out⟩
  case round =>
    obtain ⟨k, gq, cp, os, us, hik, hkp, hul, rfl, hJ⟩ := hrel
    have HJ : Hid (AltJ p base g i o w k os us gq cp wr ∧ atOf wr g = k) := ⟨hJ, atOf_pr hJ.rd⟩
    clear hJ HJ0
    go_wp2_with fail
    refine (pskip_core 124 HJ.out.1.rd hp).mono ?_
    rintro e w3 ⟨hC3, (⟨hx, rfl, hP3⟩ | ⟨hx, rfl, hP3⟩)⟩
    · have hk1 : k + 1 ≤ p.size := by have := lt_of_at hx; rw [sb_len] at this; omega
      have HX : Hid ((sb p)[k]? = some 124 ∧ PrAt w3 base g p (k + 1) o ∧ BoxAt w3 w.heap.size 162 1 w.heap.size [.slice none 0 0] ∧ OwnQ w3 (w.heap.size + 1) gq cp us ∧ (∀ (i : Nat) x ts, us[i]? = some x → os[i]? = some ts → SeqAt w3 (fun j => w.heap.size + 1 ≤ j ∧ ¬ j = gq) ts x) ∧ Chg (fun k => k = g) w w3) := ⟨hx, hP3, HJ.out.1.read hC3 hP3⟩
      have HOk : Hid (AltOk (sb p) o i k os ∧ us.length = os.length ∧ atOf wr g = k) := ⟨HJ.out.1.ok, HJ.out.1.len, HJ.out.2⟩
      clear hC3 hx hP3 HJ
      go_wp2_with fail
      refine (H base g (k + 1) o w3 (by omega) hk1 ho HX.out.2.1).mono ?_
      rintro e w4 ⟨hC4, (⟨k4, ts4, u4, hS4, hE4, rfl, hU4, hP4⟩ | ⟨c, k4, hc0, hk4, rfl⟩)⟩
      case inr =>
        refine ⟨rfl, HX.out.2.2.2.2.2.trans hC4, .inr ⟨c, k4, hc0, ?_, rfl⟩⟩
        rw [HOk.out.1.chk, chk_bar HX.out.1, hk4]
      obtain ⟨ua4, un4, uc4, rfl⟩ := hU4.slice
      have hk4p : k + 1 ≤ k4 ∧ k4 ≤ p.size := by have h1 := hS4.le; have h2 := hS4.lei; rw [sb_len] at h1; exact ⟨h2, h1⟩
      obtain ⟨W5, hW5⟩ : ∃ W5 : World, W5 = w4.alloc (Obj.cells #[.slice ua4 un4 uc4] 184) := ⟨_, rfl⟩
      have HW5 : Hid (AltOk (sb p) o i k4 (os ++ [ts4]) ∧ (∀ c, (sb p)[k4]? = some c → isEnd c) ∧ PrAt W5 base g p k4 o ∧ BoxAt W5 w.heap.size 162 1 w.heap.size [.slice none 0 0] ∧ OwnQ W5 (w.heap.size + 1) gq cp us ∧ (∀ (i : Nat) x ts, (us ++ [.slice ua4 un4 uc4])[i]? = some x → (os ++ [ts4])[i]? = some ts → SeqAt W5 (fun j => w.heap.size + 1 ≤ j ∧ ¬ j = gq) ts x) ∧ Chg (fun k => k = g) w W5 ∧ W5.cell? ⟨w4.heap.size, 0, none⟩ = some (.slice ua4 un4 uc4) ∧ w.heap.size + 1 ≤ W5.heap.size) := by
        have hb : Below w4.heap.size w4 W5 := by rw [hW5]; exact (Below.refl _ _).alloc (Nat.le_refl _) _
        have hq := HX.out.2.2.2.1.lt
        have hs4 := hC4.size
        have hsb := hb.size
        have hc : Chg (fun k => k = g) w3 W5 := hC4.trans (Chg.of_below hb)
        refine ⟨AltOk.more HOk.out.1 HX.out.1 hS4, hE4, BoxAt.below hP4 hb, HX.out.2.2.1.chg hc (by omega), HX.out.2.2.2.1.chg hc (by omega), ?_, HX.out.2.2.2.2.2.trans hc, by rw [hW5]; simp, by omega⟩
        intro j y s hy hs
        rcases snoc_at hy with hy | ⟨hj, rfl⟩
        · rcases snoc_at hs with hs | ⟨hj, rfl⟩
          · exact (HX.out.2.2.2.2.1 j y s hy hs).move hc (fun q hq => by subst hq; exact fun z => by have := z.1; omega) (fun q _ z => z)
          · have := (List.getElem?_eq_some_iff.1 hy).1
            have := HOk.out.2.1
            omega
        · rcases snoc_at hs with hs | ⟨_, rfl⟩
          · have := (List.getElem?_eq_some_iff.1 hs).1
            have := HOk.out.2.1
            omega
          · exact hU4.move (S := fun _ => False) (Chg.of_below hb) (fun q hq => hq.elim) (fun q _ z => ⟨by have := z.1; omega, fun e => by have := z.1; omega⟩)
      clear hC4 hS4 hE4 hU4 hP4 HX
      go_wp2_with (at_builtin; rw [← hW5]; refine wpList_append_seq _ rfl _ _ rfl (w.heap.size + 1) gq cp us.length w4.heap.size us (.slice ua4 un4 uc4) rfl rfl rfl ?hO ?hc rfl ?hl ?hb ?_)
      case hO => exact HW5.out.2.2.2.2.1
      case hc => exact HW5.out.2.2.2.2.2.2.2.1
      case hl => omega
      case hb => exact HW5.out.2.2.2.2.2.2.2.2
      intro g6 cp6 w6 hO6 hgr6 hat6
      rw [← hW5] at hgr6
      have hz5 : W5.heap.size = w4.heap.size + 1 := by rw [hW5]; simp
      have HJ6 : Hid (AltJ p base g i o w k4 (os ++ [ts4]) (us ++ [.slice ua4 un4 uc4]) g6 cp6 w6) := by
        have hq := HW5.out.2.2.2.2.1.lt
        have hc : Chg (fun j => j = gq) W5 w6 := Chg.of_grown hgr6 (fun j hj => by cases hj; rfl)
        refine ⟨HW5.out.1, HW5.out.2.1, BoxAt.chg HW5.out.2.2.1 hc (by omega), HW5.out.2.2.2.1.chg hc (by omega), hO6, by rw [List.length_append, List.length_append, HOk.out.2.1]; rfl, ?_, HW5.out.2.2.2.2.2.2.1.absorb hc (fun j q => .inr (by omega)), hgl⟩
        intro j y s hy hs
        exact (HW5.out.2.2.2.2.2.1 j y s hy hs).move hc (fun q hq z => z.2 hq) (fun q hq z => ⟨z.1, fun e => by rcases hat6 with r | r; exact z.2 (by omega); omega⟩)
      clear hO6 hgr6 hat6 hW5 HW5
      go_wp2_with fail
      go_roundw
      case rel => exact ⟨k4, g6, cp6, os ++ [ts4], us ++ [.slice ua4 un4 uc4], by omega, hk4p.2, by rw [List.length_append]; simp; omega, by rw [List.length_append]; rfl, HJ6.out⟩
      case measure => rw [HOk.out.2.2, atOf_pr HJ6.out.rd]; omega
    · have HX : Hid (AltOk (sb p) o i k os ∧ (∀ c, (sb p)[k]? = some c → isEnd c ∧ ¬ c = 124) ∧ us.length = os.length) := ⟨HJ.out.1.ok, fun c hc => ⟨HJ.out.1.nxt c hc, fun q => by subst q; exact hx hc⟩, HJ.out.1.len⟩
      have HR := HJ.out.1.read hC3 hP3
      have HF : Hid (PrAt w3 base g p k o ∧ BoxAt w3 w.heap.size 162 1 w.heap.size [.slice none 0 0] ∧ OwnQ w3 (w.heap.size + 1) gq cp us ∧ (∀ (i : Nat) x ts, us[i]? = some x → os[i]? = some ts → SeqAt w3 (fun j => w.heap.size + 1 ≤ j ∧ ¬ j = gq) ts x) ∧ Chg (fun k => k = g) w w3) := ⟨hP3, HR⟩
      clear HR hC3 hx hP3 HJ
      have r0 := HF.out.2.1.cell (j := 0) rfl
      have rf := HF.out.2.1.frozen 0
      go_wp2_with fail
      refine bodyPost_ret (v := .agg #[.slice (some ⟨gq, 0, none⟩) us.length cp]) (by simp [results, Try.results125, go_sem, World.cell?_setCell_same _ _ _ r0]) rfl ?_
      have hc := Chg.of_set w3 w.heap.size 0 (.slice (some ⟨gq, 0, none⟩) us.length cp) (S := fun j => j = w.heap.size) rfl
      have hq := HF.out.2.2.1.lt
      refine ⟨HF.out.2.2.2.2.absorb hc (fun j q => .inr (by omega)), .inl ⟨k, os, _, HX.out.1, HX.out.2.1, rfl, ?_, BoxAt.chg HF.out.1 hc (by omega)⟩⟩
      obtain ⟨n, hn⟩ := seqs_one HX.out.2.2 (fun i x ts hx ht => (HF.out.2.2.2.1 i x ts hx ht).move (S := fun _ => False) (Chg.refl _ _) (fun _ q => q.elim) (lo' := fun j => w.heap.size + 1 ≤ j) (fun _ _ q => q.1))
      have hA : AltAt w3 (fun j => w.heap.size + 1 ≤ j) os (.slice (some ⟨gq, 0, none⟩) us.length cp) := ⟨n, gq, cp, us, by rw [HX.out.2.2], HX.out.2.2, HF.out.2.2.1.vals hq.1, hn⟩
      exact hA.move hc (fun j q => by subst q; exact fun z => by omega) (fun j hj z => ⟨by omega, by have := hc.size; omega⟩)

theorem alt_all {p : ByteArray} (hp : p.size ≤ 200) : ∀ m, AtomC p m ∧ AltC p m
  | 0 => by
    have h0 : AtomC p 0 := fun base g i o w hm hi => by omega
    exact ⟨h0, alt_of (seq_of (rep_of h0 hp) hp) hp⟩
  | m + 1 => by
    have h1 := atom_of (alt_all hp m).2 hp
    exact ⟨h1, alt_of (seq_of (rep_of h1 hp) hp) hp⟩
theorem alt_core {p : ByteArray} (hp : p.size ≤ 200) (base g i o : Nat) (w : World) (hi : i ≤ p.size) (ho : o ≤ 20) (h : PrAt w base g p i o) : Calls Try.prog 125 #[.pointer (some ⟨g, 0, none⟩)] w (AltPost p base g i o w) :=
  (alt_all hp (p.size - i)).2 base g i o w (Nat.le_refl _) hi ho h
end Go.Proofs.Ythkmecppjhcidac
