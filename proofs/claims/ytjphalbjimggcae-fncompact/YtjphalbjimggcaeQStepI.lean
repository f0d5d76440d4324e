/-
  The step of the heap in memory.
-/
import Derived.Test.YtjphalbjimggcaeQStepM
namespace Go.Proofs.Ytjphalbjimggcae
open Go.ChangeShapes Go.WideShapes Go.ChangeAt Go.RowKit Go.Deep
set_option linter.unusedVariables false
set_option linter.unusedSimpArgs false
set_option maxRecDepth 100000
open Go.Sort (siftDown heapBuild swp PermIn)

/-- The heap, ordered, and what is still to come of it. -/
structure HeapOk (A : Nat → Ent → Prop) (N : Nat) (S : Nat → Prop) (hp base g cap : Nat) (w : World) (P : List (Nat × Ent)) (d : Array Cu) : Prop where
  mem : HeapW w hp base g cap d
  heap : Heap d
  flow : Flow A N P (d.toList.map fl)
  blks : d.toList.Pairwise fun a b => a.blk ≠ b.blk
  inG : S g
  inH : S hp
  inC : ∀ c ∈ d, S c.blk
  few : d.size ≤ 1048576

theorem meth_adv (a : Addr) (w : World) : (method 337 124 (.pointer (some a)) "loop.example/s01854/impl.advance").run Try.prog w = .ok (159, .pointer (some a)) w := by kernel_rfl

theorem HeapW.onTop {w : World} {hp base g cap : Nat} {c : Cu} {t : List Cu} (h : HeapW w hp base g cap ⟨c :: t⟩) (hb : (c :: t).Pairwise fun a b => a.blk ≠ b.blk) (hn : c.pos + 1 < c.r.es.length) :
    HeapW (w.setCell ⟨c.blk, 1, none⟩ (.int .i64 (c.pos + 1 : Nat))) hp base g cap ⟨c.on :: t⟩ := by
  have hc : c ∈ (⟨c :: t⟩ : Array Cu) := by simp
  have hg : Chg (fun k => k = c.blk) w (w.setCell ⟨c.blk, 1, none⟩ (.int .i64 (c.pos + 1 : Nat))) := Chg.of_set _ _ _ _ rfl
  have hhi := h.high c hc
  have hlo := h.low c hc
  have hm : ∀ x ∈ (⟨c.on :: t⟩ : Array Cu), x = c.on ∨ x ∈ t := fun x hx => by simpa using hx
  have ht : ∀ x ∈ t, x ∈ (⟨c :: t⟩ : Array Cu) := fun x hx => by simp [hx]
  exact {
    hdr := by rw [World.cell?_setCell_other _ _ _ _ (fun q => hhi.2.2 (congrArg Addr.block q))]; exact h.hdr
    free := fun j => by rw [World.frozen?_setCell]; exact h.free j
    lt := by have := hg.size; have := h.lt; omega
    ne := h.ne
    row := World.ownsRow.kept (show OwnH w base g cap ⟨c.on :: t⟩ from h.row) (grown_set w c.blk 1 _) (.inr (fun q => hhi.2.1 (Option.some.inj q).symm))
    own := h.own
    cur := fun x hx => by
      rcases hm x hx with rfl | hx
      · exact (h.cur c hc).on (by omega) hn
      · have hne := (List.pairwise_cons.1 hb).1 x hx
        exact (h.cur x (ht x hx)).chg hg (fun q => hne q.symm) (fun q => by have := h.low x (ht x hx); omega)
    low := fun x hx => by
      rcases hm x hx with rfl | hx
      · exact hlo
      · exact h.low x (ht x hx)
    high := fun x hx => by
      rcases hm x hx with rfl | hx
      · exact hhi
      · exact h.high x (ht x hx) }

set_option maxHeartbeats 2000000 in
theorem step_core (A : Nat → Ent → Prop) (N : Nat) (S : Nat → Prop) (hp base g cap : Nat) (w : World) (P : List (Nat × Ent)) (c : Cu) (t : List Cu) (h : HeapOk A N S hp base g cap w P ⟨c :: t⟩) :
    Calls Try.prog 45 #[.pointer (some ⟨hp, 0, none⟩)] w fun e w' => e = .returned (.tuple #[]) ∧ ∃ d', HeapOk A N S hp base g cap w' (P ++ [(c.age, c.head)]) d' ∧ Chg S w w' := by
  have H0 : Hid (HeapOk A N S hp base g cap w P ⟨c :: t⟩) := h
  have hc : c ∈ (⟨c :: t⟩ : Array Cu) := by simp
  have hfew : t.length + 1 ≤ 1048576 := h.few
  have hF : Hid ((∀ p ∈ P, Lt2 p (c.age, c.head)) ∧ Flow A N (P ++ [(c.age, c.head)]) ((c.age, c.r.es.drop (c.pos + 1)) :: t.map fl)) := flow_min h.heap (fun x hx => (h.mem.cur x (by simpa using hx)).here) h.flow
  have c0 : w.cell? ⟨hp, 0, none⟩ = some (.slice (some ⟨g, 0, none⟩) (t.length + 1) cap) := h.mem.hdr
  have c1 : w.cell? ⟨g, 0, none⟩ = some (ifc c) := h.mem.row.cell (i := 0) (by simp)
  have mA := meth_adv
  have HC : Hid (CuAt w c) := h.mem.cur c hc
  have hz : (0 : Int) < ((t.length + 1 : Nat) : Int) := by omega
  clear h
  by_cases hn : c.pos + 1 < c.r.es.length
  · go_enter Try.func45, Try.ntmps45
    go_wp2_with fail
    refine (advance_more c _ HC.out hn).mono ?_
    rintro e w1 ⟨rfl, w0, hb0, rfl⟩
    have H1 : Hid (HeapW (w0.setCell ⟨c.blk, 1, none⟩ (.int .i64 (c.pos + 1 : Nat))) hp base g cap ⟨c.on :: t⟩) := (H0.out.mem.below hb0).onTop H0.out.blks hn
    have hC1 : Chg S w (w0.setCell ⟨c.blk, 1, none⟩ (.int .i64 (c.pos + 1 : Nat))) := (Chg.of_below hb0).trans (Chg.of_set _ _ _ _ (H0.out.inC c hc))
    generalize w0.setCell ⟨c.blk, 1, none⟩ (.int .i64 (c.pos + 1 : Nat)) = W1 at *
    have HC1 : Hid (Chg S w W1) := hC1
    clear hC1 c0 c1
    go_wp2_with fail
    refine (fix_core hp base g cap ⟨c.on :: t⟩ _ H1.out hfew).mono ?_
    rintro e w2 ⟨rfl, hH2, hC2⟩
    have hx := heap_fix (c' := c.on) H0.out.heap
    have H2 : Hid (HeapOk A N S hp base g cap w2 (P ++ [(c.age, c.head)]) (siftDown gtC (t.length + 1) 0 0 ⟨c.on :: t⟩) ∧ Chg S w w2) := by
      refine ⟨⟨hH2, hx.1, ?_, ?_, H0.out.inG, H0.out.inH, ?_, ?_⟩, HC1.out.trans (hC2.mono (fun k q => by rw [q]; exact H0.out.inG))⟩
      · exact (hF.out.2 : Flow A N _ ((c.on :: t).map fl)).perm (hx.2.map fl).symm
      · exact (hx.2.pairwise_iff (fun h => Ne.symm h)).2 (List.pairwise_cons.2 ⟨fun a ha => (List.pairwise_cons.1 H0.out.blks).1 a ha, (List.pairwise_cons.1 H0.out.blks).2⟩)
      · intro x hx'
        have := hx.2.mem_iff.1 (Array.mem_toList_iff.2 hx')
        rcases List.mem_cons.1 this with rfl | q
        · exact H0.out.inC c hc
        · exact H0.out.inC x (by simp [q])
      · rw [size_sift]; exact hfew
    clear hH2 hC2 hx
    go_wp2_with fail
    (try simp only [Exit.inBlock, Exit.then])
    refine bodyPost_ret (results_none rfl _ _ _) rfl ?_
    exact ⟨rfl, _, H2.out.1, H2.out.2⟩
  · go_enter Try.func45, Try.ntmps45
    go_wp2_with fail
    refine (advance_last c _ HC.out hn).mono ?_
    rintro e w1 ⟨rfl, hb1⟩
    have H1 : Hid (HeapW w1 hp base g cap ⟨c :: t⟩ ∧ Chg S w w1) := ⟨H0.out.mem.below hb1, Chg.of_below hb1⟩
    clear hb1 c0 c1
    go_wp2_with fail
    refine (pop_core hp base g cap ⟨c :: t⟩ _ H1.out.1 (by simp) hfew).mono ?_
    rintro e w2 ⟨⟨v, rfl⟩, hH2, hC2⟩
    have hx := heap_pop H0.out.heap
    have hH2' : HeapW w2 hp base g cap (siftDown gtC t.length 0 0 (swp ⟨c :: t⟩ 0 t.length)).pop := hH2
    have H2 : Hid (HeapOk A N S hp base g cap w2 (P ++ [(c.age, c.head)]) (siftDown gtC t.length 0 0 (swp ⟨c :: t⟩ 0 t.length)).pop ∧ Chg S w w2) := by
      refine ⟨⟨hH2', hx.1, ?_, ?_, H0.out.inG, H0.out.inH, ?_, ?_⟩, H1.out.2.trans (hC2.mono (fun k q => q.elim (fun q => q ▸ H0.out.inG) (fun q => q ▸ H0.out.inH)))⟩
      · have hf := hF.out.2
        rw [List.drop_of_length_le (by omega)] at hf
        exact hf.drop.perm (hx.2.map fl).symm
      · exact (hx.2.pairwise_iff (fun h => Ne.symm h)).2 (List.pairwise_cons.1 H0.out.blks).2
      · intro x hx'
        have := hx.2.mem_iff.1 (Array.mem_toList_iff.2 hx')
        exact H0.out.inC x (by simp [this])
      · have := hx.2.length_eq
        rw [Array.length_toList] at this
        omega
    clear hH2 hH2' hC2 hx
    go_wp2_with fail
    go_end0
    exact ⟨rfl, _, H2.out.1, H2.out.2⟩
end Go.Proofs.Ytjphalbjimggcae
