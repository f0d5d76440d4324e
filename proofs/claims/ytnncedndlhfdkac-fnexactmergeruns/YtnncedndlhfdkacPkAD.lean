import Derived.Deep.AppendLies
import Derived.Deep.DeepCutAuto
import Derived.Deep.RegionWith
import Derived.Test.YtnncedndlhfdkacPkAC
import Derived.Test.YtnncedndlhfdkacPkAB
import Derived.Test.YtnncedndlhfdkacPkAA
/-
  The step of the heap, without memory.
-/
namespace Go.Proofs.Ytnncedndlhfdkac
set_option linter.unusedVariables false
set_option linter.unusedSimpArgs false
open Go.Sort (siftDown heapBuild swp PermIn)

theorem perm_of_permIn {d d' : Array Cu} (h : PermIn 0 d.size d d') : d'.toList.Perm d.toList := by
  have h2 := h.2.2
  have e1 : d.extract 0 d.size = d := by simp
  have e2 : d'.extract 0 d.size = d' := by rw [← h.1]; simp
  rw [e1, e2] at h2
  exact h2
abbrev fl (c : Cu) : Nat × List Ent := (c.age, c.rest)
/-- A heap: no node is greater than its children. -/
def Heap (d : Array Cu) : Prop := ∀ i, i < d.size → Go.Sort.Ok gtC 0 d.size d i
theorem heap_min {d : Array Cu} (h : Heap d) {c : Cu} (hc : c ∈ d) : lessC c d[0]! = false := by
  obtain ⟨i, hi, rfl⟩ := Array.getElem_of_mem hc
  have := Go.Sort.root_max swo_gtC h i i (Nat.le_refl _) hi
  simp only [Nat.zero_add] at this
  rw [getElem!_pos d i hi] at this
  exact this
theorem heap_build {d : Array Cu} : Heap (heapBuild gtC d.size 0 (d.size / 2) d) ∧ (heapBuild gtC d.size 0 (d.size / 2) d).toList.Perm d.toList := by
  have h := Go.Sort.build swo_gtC d.size 0 (d.size / 2) d (by omega) (fun i h1 h2 k hk hlt => by omega)
  rw [Nat.zero_add] at h
  refine ⟨?_, perm_of_permIn h.2⟩
  intro i hi
  rw [h.2.1] at hi ⊢
  exact h.1 i hi
/-- Another one at the top, put right. -/
theorem heap_fix {c c' : Cu} {t : List Cu} (h : Heap ⟨c :: t⟩) : Heap (siftDown gtC (t.length + 1) 0 0 ⟨c' :: t⟩) ∧ (siftDown gtC (t.length + 1) 0 0 ⟨c' :: t⟩).toList.Perm (c' :: t) := by
  have g : ∀ i, i ≠ 0 → (⟨c' :: t⟩ : Array Cu)[i]! = (⟨c :: t⟩ : Array Cu)[i]! := fun i hi => by
    obtain ⟨j, rfl⟩ : ∃ j, i = j + 1 := ⟨i - 1, by omega⟩
    simp [getElem!_def]
  have hs : (⟨c' :: t⟩ : Array Cu).size = t.length + 1 := rfl
  have hs0 : (⟨c :: t⟩ : Array Cu).size = t.length + 1 := rfl
  have h1 := Go.Sort.sift swo_gtC (t.length + 1) 0 0 (t.length + 1) 0 ⟨c' :: t⟩ (by omega) (by rw [hs]; omega) (Nat.le_refl _) (fun i _ hi hne k hk hlt => by
      have := h i (by rw [hs0]; exact hi) k hk (by rw [hs0]; exact hlt)
      rw [Nat.zero_add, Nat.zero_add] at this ⊢
      rw [g i hne, g k (by omega)]
      exact this) (fun p _ hp => by omega)
  rw [Nat.zero_add] at h1
  have hp : PermIn 0 (⟨c' :: t⟩ : Array Cu).size ⟨c' :: t⟩ (siftDown gtC (t.length + 1) 0 0 ⟨c' :: t⟩) := h1.2
  refine ⟨?_, perm_of_permIn hp⟩
  intro i hi
  rw [hp.1] at hi ⊢
  exact h1.1 i (Nat.zero_le _) hi
/-- The top taken off. -/
theorem heap_pop {c : Cu} {t : List Cu} (h : Heap ⟨c :: t⟩) : Heap (siftDown gtC t.length 0 0 (swp ⟨c :: t⟩ 0 t.length)).pop ∧ (siftDown gtC t.length 0 0 (swp ⟨c :: t⟩ 0 t.length)).pop.toList.Perm t := by
  obtain ⟨d, hd⟩ : ∃ d : Array Cu, d = ⟨c :: t⟩ := ⟨_, rfl⟩
  have hs0 : d.size = t.length + 1 := by rw [hd]; rfl
  have hc0 : d[0]! = c := by rw [hd]; rfl
  rw [← hd] at h ⊢
  obtain ⟨e, he⟩ : ∃ e : Array Cu, e = swp d 0 t.length := ⟨_, rfl⟩
  have hes : e.size = t.length + 1 := by rw [he, Go.Sort.size_swp]; exact hs0
  have hel : e[t.length]! = c := by rw [he, Go.Sort.swp_right d 0 t.length (by omega)]; exact hc0
  have g : ∀ i, i ≠ 0 → i < t.length → e[i]! = d[i]! := fun i h1 h2 => by rw [he]; exact Go.Sort.swp_other d 0 t.length i h1 (by omega)
  have hpe : PermIn 0 d.size d e := by rw [he]; exact Go.Sort.swp_permIn d 0 d.size 0 t.length (Nat.le_refl _) (by omega) (Nat.zero_le _) (by omega) (Nat.le_refl _)
  rw [← he]
  have h1 := Go.Sort.sift swo_gtC t.length 0 0 t.length 0 e (by omega) (by omega) (Nat.le_refl _) (fun i _ hi hne k hk hlt => by
      have := h i (by omega) k hk (by omega)
      rw [Nat.zero_add, Nat.zero_add] at this ⊢
      rw [g i hne hi, g k (by omega) hlt]
      exact this) (fun p _ hp => by omega)
  rw [Nat.zero_add] at h1
  obtain ⟨f, hf⟩ : ∃ f : Array Cu, f = siftDown gtC t.length 0 0 e := ⟨_, rfl⟩
  rw [← hf] at h1 ⊢
  have hfs : f.size = t.length + 1 := by rw [h1.2.1]; exact hes
  have hfl : f[t.length]! = c := by rw [h1.2.2.1 t.length (.inr (Nat.le_refl _))]; exact hel
  have hpf : PermIn 0 d.size d f := by
    refine Go.Sort.permIn_trans d e f 0 d.size hpe ?_
    exact Go.Sort.permIn_mono e f 0 t.length 0 d.size (Nat.le_refl _) (by omega) (by omega) h1.2
  have hps : f.pop.size = t.length := by simp [hfs]
  refine ⟨?_, ?_⟩
  · intro i hi k hk hlt
    rw [hps] at hi hlt
    have := h1.1 i (Nat.zero_le _) hi k hk hlt
    rw [Nat.zero_add, Nat.zero_add] at this ⊢
    have q : ∀ j, j < t.length → f.pop[j]! = f[j]! := fun j hj => by
      rw [getElem!_pos f.pop j (by omega), getElem!_pos f j (by omega)]; simp
    rw [q i hi, q k hlt]
    exact this
  · have hP := perm_of_permIn hpf
    rw [hd] at hP
    have hdl : f.toList = f.pop.toList ++ [c] := by
      rw [Array.toList_pop]
      have hlen : f.toList.length = t.length + 1 := by rw [Array.length_toList]; exact hfs
      have hne : f.toList ≠ [] := by intro q; rw [q] at hlen; simp at hlen
      have hgl : f.toList.getLast hne = c := by
        rw [List.getLast_eq_getElem]
        have : f[t.length]! = f[t.length]'(by omega) := getElem!_pos f t.length (by omega)
        rw [this] at hfl
        rw [← hfl]
        simp [hfs]
      have := List.dropLast_concat_getLast hne
      rw [hgl] at this
      exact this.symm
    rw [hdl] at hP
    have hP2 : (c :: f.pop.toList).Perm (c :: t) := (List.perm_append_singleton c f.pop.toList).symm.trans hP
    exact hP2.cons_inv

/-- The heap's least one gives the next of all. -/
theorem flow_min {A : Nat → Ent → Prop} {N : Nat} {P : List (Nat × Ent)} {c : Cu} {t : List Cu} (hh : Heap ⟨c :: t⟩) (hpos : ∀ x ∈ c :: t, x.pos < x.r.es.length) (h : Flow A N P ((c :: t).map fl)) :
    (∀ p ∈ P, Lt2 p (c.age, c.head)) ∧ Flow A N (P ++ [(c.age, c.head)]) ((c.age, c.r.es.drop (c.pos + 1)) :: t.map fl) := by
  have e : (c :: t).map fl = (c.age, c.head :: c.r.es.drop (c.pos + 1)) :: t.map fl := by
    rw [List.map_cons]
    simp only [fl, Cu.rest_cons (hpos c (by simp))]
  rw [e] at h
  refine ⟨h.next, h.step (fun p hp => ?_)⟩
  obtain ⟨x, hx, rfl⟩ := List.mem_map.1 hp
  refine ⟨x.head, x.r.es.drop (x.pos + 1), Cu.rest_cons (hpos x (List.mem_cons_of_mem _ hx)), ?_⟩
  have := heap_min hh (c := x) (by simp [hx])
  exact lessC_false.1 this
end Go.Proofs.Ytnncedndlhfdkac

/-
  The step of the heap in memory.
-/
namespace Go.Proofs.Ytnncedndlhfdkac
open Go.ChangeShapes Go.WideShapes Go.ChangeAt Go.RowKit Go.Deep
set_option linter.unusedVariables false
set_option linter.unusedSimpArgs false
set_option maxRecDepth 100000
open Go.Sort (siftDown heapBuild swp PermIn)

/-- The heap, ordered, and what is still to come of it. -/
structure HeapOk (A : Nat → Ent → Prop) (N : Nat) (S : Nat → Prop) (hp base g cap : Nat) (w : World) (P : List (Nat × Ent)) (d : Array Cu) : Prop where
  mem : HeapW w hp base g cap d
  heap : Heap d
  flow : Flow A N P (d.toList.map fl)
  blks : d.toList.Pairwise fun a b => a.blk ≠ b.blk
  inG : S g
  inH : S hp
  inC : ∀ c ∈ d, S c.blk
  few : d.size ≤ 1048576

theorem meth_adv (a : Addr) (w : World) : (method 300 117 (.pointer (some a)) "loop.example/s01854/impl.advance").run Try.prog w = .ok (147, .pointer (some a)) w := by kernel_rfl

theorem HeapW.onTop {w : World} {hp base g cap : Nat} {c : Cu} {t : List Cu} (h : HeapW w hp base g cap ⟨c :: t⟩) (hb : (c :: t).Pairwise fun a b => a.blk ≠ b.blk) (hn : c.pos + 1 < c.r.es.length) :
    HeapW (w.setCell ⟨c.blk, 1, none⟩ (.int .i64 (c.pos + 1 : Nat))) hp base g cap ⟨c.on :: t⟩ := by
  have hc : c ∈ (⟨c :: t⟩ : Array Cu) := by simp
  have hg : Chg (fun k => k = c.blk) w (w.setCell ⟨c.blk, 1, none⟩ (.int .i64 (c.pos + 1 : Nat))) := Chg.of_set _ _ _ _ rfl
  have hhi := h.high c hc
  have hlo := h.low c hc
  have hm : ∀ x ∈ (⟨c.on :: t⟩ : Array Cu), x = c.on ∨ x ∈ t := fun x hx => by simpa using hx
  have ht : ∀ x ∈ t, x ∈ (⟨c :: t⟩ : Array Cu) := fun x hx => by simp [hx]
  exact {
    hdr := by rw [World.cell?_setCell_other _ _ _ _ (fun q => hhi.2.2 (congrArg Addr.block q))]; exact h.hdr
    free := fun j => by rw [World.frozen?_setCell]; exact h.free j
    lt := by have := hg.size; have := h.lt; omega
    ne := h.ne
    row := World.ownsRow.kept (show OwnH w base g cap ⟨c.on :: t⟩ from h.row) (grown_set w c.blk 1 _) (.inr (fun q => hhi.2.1 (Option.some.inj q).symm))
    own := h.own
    cur := fun x hx => by
      rcases hm x hx with rfl | hx
      · exact (h.cur c hc).on (by omega) hn
      · have hne := (List.pairwise_cons.1 hb).1 x hx
        exact (h.cur x (ht x hx)).chg hg (fun q => hne q.symm) (fun q => by have := h.low x (ht x hx); omega)
    low := fun x hx => by
      rcases hm x hx with rfl | hx
      · exact hlo
      · exact h.low x (ht x hx)
    high := fun x hx => by
      rcases hm x hx with rfl | hx
      · exact hhi
      · exact h.high x (ht x hx) }

set_option maxHeartbeats 2000000 in
theorem step_core (A : Nat → Ent → Prop) (N : Nat) (S : Nat → Prop) (hp base g cap : Nat) (w : World) (P : List (Nat × Ent)) (c : Cu) (t : List Cu) (h : HeapOk A N S hp base g cap w P ⟨c :: t⟩) :
    Calls Try.prog 44 #[.pointer (some ⟨hp, 0, none⟩)] w fun e w' => e = .returned (.tuple #[]) ∧ ∃ d', HeapOk A N S hp base g cap w' (P ++ [(c.age, c.head)]) d' ∧ Chg S w w' := by
  have H0 : Hid (HeapOk A N S hp base g cap w P ⟨c :: t⟩) := h
  have hc : c ∈ (⟨c :: t⟩ : Array Cu) := by simp
  have hfew : t.length + 1 ≤ 1048576 := h.few
  have hF : Hid ((∀ p ∈ P, Lt2 p (c.age, c.head)) ∧ Flow A N (P ++ [(c.age, c.head)]) ((c.age, c.r.es.drop (c.pos + 1)) :: t.map fl)) := flow_min h.heap (fun x hx => (h.mem.cur x (by simpa using hx)).here) h.flow
  have c0 : w.cell? ⟨hp, 0, none⟩ = some (.slice (some ⟨g, 0, none⟩) (t.length + 1) cap) := h.mem.hdr
  have c1 : w.cell? ⟨g, 0, none⟩ = some (ifc c) := h.mem.row.cell (i := 0) (by simp)
  have mA := meth_adv
  have HC : Hid (CuAt w c) := h.mem.cur c hc
  have hz : (0 : Int) < ((t.length + 1 : Nat) : Int) := by omega
  clear h
  by_cases hn : c.pos + 1 < c.r.es.length
  · go_enter Try.func44, Try.ntmps44
    go_wp2_with fail
    refine (advance_more c _ HC.out hn).mono ?_
    rintro e w1 ⟨rfl, w0, hb0, rfl⟩
    have H1 : Hid (HeapW (w0.setCell ⟨c.blk, 1, none⟩ (.int .i64 (c.pos + 1 : Nat))) hp base g cap ⟨c.on :: t⟩) := (H0.out.mem.below hb0).onTop H0.out.blks hn
    have hC1 : Chg S w (w0.setCell ⟨c.blk, 1, none⟩ (.int .i64 (c.pos + 1 : Nat))) := (Chg.of_below hb0).trans (Chg.of_set _ _ _ _ (H0.out.inC c hc))
    generalize w0.setCell ⟨c.blk, 1, none⟩ (.int .i64 (c.pos + 1 : Nat)) = W1 at *
    have HC1 : Hid (Chg S w W1) := hC1
    clear hC1 c0 c1
    go_wp2_with fail
    refine (fix_core hp base g cap ⟨c.on :: t⟩ _ H1.out hfew).mono ?_
    rintro e w2 ⟨rfl, hH2, hC2⟩
    have hx := heap_fix (c' := c.on) H0.out.heap
    have H2 : Hid (HeapOk A N S hp base g cap w2 (P ++ [(c.age, c.head)]) (siftDown gtC (t.length + 1) 0 0 ⟨c.on :: t⟩) ∧ Chg S w w2) := by
      refine ⟨⟨hH2, hx.1, ?_, ?_, H0.out.inG, H0.out.inH, ?_, ?_⟩, HC1.out.trans (hC2.mono (fun k q => by rw [q]; exact H0.out.inG))⟩
      · exact (hF.out.2 : Flow A N _ ((c.on :: t).map fl)).perm (hx.2.map fl).symm
      · exact (hx.2.pairwise_iff (fun h => Ne.symm h)).2 (List.pairwise_cons.2 ⟨fun a ha => (List.pairwise_cons.1 H0.out.blks).1 a ha, (List.pairwise_cons.1 H0.out.blks).2⟩)
      · intro x hx'
        have := hx.2.mem_iff.1 (Array.mem_toList_iff.2 hx')
        rcases List.mem_cons.1 this with rfl | q
        · exact H0.out.inC c hc
        · exact H0.out.inC x (by simp [q])
      · rw [size_sift]; exact hfew
    clear hH2 hC2 hx
    go_wp2_with fail
    (try simp only [Exit.inBlock, Exit.then])
    refine bodyPost_ret (results_none rfl _ _ _) rfl ?_
    exact ⟨rfl, _, H2.out.1, H2.out.2⟩
  · go_enter Try.func44, Try.ntmps44
    go_wp2_with fail
    refine (advance_last c _ HC.out hn).mono ?_
    rintro e w1 ⟨rfl, hb1⟩
    have H1 : Hid (HeapW w1 hp base g cap ⟨c :: t⟩ ∧ Chg S w w1) := ⟨H0.out.mem.below hb1, Chg.of_below hb1⟩
    clear hb1 c0 c1
    go_wp2_with fail
    refine (pop_core hp base g cap ⟨c :: t⟩ _ H1.out.1 (by simp) hfew).mono ?_
    rintro e w2 ⟨⟨v, rfl⟩, hH2, hC2⟩
    have hx := heap_pop H0.out.heap
    have hH2' : HeapW w2 hp base g cap (siftDown gtC t.length 0 0 (swp ⟨c :: t⟩ 0 t.length)).pop := hH2
    have H2 : Hid (HeapOk A N S hp base g cap w2 (P ++ [(c.age, c.head)]) (siftDown gtC t.length 0 0 (swp ⟨c :: t⟩ 0 t.length)).pop ∧ Chg S w w2) := by
      refine ⟨⟨hH2', hx.1, ?_, ?_, H0.out.inG, H0.out.inH, ?_, ?_⟩, H1.out.2.trans (hC2.mono (fun k q => q.elim (fun q => q ▸ H0.out.inG) (fun q => q ▸ H0.out.inH)))⟩
      · have hf := hF.out.2
        rw [List.drop_of_length_le (by omega)] at hf
        exact hf.drop.perm (hx.2.map fl).symm
      · exact (hx.2.pairwise_iff (fun h => Ne.symm h)).2 (List.pairwise_cons.1 H0.out.blks).2
      · intro x hx'
        have := hx.2.mem_iff.1 (Array.mem_toList_iff.2 hx')
        exact H0.out.inC x (by simp [this])
      · have := hx.2.length_eq
        rw [Array.length_toList] at this
        omega
    clear hH2 hH2' hC2 hx
    go_wp2_with fail
    go_end0
    exact ⟨rfl, _, H2.out.1, H2.out.2⟩
end Go.Proofs.Ytnncedndlhfdkac

/-
  spec.l3Says.
-/
namespace Go.Proofs.Ytnncedndlhfdkac
open Go.ChangeShapes Go.WideShapes Go.ChangeAt Go.RowKit Go.Deep
set_option linter.unusedVariables false
set_option linter.unusedSimpArgs false

theorem ent_box (w : World) (e : Ent) : EntsAt (w.alloc (Obj.cells #[.string e.row, .string e.fam, .string e.qual, .int .u64 e.ts, .int .i64 e.kind, .string e.val] 63)) w.heap.size 0 [e] := by
  intro j y hy
  obtain rfl : j = 0 := by
    have := (List.getElem?_eq_some_iff.1 hy).1
    simpa using this
  simp at hy
  subst hy
  simp

theorem saysF_cons (e d : Ent) (r : List Ent) (h : Int) : saysF e (d :: r) h = if sameCol d e = true then
      (if (d.kind == 0) = true ∧ (d.ts == e.ts) = true then (1, d.val) else if (d.kind == 1) = true ∧ (d.ts == e.ts) = true then (2, ⟨#[]⟩) else if (d.kind == 2) = true ∧ e.ts ≤ d.ts then saysF e r 2 else saysF e r h)
    else saysF e r h := rfl

set_option maxHeartbeats 4000000 in
theorem says_core (r : Rm) (e : Ent) (w : World) (hr : r.at w) (hlen : r.es.length ≤ 1048576) :
    Calls Try.prog 36 #[.agg #[.slice (some ⟨r.b, r.off, none⟩) r.es.length r.cap], .agg #[.string e.row, .string e.fam, .string e.qual, .int .u64 e.ts, .int .i64 e.kind, .string e.val]] w fun x w' =>
      x = .returned (.tuple #[.int .i64 (saysF e r.es 0).1, .string (saysF e r.es 0).2]) ∧ Below w.heap.size w w' := by
  obtain ⟨rb, ro, rc, es⟩ := r
  simp only at *
  obtain ⟨Wa, hWa⟩ : ∃ Wa : World, Wa = w.alloc (Obj.cells #[.slice (some ⟨rb, ro, none⟩) es.length rc] 40) := ⟨_, rfl⟩
  obtain ⟨W0, hW0⟩ : ∃ W0 : World, W0 = Wa.alloc (Obj.cells #[.string e.row, .string e.fam, .string e.qual, .int .u64 e.ts, .int .i64 e.kind, .string e.val] 63) := ⟨_, rfl⟩
  have hba : Below w.heap.size w Wa := by rw [hWa]; exact (Below.refl _ _).alloc (Nat.le_refl _) _
  have hza : Wa.heap.size = w.heap.size + 1 := by rw [hWa]; simp
  have hbb : Below Wa.heap.size Wa W0 := by rw [hW0]; exact (Below.refl _ _).alloc (Nat.le_refl _) _
  have hz0 : W0.heap.size = w.heap.size + 1 + 1 := by rw [hW0]; simp [hza]
  have hb0 : Below w.heap.size w W0 := hba.trans (hbb.mono (by omega))
  have hcA : Wa.cell? ⟨w.heap.size, 0, none⟩ = some (.slice (some ⟨rb, ro, none⟩) es.length rc) := by rw [hWa]; simp
  have HC : Hid (W0.cell? ⟨w.heap.size, 0, none⟩ = some (.slice (some ⟨rb, ro, none⟩) es.length rc)) := by
    show W0.cell? ⟨w.heap.size, 0, none⟩ = _
    rw [hbb.cell (p := ⟨w.heap.size, 0, none⟩) (by show w.heap.size < Wa.heap.size; omega)]; exact hcA
  have HX : Hid (EntsAt W0 (w.heap.size + 1) 0 [e]) := by
    show EntsAt W0 (w.heap.size + 1) 0 [e]
    rw [hW0, ← hza]; exact ent_box Wa e
  have HR : Hid (EntsAt W0 rb ro es ∧ rb < w.heap.size) := ⟨(hr.below hba).ents.below hbb (hr.below hba).lt, hr.lt⟩
  have hrb := hr.lt
  simp only at hrb
  clear hr hcA
  go_enter Try.func36, Try.ntmps36
  go_wp2_with fail
  rw [← hWa, ← hW0]
  clear hWa hW0
  go_loopw [6, 7] (fun h i wr => ∃ (k : Nat) (x : Int), k ≤ es.length ∧ i = .int .i64 k ∧ h = .int .i64 x ∧ saysF e es 0 = saysF e (es.drop k) x ∧ Below W0.heap.size W0 wr) (fun _ i _ => es.length - (intOf i).toNat)
  case atStart => exact ⟨0, 0, Nat.zero_le _, rfl, rfl, by simp, Below.refl _ _⟩
  case round =>
    obtain ⟨k, x, hk, rfl, rfl, hS, hb⟩ := hrel
    have HS : Hid (saysF e es 0 = saysF e (es.drop k) x) := hS
    clear hS
    have hs := hb.size
    have ca : wr.cell? ⟨w.heap.size, 0, none⟩ = some (.slice (some ⟨rb, ro, none⟩) es.length rc) := by
      rw [hb.cell (p := ⟨w.heap.size, 0, none⟩) (by show w.heap.size < W0.heap.size; omega)]; exact HC.out
    by_cases hlt : k < es.length
    · obtain ⟨v, hv⟩ : ∃ v, es[k]? = some v := ⟨_, List.getElem?_eq_getElem hlt⟩
      obtain ⟨c0, c1, c2, c3, c4, c5⟩ := (HR.out.1.below hb (by omega)) k v hv
      obtain ⟨d0, d1, d2, d3, d4, d5⟩ := (HX.out.below hb (by omega)) 0 e rfl
      simp only [Nat.zero_add, Nat.zero_mul] at d0 d1 d2 d3 d4 d5
      have HD : Hid (saysF e es 0 = saysF e (v :: es.drop (k + 1)) x) := HS.out.trans (saysF_drop hv)
      clear hv
      obtain ⟨W1, hW1⟩ : ∃ W1 : World, W1 = wr.alloc (Obj.cells #[.string v.row, .string v.fam, .string v.qual, .int .u64 v.ts, .int .i64 v.kind, .string v.val] 63) := ⟨_, rfl⟩
      have hb1 : Below wr.heap.size wr W1 := by rw [hW1]; exact (Below.refl _ _).alloc (Nat.le_refl _) _
      have hz1 : W1.heap.size = wr.heap.size + 1 := by rw [hW1]; simp
      have HV1 : Hid (EntsAt W1 wr.heap.size 0 [v]) := by show EntsAt W1 wr.heap.size 0 [v]; rw [hW1]; exact ent_box wr v
      go_upto_region 6 with fail
      rw [← hW1]
      clear hW1 c0 c1 c2 c3 c4 c5 d0 d1 d2 d3 d4 d5 ca
      obtain ⟨c0, c1, c2, c3, c4, c5⟩ := HV1.out 0 v rfl
      obtain ⟨d0, d1, d2, d3, d4, d5⟩ := ((HX.out.below hb (by omega)).below hb1 (by omega)) 0 e rfl
      simp only [Nat.zero_add, Nat.zero_mul] at c0 c1 c2 c3 c4 c5 d0 d1 d2 d3 d4 d5
      go_wp2_with fail
      refine (sameColumn_any v e _).mono ?_
      rintro e' w2 ⟨rfl, hb2⟩
      have hs2 := hb2.size
      have hb3 : Below W0.heap.size W0 w2 := (hb.trans (hb1.mono (by omega))).trans (hb2.mono (by omega))
      clear c0 c1 c2 c3 c4 c5 d0 d1 d2 d3 d4 d5
      obtain ⟨c0, c1, c2, c3, c4, c5⟩ := (HV1.out.below hb2 (by omega)) 0 v rfl
      obtain ⟨d0, d1, d2, d3, d4, d5⟩ := (HX.out.below hb3 (by omega)) 0 e rfl
      simp only [Nat.zero_add, Nat.zero_mul] at c0 c1 c2 c3 c4 c5 d0 d1 d2 d3 d4 d5
      have hbw : Below w.heap.size w w2 := hb0.trans (hb3.mono (by omega))
      have fin : ∀ (wx : World) (a : Int) (t : ByteArray), Below w.heap.size w wx → saysF e es 0 = (a, t) → (Ending.returned (Value.tuple #[.int .i64 a, .string t]) = .returned (.tuple #[.int .i64 (saysF e es 0).1, .string (saysF e es 0).2]) ∧ Below w.heap.size w wx) := by
        intro wx a t hx hq
        rw [hq]; exact ⟨rfl, hx⟩
      have HFin : Hid (∀ (wx : World) (a : Int) (t : ByteArray), Below w.heap.size w wx → saysF e es 0 = (a, t) → (Ending.returned (Value.tuple #[.int .i64 a, .string t]) = .returned (.tuple #[.int .i64 (saysF e es 0).1, .string (saysF e es 0).2]) ∧ Below w.heap.size w wx)) := fin
      clear fin
      cases hsc : sameCol v e
      · have HN : Hid (saysF e es 0 = saysF e (es.drop (k + 1)) x) := by show saysF e es 0 = _; rw [HD.out]; rw [saysF_cons, if_neg (by rw [hsc]; simp)]
        go_wp2_with fail
        go_roundw
        case rel => exact ⟨k + 1, x, by omega, by go_num, rfl, HN.out, hb3⟩
        case measure => go_light; simp [intOf]; omega
      · cases k0 : (v.kind == 0)
        · cases k1 : (v.kind == 1)
          · cases k2 : (v.kind == 2)
            · have HN : Hid (saysF e es 0 = saysF e (es.drop (k + 1)) x) := by show saysF e es 0 = _; rw [HD.out]; rw [saysF_cons, if_pos hsc, if_neg (by rw [k0]; simp), if_neg (by rw [k1]; simp), if_neg (by rw [k2]; simp)]
              go_wp2_with fail
              go_roundw
              case rel => exact ⟨k + 1, x, by omega, by go_num, rfl, HN.out, hb3⟩
              case measure => go_light; simp [intOf]; omega
            · by_cases ge : e.ts ≤ v.ts
              · have HN : Hid (saysF e es 0 = saysF e (es.drop (k + 1)) 2) := by show saysF e es 0 = _; rw [HD.out]; rw [saysF_cons, if_pos hsc, if_neg (by rw [k0]; simp), if_neg (by rw [k1]; simp), if_pos ⟨k2, ge⟩]
                go_wp2_with fail
                go_roundw
                case rel => exact ⟨k + 1, 2, by omega, by go_num, rfl, HN.out, hb3⟩
                case measure => go_light; simp [intOf]; omega
              · have HN : Hid (saysF e es 0 = saysF e (es.drop (k + 1)) x) := by show saysF e es 0 = _; rw [HD.out]; rw [saysF_cons, if_pos hsc, if_neg (by rw [k0]; simp), if_neg (by rw [k1]; simp), if_neg (fun q => ge q.2)]
                go_wp2_with fail
                go_roundw
                case rel => exact ⟨k + 1, x, by omega, by go_num, rfl, HN.out, hb3⟩
                case measure => go_light; simp [intOf]; omega
          · have k2 : (v.kind == 2) = false := by
              simp at k1 ⊢; omega
            cases ht : (v.ts == e.ts)
            · have HN : Hid (saysF e es 0 = saysF e (es.drop (k + 1)) x) := by show saysF e es 0 = _; rw [HD.out]; rw [saysF_cons, if_pos hsc, if_neg (by rw [k0]; simp), if_neg (by rw [ht]; simp), if_neg (by rw [k2]; simp)]
              go_wp2_with fail
              go_roundw
              case rel => exact ⟨k + 1, x, by omega, by go_num, rfl, HN.out, hb3⟩
              case measure => go_light; simp [intOf]; omega
            · have HN : Hid (saysF e es 0 = (2, ⟨#[]⟩)) := by show saysF e es 0 = _; rw [HD.out]; rw [saysF_cons, if_pos hsc, if_neg (by rw [k0]; simp), if_pos ⟨k1, ht⟩]
              go_wp2_with fail
              go_ret2
              exact HFin.out _ _ _ hbw HN.out
        · have k1 : (v.kind == 1) = false := by
            simp at k0 ⊢; omega
          have k2 : (v.kind == 2) = false := by
            simp at k0 ⊢; omega
          cases ht : (v.ts == e.ts)
          · have HN : Hid (saysF e es 0 = saysF e (es.drop (k + 1)) x) := by show saysF e es 0 = _; rw [HD.out]; rw [saysF_cons, if_pos hsc, if_neg (by rw [ht]; simp), if_neg (by rw [ht]; simp), if_neg (by rw [k2]; simp)]
            go_wp2_with fail
            go_roundw
            case rel => exact ⟨k + 1, x, by omega, by go_num, rfl, HN.out, hb3⟩
            case measure => go_light; simp [intOf]; omega
          · have HN : Hid (saysF e es 0 = (1, v.val)) := by show saysF e es 0 = _; rw [HD.out]; rw [saysF_cons, if_pos hsc, if_pos ⟨k0, ht⟩]
            go_upto_region 8 with fail
            go_quiet (fail)
            go_wp2_with fail
            go_ret2
            exact HFin.out _ _ _ (below_drewN hbw _) HN.out
    · have HN : Hid (saysF e es 0 = (x, ⟨#[]⟩)) := by
        show saysF e es 0 = _
        rw [HS.out, List.drop_of_length_le (by omega)]; rfl
      go_wp2_with fail
      go_ret2
      refine ⟨?_, hb0.trans (hb.mono (by omega))⟩
      rw [HN.out]; rfl
end Go.Proofs.Ytnncedndlhfdkac

/-
  slices.BinarySearchFunc over entries; impl.firstAt, impl.entriesIn.
-/
namespace Go.Proofs.Ytnncedndlhfdkac
open Go.ChangeShapes Go.WideShapes Go.ChangeAt Go.RowKit Go.Deep
set_option linter.unusedVariables false
set_option linter.unusedSimpArgs false
set_option maxRecDepth 100000

/-- Up to 'i' the entries stand before the key, from there on they don't. -/
def CutAt (es : List Ent) (k : Ent) (i : Nat) : Prop := i ≤ es.length ∧ (∀ (t : Nat) (x : Ent), t < i → es[t]? = some x → keyCmp x k = -1) ∧ (∀ (t : Nat) (x : Ent), i ≤ t → es[t]? = some x → ¬ keyCmp x k = -1)

set_option maxHeartbeats 4000000 in
theorem bsearch_core (b off cap : Nat) (es : List Ent) (e : Ent) (w : World) (hE : EntsAt w b off es) (hB : b < w.heap.size) (hlen : es.length ≤ 1048576)
    (hmono : ∀ (i j : Nat) (x y : Ent), i ≤ j → es[i]? = some x → es[j]? = some y → keyCmp y e = -1 → keyCmp x e = -1) :
    Calls Try.prog 115 #[.slice (some ⟨b, off, none⟩) es.length cap, .agg #[.string e.row, .string e.fam, .string e.qual, .int .u64 e.ts, .int .i64 e.kind, .string e.val], .func (.func 71) #[] #[]] w fun r w' =>
      ∃ (i : Nat) (f : Value), r = .returned (.tuple #[.int .i64 i, f]) ∧ CutAt es e i ∧ Below w.heap.size w w' := by
  obtain ⟨W0, hW0⟩ : ∃ W0 : World, W0 = w.alloc (Obj.cells #[.string e.row, .string e.fam, .string e.qual, .int .u64 e.ts, .int .i64 e.kind, .string e.val] 63) := ⟨_, rfl⟩
  have hb0 : Below w.heap.size w W0 := by rw [hW0]; exact (Below.refl _ _).alloc (Nat.le_refl _) _
  have hz0 : w.heap.size < W0.heap.size := by rw [hW0]; simp
  have HE : Hid (EntsAt W0 b off es) := hE.below hb0 hB
  have HX : Hid (EntsAt W0 w.heap.size 0 [e]) := by show EntsAt W0 w.heap.size 0 [e]; rw [hW0]; exact ent_box w e
  have HM : Hid (∀ (i j : Nat) (x y : Ent), i ≤ j → es[i]? = some x → es[j]? = some y → keyCmp y e = -1 → keyCmp x e = -1) := hmono
  clear hE hmono
  go_enter Try.func115, Try.ntmps115
  go_wp2_with fail
  rw [← hW0]
  clear hW0
  go_loopw [9, 10] (fun i j wr => ∃ lo hi : Nat, i = .int .i64 lo ∧ j = .int .i64 hi ∧ lo ≤ hi ∧ hi ≤ es.length ∧ (∀ (t : Nat) (x : Ent), t < lo → es[t]? = some x → keyCmp x e = -1) ∧ (∀ (t : Nat) (x : Ent), hi ≤ t → es[t]? = some x → ¬ keyCmp x e = -1) ∧ Below W0.heap.size W0 wr) (fun i j _ => (intOf j).toNat - (intOf i).toNat)
  case atStart => exact ⟨0, es.length, rfl, rfl, Nat.zero_le _, Nat.le_refl _, fun t x ht => by omega, fun t x ht hx => by have := (List.getElem?_eq_some_iff.1 hx).1; omega, Below.refl _ _⟩
  case round =>
    obtain ⟨lo, hi, rfl, rfl, hlh, hhi, hA, hZ, hb⟩ := hrel
    have HA : Hid ((∀ (t : Nat) (x : Ent), t < lo → es[t]? = some x → keyCmp x e = -1) ∧ (∀ (t : Nat) (x : Ent), hi ≤ t → es[t]? = some x → ¬ keyCmp x e = -1)) := ⟨hA, hZ⟩
    have hs := hb.size
    clear hA hZ
    by_cases hlt : lo < hi
    · have zl : (lo : Int) < (hi : Int) := by omega
      go_upto_region 5 with fail
      obtain ⟨m, hm⟩ : ∃ m : Nat, m = (lo + hi) / 2 := ⟨_, rfl⟩
      have em : ((lo : Int) + (hi : Int)) / 2 = (m : Int) := by omega
      have hm1 : lo ≤ m := by omega
      have hm2 : m < hi := by omega
      rw [em]
      clear em hm
      obtain ⟨v, hv⟩ : ∃ v, es[m]? = some v := ⟨_, List.getElem?_eq_getElem (by omega)⟩
      obtain ⟨q0, q1, q2, q3, q4, q5⟩ := ents_out (HE.out.below hb (by omega)) (by omega) hv
      obtain ⟨r0, r1, r2, r3, r4, r5⟩ := ents_out (HX.out.below hb (by omega)) (by omega) (rfl : [e][0]? = some e)
      simp only [Nat.zero_add, Nat.zero_mul] at q0 q1 q2 q3 q4 q5 r0 r1 r2 r3 r4 r5
      have HV : Hid (es[m]? = some v) := hv
      clear hv
      have inh : Nonempty (Out wr) := ⟨⟨wr, Below.refl _ _⟩⟩
      have zm : (m : Int) < (es.length : Int) := by omega
      refine wp_region_out (by kernel_rfl) (by kernel_rfl) ?_
      repeat (go_big_quiet_step ((go_at_call 71; exact Calls.out_of (compare_any v e _))))
      refine wpQuiet_nil ?_
      rintro wy ⟨⟨wx, hby⟩, rfl⟩
      have hb2 : Below W0.heap.size W0 wy := hb.trans (hby.mono hs)
      clear q0 q1 q2 q3 q4 q5 r0 r1 r2 r3 r4 r5
      by_cases hk : keyCmp v e < 0
      · have HK : Hid (keyCmp v e = -1) := by
          rcases keyCmp_vals v e with h | h | h
          · exact h
          · omega
          · omega
        have HN : Hid (∀ (t : Nat) (x : Ent), t < m + 1 → es[t]? = some x → keyCmp x e = -1) := fun t x ht hx => HM.out t m x v (by omega) hx HV.out HK.out
        go_wp2_with fail
        go_roundw
        case rel => exact ⟨m + 1, hi, by go_num, rfl, by omega, hhi, HN.out, HA.out.2, hb2⟩
        case measure => go_light; simp [intOf]; omega
      · have HN : Hid (∀ (t : Nat) (x : Ent), m ≤ t → es[t]? = some x → ¬ keyCmp x e = -1) := fun t x ht hx q => by
          have := HM.out m t v x ht HV.out hx q
          omega
        go_wp2_with fail
        go_roundw
        case rel => exact ⟨lo, m, rfl, rfl, hm1, by omega, HA.out.1, HN.out, hb2⟩
        case measure => go_light; simp [intOf]; omega
    · obtain rfl : lo = hi := by omega
      have HC : Hid (CutAt es e lo) := ⟨hhi, HA.out.1, HA.out.2⟩
      have hbw : Below w.heap.size w wr := hb0.trans (hb.mono (by omega))
      have zl : ¬ (lo : Int) < (lo : Int) := by omega
      by_cases hn : lo < es.length
      · obtain ⟨v, hv⟩ : ∃ v, es[lo]? = some v := ⟨_, List.getElem?_eq_getElem hn⟩
        have zm : (lo : Int) < (es.length : Int) := by omega
        go_upto_region 8 with fail
        obtain ⟨q0, q1, q2, q3, q4, q5⟩ := ents_out (HE.out.below hb (by omega)) (by omega) hv
        obtain ⟨r0, r1, r2, r3, r4, r5⟩ := ents_out (HX.out.below hb (by omega)) (by omega) (rfl : [e][0]? = some e)
        simp only [Nat.zero_add, Nat.zero_mul] at q0 q1 q2 q3 q4 q5 r0 r1 r2 r3 r4 r5
        clear hv
        have inh : Nonempty (Out wr) := ⟨⟨wr, Below.refl _ _⟩⟩
        refine wp_region_out (by kernel_rfl) (by kernel_rfl) ?_
        repeat (go_big_quiet_step ((go_at_call 71; exact Calls.out_of (compare_any v e _))))
        refine wpQuiet_nil ?_
        rintro wy ⟨⟨wx, hby⟩, rfl⟩
        go_wp2_with fail
        go_ret2
        first | exact ⟨lo, _, rfl, HC.out, hbw.trans (hby.mono (by have := hbw.size; omega))⟩ | exact ⟨lo, ⟨_, rfl⟩, HC.out, hbw.trans (hby.mono (by have := hbw.size; omega))⟩
      · have zm : ¬ (lo : Int) < (es.length : Int) := by omega
        go_upto_region 8 with fail
        have inh : Nonempty (Out wr) := ⟨⟨wr, Below.refl _ _⟩⟩
        refine wp_region_out (by kernel_rfl) (by kernel_rfl) ?_
        repeat (go_big_quiet_step (fail))
        refine wpQuiet_nil ?_
        rintro wy ⟨⟨wx, hby⟩, rfl⟩
        go_wp2_with fail
        go_ret2
        first | exact ⟨lo, _, rfl, HC.out, hbw.trans (hby.mono (by have := hbw.size; omega))⟩ | exact ⟨lo, ⟨_, rfl⟩, HC.out, hbw.trans (hby.mono (by have := hbw.size; omega))⟩

/-- It stands before every valid entry of the row. -/
def lstE (row : ByteArray) : Ent := ⟨row, ⟨#[]⟩, ⟨#[]⟩, 18446744073709551615, 2, ⟨#[]⟩⟩
theorem cB_empty {a : ByteArray} (h : 1 ≤ a.size) : cB a ⟨#[]⟩ = 1 := by
  obtain ⟨⟨l⟩⟩ := a
  cases l with
  | nil => simp [ByteArray.size] at h
  | cons x l => simp [cB, Lib.compareBytes]
theorem cB_less_iff (a b : ByteArray) : Op.bytesLess a.toList b.toList = true ↔ cB a b = -1 := by
  constructor
  · exact cB_less
  · intro h
    cases hl : Op.bytesLess a.toList b.toList
    · cases he : (a.toList == b.toList)
      · have := cB_more hl he
        omega
      · have : a = b := toList_inj (by simpa using he)
        subst this
        have := cB_zero.2 (rfl : a = a)
        omega
    · rfl
theorem least_iff {x : Ent} (hv : x.vld = true) (row : ByteArray) : keyCmp x (lstE row) = -1 ↔ Op.bytesLess x.row.toList row.toList = true := by
  have hf : 1 ≤ x.fam.size := by
    unfold Ent.vld vE at hv
    have := of_decide_eq_true hv
    omega
  rw [cB_less_iff]
  unfold keyCmp lstE firstOf
  simp only [cB_empty hf]
  by_cases h : cB x.row row = 0
  · simp [h]
  · simp [h]
/-- Where a row begins. -/
def RowAt (es : List Ent) (row : ByteArray) (i : Nat) : Prop := i ≤ es.length ∧ ∀ (t : Nat) (x : Ent), es[t]? = some x → (t < i ↔ Op.bytesLess x.row.toList row.toList = true)
theorem rowAt_of {es : List Ent} (hg : GoodR es) {row : ByteArray} {i : Nat} (h : CutAt es (lstE row) i) : RowAt es row i := by
  refine ⟨h.1, fun t x hx => ?_⟩
  have hv := hg.1.2 x (List.mem_of_getElem? hx)
  rw [← least_iff hv]
  constructor
  · intro ht; exact h.2.1 t x ht hx
  · intro hk
    by_cases ht : t < i
    · exact ht
    · exact absurd hk (h.2.2 t x (by omega) hx)

set_option maxHeartbeats 1000000 in
theorem firstAt_core (r : Rm) (row : ByteArray) (w : World) (hr : r.at w) (hg : GoodR r.es) :
    Calls Try.prog 98 #[.agg #[.slice (some ⟨r.b, r.off, none⟩) r.es.length r.cap], .string row] w fun e w' =>
      ∃ i : Nat, e = .returned (.int .i64 i) ∧ RowAt r.es row i ∧ Below w.heap.size w w' := by
  obtain ⟨rb, ro, rc, es⟩ := r
  simp only at *
  obtain ⟨Wa, hWa⟩ : ∃ Wa : World, Wa = w.alloc (Obj.cells #[.slice (some ⟨rb, ro, none⟩) es.length rc] 40) := ⟨_, rfl⟩
  obtain ⟨W0, hW0⟩ : ∃ W0 : World, W0 = Wa.alloc (Obj.cells #[.string row, .string ⟨#[]⟩, .string ⟨#[]⟩, .int .u64 18446744073709551615, .int .i64 2, .string ⟨#[]⟩] 63) := ⟨_, rfl⟩
  have hba : Below w.heap.size w Wa := by rw [hWa]; exact (Below.refl _ _).alloc (Nat.le_refl _) _
  have hza : Wa.heap.size = w.heap.size + 1 := by rw [hWa]; simp
  have hbb : Below Wa.heap.size Wa W0 := by rw [hW0]; exact (Below.refl _ _).alloc (Nat.le_refl _) _
  have HR : Hid (EntsAt W0 rb ro es ∧ rb < W0.heap.size) := ⟨(hr.below hba).ents.below hbb (hr.below hba).lt, ((hr.below hba).below hbb).lt⟩
  have hb0 : Below w.heap.size w W0 := hba.trans (hbb.mono (by omega))
  have hL : es.length ≤ 1048576 := by have := hg.1.1; omega
  have HG : Hid (GoodR es) := hg
  have HM : Hid (∀ (i j : Nat) (x y : Ent), i ≤ j → es[i]? = some x → es[j]? = some y → keyCmp y (lstE row) = -1 → keyCmp x (lstE row) = -1) := by
    intro i j x y hij hx hy hk
    by_cases h : i = j
    · subst h; rw [hx] at hy; simp at hy; subst hy; exact hk
    · exact keyCmp_trans (ord_get (ord_of_good hg) (by omega) hx hy) hk
  clear hr hg
  go_enter Try.func98, Try.ntmps98
  go_wp2_with fail
  rw [← hWa, ← hW0]
  clear hWa hW0
  refine (bsearch_core rb ro rc es (lstE row) _ HR.out.1 HR.out.2 hL HM.out).mono ?_
  rintro e w1 ⟨i, f, rfl, hc, hb1⟩
  have HC : Hid (RowAt es row i) := rowAt_of HG.out hc
  have hbw := hb0.trans (hb1.mono hb0.size)
  clear hc hb1
  go_wp2_with fail
  go_ret
  exact ⟨i, rfl, HC.out, hbw⟩
end Go.Proofs.Ytnncedndlhfdkac

/-
  impl.entriesIn.
-/
namespace Go.Proofs.Ytnncedndlhfdkac
open Go.ChangeShapes Go.WideShapes Go.ChangeAt Go.RowKit Go.Deep
set_option linter.unusedVariables false
set_option linter.unusedSimpArgs false
set_option maxRecDepth 100000

/-- A part of a run. -/
def Rm.part (r : Rm) (i n : Nat) : Rm := ⟨r.b, r.off + i * 6, r.cap - i, (r.es.drop i).take n⟩
theorem Rm.at.part {w : World} {r : Rm} (h : r.at w) {i n : Nat} (hi : i + n ≤ r.es.length) : (r.part i n).at w := by
  refine ⟨?_, h.lt, ?_, ?_⟩
  · intro j e he
    show _ ∧ _
    simp only [Rm.part] at he ⊢
    rw [List.getElem?_take] at he
    by_cases hj : j < n
    · rw [if_pos hj, List.getElem?_drop] at he
      have := h.ents (i + j) e he
      rw [show r.off + (i + j) * 6 = r.off + i * 6 + j * 6 by omega] at this
      exact this
    · rw [if_neg hj] at he; cases he
  · have := h.len
    simp [Rm.part]; omega
  · have := h.cap
    simp only [Rm.part]
    omega
theorem part_len {r : Rm} {i n : Nat} (hi : i + n ≤ r.es.length) : (r.part i n).es.length = n := by simp [Rm.part]; omega
theorem mem_part {r : Rm} {i n : Nat} {x : Ent} : x ∈ (r.part i n).es ↔ ∃ t, i ≤ t ∧ t < i + n ∧ r.es[t]? = some x := by
  constructor
  · intro h
    obtain ⟨j, hj⟩ := List.getElem?_of_mem h
    simp only [Rm.part] at hj
    rw [List.getElem?_take] at hj
    by_cases hn : j < n
    · rw [if_pos hn, List.getElem?_drop] at hj
      exact ⟨i + j, by omega, by omega, hj⟩
    · rw [if_neg hn] at hj; cases hj
  · rintro ⟨t, h1, h2, h3⟩
    refine List.mem_of_getElem? (i := t - i) ?_
    simp only [Rm.part]
    rw [List.getElem?_take, if_pos (by omega), List.getElem?_drop, show i + (t - i) = t by omega]
    exact h3
/-- What of a run lies in a range. -/
structure PartOf (r p : Rm) (lo : ByteArray) (hh : Bool) (hi : ByteArray) : Prop where
  blk : p.b = r.b
  ord : Ord p.es
  mem : ∀ x, x ∈ p.es ↔ x ∈ r.es ∧ inR lo hh hi x.row = true
  len : p.es.length ≤ r.es.length
theorem part_of {r : Rm} (hg : GoodR r.es) {lo hi : ByteArray} {hh : Bool} {i j : Nat} (h1 : RowAt r.es lo i) (h2 : (hh = true → RowAt r.es hi j) ∧ (hh = false → j = r.es.length)) : PartOf r (r.part i (max i j - i)) lo hh hi := by
  refine ⟨rfl, ?_, fun x => ?_, ?_⟩
  · exact ((ord_of_good hg).drop (i := i)).take
  · rw [mem_part]
    constructor
    · rintro ⟨t, a1, a2, a3⟩
      refine ⟨List.mem_of_getElem? a3, ?_⟩
      unfold inR
      have b1 : Op.bytesLess x.row.toList lo.toList = false := by
        cases hb : Op.bytesLess x.row.toList lo.toList
        · rfl
        · have := (h1.2 t x a3).2 hb; omega
      rw [b1]
      cases hh
      · rfl
      · have := (h2.1 rfl).2 t x a3
        rw [this.1 (by omega)]; rfl
    · rintro ⟨hx, hr⟩
      obtain ⟨t, ht⟩ := List.getElem?_of_mem hx
      have hl := (List.getElem?_eq_some_iff.1 ht).1
      unfold inR at hr
      rw [Bool.and_eq_true] at hr
      have c1 : i ≤ t := by
        by_cases q : t < i
        · have := (h1.2 t x ht).1 q
          rw [this] at hr
          simp at hr
        · omega
      have c2 : t < j := by
        cases hh
        · have := h2.2 rfl; omega
        · refine ((h2.1 rfl).2 t x ht).2 ?_
          simpa using hr.2
      exact ⟨t, c1, by omega, ht⟩
  · simp [Rm.part]; omega
/-- Where the part of a run lies. -/
def WhereP (r p : Rm) (lo : ByteArray) : Prop := ∃ i, RowAt r.es lo i ∧ p.off = (if r.cap = i then r.off else r.off + i * 6) ∧ p.cap = r.cap - i

set_option maxHeartbeats 2000000 in
theorem entriesIn_at (r : Rm) (lo hi : ByteArray) (hh : Bool) (w : World) (hr : r.at w) (hg : GoodR r.es) :
    Calls Try.prog 75 #[.agg #[.slice (some ⟨r.b, r.off, none⟩) r.es.length r.cap], .agg #[.string lo, .bool hh, .string hi]] w fun e w' =>
      ∃ p : Rm, e = .returned (.slice (some ⟨p.b, p.off, none⟩) p.es.length p.cap) ∧ p.at w' ∧ PartOf r p lo hh hi ∧ Below w.heap.size w w' ∧ WhereP r p lo := by
  have HR : Hid (r.at w ∧ GoodR r.es) := ⟨hr, hg⟩
  have hL : r.es.length ≤ 1048576 := by have := hg.1.1; omega
  have hcl := hr.len
  have hcm := hr.cap
  unfold maxLen at hcm
  clear hr hg
  obtain ⟨Wa, hWa⟩ : ∃ Wa : World, Wa = w.alloc (Obj.cells #[.slice (some ⟨r.b, r.off, none⟩) r.es.length r.cap] 40) := ⟨_, rfl⟩
  obtain ⟨W0, hW0⟩ : ∃ W0 : World, W0 = Wa.alloc (Obj.cells #[.string lo, .bool hh, .string hi] 31) := ⟨_, rfl⟩
  have hba : Below w.heap.size w Wa := by rw [hWa]; exact (Below.refl _ _).alloc (Nat.le_refl _) _
  have hza : Wa.heap.size = w.heap.size + 1 := by rw [hWa]; simp
  have hbb : Below Wa.heap.size Wa W0 := by rw [hW0]; exact (Below.refl _ _).alloc (Nat.le_refl _) _
  have hz0 : W0.heap.size = w.heap.size + 1 + 1 := by rw [hW0]; simp [hza]
  have hb0 : Below w.heap.size w W0 := hba.trans (hbb.mono (by omega))
  have HC : Hid (∀ wx, Below W0.heap.size W0 wx → wx.cell? ⟨w.heap.size, 0, none⟩ = some (.slice (some ⟨r.b, r.off, none⟩) r.es.length r.cap) ∧ wx.cell? ⟨w.heap.size + 1, 1, none⟩ = some (.bool hh) ∧ wx.cell? ⟨w.heap.size + 1, 2, none⟩ = some (.string hi) ∧ r.at wx) := by
    intro wx hb
    have hat : r.at wx := ((HR.out.1.below hba).below hbb).below hb
    rw [hb.cell (p := ⟨w.heap.size, 0, none⟩) (by show w.heap.size < W0.heap.size; omega), hb.cell (p := ⟨w.heap.size + 1, 1, none⟩) (by show w.heap.size + 1 < W0.heap.size; omega), hb.cell (p := ⟨w.heap.size + 1, 2, none⟩) (by show w.heap.size + 1 < W0.heap.size; omega)]
    refine ⟨?_, ?_, ?_, hat⟩
    · rw [hbb.cell (p := ⟨w.heap.size, 0, none⟩) (by show w.heap.size < Wa.heap.size; omega), hWa]; simp
    · rw [hW0, ← hza]; simp
    · rw [hW0, ← hza]; simp
  have HA0 : Hid (r.at W0) := (HR.out.1.below hba).below hbb
  go_enter Try.func75, Try.ntmps75
  go_wp2_with fail
  rw [← hWa, ← hW0]
  clear hWa hW0
  refine (firstAt_core r lo _ HA0.out HR.out.2).mono ?_
  rintro e w1 ⟨i, rfl, hi1, hb1⟩
  have HI : Hid (RowAt r.es lo i) := hi1
  have hil := hi1.1
  clear hi1
  obtain ⟨c0, c1, c2, hat⟩ := HC.out w1 hb1
  have HA1 : Hid (r.at w1) := hat
  have hs1 := hb1.size
  clear hat
  have fin : ¬ r.cap = i → ∀ (j : Nat) (wx : World), Below W0.heap.size W0 wx → ((hh = true → RowAt r.es hi j) ∧ (hh = false → j = r.es.length)) → ∃ p : Rm, Ending.returned (Value.slice (some ⟨r.b, r.off + i * 6, none⟩) ((max (i : Int) (j : Int)).toNat - i) (r.cap - i)) = .returned (.slice (some ⟨p.b, p.off, none⟩) p.es.length p.cap) ∧ p.at wx ∧ PartOf r p lo hh hi ∧ Below w.heap.size w wx ∧ WhereP r p lo := by
    intro hci j wx hb hj
    have hjl : j ≤ r.es.length := by
      cases hh
      · rw [hj.2 rfl]; exact Nat.le_refl _
      · exact (hj.1 rfl).1
    refine ⟨r.part i (max i j - i), ?_, (HC.out wx hb).2.2.2.part (by omega), part_of HR.out.2 HI.out hj, hb0.trans (hb.mono (by omega)), i, HI.out, ?_, rfl⟩
    rotate_left
    · rw [if_neg hci]; rfl
    rw [part_len (by omega), show (max (i : Int) (j : Int)).toNat - i = max i j - i by omega]; rfl
  have HF : Hid (¬ r.cap = i → ∀ (j : Nat) (wx : World), Below W0.heap.size W0 wx → ((hh = true → RowAt r.es hi j) ∧ (hh = false → j = r.es.length)) → ∃ p : Rm, Ending.returned (Value.slice (some ⟨r.b, r.off + i * 6, none⟩) ((max (i : Int) (j : Int)).toNat - i) (r.cap - i)) = .returned (.slice (some ⟨p.b, p.off, none⟩) p.es.length p.cap) ∧ p.at wx ∧ PartOf r p lo hh hi ∧ Below w.heap.size w wx ∧ WhereP r p lo) := fin
  have fin2 : r.cap = i → ∀ (j : Nat) (wx : World), Below W0.heap.size W0 wx → ((hh = true → RowAt r.es hi j) ∧ (hh = false → j = r.es.length)) → ∃ p : Rm, Ending.returned (Value.slice (some ⟨r.b, r.off, none⟩) ((max (i : Int) (j : Int)).toNat - i) 0) = .returned (.slice (some ⟨p.b, p.off, none⟩) p.es.length p.cap) ∧ p.at wx ∧ PartOf r p lo hh hi ∧ Below w.heap.size w wx ∧ WhereP r p lo := by
    intro hci j wx hb hj
    have hjl : j ≤ r.es.length := by
      cases hh
      · rw [hj.2 rfl]; exact Nat.le_refl _
      · exact (hj.1 rfl).1
    have hp := part_of HR.out.2 HI.out hj
    have hn : (r.part i (max i j - i)).es = [] := List.eq_nil_of_length_eq_zero (by rw [part_len (by omega)]; omega)
    refine ⟨⟨r.b, r.off, 0, []⟩, ?_, ⟨fun j e he => by simp at he, (HC.out wx hb).2.2.2.lt, by simp, by simp [maxLen]⟩, ⟨rfl, List.Pairwise.nil, fun x => ?_, by simp⟩, hb0.trans (hb.mono (by omega)), i, HI.out, by rw [if_pos hci], by show 0 = r.cap - i; omega⟩
    · rw [show (max (i : Int) (j : Int)).toNat - i = 0 by omega]; rfl
    · have := hp.mem x
      rw [hn] at this
      exact this
  have HF2 : Hid (r.cap = i → ∀ (j : Nat) (wx : World), Below W0.heap.size W0 wx → ((hh = true → RowAt r.es hi j) ∧ (hh = false → j = r.es.length)) → ∃ p : Rm, Ending.returned (Value.slice (some ⟨r.b, r.off, none⟩) ((max (i : Int) (j : Int)).toNat - i) 0) = .returned (.slice (some ⟨p.b, p.off, none⟩) p.es.length p.cap) ∧ p.at wx ∧ PartOf r p lo hh hi ∧ Below w.heap.size w wx ∧ WhereP r p lo) := fin2
  clear fin fin2
  cases hh
  · by_cases hci : r.cap = i
    · have HCI : Hid (r.cap = i) := hci
      go_wp2_with fail
      go_ret
      exact HF2.out HCI.out r.es.length w1 hb1 ⟨fun q => by simp at q, fun _ => rfl⟩
    · have HCI : Hid (¬ r.cap = i) := hci
      go_wp2_with fail
      go_ret
      exact HF.out HCI.out r.es.length w1 hb1 ⟨fun q => by simp at q, fun _ => rfl⟩
  · go_wp2_with fail
    refine (firstAt_core r hi _ HA1.out HR.out.2).mono ?_
    rintro e w2 ⟨j, rfl, hj1, hb2⟩
    have hjl := hj1.1
    have HJ : Hid (RowAt r.es hi j) := hj1
    have hb3 := hb1.trans (hb2.mono (by omega))
    clear c0 c1 c2 hj1
    obtain ⟨c0, c1, c2, hat⟩ := HC.out w2 hb3
    clear hat
    by_cases hci : r.cap = i
    · have HCI : Hid (r.cap = i) := hci
      go_wp2_with fail
      go_ret
      exact HF2.out HCI.out j w2 hb3 ⟨fun _ => HJ.out, fun q => by simp at q⟩
    · have HCI : Hid (¬ r.cap = i) := hci
      go_wp2_with fail
      go_ret
      exact HF.out HCI.out j w2 hb3 ⟨fun _ => HJ.out, fun q => by simp at q⟩
theorem entriesIn_core (r : Rm) (lo hi : ByteArray) (hh : Bool) (w : World) (hr : r.at w) (hg : GoodR r.es) :
    Calls Try.prog 75 #[.agg #[.slice (some ⟨r.b, r.off, none⟩) r.es.length r.cap], .agg #[.string lo, .bool hh, .string hi]] w fun e w' =>
      ∃ p : Rm, e = .returned (.slice (some ⟨p.b, p.off, none⟩) p.es.length p.cap) ∧ p.at w' ∧ PartOf r p lo hh hi ∧ Below w.heap.size w w' :=
  (entriesIn_at r lo hi hh w hr hg).mono fun e w' ⟨p, h1, h2, h3, h4, _⟩ => ⟨p, h1, h2, h3, h4⟩
end Go.Proofs.Ytnncedndlhfdkac

/-
  The cursors that are opened, with and without memory.
-/
namespace Go.Proofs.Ytnncedndlhfdkac
open Go.ChangeShapes Go.WideShapes Go.ChangeAt Go.RowKit Go.Deep
set_option linter.unusedVariables false
set_option linter.unusedSimpArgs false
set_option maxRecDepth 100000

/-- The cursors of the first 'k' runs: those that have something in the range. -/
structure OpenTo (l : List Rm) (lo : ByteArray) (hh : Bool) (hi : ByteArray) (k : Nat) (cs : List Cu) : Prop where
  mem : ∀ (a : Nat) (x : Ent), (a < k ∧ (∃ r, l[a]? = some r ∧ x ∈ r.es) ∧ inR lo hh hi x.row = true) ↔ ∃ c ∈ cs, c.age = a ∧ x ∈ c.r.es
  age : ∀ c ∈ cs, c.age < k
  zero : ∀ c ∈ cs, c.pos = 0 ∧ Ord c.r.es
  ages : cs.Pairwise fun a b => a.age ≠ b.age
  blks : cs.Pairwise fun a b => a.blk ≠ b.blk
  sum : sumL (cs.map fl) ≤ 10000 * k
  few : cs.length ≤ k
  src : ∀ c ∈ cs, ∃ r ∈ l, c.r.b = r.b
theorem OpenTo.perm {l : List Rm} {lo hi : ByteArray} {hh : Bool} {k : Nat} {cs ds : List Cu} (h : OpenTo l lo hh hi k cs) (hp : cs.Perm ds) : OpenTo l lo hh hi k ds where
  mem := fun a x => (h.mem a x).trans ⟨fun ⟨c, hc, q⟩ => ⟨c, hp.mem_iff.1 hc, q⟩, fun ⟨c, hc, q⟩ => ⟨c, hp.mem_iff.2 hc, q⟩⟩
  age := fun c hc => h.age c (hp.mem_iff.2 hc)
  zero := fun c hc => h.zero c (hp.mem_iff.2 hc)
  ages := (hp.pairwise_iff (fun h => Ne.symm h)).1 h.ages
  blks := (hp.pairwise_iff (fun h => Ne.symm h)).1 h.blks
  sum := by
    have : sumL (ds.map fl) = sumL (cs.map fl) := (((hp.map fl).map (fun p : Nat × List Ent => p.2.length)).sum_nat).symm
    rw [this]; exact h.sum
  few := by rw [← hp.length_eq]; exact h.few
  src := fun c hc => h.src c (hp.mem_iff.2 hc)
theorem openTo_zero (l : List Rm) (lo hi : ByteArray) (hh : Bool) : OpenTo l lo hh hi 0 [] where
  mem := fun a x => ⟨fun h => by omega, fun ⟨c, hc, _⟩ => by simp at hc⟩
  age := fun c hc => by simp at hc
  zero := fun c hc => by simp at hc
  ages := List.Pairwise.nil
  blks := List.Pairwise.nil
  sum := by simp [sumL]
  few := by simp
  src := fun c hc => by simp at hc
theorem openTo_mem {l : List Rm} {lo hi : ByteArray} {hh : Bool} {k : Nat} {cs : List Cu} {r p : Rm} (h : OpenTo l lo hh hi k cs) (hr : l[k]? = some r) (hp : PartOf r p lo hh hi) (a : Nat) (x : Ent) :
    (a < k + 1 ∧ (∃ r, l[a]? = some r ∧ x ∈ r.es) ∧ inR lo hh hi x.row = true) ↔ (∃ c ∈ cs, c.age = a ∧ x ∈ c.r.es) ∨ (a = k ∧ x ∈ p.es) := by
  rw [← h.mem a x]
  constructor
  · rintro ⟨h1, ⟨r', h2, h3⟩, h4⟩
    by_cases hk : a = k
    · subst hk
      rw [hr] at h2
      simp at h2
      subst h2
      exact .inr ⟨rfl, (hp.mem x).2 ⟨h3, h4⟩⟩
    · exact .inl ⟨by omega, ⟨r', h2, h3⟩, h4⟩
  · rintro (⟨h1, h2, h3⟩ | ⟨rfl, h2⟩)
    · exact ⟨by omega, h2, h3⟩
    · obtain ⟨h3, h4⟩ := (hp.mem x).1 h2
      exact ⟨by omega, ⟨r, hr, h3⟩, h4⟩
theorem openTo_skip {l : List Rm} {lo hi : ByteArray} {hh : Bool} {k : Nat} {cs : List Cu} {r p : Rm} (h : OpenTo l lo hh hi k cs) (hr : l[k]? = some r) (hp : PartOf r p lo hh hi) (h0 : p.es = []) : OpenTo l lo hh hi (k + 1) cs where
  mem := fun a x => (openTo_mem h hr hp a x).trans (by rw [h0]; simp)
  age := fun c hc => by have := h.age c hc; omega
  zero := h.zero
  ages := h.ages
  blks := h.blks
  sum := by have := h.sum; omega
  few := by have := h.few; omega
  src := h.src
theorem openTo_push {l : List Rm} {lo hi : ByteArray} {hh : Bool} {k B : Nat} {cs : List Cu} {r p : Rm} (h : OpenTo l lo hh hi k cs) (hr : l[k]? = some r) (hg : GoodR r.es) (hp : PartOf r p lo hh hi) (hB : ∀ c ∈ cs, c.blk ≠ B) :
    OpenTo l lo hh hi (k + 1) (cs ++ [⟨B, p, 0, k⟩]) where
  mem := fun a x => (openTo_mem h hr hp a x).trans (by
    constructor
    · rintro (⟨c, hc, q⟩ | ⟨rfl, q⟩)
      · exact ⟨c, List.mem_append_left _ hc, q⟩
      · exact ⟨⟨B, p, 0, a⟩, by simp, rfl, q⟩
    · rintro ⟨c, hc, q1, q2⟩
      rcases List.mem_append.1 hc with hc | hc
      · exact .inl ⟨c, hc, q1, q2⟩
      · simp at hc
        subst hc
        exact .inr ⟨q1.symm, q2⟩)
  age := fun c hc => by
    rcases List.mem_append.1 hc with hc | hc
    · have := h.age c hc; omega
    · simp at hc
      subst hc
      show k < k + 1
      omega
  zero := fun c hc => by
    rcases List.mem_append.1 hc with hc | hc
    · exact h.zero c hc
    · simp at hc
      subst hc
      exact ⟨rfl, hp.ord⟩
  ages := List.pairwise_append.2 ⟨h.ages, by simp, fun a ha b hb => by
    simp at hb
    subst hb
    have := h.age a ha
    show a.age ≠ k
    omega⟩
  blks := List.pairwise_append.2 ⟨h.blks, by simp, fun a ha b hb => by
    simp at hb
    subst hb
    exact hB a ha⟩
  sum := by
    have h1 := h.sum
    have h2 := hp.len
    have h3 := hg.1.1
    simp [sumL, fl, Cu.rest] at h1 ⊢
    omega
  few := by have := h.few; simp; omega
  src := fun c hc => by
    rcases List.mem_append.1 hc with hc | hc
    · exact h.src c hc
    · simp at hc
      subst hc
      exact ⟨r, List.mem_of_getElem? hr, hp.blk⟩
/-- What the heap's flow begins with. -/
theorem flow_open {l : List Rm} {lo hi : ByteArray} {hh : Bool} {cs : List Cu} (h : OpenTo l lo hh hi l.length cs) : Flow (fun a x => (∃ j, At (esM l) a j x) ∧ inR lo hh hi x.row = true) (sumL (cs.map fl)) [] (cs.map fl) where
  sorted := List.Pairwise.nil
  ahead := fun p hp => by simp at hp
  all := fun a x => by
    have hm := h.mem a x
    constructor
    · rintro ⟨⟨j, es, h1, h2⟩, h3⟩
      rw [List.getElem?_map] at h1
      cases hl : l[a]? with
      | none => rw [hl] at h1; cases h1
      | some r =>
        rw [hl] at h1
        simp at h1
        subst h1
        obtain ⟨c, hc, q1, q2⟩ := hm.1 ⟨(List.getElem?_eq_some_iff.1 hl).1, ⟨r, hl, List.mem_of_getElem? h2⟩, h3⟩
        refine .inr ⟨fl c, List.mem_map.2 ⟨c, hc, rfl⟩, q1, ?_⟩
        show x ∈ c.r.es.drop c.pos
        rw [(h.zero c hc).1]; exact q2
    · rintro (h1 | ⟨c', hc', q1, q2⟩)
      · simp at h1
      · obtain ⟨c, hc, rfl⟩ := List.mem_map.1 hc'
        have q3 : x ∈ c.r.es.drop c.pos := q2
        rw [(h.zero c hc).1] at q3
        obtain ⟨_, ⟨r, hr, hx⟩, h3⟩ := hm.2 ⟨c, hc, q1, q3⟩
        obtain ⟨j, hj⟩ := List.getElem?_of_mem hx
        exact ⟨⟨j, r.es, by rw [List.getElem?_map, hr]; rfl, hj⟩, h3⟩
  ages := by
    rw [List.pairwise_map]
    exact h.ages
  ord := fun c' hc' => by
    obtain ⟨c, hc, rfl⟩ := List.mem_map.1 hc'
    show Ord (c.r.es.drop c.pos)
    rw [(h.zero c hc).1]; exact (h.zero c hc).2
  count := by simp

/-- The row of cursors, in memory. -/
structure RowOk (w : World) (base g cap : Nat) (d : Array Cu) : Prop where
  row : OwnH w base g cap d
  cur : ∀ c ∈ d, CuAt w c
  low : ∀ c ∈ d, c.r.b < base
  high : ∀ c ∈ d, base ≤ c.blk ∧ ¬ c.blk = g
theorem RowOk.below {w w' : World} {base g cap : Nat} {d : Array Cu} (h : RowOk w base g cap d) (hb : Below w.heap.size w w') : RowOk w' base g cap d :=
  ⟨h.row.below hb h.row.lt.2, fun c hc => (h.cur c hc).below hb, h.low, h.high⟩
theorem HeapW.rowOk {w : World} {hp base g cap : Nat} {d : Array Cu} (h : HeapW w hp base g cap d) : RowOk w base g cap d := ⟨h.row, h.cur, h.low, fun c hc => ⟨(h.high c hc).1, (h.high c hc).2.1⟩⟩

/-- How the opening stands. -/
structure OInv (W : World) (hv : Nat) (l : List Rm) (lo : ByteArray) (hh : Bool) (hi : ByteArray) (k g cp : Nat) (d : Array Cu) (w : World) : Prop where
  below : Below W.heap.size W w
  hdr : w.cell? ⟨hv, 0, none⟩ = some (.slice (some ⟨g, 0, none⟩) d.size cp)
  free : ∀ j, w.frozen? ⟨hv, j, none⟩ = false
  lt : hv < w.heap.size
  own : W.heap.size < hv
  new : W.heap.size < g
  ne : ¬ hv = g
  apart : ∀ c ∈ d, W.heap.size < c.blk ∧ ¬ c.blk = hv
  row : RowOk w W.heap.size g cp d
  opened : OpenTo l lo hh hi k d.toList
  rg0 : w.cell? ⟨W.heap.size, 0, none⟩ = some (.string lo)
  rg1 : w.cell? ⟨W.heap.size, 1, none⟩ = some (.bool hh)
  rg2 : w.cell? ⟨W.heap.size, 2, none⟩ = some (.string hi)
theorem OInv.step {W : World} {hv : Nat} {l : List Rm} {lo hi : ByteArray} {hh : Bool} {k g cp : Nat} {d : Array Cu} {w w' : World} (h : OInv W hv l lo hh hi k g cp d w) (hb : Below w.heap.size w w') : OInv W hv l lo hh hi k g cp d w' where
  below := h.below.trans (hb.mono h.below.size)
  hdr := by rw [hb.cell (p := ⟨hv, 0, none⟩) h.lt]; exact h.hdr
  free := fun j => by rw [hb.frozen (p := ⟨hv, j, none⟩) h.lt]; exact h.free j
  lt := by have := hb.size; have := h.lt; omega
  own := h.own
  new := h.new
  ne := h.ne
  apart := h.apart
  row := h.row.below hb
  opened := h.opened
  rg0 := by rw [hb.cell (p := ⟨W.heap.size, 0, none⟩) (by have := h.own; have := h.lt; show W.heap.size < w.heap.size; omega)]; exact h.rg0
  rg1 := by rw [hb.cell (p := ⟨W.heap.size, 1, none⟩) (by have := h.own; have := h.lt; show W.heap.size < w.heap.size; omega)]; exact h.rg1
  rg2 := by rw [hb.cell (p := ⟨W.heap.size, 2, none⟩) (by have := h.own; have := h.lt; show W.heap.size < w.heap.size; omega)]; exact h.rg2

theorem cu_new (w : World) (p : Rm) (k : Nat) (hp : p.at w) (h0 : 0 < p.es.length) (hs : p.es.length ≤ 1048576) (hk : k ≤ 1048576) :
    CuAt (w.alloc (Obj.cells #[.slice (some ⟨p.b, p.off, none⟩) p.es.length p.cap, .int .i64 0, .int .i64 k] 119)) ⟨w.heap.size, p, 0, k⟩ where
  slice := by simp
  pos := by simp
  age := by simp
  free := fun j => World.ownsRow.frozenAt (World.ownsRow_lit (base := 0) (e := 119) (size := 3) w #[.slice (some ⟨p.b, p.off, none⟩) p.es.length p.cap, .int .i64 0, .int .i64 k] 1 (Nat.zero_le _) (by decide) rfl) j
  lt := by simp
  ents := hp.below ((Below.refl _ _).alloc (Nat.le_refl _) _)
  here := h0
  short := hs
  young := hk

theorem OInv.push {W : World} {hv : Nat} {l : List Rm} {lo hi : ByteArray} {hh : Bool} {k g cp : Nat} {d : Array Cu} {w w3 w4 : World} (h : OInv W hv l lo hh hi k g cp d w) {r p : Rm} (hr : l[k]? = some r) (hg : GoodR r.es) (hrb : r.b < W.heap.size) (hp : PartOf r p lo hh hi) (hat : p.at w) (h0 : 0 < p.es.length) (hk : k ≤ 1048576)
    (hb3 : Below (w.heap.size + 1) (w.alloc (Obj.cells #[.slice (some ⟨p.b, p.off, none⟩) p.es.length p.cap, .int .i64 0, .int .i64 k] 119)) w3) {g' cp' : Nat} (hO : OwnH w4 W.heap.size g' cp' (d.push ⟨w.heap.size, p, 0, k⟩)) (hgr : w3.grownBy w4 (some g)) (hgg : g = g' ∨ g' = w3.heap.size) :
    OInv W hv l lo hh hi (k + 1) g' cp' (d.push ⟨w.heap.size, p, 0, k⟩) (w4.setCell ⟨hv, 0, none⟩ (.slice (some ⟨g', 0, none⟩) (d.size + 1) cp')) := by
  have hbA : Below w.heap.size w (w.alloc (Obj.cells #[.slice (some ⟨p.b, p.off, none⟩) p.es.length p.cap, .int .i64 0, .int .i64 k] 119)) := (Below.refl _ _).alloc (Nat.le_refl _) _
  have hzA : (w.alloc (Obj.cells #[.slice (some ⟨p.b, p.off, none⟩) p.es.length p.cap, .int .i64 0, .int .i64 k] 119)).heap.size = w.heap.size + 1 := by simp
  have hnew := cu_new w p k hat h0 (by have := hp.len; have := hg.1.1; omega) hk
  generalize w.alloc (Obj.cells #[.slice (some ⟨p.b, p.off, none⟩) p.es.length p.cap, .int .i64 0, .int .i64 k] 119) = wA at *
  rw [← hzA] at hb3
  have hs3 := hb3.size
  have hs4 := hgr.size
  have hlt := h.lt
  have hown := h.own
  have hgl := h.row.row.lt
  have hne' : ¬ hv = g' := by
    rcases hgg with q | q
    · rw [← q]; exact h.ne
    · omega
  have h3 : OInv W hv l lo hh hi k g cp d w3 := (h.step hbA).step hb3
  have hC4 : Chg (fun k => k = g) w3 w4 := Chg.of_grown hgr (fun k hk => by cases hk; rfl)
  have hC5 : Chg (fun k => k = hv) w4 (w4.setCell ⟨hv, 0, none⟩ (.slice (some ⟨g', 0, none⟩) (d.size + 1) cp')) := Chg.of_set _ _ _ _ rfl
  have hs5 := hC5.size
  have c4 : w4.cell? ⟨hv, 0, none⟩ = some (.slice (some ⟨g, 0, none⟩) d.size cp) := by rw [hC4.cell (p := ⟨hv, 0, none⟩) h3.lt h.ne]; exact h3.hdr
  have hmem : ∀ c ∈ d.push ⟨w.heap.size, p, 0, k⟩, c ∈ d ∨ c = ⟨w.heap.size, p, 0, k⟩ := fun c hc => by simpa using hc
  have hcu : ∀ c ∈ d.push ⟨w.heap.size, p, 0, k⟩, CuAt w3 c ∧ ¬ c.blk = g ∧ ¬ c.blk = hv ∧ c.r.b < W.heap.size ∧ W.heap.size < c.blk ∧ c.blk < w3.heap.size := fun c hc => by
    rcases hmem c hc with hc | rfl
    · have q := h3.row.cur c hc
      exact ⟨q, (h.row.high c hc).2, (h.apart c hc).2, h.row.low c hc, (h.apart c hc).1, q.lt⟩
    · have q := hnew.below hb3
      refine ⟨q, ?_, ?_, ?_, ?_, q.lt⟩
      · show ¬ w.heap.size = g; omega
      · show ¬ w.heap.size = hv; omega
      · show p.b < W.heap.size
        rw [hp.blk]; exact hrb
      · show W.heap.size < w.heap.size; omega
  have hbig := h3.below.size
  exact {
    below := (Chg.below (Chg.below h3.below hC4 h3.below.size (fun k q => by omega)) hC5 (by omega) (fun k q => by omega))
    hdr := by rw [World.cell?_setCell_same _ _ _ c4]; simp
    free := fun j => by
      rw [World.frozen?_setCell, hC4.frozen (p := ⟨hv, j, none⟩) h3.lt h.ne]; exact h3.free j
    lt := by omega
    own := h.own
    new := by
      rcases hgg with q | q
      · rw [← q]; exact h.new
      · omega
    ne := hne'
    apart := fun c hc => ⟨(hcu c hc).2.2.2.2.1, (hcu c hc).2.2.1⟩
    row := {
      row := World.ownsRow.kept hO (grown_set w4 hv 0 _) (.inr (fun q => hne' (Option.some.inj q).symm))
      cur := fun c hc => by
        obtain ⟨q1, q2, q3, q4, q5, q6⟩ := hcu c hc
        exact (q1.chg hC4 q2 (by omega)).chg hC5 q3 (by omega)
      low := fun c hc => (hcu c hc).2.2.2.1
      high := fun c hc => by
        obtain ⟨q1, q2, q3, q4, q5, q6⟩ := hcu c hc
        refine ⟨by omega, ?_⟩
        rcases hgg with q | q
        · rw [← q]; exact q2
        · omega }
    opened := by
      have := openTo_push (B := w.heap.size) h.opened hr hg hp (fun c hc => by
        have := (h.row.cur c (by simpa using hc)).lt
        omega)
      simpa using this
    rg0 := by
      have hx : W.heap.size < w3.heap.size := by omega
      rw [hC5.cell (p := ⟨W.heap.size, 0, none⟩) (by show W.heap.size < w4.heap.size; omega) (by show ¬ W.heap.size = hv; omega), hC4.cell (p := ⟨W.heap.size, 0, none⟩) hx (by have := h.new; show ¬ W.heap.size = g; omega)]
      exact h3.rg0
    rg1 := by
      have hx : W.heap.size < w3.heap.size := by omega
      rw [hC5.cell (p := ⟨W.heap.size, 1, none⟩) (by show W.heap.size < w4.heap.size; omega) (by show ¬ W.heap.size = hv; omega), hC4.cell (p := ⟨W.heap.size, 1, none⟩) hx (by have := h.new; show ¬ W.heap.size = g; omega)]
      exact h3.rg1
    rg2 := by
      have hx : W.heap.size < w3.heap.size := by omega
      rw [hC5.cell (p := ⟨W.heap.size, 2, none⟩) (by show W.heap.size < w4.heap.size; omega) (by show ¬ W.heap.size = hv; omega), hC4.cell (p := ⟨W.heap.size, 2, none⟩) hx (by have := h.new; show ¬ W.heap.size = g; omega)]
      exact h3.rg2 }
end Go.Proofs.Ytnncedndlhfdkac

/-
  impl.openCursors.
-/
namespace Go.Proofs.Ytnncedndlhfdkac
open Go.ChangeShapes Go.WideShapes Go.ChangeAt Go.RowKit Go.Deep
set_option linter.unusedVariables false
set_option linter.unusedSimpArgs false
set_option maxRecDepth 100000

theorem Try.infoCur : (Try.prog.info? 83).map (fun i => (i.zero, i.size, i.bytes)) = some (some .nilIface, 1, 16) := by kernel_rfl

/-- One cursor appended to the row. -/
theorem wpList_append_cu {ops : Array Oper} {rest : List Oper} {o : Oper} {a : Act} {Q : Exit → Act → World → Prop} (w : World) (hgd : o.guard = none) (s x : Operand)
    (ho : o.op = .call { callee := .builtin .append, args := #[s, x], argTypes := #[78, 78] })
    (base g cp blk : Nat) (d : Array Cu) (c : Cu) (hs : a.eval s = .slice (some ⟨g, 0, none⟩) d.size cp) (hx : a.eval x = .slice (some ⟨blk, 0, none⟩) 1 1) (hO : OwnH w base g cp d)
    (hc : w.cell? ⟨blk, 0, none⟩ = some (ifc c)) (hlen : d.size ≤ 2 ^ 30) (hbase : base ≤ w.heap.size)
    (h : ∀ g' cp' w', OwnH w' base g' cp' (d.push c) → w.grownBy w' (some g) → (g = g' ∨ g' = w.heap.size) → wpList Try.prog ops Q rest (a.put o.dst (.slice (some ⟨g', 0, none⟩) (d.size + 1) cp')) w') : wpList Try.prog ops Q (o :: rest) a w := by
  obtain ⟨i, hi, hz0, hz1, hz2⟩ := info_parts Try.infoCur
  refine wpList_append_lies w hgd s x 78 ho base 83 i _ 1 16 Try.underlying78 hi hz0 hz1 hz2 rfl (by decide) (.slice (some ⟨g, 0, none⟩) d.size cp) d.size (d.toList.map ifc) hs hO ⟨blk, 0, none⟩ 1 1 [ifc c] hx rfl ?_ ?_ (by decide) ?_ ?_ hbase w.heap.size rfl ?_
  · intro j u hu
    have hj : j < 1 := by simpa using (List.getElem?_eq_some_iff.1 hu).1
    obtain rfl : j = 0 := by omega
    simp at hu
    rw [← hu]
    simpa [Addr.add] using hc
  · intro u hu
    simp at hu
    subst hu
    rfl
  · unfold maxLen; omega
  · omega
  · intro g' cp' w' hO' hgr hat hlt
    refine h g' cp' w' ?_ hgr ?_
    · unfold OwnH
      have e : (d.push c).toList.map ifc = d.toList.map ifc ++ [ifc c] := by simp
      rw [Array.size_push, e]
      exact hO'
    · rcases hat with q | q
      · exact .inl (by simpa [Value.ownBlock] using q)
      · exact .inr q

set_option maxHeartbeats 4000000 in
theorem openCursors_core (b off cap : Nat) (l : List Rm) (lo hi : ByteArray) (hh : Bool) (w : World) (hR : RmsAt w b off l) (hG : GoodRs (esM l)) (hB : b < w.heap.size) :
    Calls Try.prog 41 #[.slice (some ⟨b, off, none⟩) l.length cap, .agg #[.string lo, .bool hh, .string hi]] w fun e w' =>
      ∃ (g cp : Nat) (d : Array Cu), e = .returned (.slice (some ⟨g, 0, none⟩) d.size cp) ∧ RowOk w' w.heap.size g cp d ∧ Heap d ∧ OpenTo l lo hh hi l.length d.toList ∧ Below w.heap.size w w' := by
  have HR : Hid (RmsAt w b off l) := hR
  have HG : Hid (GoodRs (esM l)) := hG
  have hl50 : l.length ≤ 50 := by simpa using hG.1
  clear hR hG
  obtain ⟨i, hi0, hz0, hz1, hz2⟩ := info_parts Try.infoCur
  have HI : Hid (Try.prog.info? 83 = some i ∧ i.zero = some .nilIface ∧ i.size = 1 ∧ i.bytes = 16) := ⟨hi0, hz0, hz1, hz2⟩
  clear hi0 hz0 hz1 hz2
  obtain ⟨W1, hW1⟩ : ∃ W1 : World, W1 = w.alloc (Obj.cells #[.string lo, .bool hh, .string hi] 31) := ⟨_, rfl⟩
  have hb1 : Below w.heap.size w W1 := by rw [hW1]; exact (Below.refl _ _).alloc (Nat.le_refl _) _
  have hz1 : W1.heap.size = w.heap.size + 1 := by rw [hW1]; simp
  have HG1 : Hid (W1.cell? ⟨w.heap.size, 0, none⟩ = some (.string lo) ∧ W1.cell? ⟨w.heap.size, 1, none⟩ = some (.bool hh) ∧ W1.cell? ⟨w.heap.size, 2, none⟩ = some (.string hi)) := by
    refine ⟨?_, ?_, ?_⟩ <;> (rw [hW1]; simp)
  go_enter Try.func41, Try.ntmps41
  go_wp2_with (at_make; refine wpList_make_own _ rfl _ _ 78 rfl w.heap.size 83 i _ 1 Try.underlying78 HI.out.1 HI.out.2.1 HI.out.2.2.1 _ _ _ l.length rfl rfl ?_ ?hb ?hm ?hs ?_)
  case hb => rw [HI.out.2.2.2]; omega
  case hm => unfold maxLen; omega
  case hs => simp
  · rfl
  rw [← hW1]
  clear hW1
  intro w2 hown hgr
  have hb2 : Below W1.heap.size W1 w2 := (Below.refl _ _).grown hgr (Nat.le_refl _) (fun k hk => by cases hk)
  have hs2 : w.heap.size + 1 < w2.heap.size := (World.ownsRow.lt hown _ rfl).2
  obtain ⟨W3, hW3⟩ : ∃ W3 : World, W3 = w2.alloc (Obj.cells #[.slice (some ⟨w.heap.size + 1, 0, none⟩) 0 l.length] 78) := ⟨_, rfl⟩
  have hb3 : Below w2.heap.size w2 W3 := by rw [hW3]; exact (Below.refl _ _).alloc (Nat.le_refl _) _
  have hz3 : W3.heap.size = w2.heap.size + 1 := by rw [hW3]; simp
  have HO : Hid (OInv w w2.heap.size l lo hh hi 0 (w.heap.size + 1) l.length #[] W3) := by
    have k13 : Below W1.heap.size W1 W3 := hb2.trans (hb3.mono hb2.size)
    exact {
      below := hb1.trans (k13.mono (by omega))
      hdr := by rw [hW3]; simp
      free := fun j => by
        rw [hW3]
        exact World.ownsRow.frozenAt (World.ownsRow_lit (base := 0) (e := 78) (size := 1) w2 #[.slice (some ⟨w.heap.size + 1, 0, none⟩) 0 l.length] 1 (Nat.zero_le _) (by decide) rfl) j
      lt := by omega
      own := by omega
      new := by omega
      ne := by omega
      apart := fun c hc => by simp at hc
      row := ⟨OwnH.below (d := #[]) hown hb3 (by omega), fun c hc => by simp at hc, fun c hc => by simp at hc, fun c hc => by simp at hc⟩
      opened := openTo_zero l lo hi hh
      rg0 := by rw [k13.cell (p := ⟨w.heap.size, 0, none⟩) (by show w.heap.size < W1.heap.size; omega)]; exact HG1.out.1
      rg1 := by rw [k13.cell (p := ⟨w.heap.size, 1, none⟩) (by show w.heap.size < W1.heap.size; omega)]; exact HG1.out.2.1
      rg2 := by rw [k13.cell (p := ⟨w.heap.size, 2, none⟩) (by show w.heap.size < W1.heap.size; omega)]; exact HG1.out.2.2 }
  clear hown hgr
  go_wp2_with fail
  rw [← hW3]
  clear hW3 HG1 hb1 hb2 hb3
  generalize hhv : w2.heap.size = hv at *
  clear hhv
  go_loopw [14] (fun c wr => ∃ (k g cp : Nat) (d : Array Cu), k ≤ l.length ∧ c = .int .i64 k ∧ OInv w hv l lo hh hi k g cp d wr) (fun c _ => l.length - (intOf c).toNat)
  case atStart => exact ⟨0, _, _, #[], Nat.zero_le _, rfl, HO.out⟩
  case round =>
    obtain ⟨k, g, cp, d, hk, rfl, hI⟩ := hrel
    have HV : Hid (OInv w hv l lo hh hi k g cp d wr) := hI
    have hbw := hI.below
    have hsw := hbw.size
    clear hI HO
    by_cases hlt : k < l.length
    · obtain ⟨r, hr⟩ : ∃ r, l[k]? = some r := ⟨_, List.getElem?_eq_getElem hlt⟩
      obtain ⟨c0, ha⟩ := (HR.out.below hbw hB) k r hr
      have HA : Hid (r.at wr ∧ l[k]? = some r ∧ GoodR r.es ∧ r.b < w.heap.size) := ⟨ha, hr, goodRs_mem HG.out (List.mem_of_getElem? hr), (HR.out k r hr).2.lt⟩
      clear ha hr
      obtain ⟨Wa, hWa⟩ : ∃ Wa : World, Wa = wr.alloc (Obj.cells #[.slice (some ⟨r.b, r.off, none⟩) r.es.length r.cap] 40) := ⟨_, rfl⟩
      have hba : Below wr.heap.size wr Wa := by rw [hWa]; exact (Below.refl _ _).alloc (Nat.le_refl _) _
      have hca : Wa.cell? ⟨wr.heap.size, 0, none⟩ = some (.slice (some ⟨r.b, r.off, none⟩) r.es.length r.cap) := by rw [hWa]; simp
      have HVa : Hid (OInv w hv l lo hh hi k g cp d Wa) := HV.out.step hba
      have HAa : Hid (r.at Wa) := HA.out.1.below hba
      go_upto_region 5 with fail
      rw [← hWa]
      clear hWa c0
      have q0 := HVa.out.rg0
      have q1 := HVa.out.rg1
      have q2 := HVa.out.rg2
      go_wp2_with fail
      refine (entriesIn_core r lo hi hh _ HAa.out HA.out.2.2.1).mono ?_
      rintro e wb ⟨p, rfl, hpa, hpp, hbb⟩
      have HP : Hid (p.at wb ∧ PartOf r p lo hh hi) := ⟨hpa, hpp⟩
      have HVb : Hid (OInv w hv l lo hh hi k g cp d wb) := HVa.out.step hbb
      clear hpa hpp q0 q1 q2 hca
      by_cases hp0 : p.es.length = 0
      · have HN : Hid (OInv w hv l lo hh hi (k + 1) g cp d wb) := { HVb.out with opened := openTo_skip HVb.out.opened HA.out.2.1 HP.out.2 (List.eq_nil_of_length_eq_zero hp0) }
        go_wp2_with fail
        go_roundw
        case rel => exact ⟨k + 1, g, cp, d, by omega, by go_num, HN.out⟩
        case measure => go_light; simp [intOf]; omega
      · have zp : (0 : Int) < (p.es.length : Int) := by omega
        have q0 := HVb.out.hdr
        have hdk : d.size ≤ k := by simpa using HVb.out.opened.few
        have hgl := HVb.out.row.row.lt.2
        have hvl := HVb.out.lt
        have f0 := HVb.out.free 0
        have hnv := HVb.out.ne
        have hws := HVb.out.below.size
        clear hba hbb hbw hsw
        go_wp2_with (at_builtin; refine wpList_append_cu _ rfl _ _ rfl w.heap.size g cp (wb.heap.size + 1) d ⟨wb.heap.size, p, 0, k⟩ rfl rfl ?hO ?hc ?hl ?hb ?_)
        case hO => exact (HVb.out.row.row.below ((Below.refl _ _).alloc (Nat.le_refl _) _) hgl).below ((Below.refl _ _).alloc (Nat.le_refl _) _) (by simp; omega)
        case hc => simp
        case hl => omega
        case hb => simp; omega
        intro g' cp' w4 hO hgr hgg
        have hb3 : Below (wb.heap.size + 1) (wb.alloc (Obj.cells #[.slice (some ⟨p.b, p.off, none⟩) p.es.length p.cap, .int .i64 0, .int .i64 k] 119)) ((wb.alloc (Obj.cells #[.slice (some ⟨p.b, p.off, none⟩) p.es.length p.cap, .int .i64 0, .int .i64 k] 119)).alloc (Obj.cells #[.iface 117 (.pointer (some ⟨wb.heap.size, 0, none⟩))] 83)) := (Below.refl _ _).alloc (by simp) _
        have HN : Hid (OInv w hv l lo hh hi (k + 1) g' cp' (d.push ⟨wb.heap.size, p, 0, k⟩) (w4.setCell ⟨hv, 0, none⟩ (.slice (some ⟨g', 0, none⟩) (d.size + 1) cp'))) :=
          HVb.out.push HA.out.2.1 HA.out.2.2.1 HA.out.2.2.2 HP.out.2 HP.out.1 (by omega) (by omega) hb3 hO hgr (by simpa using hgg)
        have hx := (HVb.out.step ((Below.refl wb.heap.size wb).alloc (Nat.le_refl _) (Obj.cells #[.slice (some ⟨p.b, p.off, none⟩) p.es.length p.cap, .int .i64 0, .int .i64 k] 119))).step (w' := (wb.alloc (Obj.cells #[.slice (some ⟨p.b, p.off, none⟩) p.es.length p.cap, .int .i64 0, .int .i64 k] 119)).alloc (Obj.cells #[.iface 117 (.pointer (some ⟨wb.heap.size, 0, none⟩))] 83)) ((Below.refl _ _).alloc (Nat.le_refl _) _)
        have c4 : w4.cell? ⟨hv, 0, none⟩ = some (.slice (some ⟨g, 0, none⟩) d.size cp) := by rw [hgr.cell_far ⟨hv, 0, none⟩ hx.lt (fun q => hnv (Option.some.inj q))]; exact hx.hdr
        have f4 : w4.frozen? ⟨hv, 0, none⟩ = false := by rw [hgr.frozen_far ⟨hv, 0, none⟩ hx.lt (fun q => hnv (Option.some.inj q))]; exact hx.free 0
        clear hO hgr hgg hb3 hx q0 f0
        go_wp2_with fail
        go_roundw
        case rel => exact ⟨k + 1, g', cp', _, by omega, by go_num, HN.out⟩
        case measure => go_light; simp [intOf]; omega
    · have hkl : k = l.length := by omega
      have HW : Hid (HeapW wr hv w.heap.size g cp d) := by
        have h := HV.out
        exact ⟨h.hdr, h.free, h.lt, h.ne, h.row.row, by have := h.own; omega, h.row.cur, h.row.low, fun c hc => ⟨(h.row.high c hc).1, (h.row.high c hc).2, (h.apart c hc).2⟩⟩
      have HK : Hid (OpenTo l lo hh hi l.length d.toList) := by have := HV.out.opened; rw [hkl] at this; exact this
      have hdk : d.size ≤ k := by simpa using HV.out.opened.few
      clear hkl
      go_wp2_with fail
      refine (init_core hv w.heap.size g cp d _ HW.out (by omega)).mono ?_
      rintro e wf ⟨rfl, hHf, hCf⟩
      have hb := heap_build (d := d)
      have hgl := HW.out.row.lt.1
      have HF : Hid (RowOk wf w.heap.size g cp (Go.Sort.heapBuild gtC d.size 0 (d.size / 2) d) ∧ Heap (Go.Sort.heapBuild gtC d.size 0 (d.size / 2) d) ∧ OpenTo l lo hh hi l.length (Go.Sort.heapBuild gtC d.size 0 (d.size / 2) d).toList ∧ Below w.heap.size w wf) :=
        ⟨hHf.rowOk, hb.1, HK.out.perm hb.2.symm, Chg.below hbw hCf hsw (fun k q => by omega)⟩
      have q0 := hHf.hdr
      clear hHf hCf hb
      go_wp2_with fail
      go_ret
      exact ⟨g, cp, _, rfl, HF.out.1, HF.out.2.1, HF.out.2.2.1, HF.out.2.2.2⟩
end Go.Proofs.Ytnncedndlhfdkac

/-
  Visible cells in memory, one behind another: an entry without its kind.
-/
namespace Go.Proofs.Ytnncedndlhfdkac
open Go.ChangeShapes Go.WideShapes Go.ChangeAt Go.RowKit Go.Deep
set_option linter.unusedVariables false
set_option linter.unusedSimpArgs false

abbrev Ent.five (e : Ent) : List Value := [.string e.row, .string e.fam, .string e.qual, .int .u64 e.ts, .string e.val]
abbrev Ent.c (e : Ent) : Value := .agg #[.string e.row, .string e.fam, .string e.qual, .int .u64 e.ts, .string e.val]
def cellsC (es : List Ent) : List Value := es.flatMap Ent.five
theorem cellsC_nil : cellsC [] = [] := rfl
theorem cellsC_cons (e : Ent) (es : List Ent) : cellsC (e :: es) = e.five ++ cellsC es := by simp [cellsC]
theorem cellsC_append (es fs : List Ent) : cellsC (es ++ fs) = cellsC es ++ cellsC fs := by simp [cellsC]
theorem length_cellsC (es : List Ent) : (cellsC es).length = es.length * 5 := by
  induction es with
  | nil => rfl
  | cons e es ih => rw [cellsC_cons, List.length_append, ih]; simp; omega
theorem cellsC_get (es : List Ent) : ∀ (k : Nat) (e : Ent), es[k]? = some e → ∀ j, j < 5 → (cellsC es)[k * 5 + j]? = e.five[j]? := by
  induction es with
  | nil => intro k e h; simp at h
  | cons f es ih =>
    intro k e h j hj
    rw [cellsC_cons]
    cases k with
    | zero =>
      simp at h; subst h
      rw [List.getElem?_append_left (by show 0 * 5 + j < 5; omega)]
      simp
    | succ k =>
      simp at h
      rw [List.getElem?_append_right (by show 5 ≤ (k + 1) * 5 + j; omega)]
      have : (k + 1) * 5 + j - f.five.length = k * 5 + j := by show (k + 1) * 5 + j - 5 = _; omega
      rw [this]; exact ih k e h j hj
theorem cellsC_set (es : List Ent) : ∀ (k : Nat) (e e' : Ent) (u : Value) (j : Nat), es[k]? = some e → j < 5 → e'.five = e.five.set j u → (cellsC es).set (k * 5 + j) u = cellsC (es.set k e') := by
  induction es with
  | nil => intro k e e' u j h; simp at h
  | cons f es ih =>
    intro k e e' u j h hj hc
    rw [cellsC_cons]
    cases k with
    | zero =>
      simp at h; subst h
      rw [List.set_append_left _ _ (by show 0 * 5 + j < 5; omega), List.set_cons_zero, cellsC_cons, hc]
      simp
    | succ k =>
      simp at h
      rw [List.set_append_right _ _ (by show 5 ≤ (k + 1) * 5 + j; omega), List.set_cons_succ, cellsC_cons]
      have : (k + 1) * 5 + j - f.five.length = k * 5 + j := by show (k + 1) * 5 + j - 5 = _; omega
      rw [this, ih k e e' u j h hj hc]

/-- The cells 'es' lie at ⟨b, off⟩, five each. -/
def CelsAt (w : World) (b off : Nat) (es : List Ent) : Prop :=
  ∀ i e, es[i]? = some e → w.cell? ⟨b, off + i * 5, none⟩ = some (.string e.row) ∧ w.cell? ⟨b, off + i * 5 + 1, none⟩ = some (.string e.fam) ∧ w.cell? ⟨b, off + i * 5 + 2, none⟩ = some (.string e.qual) ∧
    w.cell? ⟨b, off + i * 5 + 3, none⟩ = some (.int .u64 e.ts) ∧ w.cell? ⟨b, off + i * 5 + 4, none⟩ = some (.string e.val)
theorem CelsAt.below {B : Nat} {w w' : World} {b off : Nat} {es : List Ent} (h : CelsAt w b off es) (hb : Below B w w') (hlt : b < B) : CelsAt w' b off es := by
  intro i e he
  have := h i e he
  refine ⟨?_, ?_, ?_, ?_, ?_⟩
  all_goals rw [hb.cell (by exact hlt)]
  · exact this.1
  · exact this.2.1
  · exact this.2.2.1
  · exact this.2.2.2.1
  · exact this.2.2.2.2

/-- A row of the call's own holds the cells 'es'. -/
def OwnC (w : World) (base g cap : Nat) (es : List Ent) : Prop := w.ownsRow base 69 5 (.slice (some ⟨g, 0, none⟩) es.length cap) es.length (cellsC es)
theorem OwnC.at {w : World} {base g cap : Nat} {es : List Ent} (h : OwnC w base g cap es) : CelsAt w g 0 es := by
  intro i e he
  have hi : i < es.length := (List.getElem?_eq_some_iff.1 he).1
  have c := fun j (hj : j < 5) => (World.ownsRow.cellAt h (i * 5 + j) (by omega)).trans (cellsC_get es i e he j hj)
  refine ⟨?_, ?_, ?_, ?_, ?_⟩
  · simpa using c 0 (by omega)
  · simpa using c 1 (by omega)
  · simpa using c 2 (by omega)
  · simpa using c 3 (by omega)
  · simpa using c 4 (by omega)
theorem OwnC.lt {w : World} {base g cap : Nat} {es : List Ent} (h : OwnC w base g cap es) : base ≤ g ∧ g < w.heap.size := World.ownsRow.lt h g rfl
theorem OwnC.below {B : Nat} {w w' : World} {base g cap : Nat} {es : List Ent} (h : OwnC w base g cap es) (hb : Below B w w') (hg : g < B) : OwnC w' base g cap es := by
  refine ⟨h.1, ?_⟩
  rcases h.2 with hn | ⟨g', cap', cur, hv, h1, h2, rest⟩
  · exact .inl hn
  · simp only [Value.slice.injEq, Option.some.injEq, Addr.mk.injEq, and_true, true_and] at hv
    obtain ⟨rfl, rfl⟩ := hv
    exact .inr ⟨g, cap, cur, rfl, h1, by rw [hb.block g hg]; exact h2, rest⟩
theorem OwnC.set {w : World} {base g cap : Nat} {es : List Ent} (h : OwnC w base g cap es) (k j : Nat) (e e' : Ent) (u : Value) (hk : es[k]? = some e) (hj : j < 5) (hc : e'.five = e.five.set j u) :
    OwnC (w.setCell ⟨g, k * 5 + j, none⟩ u) base g cap (es.set k e') := by
  have := (World.ownsRow.stored h (k * 5 + j) u).1
  rw [cellsC_set es k e e' u j hk hj hc] at this
  unfold OwnC
  rw [List.length_set]
  exact this
theorem OwnC.upd {w : World} {base g cap m j : Nat} {fs : List Ent} {f f' : Ent} {u : Value} (h : OwnC w base g cap (fs.set m f)) (hm : m < fs.length) (hj : j < 5) (hc : f'.five = f.five.set j u) :
    OwnC (w.setCell ⟨g, m * 5 + j, none⟩ u) base g cap (fs.set m f') := by
  have := h.set m j f f' u (by simp [hm]) hj hc
  rwa [List.set_set] at this
theorem OwnC.mono {w : World} {base base' g cap : Nat} {es : List Ent} (h : OwnC w base g cap es) (hb : base' ≤ base) : OwnC w base' g cap es := by
  refine ⟨h.1, ?_⟩
  rcases h.2 with hn | ⟨g', cap', cur, hv, h1, rest⟩
  · exact .inl hn
  · exact .inr ⟨g', cap', cur, hv, Nat.le_trans hb h1, rest⟩
theorem OwnC.kept {w w' : World} {base g cp : Nat} {fs : List Ent} {row : Option Nat} (h : OwnC w base g cp fs) (hg : w.grownBy w' row) (hne : some g ≠ row) : OwnC w' base g cp fs :=
  World.ownsRow.kept h hg (.inr hne)
theorem OwnC.caps {w : World} {base g cp : Nat} {R : List Ent} (h : OwnC w base g cp R) : R.length ≤ cp ∧ cp ≤ maxLen := by
  rcases h.2 with ⟨h0, _⟩ | ⟨g', cap', cur, hv, _, _, hn, hcap, _, _⟩
  · cases h0
  · simp only [Value.slice.injEq, Option.some.injEq, Addr.mk.injEq, and_true, true_and] at hv
    obtain ⟨rfl, rfl⟩ := hv
    exact ⟨hn, hcap⟩
theorem ownC_new (w : World) : OwnC (w.alloc (Obj.cells #[] 69)) w.heap.size w.heap.size 0 [] := World.ownsRow_made w #[] 0 (Nat.le_refl _) (Nat.zero_le _) (by simp)

theorem Try.infoCel : (Try.prog.info? 69).map (fun i => (i.zero, i.size, i.bytes)) = some (some (.agg #[.string ⟨#[]⟩, .string ⟨#[]⟩, .string ⟨#[]⟩, .int .u64 0, .string ⟨#[]⟩]), 5, 72) := by kernel_rfl

theorem cel_new (wx : World) (f : Ent) : CelsAt (wx.alloc (Obj.cells #[.string f.row, .string f.fam, .string f.qual, .int .u64 f.ts, .string f.val] 69)) wx.heap.size 0 [f] := by
  intro j y hy
  obtain rfl : j = 0 := by
    have := (List.getElem?_eq_some_iff.1 hy).1
    simpa using this
  simp at hy
  subst hy
  simp

/-- One cell appended to a row of the call's own. -/
theorem wpList_append_cel {ops : Array Oper} {rest : List Oper} {o : Oper} {a : Act} {Q : Exit → Act → World → Prop} (w : World) (hgd : o.guard = none) (s x : Operand)
    (ho : o.op = .call { callee := .builtin .append, args := #[s, x], argTypes := #[27, 27] })
    (base g cp n blk : Nat) (fs : List Ent) (e : Ent) (hs : a.eval s = .slice (some ⟨g, 0, none⟩) n cp) (hx : a.eval x = .slice (some ⟨blk, 0, none⟩) 1 1) (hn : n = fs.length) (hO : OwnC w base g cp fs)
    (hc : CelsAt w blk 0 [e]) (hlen : fs.length ≤ 2 ^ 30) (hbase : base ≤ w.heap.size)
    (h : ∀ g' cp' w', OwnC w' base g' cp' (fs ++ [e]) → w.grownBy w' (some g) → wpList Try.prog ops Q rest (a.put o.dst (.slice (some ⟨g', 0, none⟩) (n + 1) cp')) w') : wpList Try.prog ops Q (o :: rest) a w := by
  obtain ⟨i, hi, hz0, hz1, hz2⟩ := info_parts Try.infoCel
  subst hn
  obtain ⟨c0, c1, c2, c3, c4⟩ := hc 0 e rfl
  refine wpList_append_own w hgd s x 27 ho base 69 i _ 5 72 Try.underlying27 hi hz0 hz1 hz2 rfl (by decide) (.slice (some ⟨g, 0, none⟩) fs.length cp) fs.length (cellsC fs) hs hO ⟨blk, 0, none⟩ 1 1 (cellsC [e]) hx rfl ?_ ?_ ?_ ?_ hbase ?_
  · intro j u hu
    have hj : j < 5 := by
      have := (List.getElem?_eq_some_iff.1 hu).1
      rw [length_cellsC] at this
      simpa using this
    rw [Addr.add_mid, Nat.zero_add]
    simp only [Nat.zero_mul, Nat.zero_add] at c0 c1 c2 c3 c4
    match j, hj, hu with
    | 0, _, hu => simp [cellsC] at hu; rw [← hu]; exact c0
    | 1, _, hu => simp [cellsC] at hu; rw [← hu]; exact c1
    | 2, _, hu => simp [cellsC] at hu; rw [← hu]; exact c2
    | 3, _, hu => simp [cellsC] at hu; rw [← hu]; exact c3
    | 4, _, hu => simp [cellsC] at hu; rw [← hu]; exact c4
  · intro u hu
    simp [cellsC] at hu
    rcases hu with rfl | rfl | rfl | rfl | rfl <;> rfl
  · unfold maxLen; omega
  · omega
  · intro v' w' hown hgr hnil
    rw [← cellsC_append] at hown
    have hlen' : (fs ++ [e]).length = fs.length + 1 := by simp
    rcases hown.2 with ⟨hv, _⟩ | ⟨g', cap', cur, hv, h1, h2, h3⟩
    · have := (hnil.1 hv).1
      simp at this
    · subst hv
      exact h g' cap' w' (by unfold OwnC; rw [hlen']; exact hown) hgr

set_option maxHeartbeats 400000 in
theorem specCell_any (e : Ent) (w : World) :
    Calls Try.prog 38 #[e.v] w fun r w' => r = .returned e.c ∧ Below w.heap.size w w' := by
  unfold Ent.v
  go_enter Try.func38, Try.ntmps38
  go_wp2
  refine bodyPost_ret (v := e.c) (by simp [results, Try.results38, go_sem]) rfl ⟨rfl, ?_⟩
  exact ((Below.refl _ _).alloc (Nat.le_refl _) _).alloc (by simp) _
set_option maxHeartbeats 400000 in
theorem implCell_any (e : Ent) (w : World) :
    Calls Try.prog 66 #[e.v] w fun r w' => r = .returned e.c ∧ Below w.heap.size w w' := by
  unfold Ent.v
  go_enter Try.func66, Try.ntmps66
  go_wp2
  refine bodyPost_ret (v := e.c) (by simp [results, Try.results66, go_sem]) rfl ⟨rfl, ?_⟩
  exact ((Below.refl _ _).alloc (Nat.le_refl _) _).alloc (by simp) _

set_option maxHeartbeats 400000 in
theorem eqCell_same (a : Ent) (w : World) :
    Calls Try.prog 45 #[a.c, a.c] w fun e w' => e = .returned (.bool true) ∧ Below w.heap.size w w' := by
  unfold Ent.c
  go_enter Try.func45, Try.ntmps45
  go_wp2
  go_ret
  exact ⟨rfl, ((Below.refl _ _).alloc (Nat.le_refl _) _).alloc (by simp) _⟩

set_option maxHeartbeats 1000000 in
theorem eqCellS_same (b off cap b' off' cap' : Nat) (es : List Ent) (w : World) (hE : CelsAt w b off es) (hE' : CelsAt w b' off' es) (hB : b < w.heap.size) (hB' : b' < w.heap.size) (hlen : es.length ≤ maxLen) :
    Calls Try.prog 13 #[.slice (some ⟨b, off, none⟩) es.length cap, .slice (some ⟨b', off', none⟩) es.length cap'] w fun e w' =>
      e = .returned (.bool true) ∧ Below w.heap.size w w' := by
  have HE : Hid (CelsAt w b off es ∧ CelsAt w b' off' es) := ⟨hE, hE'⟩
  clear hE hE'
  unfold maxLen at hlen
  go_enter Try.func13, Try.ntmps13
  go_wp2
  go_loopw [5] (fun i wr => ∃ (k : Nat), k ≤ es.length ∧ i = .int .i64 k ∧ Below w.heap.size w wr) (fun i _ => es.length - (intOf i).toNat)
  case atStart => exact ⟨0, Nat.zero_le _, rfl, Below.refl _ _⟩
  case round =>
    obtain ⟨k, hk, rfl, hb⟩ := hrel
    have hs2 := hb.size
    by_cases hlt : k < es.length
    · obtain ⟨e, he⟩ : ∃ e, es[k]? = some e := ⟨_, List.getElem?_eq_getElem hlt⟩
      obtain ⟨c0, c1, c2, c3, c4⟩ := HE.out.1.below hb hB k e he
      obtain ⟨d0, d1, d2, d3, d4⟩ := HE.out.2.below hb hB' k e he
      clear he
      go_upto_region 6 with fail
      go_cut [26] (fun s wx => s = .bool false ∧ Below w.heap.size w wx)
      case first =>
        have z2 : (k : Int) < (es.length : Int) := by omega
        go_region_with (go_at_call 45; refine (eqCell_same e _).mono ?_; rintro e' w' ⟨rfl, hbb⟩)
        all_goals go_wp2_with fail
        all_goals go_meet
        all_goals exact ⟨rfl, hb.drew.trans (hbb.mono (by simp; omega))⟩
      case rest =>
      obtain ⟨rfl, h3⟩ := hcut
      clear c0 c1 c2 c3 c4 d0 d1 d2 d3 d4
      go_wp2_with fail
      go_roundw
      case rel => exact ⟨k + 1, by omega, by go_num, h3⟩
      case measure => simp [intOf]; omega
    · go_wp2_with fail
      go_ret
      exact ⟨rfl, hb⟩
theorem eqCellS_own {w : World} {base g cp base' g' cp' : Nat} {es : List Ent} (h : OwnC w base g cp es) (h' : OwnC w base' g' cp' es) :
    Calls Try.prog 13 #[.slice (some ⟨g, 0, none⟩) es.length cp, .slice (some ⟨g', 0, none⟩) es.length cp'] w fun e w' => e = .returned (.bool true) ∧ Below w.heap.size w w' :=
  eqCellS_same g 0 cp g' 0 cp' es w h.at h'.at h.lt.2 h'.lt.2 (Nat.le_trans h.caps.1 h.caps.2)
end Go.Proofs.Ytnncedndlhfdkac

