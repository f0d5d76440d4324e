/-
  impl.MergeRuns.
-/
import Derived.Test.YtjphalbjimggcadOpenI
import Derived.Test.YtjphalbjimggcadTake
import Derived.Test.YtjphalbjimggcadTakeN
import Derived.Test.YtjphalbjimggcadTakeS
namespace Go.Proofs.Ytjphalbjimggcad
open Go.ChangeShapes Go.WideShapes Go.ChangeAt Go.RowKit Go.Deep
set_option linter.unusedVariables false
set_option linter.unusedSimpArgs false
set_option maxRecDepth 100000

theorem take_core (S : Nat → Prop) (base mb : Nat) (P : List (Nat × Ent)) (c : ByteArray × ByteArray × ByteArray) (dv : Value) (ds : List (Nat × Int)) (dec : Bool) (ts : Int) (cg cc : Nat) (L : List Ent) (a : Nat) (e : Ent) (w : World)
    (h : MInv S base mb P w c dv ds dec ts cg cc L) (hl : Last P c) (hS : P.Pairwise Lt2) (hP : ∀ p ∈ P, Lt2 p (a, e)) (hin : ∀ k, S k → k < w.heap.size) (hB : base ≤ w.heap.size) (hN : P.length ≤ 1048576) :
    Calls Try.prog 39 #[.pointer (some ⟨mb, 0, none⟩), .agg #[.string e.row, .string e.fam, .string e.qual, .int .u64 e.ts, .int .i64 e.kind, .string e.val], .int .i64 a] w fun r w' =>
      r = .returned (.tuple #[]) ∧ MSt S base mb (P ++ [(a, e)]) w' e.col ∧ Chg (Mine mb dv cg) w w' := by
  by_cases hcol : e.col = c
  · exact take_same S base mb P c dv ds dec ts cg cc L a e w h hl hS hP hin hB hN hcol
  · rcases h.at_.dels.2 with ⟨hdv, _⟩ | ⟨dg, dcap, cur, hdv, _⟩
    · exact take_nil S base mb P c dv ds dec ts cg cc L a e w h hl hS hP hin hB hN hcol hdv
    · exact take_some S base mb P c dv ds dec ts cg cc L a e w h hl hS hP hin hB hN hcol dg dcap hdv

theorem MSt.chg {S : Nat → Prop} {base mb : Nat} {P : List (Nat × Ent)} {w w' : World} {c : ByteArray × ByteArray × ByteArray} (h : MSt S base mb P w c) (hb : Chg S w w') : MSt S base mb P w' c := by
  obtain ⟨dv, ds, dec, ts, cg, cc, L, hR⟩ := h
  exact ⟨dv, ds, dec, ts, cg, cc, L, ⟨hR.at_.chg hb hR.out, hR.mem, hR.shown, hR.out, hR.short⟩⟩
theorem HeapW.chg {T : Nat → Prop} {w w' : World} {hp base g cap : Nat} {d : Array Cu} (h : HeapW w hp base g cap d) (hb : Chg T w w') (h1 : ¬ T hp) (h2 : ¬ T g) (h3 : ∀ c ∈ d, ¬ T c.blk) (h4 : ∀ k, T k → base ≤ k) : HeapW w' hp base g cap d where
  hdr := by rw [hb.cell (p := ⟨hp, 0, none⟩) h.lt h1]; exact h.hdr
  free := fun j => by rw [hb.frozen (p := ⟨hp, j, none⟩) h.lt h1]; exact h.free j
  lt := by have := hb.size; have := h.lt; omega
  ne := h.ne
  row := own_chg h.row hb (fun k q => by simp [Value.ownBlock] at q; subst q; exact h2)
  own := h.own
  cur := fun c hc => (h.cur c hc).chg hb (h3 c hc) (fun q => by have := h4 _ q; have := h.low c hc; omega)
  low := h.low
  high := h.high
theorem HeapOk.chg {A : Nat → Ent → Prop} {N : Nat} {S T : Nat → Prop} {hp base g cap : Nat} {w w' : World} {P : List (Nat × Ent)} {d : Array Cu} (h : HeapOk A N S hp base g cap w P d) (hb : Chg T w w') (hST : ∀ k, S k → ¬ T k) (h4 : ∀ k, T k → base ≤ k) : HeapOk A N S hp base g cap w' P d :=
  { h with mem := h.mem.chg hb (hST _ h.inH) (hST _ h.inG) (fun c hc => hST _ (h.inC c hc)) h4 }

/-- How the merging stands. -/
structure GInv (A : Nat → Ent → Prop) (N : Nat) (S : Nat → Prop) (hp g cap mb : Nat) (W : World) (w : World) (P : List (Nat × Ent)) (d : Array Cu) (c : ByteArray × ByteArray × ByteArray) : Prop where
  heap : HeapOk A N S hp W.heap.size g cap w P d
  mst : MSt S W.heap.size mb P w c
  last : Last P c
  below : Below W.heap.size W w
  inS : ∀ k, S k → k < w.heap.size
  lowS : ∀ k, S k → W.heap.size ≤ k
  short : N ≤ 1048576
theorem GInv.below' {A : Nat → Ent → Prop} {N : Nat} {S : Nat → Prop} {hp g cap mb : Nat} {W w w' : World} {P : List (Nat × Ent)} {d : Array Cu} {c : ByteArray × ByteArray × ByteArray} (h : GInv A N S hp g cap mb W w P d c) (hb : Below w.heap.size w w') : GInv A N S hp g cap mb W w' P d c :=
  ⟨{ h.heap with mem := h.heap.mem.below hb }, h.mst.below hb, h.last, h.below.trans (hb.mono h.below.size), fun k q => by have := h.inS k q; have := hb.size; omega, h.lowS, h.short⟩
theorem Flow.len {A : Nat → Ent → Prop} {N : Nat} {P : List (Nat × Ent)} {l : List (Nat × List Ent)} (h : Flow A N P l) : P.length ≤ N := by have := h.count; omega

/-- The entry at the top is taken. -/
theorem take_top {A : Nat → Ent → Prop} {N : Nat} {S : Nat → Prop} {hp g cap mb : Nat} {W w : World} {P : List (Nat × Ent)} {c : Cu} {t : List Cu} {co : ByteArray × ByteArray × ByteArray} (h : GInv A N S hp g cap mb W w P ⟨c :: t⟩ co) :
    Calls Try.prog 39 #[.pointer (some ⟨mb, 0, none⟩), .agg #[.string c.head.row, .string c.head.fam, .string c.head.qual, .int .u64 c.head.ts, .int .i64 c.head.kind, .string c.head.val], .int .i64 c.age] w fun r w' =>
      r = .returned (.tuple #[]) ∧ HeapOk A N S hp W.heap.size g cap w' P ⟨c :: t⟩ ∧ MSt S W.heap.size mb (P ++ [(c.age, c.head)]) w' c.head.col ∧ Below W.heap.size W w' ∧ w.heap.size ≤ w'.heap.size := by
  obtain ⟨dv, ds, dec, ts, cg, cc, L, hR⟩ := h.mst
  have hfm := flow_min h.heap.heap (fun x hx => (h.heap.mem.cur x (by simpa using hx)).here) h.heap.flow
  refine (take_core S W.heap.size mb P co dv ds dec ts cg cc L c.age c.head w hR h.last h.heap.flow.sorted hfm.1 h.inS h.below.size (Nat.le_trans h.heap.flow.len h.short)).mono ?_
  rintro e w' ⟨he, hm, hc⟩
  have hlow : ∀ k, Mine mb dv cg k → W.heap.size ≤ k := fun k q => (hR.at_.low k q).1
  exact ⟨he, h.heap.chg hc (fun k hk q => hR.out k q hk) hlow, hm, Chg.below h.below hc h.below.size hlow, hc.size⟩
/-- And the heap goes on. -/
theorem step_top {A : Nat → Ent → Prop} {N : Nat} {S : Nat → Prop} {hp g cap mb : Nat} {W w : World} {P : List (Nat × Ent)} {c : Cu} {t : List Cu} (h : HeapOk A N S hp W.heap.size g cap w P ⟨c :: t⟩) (hm : MSt S W.heap.size mb (P ++ [(c.age, c.head)]) w c.head.col) (hb : Below W.heap.size W w) (hi : ∀ k, S k → k < w.heap.size) (hl : ∀ k, S k → W.heap.size ≤ k) (hn : N ≤ 1048576) :
    Calls Try.prog 40 #[.pointer (some ⟨hp, 0, none⟩)] w fun e w' => e = .returned (.tuple #[]) ∧ ∃ d', GInv A N S hp g cap mb W w' (P ++ [(c.age, c.head)]) d' c.head.col := by
  refine (step_core A N S hp W.heap.size g cap w P c t h).mono ?_
  rintro e w' ⟨he, d', hH, hC⟩
  exact ⟨he, d', ⟨hH, hm.chg hC, last_push P c.age c.head, Chg.below hb hC hb.size hl, fun k q => by have := hi k q; have := hC.size; omega, hl, hn⟩⟩
end Go.Proofs.Ytjphalbjimggcad
