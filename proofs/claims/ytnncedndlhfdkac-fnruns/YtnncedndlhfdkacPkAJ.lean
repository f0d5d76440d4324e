import Derived.Maps.AppendAt
import Derived.Laws.IdiomRangeMap
import Derived.Sort.Grow
import Derived.Shelf.SlSortCmp.WholeK
import Derived.Ground.SlsfProg
import Derived.Test.YtnncedndlhfdkacChecked
import Derived.Test.YtnncedndlhfdkacPkAI
import Derived.Test.YtnncedndlhfdkacPkAB
import Derived.Test.YtnncedndlhfdkacPkAF
/-
  impl.appendEntries: what a column leaves, appended.
-/
namespace Go.Proofs.Ytnncedndlhfdkac
open Go.ChangeShapes Go.WideShapes Go.ChangeAt Go.RowKit Go.Deep Go.Maps
set_option linter.unusedVariables false
set_option maxRecDepth 100000

/-- One entry appended to a row of the call's own: and where the row then lies. -/
theorem wpList_append_entAt {ops : Array Oper} {rest : List Oper} {o : Oper} {a : Act} {Q : Exit → Act → World → Prop} (w : World) (hgd : o.guard = none) (s x : Operand)
    (ho : o.op = .call { callee := .builtin .append, args := #[s, x], argTypes := #[38, 38] })
    (base g cp n blk : Nat) (fs : List Ent) (e : Ent) (hs : a.eval s = .slice (some ⟨g, 0, none⟩) n cp) (hx : a.eval x = .slice (some ⟨blk, 0, none⟩) 1 1) (hn : n = fs.length) (hO : OwnE w base g cp fs)
    (hc : EntsAt w blk 0 [e]) (hlen : fs.length ≤ 2 ^ 30) (hbase : base ≤ w.heap.size)
    (h : ∀ g' cp' w', OwnE w' base g' cp' (fs ++ [e]) → w.grownBy w' (some g) → (g' = g ∨ g' = w.heap.size) → wpList Try.prog ops Q rest (a.put o.dst (.slice (some ⟨g', 0, none⟩) (n + 1) cp')) w') : wpList Try.prog ops Q (o :: rest) a w := by
  obtain ⟨i, hi, hz0, hz1, hz2⟩ := info_parts Try.infoEnt
  subst hn
  obtain ⟨c0, c1, c2, c3, c4, c5⟩ := hc 0 e rfl
  refine wpList_append_own_at w hgd s x 38 ho base 63 i _ 6 80 Try.underlying38 hi hz0 hz1 hz2 rfl (by decide) (.slice (some ⟨g, 0, none⟩) fs.length cp) fs.length (cellsE fs) hs hO ⟨blk, 0, none⟩ 1 1 (cellsE [e]) hx rfl ?_ ?_ ?_ ?_ hbase ?_
  · intro j u hu
    have hj : j < 6 := by
      have := (List.getElem?_eq_some_iff.1 hu).1
      rw [length_cellsE] at this
      simpa using this
    rw [Addr.add_mid, Nat.zero_add]
    simp only [Nat.zero_mul, Nat.zero_add] at c0 c1 c2 c3 c4 c5
    match j, hj, hu with
    | 0, _, hu => simp [cellsE] at hu; rw [← hu]; exact c0
    | 1, _, hu => simp [cellsE] at hu; rw [← hu]; exact c1
    | 2, _, hu => simp [cellsE] at hu; rw [← hu]; exact c2
    | 3, _, hu => simp [cellsE] at hu; rw [← hu]; exact c3
    | 4, _, hu => simp [cellsE] at hu; rw [← hu]; exact c4
    | 5, _, hu => simp [cellsE] at hu; rw [← hu]; exact c5
  · intro u hu
    simp [cellsE] at hu
    rcases hu with rfl | rfl | rfl | rfl | rfl | rfl <;> rfl
  · unfold maxLen; omega
  · omega
  · intro v' w' hown hgr hnil hloc
    rw [← cellsE_append] at hown
    have hlen' : (fs ++ [e]).length = fs.length + 1 := by simp
    rcases hown.2 with ⟨hv, _⟩ | ⟨g', cap', cur, hv, h1, h2, h3⟩
    · have := (hnil.1 hv).1
      simp at this
    · subst hv
      refine h g' cap' w' (by unfold OwnE; rw [hlen']; exact hown) hgr ?_
      rcases hloc with q | q
      · exact .inl (Option.some.inj q)
      · exact .inr (Option.some.inj q)

theorem OwnE.kept {w w' : World} {base g cp : Nat} {fs : List Ent} {row : Option Nat} (h : OwnE w base g cp fs) (hg : w.grownBy w' row) (hne : some g ≠ row) : OwnE w' base g cp fs :=
  World.ownsRow.kept h hg (.inr hne)
theorem OwnE.ne_map {w : World} {base g cp b : Nat} {fs : List Ent} {es : Array MapEntry} {ck : Nat} (h : OwnE w base g cp fs) (hb : w.heap[b]? = some (.map es ck)) : g ≠ b := by
  rcases h.2 with ⟨h0, _⟩ | ⟨g', cap', cur, hv, _, hc, _⟩
  · cases h0
  · simp only [Value.slice.injEq, Option.some.injEq, Addr.mk.injEq, and_true, true_and] at hv
    obtain ⟨rfl, rfl⟩ := hv
    intro q
    rw [q, hb] at hc
    cases hc

/-- The delete that a column's state tells. -/
def delE (c : Col) (u : Int) : Ent := ⟨c.1, c.2.1, c.2.2, u, 2, ⟨#[]⟩⟩
def del0 (d : Bool) (c : Col) (u : Int) : List Ent := if d = true then [delE c u] else []

set_option maxHeartbeats 4000000 in
set_option maxRecDepth 100000 in
theorem appendE_none (d : Bool) (u : Int) (c : Col) (base g cp : Nat) (fs : List Ent) (w : World) (hO : OwnE w base g cp fs) (hlen : fs.length ≤ 2 ^ 28) (hbase : base ≤ w.heap.size) :
    Calls Try.prog 69 #[.agg #[.bool d, .int .u64 u, .map none], .slice (some ⟨g, 0, none⟩) fs.length cp, c.v] w fun r w' =>
      ∃ g' cp', r = .returned (.slice (some ⟨g', 0, none⟩) (fs ++ del0 d c u).length cp') ∧ OwnE w' base g' cp' (fs ++ del0 d c u) ∧ w.grownBy w' (some g) ∧ (g' = g ∨ w.heap.size ≤ g') := by
  have hg := hO.lt
  have HO : Hid (OwnE w base g cp fs) := hO
  clear hO
  obtain ⟨r, f, q⟩ := c
  unfold Col.v colV
  simp only
  cases d
  · have hrg := run_range_nilMap (P := Try.prog) ((w.alloc (Obj.cells #[.bool false, .int .u64 u, .map none] 109)).alloc (Obj.cells #[.string r, .string f, .string q] 73)) 107 _ _ Try.underlying107
    have hnx : ∀ ty, (Instr.next (.pointer (some ⟨((w.alloc (Obj.cells #[.bool false, .int .u64 u, .map none] 109)).alloc (Obj.cells #[.string r, .string f, .string q] 73)).heap.size, 0, none⟩)) false ty).run Try.prog (((w.alloc (Obj.cells #[.bool false, .int .u64 u, .map none] 109)).alloc (Obj.cells #[.string r, .string f, .string q] 73)).alloc (.mapIter none 0 #[] 0)) = _ := fun ty => run_next_nilMap _ ty 0 0 #[]
    have e1 : ((w.alloc (Obj.cells #[.bool false, .int .u64 u, .map none] 109)).alloc (Obj.cells #[.string r, .string f, .string q] 73)).heap.size = w.heap.size + 1 + 1 := by simp
    rw [e1] at hrg hnx
    clear e1
    go_enter Try.func69, Try.ntmps69
    go_wp2_with fail
    go_loopw [1] (fun s wr => s = .slice (some ⟨g, 0, none⟩) fs.length cp ∧ wr = (((w.alloc (Obj.cells #[.bool false, .int .u64 u, .map none] 109)).alloc (Obj.cells #[.string r, .string f, .string q] 73)).alloc (.mapIter none 0 #[] 0))) (fun _ _ => 0)
    case atStart => exact ⟨rfl, rfl⟩
    case round =>
      obtain ⟨rfl, rfl⟩ := hrel
      go_wp2_with fail
      go_ret
      have hb : Below w.heap.size w (((w.alloc (Obj.cells #[.bool false, .int .u64 u, .map none] 109)).alloc (Obj.cells #[.string r, .string f, .string q] 73)).alloc (.mapIter none 0 #[] 0)) := (((Below.refl _ _).alloc (Nat.le_refl _) _).alloc (by simp) _).alloc (by simp; omega) _
      refine ⟨g, cp, by simp [del0], ?_, grown_of_below hb _, .inl rfl⟩
      simp only [del0, List.append_nil, Bool.false_eq_true, if_false]
      exact HO.out.below hb hg.2
  · have hrg : ∀ W : World, (Instr.range 107 (.map none)).run Try.prog W = .ok (.pointer (some ⟨W.heap.size, 0, none⟩)) (W.alloc (.mapIter none 0 #[] 0)) := fun W => run_range_nilMap (P := Try.prog) W 107 _ _ Try.underlying107
    have hnx : ∀ (W : World) ty, (Instr.next (.pointer (some ⟨W.heap.size, 0, none⟩)) false ty).run Try.prog (W.alloc (.mapIter none 0 #[] 0)) = .ok (.tuple #[.bool false]) (W.alloc (.mapIter none 0 #[] 0)) := fun W ty => run_next_nilMap W ty 0 0 #[]
    go_enter Try.func69, Try.ntmps69
    go_wp2_with (at_builtin; refine wpList_append_entAt _ rfl _ _ rfl base g cp _ _ fs (delE (r, f, q) u) rfl rfl rfl ?hO ?hc ?hl ?hb ?_)
    case hO => exact HO.out.below ((((Below.refl _ _).alloc (Nat.le_refl _) _).alloc (by simp) _).alloc (by simp; omega) _) hg.2
    case hc =>
      have h := ent_new ((w.alloc (Obj.cells #[.bool true, .int .u64 u, .map none] 109)).alloc (Obj.cells #[.string r, .string f, .string q] 73)) (delE (r, f, q) u)
      simpa [delE] using h
    case hl => omega
    case hb => simp; omega
    intro g' cp' w' hO' hgr hloc
    have hb3 : Below w.heap.size w (((w.alloc (Obj.cells #[.bool true, .int .u64 u, .map none] 109)).alloc (Obj.cells #[.string r, .string f, .string q] 73)).alloc (Obj.cells #[.string r, .string f, .string q, .int .u64 u, .int .i64 2, .string ⟨#[]⟩] 63)) := (((Below.refl _ _).alloc (Nat.le_refl _) _).alloc (by simp) _).alloc (by simp; omega) _
    have c2 : w'.cell? ⟨w.heap.size, 2, none⟩ = some (.map none) := by
      have hk := hgr.block w.heap.size (by simp; omega) (fun q => by injection q; omega)
      rw [World.cell?_of_block (a := ⟨w.heap.size, 2, none⟩) hk]
      go_simp
    have hgw : w.grownBy w' (some g) := ⟨hgr.os.trans hb3.os, hgr.tape.trans hb3.tape, hgr.output.trans hb3.output, Nat.le_trans hb3.size hgr.size, fun j hj hne => (hgr.block j (by simp; omega) hne).trans (hb3.block j hj)⟩
    have HO' : Hid (OwnE w' base g' cp' (fs ++ [delE (r, f, q) u]) ∧ w.grownBy w' (some g) ∧ (g' = g ∨ w.heap.size ≤ g')) := ⟨hO', hgw, hloc.imp id (fun q => by first | omega | (rw [q]; omega) | (rw [q]; simp; omega))⟩
    clear hO' hgr hloc hb3 hgw
    go_wp2_with fail
    go_loopw [1] (fun s wr => s = .slice (some ⟨g', 0, none⟩) (fs.length + 1) cp' ∧ wr = w'.alloc (.mapIter none 0 #[] 0)) (fun _ _ => 0)
    case atStart => exact ⟨rfl, rfl⟩
    case round =>
      obtain ⟨rfl, rfl⟩ := hrel
      go_wp2_with fail
      go_ret
      have hb : Below w'.heap.size w' (w'.alloc (.mapIter none 0 #[] 0)) := (Below.refl _ _).alloc (Nat.le_refl _) _
      refine ⟨g', cp', by simp [del0], ?_, HO'.out.2.1.trans (grown_of_below hb _), HO'.out.2.2⟩
      simp only [del0, if_true]
      exact HO'.out.1.below hb HO'.out.1.lt.2

/-- The entries that a map from timestamps holds. -/
def Holds6 (F : Int → Option Ent) (S : List Ent) : Prop := (∀ x, x ∈ S ↔ ∃ t, (Lit.int .u64 t).wf = true ∧ F t = some x) ∧ S.Nodup
def HoldsTo (F : Int → Option Ent) (left : Lit → Bool) (S : List Ent) : Prop := (∀ x, x ∈ S ↔ ∃ t, (Lit.int .u64 t).wf = true ∧ F t = some x ∧ left (.int .u64 t) = false) ∧ S.Nodup
theorem holdsTo_step {F : Int → Option Ent} {left : Lit → Bool} {S : List Ent} {t : Int} {e : Ent} (h : HoldsTo F left S) (hts : ∀ t e, F t = some e → e.ts = t) (hw : (Lit.int .u64 t).wf = true) (he : F t = some e) (hl : left (.int .u64 t) = true) :
    HoldsTo F (fun z => left z && !z.sameKey (.int .u64 t)) (S ++ [e]) := by
  have hkey : WideAt.IsKeyLit (.int .u64 t) := lawTs.key (keyTs hw)
  have hne : e ∉ S := fun hm => by
    obtain ⟨t', h1, h2, h3⟩ := (h.1 e).1 hm
    have : t' = t := (hts t' e h2).symm.trans (hts t e he)
    subst this
    rw [hl] at h3
    cases h3
  refine ⟨fun x => ?_, ?_⟩
  · rw [List.mem_append, h.1 x]
    constructor
    · rintro (⟨t', h1, h2, h3⟩ | hx)
      · exact ⟨t', h1, h2, by simp [h3]⟩
      · simp at hx
        subst hx
        exact ⟨t, hw, he, by simp [Lit.sameKey]⟩
    · rintro ⟨t', h1, h2, h3⟩
      by_cases q : t' = t
      · subst q
        rw [he] at h2
        simp at h2
        right; simp [h2]
      · left
        have hs : (Lit.int .u64 t').sameKey (.int .u64 t) = false := Maps.sameKey_ne (fun e => q (by injection e))
        refine ⟨t', h1, h2, ?_⟩
        simpa [hs] using h3
  · rw [List.nodup_append]
    exact ⟨h.2, by simp, fun a ha b hb => by simp at hb; subst hb; exact fun q => hne (q ▸ ha)⟩

set_option maxHeartbeats 4000000 in
set_option maxRecDepth 100000 in
theorem appendE_some (d : Bool) (u : Int) (c : Col) (b n base g cp : Nat) (F : Int → Option Ent) (fs : List Ent) (w : World) (hI : Inn w b n F) (hts : ∀ t e, F t = some e → e.ts = t) (hO : OwnE w base g cp fs) (hlen : fs.length ≤ 2 ^ 28) (hn : n ≤ 2 ^ 20) (hbase : base ≤ w.heap.size) :
    Calls Try.prog 69 #[.agg #[.bool d, .int .u64 u, .map (some b)], .slice (some ⟨g, 0, none⟩) fs.length cp, c.v] w fun r w' =>
      ∃ g' cp' S, r = .returned (.slice (some ⟨g', 0, none⟩) (fs ++ del0 d c u ++ S).length cp') ∧ OwnE w' base g' cp' (fs ++ del0 d c u ++ S) ∧ Holds6 F S ∧ w.grownBy w' (some g) ∧ (g' = g ∨ w.heap.size ≤ g') ∧ S.length ≤ n := by
  have hg := hO.lt
  have hbl := hI.lt
  have HO : Hid (OwnE w base g cp fs ∧ Inn w b n F ∧ ∀ t e, F t = some e → e.ts = t) := ⟨hO, hI, hts⟩
  have hgb : g ≠ b := by
    obtain ⟨D, ⟨es, ck, hh, _⟩, _⟩ := hI
    exact hO.ne_map hh
  clear hO hI hts
  obtain ⟨r, f, q⟩ := c
  unfold Col.v colV
  simp only
  go_enter Try.func69, Try.ntmps69
  go_upto_if 10 with fail
  go_cut [1] (fun s wx => ∃ g1 cp1, s = .slice (some ⟨g1, 0, none⟩) (fs ++ del0 d (r, f, q) u).length cp1 ∧ OwnE wx base g1 cp1 (fs ++ del0 d (r, f, q) u) ∧ w.grownBy wx (some g) ∧ (g1 = g ∨ w.heap.size ≤ g1) ∧ wx.cell? ⟨w.heap.size, 2, none⟩ = some (.map (some b)) ∧ w.heap.size + 2 ≤ wx.heap.size)
  case first =>
    cases d
    · go_wp2_with fail
      go_meet
      have hb2 : Below w.heap.size w ((w.alloc (Obj.cells #[.bool false, .int .u64 u, .map (some b)] 109)).alloc (Obj.cells #[.string r, .string f, .string q] 73)) := ((Below.refl _ _).alloc (Nat.le_refl _) _).alloc (by simp) _
      refine ⟨g, cp, by simp [del0], ?_, grown_of_below hb2 _, .inl rfl, by go_simp, by simp⟩
      simp only [del0, List.append_nil, Bool.false_eq_true, if_false]
      exact HO.out.1.below hb2 hg.2
    · go_wp2_with (at_builtin; refine wpList_append_entAt _ rfl _ _ rfl base g cp _ _ fs (delE (r, f, q) u) rfl rfl rfl ?hO ?hc ?hl ?hb ?_)
      case hO => exact HO.out.1.below ((((Below.refl _ _).alloc (Nat.le_refl _) _).alloc (by simp) _).alloc (by simp; omega) _) hg.2
      case hc =>
        have h := ent_new ((w.alloc (Obj.cells #[.bool true, .int .u64 u, .map (some b)] 109)).alloc (Obj.cells #[.string r, .string f, .string q] 73)) (delE (r, f, q) u)
        simpa [delE] using h
      case hl => omega
      case hb => simp; omega
      intro g' cp' w' hO' hgr hloc
      have hb3 : Below w.heap.size w (((w.alloc (Obj.cells #[.bool true, .int .u64 u, .map (some b)] 109)).alloc (Obj.cells #[.string r, .string f, .string q] 73)).alloc (Obj.cells #[.string r, .string f, .string q, .int .u64 u, .int .i64 2, .string ⟨#[]⟩] 63)) := (((Below.refl _ _).alloc (Nat.le_refl _) _).alloc (by simp) _).alloc (by simp; omega) _
      have c2 : w'.cell? ⟨w.heap.size, 2, none⟩ = some (.map (some b)) := by
        have hk := hgr.block w.heap.size (by simp; omega) (fun q => by injection q; omega)
        rw [World.cell?_of_block (a := ⟨w.heap.size, 2, none⟩) hk]
        go_simp
      have hgw : w.grownBy w' (some g) := ⟨hgr.os.trans hb3.os, hgr.tape.trans hb3.tape, hgr.output.trans hb3.output, Nat.le_trans hb3.size hgr.size, fun j hj hne => (hgr.block j (by simp; omega) hne).trans (hb3.block j hj)⟩
      have HO' : Hid (OwnE w' base g' cp' (fs ++ [delE (r, f, q) u]) ∧ w.grownBy w' (some g) ∧ (g' = g ∨ w.heap.size ≤ g') ∧ w.heap.size + 2 ≤ w'.heap.size) := ⟨hO', hgw, hloc.imp id (fun q => by first | omega | (rw [q]; omega) | (rw [q]; simp; omega)), by have := hgr.size; simp at this; omega⟩
      clear hO' hgr hloc hb3 hgw
      go_wp2_with fail
      go_meet
      refine ⟨g', cp', by simp [del0], ?_, HO'.out.2.1, HO'.out.2.2.1, c2, HO'.out.2.2.2⟩
      simp only [del0, if_true]
      exact HO'.out.1
  case rest =>
  obtain ⟨g1, cp1, rfl, hO1, hgw, hloc, c2, hsz⟩ := hcut
  obtain ⟨D, hD, hv⟩ := HO.out.2.1.kept hgw (fun q => hgb (Option.some.inj q).symm)
  obtain ⟨fs1, hfs1⟩ : ∃ fs1 : List Ent, fs1 = fs ++ del0 d (r, f, q) u := ⟨_, rfl⟩
  rw [← hfs1] at hO1 ⊢
  have hfl : fs1.length ≤ 2 ^ 28 + 1 := by
    rw [hfs1]; unfold del0; split <;> simp <;> omega
  have HO1 : Hid (OwnE wc base g1 cp1 fs1 ∧ w.grownBy wc (some g) ∧ (g1 = g ∨ w.heap.size ≤ g1)) := ⟨hO1, hgw, hloc⟩
  have HV : Hid (∀ t, (Lit.int .u64 t).wf = true → (F t = none ∧ Maps.has D (.int .u64 t) = false) ∨ ∃ e, F t = some e ∧ Maps.has D (.int .u64 t) = true ∧ ∀ z, D.atKey (.int .u64 t) z = .held e.v) := hv
  have hsd := hD.size_le
  have hbw := hD.lt
  have HFS : Hid (fs1 = fs ++ del0 d (r, f, q) u) := hfs1
  have hg1 := hO1.lt
  have hgs := hgw.size
  clear hv hfs1 hO1 hgw hloc
  go_wp2_with (at_range; refine wpList_range_own _ rfl _ 107 rfl 61 63 lawTs Try.underlying107 Rh b n D rfl hD ?_; intro w0 hrg0 hg0 hs0)
  go_frame
  have HS0 : Hid (HoldsTo F (Maps.has D) []) := by
    refine ⟨fun x => ⟨fun h => by simp at h, ?_⟩, List.nodup_nil⟩
    rintro ⟨t, h1, h2, h3⟩
    rcases HV.out t h1 with ⟨q1, _⟩ | ⟨e, _, q2, _⟩
    · rw [q1] at h2; cases h2
    · rw [q2] at h3; cases h3
  have hgb1 : g1 ≠ b := by
    obtain ⟨es, ck, hh, _⟩ := hD
    exact HO1.out.1.ne_map hh
  go_loopw [1] (fun s wr => ∃ (left : Lit → Bool) (cnt : Nat) (S : List Ent) (g2 cp2 : Nat), s = .slice (some ⟨g2, 0, none⟩) (fs1.length + S.length) cp2 ∧ OwnE wr base g2 cp2 (fs1 ++ S) ∧ wr.ranges Try.prog 61 Rh b wc.heap.size n D left cnt ∧ HoldsTo F left S ∧ S.length + cnt ≤ n ∧ w.grownBy wr (some g) ∧ (g2 = g ∨ w.heap.size ≤ g2) ∧ g2 ≠ b ∧ g2 ≠ wc.heap.size) (fun _ wr => wr.rangeLeft b wc.heap.size)
  case atStart =>
    exact ⟨Maps.has D, Maps.size D, [], g1, cp1, by simp, by rw [List.append_nil]; exact HO1.out.1.kept hg0 (by simp), hrg0, HS0.out, by simpa using hsd, HO1.out.2.1.trans (hg0.but _), HO1.out.2.2, hgb1, by omega⟩
  case round =>
    obtain ⟨left, cnt, S, g2, cp2, rfl, hO2, hrg, hH, hcn, hgr2, hloc2, hne1, hne2⟩ := hrel
    have HR : Hid (OwnE wr base g2 cp2 (fs1 ++ S) ∧ HoldsTo F left S ∧ w.grownBy wr (some g) ∧ (g2 = g ∨ w.heap.size ≤ g2)) := ⟨hO2, hH, hgr2, hloc2⟩
    have hg2 := hO2.lt
    have hs2 := hgr2.size
    have hrl := hrg.lt
    clear hO2 hH hgr2 hloc2
    go_wp2_with (at_next; refine wpList_next_ranges _ rfl _ rfl 61 lawTs Rh (fun t : Int => Value.int .u64 t) (fun v : Value => v) (fun key kl h => by obtain ⟨x, h1, _⟩ := Maps.keyOf_int_inv Try.underlying61 h; exact ⟨x, h1⟩) (fun v y _ => ⟨v, rfl⟩) b wc.heap.size n D left cnt rfl hrg ?_ ?_)
    · intro h0 hl
      have HL : Hid (∀ kl, left kl = false) := hl
      clear hl
      go_wp2_with fail
      go_ret
      refine ⟨g2, cp2, S, ?_, ?_, ?_, HR.out.2.2.1, HR.out.2.2.2, by omega⟩
      · rw [← HFS.out, List.length_append]; rfl
      · rw [← HFS.out]; exact HR.out.1
      · refine ⟨fun x => (HR.out.2.1.1 x).trans ⟨fun ⟨t, a1, a2, _⟩ => ⟨t, a1, a2⟩, fun ⟨t, a1, a2⟩ => ⟨t, a1, a2, HL.out _⟩⟩, HR.out.2.1.2⟩
    · intro x c kl y1 y2 w1 cnt1 hkey hlk hvv hat hrg1 hlt1 hg1' hs1 hen
      obtain ⟨x', q1, q2, q3⟩ := Maps.keyOf_int_inv Try.underlying61 hkey
      have q4 : x' = x := by injection q1 with _ q; exact q.symm
      subst q4
      subst q2
      obtain ⟨e, he, hce⟩ : ∃ e, F x' = some e ∧ c = e.v := by
        rcases HV.out x' q3 with ⟨_, h2⟩ | ⟨e, h1, h2, h3⟩
        · have := hat (.held (.bool true))
          rw [Maps.atKey_of_not_has h2] at this
          have h5 := hat (.held (.bool false))
          rw [Maps.atKey_of_not_has h2] at h5
          rw [← h5] at this
          cases this
        · refine ⟨e, h1, ?_⟩
          have h4 := hat (.held (.bool true))
          rw [h3] at h4
          have h5 := (Rh_eq hvv).1
          rw [h5] at h4
          injection h4 with h4
          exact h4.symm
      subst hce
      have HE : Hid (F x' = some e ∧ (Lit.int .u64 x').wf = true ∧ left (.int .u64 x') = true) := ⟨he, q3, hlk⟩
      clear he q3 hlk hat hvv hkey q1
      unfold Ent.v at *
      have HO3 : Hid (OwnE w1 base g2 cp2 (fs1 ++ S)) := HR.out.1.kept hg1' (fun q => hne2 (Option.some.inj q))
      have hs1' : w1.heap.size = wr.heap.size := hs1
      have HS1 : Hid (w1.heap.size = wr.heap.size) := hs1'
      have hle1 : wr.heap.size ≤ w1.heap.size := by omega
      have hle2 : w1.heap.size ≤ wr.heap.size := by omega
      have HG1 : Hid (wr.grownBy w1 (some wc.heap.size)) := hg1'
      clear hs1 hs1' hg1'
      go_wp2_with (at_builtin; refine wpList_append_entAt _ rfl _ _ rfl base g2 cp2 _ _ (fs1 ++ S) e rfl rfl (by simp) ?hO ?hc ?hl ?hb ?_)
      case hO => exact HO3.out.below (((Below.refl _ _).alloc (Nat.le_refl _) _).alloc (by simp) _) (by omega)
      case hc =>
        have h := ent_new (w1.alloc (Obj.cells #[.string e.row, .string e.fam, .string e.qual, .int .u64 e.ts, .int .i64 e.kind, .string e.val] 63)) e
        simpa using h
      case hl => simp; omega
      case hb => simp; omega
      intro g' cp' w' hO' hgr hloc
      have hbx : Below w1.heap.size w1 ((w1.alloc (Obj.cells #[.string e.row, .string e.fam, .string e.qual, .int .u64 e.ts, .int .i64 e.kind, .string e.val] 63)).alloc (Obj.cells #[.string e.row, .string e.fam, .string e.qual, .int .u64 e.ts, .int .i64 e.kind, .string e.val] 63)) := ((Below.refl _ _).alloc (Nat.le_refl _) _).alloc (by simp) _
      have hg4 : w1.grownBy w' (some g2) := ⟨hgr.os.trans hbx.os, hgr.tape.trans hbx.tape, hgr.output.trans hbx.output, Nat.le_trans hbx.size hgr.size, fun j hj hne => (hgr.block j (by simp; omega) hne).trans (hbx.block j hj)⟩
      have hrg4 := hrg1.kept hg4 (fun q => hne1 (Option.some.inj q).symm) (fun q => hne2 (Option.some.inj q).symm)
      have hgw' : w.grownBy w' (some g) := by
        have a1 := HR.out.2.2.1.andThen HG1.out (fun j hj => by cases hj; left; omega)
        exact a1.andThen hg4 (fun j hj => by
          cases hj
          rcases HR.out.2.2.2 with q | q
          · right; rw [q]
          · left; exact q)
      have hloc' : g' = g ∨ w.heap.size ≤ g' := by
        rcases hloc with q | q
        · rw [q]; exact HR.out.2.2.2
        · right
          first
            | omega
            | (rw [q]; simp; omega)
      have hne1' : g' ≠ b := by
        obtain ⟨es, ck, hh, _⟩ := hrg4.owns
        exact hO'.ne_map hh
      have hne2' : g' ≠ wc.heap.size := by
        rcases hloc with q | q
        · rw [q]; exact hne2
        · intro q2
          have h5 := q.symm.trans q2
          first
            | omega
            | (simp at h5; omega)
      have HF : Hid (OwnE w' base g' cp' (fs1 ++ (S ++ [e])) ∧ HoldsTo F (fun z => left z && !z.sameKey (.int .u64 x')) (S ++ [e]) ∧ w.grownBy w' (some g) ∧ (g' = g ∨ w.heap.size ≤ g')) := ⟨hO', holdsTo_step HR.out.2.1 HO.out.2.2 HE.out.2.1 HE.out.1 HE.out.2.2, hgw', hloc'⟩
      clear hO' hgr hloc hbx hg4 hgw' hloc' hrg1 hen
      go_wp2_with fail
      go_roundw
      case rel =>
        refine ⟨_, cnt1, S ++ [e], g', cp', ?_, ?_, hrg4, HF.out.2.1, ?_, HF.out.2.2.1, HF.out.2.2.2, hne1', hne2'⟩
        · simp; omega
        · exact HF.out.1
        · simp; omega
      case measure => rw [hrg4.left_eq, hrg.left_eq]; exact hlt1
end Go.Proofs.Ytnncedndlhfdkac

/-
  impl.gatherColumns: the map of the columns.
-/
namespace Go.Proofs.Ytnncedndlhfdkac
open Go.ChangeShapes Go.WideShapes Go.ChangeAt Go.RowKit Go.Deep Go.Maps
set_option linter.unusedVariables false
set_option maxRecDepth 100000

/-- One step of the columns' map, whatever the way. -/
theorem withEarlier_any (k : CW) (m : Option Nat) (base N : Nat) (e : Ent) (w : World) (hi : Inner w base N m k.f) (hN : N < maxLen) (hw : (Lit.int .u64 e.ts).wf = true) (hbase : base ≤ w.heap.size) :
    Calls Try.prog 90 #[.agg #[.bool k.d, .int .u64 k.u, .map m], e.v] w fun r w' =>
      ∃ m', r = .returned (.agg #[.bool (cwAdd k e).d, .int .u64 (cwAdd k e).u, .map m']) ∧ Inner w' base (N + 1) m' (cwAdd k e).f ∧ (m' = m ∨ (m = none ∧ ∃ b, m' = some b ∧ w.heap.size ≤ b)) ∧ w.grownBy w' m := by
  by_cases hk : e.kind = 2
  · have e1 : cwAdd k e = ⟨true, max k.u e.ts, k.f⟩ := by unfold cwAdd; rw [if_pos hk]
    rw [e1]
    refine (withEarlier_del k.d k.u m e w hk).mono ?_
    rintro r w' ⟨rfl, hb⟩
    exact ⟨m, rfl, (hi.kept (row := none) (grown_of_below hb none) (by cases m <;> simp)).mono (Nat.le_succ _), .inl rfl, grown_of_below hb m⟩
  · by_cases hd : k.d = true ∧ e.ts ≤ k.u
    · have e1 : cwAdd k e = k := by unfold cwAdd; rw [if_neg hk, if_pos hd]
      rw [e1, hd.1]
      refine (withEarlier_gone k.u m e w hk hd.2).mono ?_
      rintro r w' ⟨rfl, hb⟩
      exact ⟨m, rfl, (hi.kept (row := none) (grown_of_below hb none) (by cases m <;> simp)).mono (Nat.le_succ _), .inl rfl, grown_of_below hb m⟩
    · have e1 : cwAdd k e = ⟨k.d, k.u, fun t => if t = e.ts then (if (k.f t).isSome then k.f t else some e) else k.f t⟩ := by unfold cwAdd; rw [if_neg hk, if_neg hd]
      rw [e1]
      have hu : k.d = true → ¬ e.ts ≤ k.u := fun h1 h2 => hd ⟨h1, h2⟩
      rcases hi with ⟨rfl, hf⟩ | ⟨b, n, rfl, hI, hn, hbb⟩
      · refine (withEarlier_new k.d k.u e w hk hu hw).mono ?_
        rintro r w' ⟨b, rfl, hb1, hI, hb⟩
        refine ⟨some b, rfl, .inr ⟨b, 1, rfl, ?_, by omega, by omega⟩, .inr ⟨rfl, b, rfl, hb1⟩, grown_of_below hb none⟩
        rw [hf]
        have : (fun t => if t = e.ts then (if ((fun _ => none : Int → Option Ent) t).isSome then ((fun _ => none : Int → Option Ent) t) else some e) else ((fun _ => none : Int → Option Ent) t)) = (fun t => if t = e.ts then some e else none) := funext fun t => by by_cases q : t = e.ts <;> simp [q]
        show Inn w' b 1 (fun t => if t = e.ts then (if ((fun _ => none : Int → Option Ent) t).isSome then ((fun _ => none : Int → Option Ent) t) else some e) else ((fun _ => none : Int → Option Ent) t))
        rw [this]
        exact hI
      · refine (withEarlier_old k.d k.u b n k.f e w hk hu hI (Nat.lt_of_le_of_lt hn hN) hw).mono ?_
        rintro r w' ⟨rfl, hI', hg⟩
        exact ⟨some b, rfl, .inr ⟨b, n + 1, rfl, hI', Nat.succ_le_succ hn, hbb⟩, .inl rfl, hg⟩

theorem col_okc {e : Ent} (h : e.ok) : Col.okc e.wcol := ⟨h.row, h.fam, h.qual⟩
theorem colsOf_drop {ws : List Ent} {k : Nat} {e : Ent} (h : ws[k]? = some e) : colsOf (ws.drop k) = fun x => if x = e.wcol then some (cwAdd ((colsOf (ws.drop (k + 1)) e.wcol).getD cw0) e) else colsOf (ws.drop (k + 1)) x := by
  have hlt : k < ws.length := (List.getElem?_eq_some_iff.1 h).1
  rw [List.drop_eq_getElem_cons hlt]
  rw [List.getElem?_eq_getElem hlt] at h
  simp at h
  rw [h]
  funext x
  by_cases q : x = e.wcol
  · subst q; simp [colsOf]
  · simp [colsOf, q]

set_option maxHeartbeats 4000000 in
set_option maxRecDepth 100000 in
theorem gather_core (b off cap : Nat) (ws : List Ent) (w : World) (hE : EntsAt w b off ws) (hok : ∀ e ∈ ws, e.ok) (hB : b < w.heap.size) (hlen : ws.length ≤ 1048576) :
    Calls Try.prog 68 #[.slice (some ⟨b, off, none⟩) ws.length cap] w fun r w' =>
      ∃ M, r = .returned (.map (some w.heap.size)) ∧ Outer w' w.heap.size w.heap.size ws.length (colsOf ws) M ∧ Below w.heap.size w w' := by
  have HE : Hid (EntsAt w b off ws) := hE
  have HO : Hid (∀ e ∈ ws, e.ok) := hok
  clear hE hok
  have hmm := @run_makeMap Try.prog
  obtain ⟨W0, hW0⟩ : ∃ W0 : World, W0 = w.alloc (.map #[] 0) := ⟨_, rfl⟩
  have hb0 : Below w.heap.size w W0 := by rw [hW0]; exact (Below.refl _ _).alloc (Nat.le_refl _) _
  have HM0 : Hid (Outer W0 w.heap.size w.heap.size 0 (fun _ => none) (fun _ => none)) := by
    show Outer W0 w.heap.size w.heap.size 0 (fun _ => none) (fun _ => none)
    rw [hW0]; exact Outer.made w _
  go_enter Try.func68, Try.ntmps68
  go_wp2_with fail
  rw [← hW0]
  clear hW0 hmm
  go_loopw [4] (fun i wr => ∃ (k : Nat) (M : Col → Option Nat), k ≤ ws.length ∧ i = .int .i64 ((k : Int) - 1) ∧ Outer wr w.heap.size w.heap.size (ws.length - k) (colsOf (ws.drop k)) M ∧ Below w.heap.size w wr) (fun i _ => (intOf i + 1).toNat)
  case atStart =>
    refine ⟨ws.length, fun _ => none, Nat.le_refl _, rfl, ?_, hb0⟩
    rw [Nat.sub_self, List.drop_length]
    exact HM0.out
  case round =>
    obtain ⟨k, M, hk, rfl, hM, hb⟩ := hrel
    have HM : Hid (Outer wr w.heap.size w.heap.size (ws.length - k) (colsOf (ws.drop k)) M) := hM
    clear hM
    have hs := hb.size
    by_cases hp : 0 < k
    · obtain ⟨j, rfl⟩ : ∃ j, k = j + 1 := ⟨k - 1, by omega⟩
      have hji : (((j + 1 : Nat) : Int) - 1) = (j : Int) := by omega
      rw [hji]
      clear hji
      obtain ⟨e, he⟩ : ∃ e, ws[j]? = some e := ⟨_, List.getElem?_eq_getElem (by omega)⟩
      obtain ⟨c0, c1, c2, c3, c4, c5⟩ := (HE.out.below hb hB) j e he
      have HK : Hid (ws[j]? = some e ∧ e.ok) := ⟨he, HO.out e (List.mem_of_getElem? he)⟩
      clear he
      have z1 : (0 : Int) ≤ (j : Int) := by omega
      have z2 : (j : Int) < (ws.length : Int) := by omega
      go_wp2_with fail
      refine (column_any e _).mono ?_
      rintro r w1 ⟨rfl, hb1⟩
      have hs1 := hb1.size
      obtain ⟨W2, hW2⟩ : ∃ W2 : World, W2 = w1.alloc (Obj.cells #[.string e.row, .string e.fam, .string e.qual] 73) := ⟨_, rfl⟩
      have hb2 : Below w.heap.size w W2 := by rw [hW2]; exact (hb.trans (hb1.mono (by omega))).alloc (by omega) _
      have hg2 : wr.grownBy W2 none := by rw [hW2]; exact grown_of_below (hb1.alloc hs1 _) none
      have hz2 : w1.heap.size < W2.heap.size := by rw [hW2]; simp
      have k0 : W2.cell? ⟨w1.heap.size, 0, none⟩ = some (.string e.row) := by rw [hW2]; simp
      have k1 : W2.cell? ⟨w1.heap.size, 1, none⟩ = some (.string e.fam) := by rw [hW2]; simp
      have k2 : W2.cell? ⟨w1.heap.size, 2, none⟩ = some (.string e.qual) := by rw [hW2]; simp
      have HM2 : Hid (Outer W2 w.heap.size w.heap.size (ws.length - (j + 1)) (colsOf (ws.drop (j + 1))) M) := HM.out.kept hg2
      clear c0 c1 c2 c3 c4 c5 hg2
      go_upto_region 6 with fail
      rw [← hW2]
      clear hW2
      obtain ⟨d0, d1, d2, d3, d4, d5⟩ := (HE.out.below hb2 hB) j e HK.out.1
      have hgd : W2.grownBy W2.drew none := ⟨rfl, rfl, rfl, Nat.le_refl _, fun _ _ _ => rfl⟩
      have hMd := HM2.out.kept hgd
      obtain ⟨K, hK⟩ : ∃ K : CW, K = (colsOf (ws.drop (j + 1)) e.wcol).getD cw0 := ⟨_, rfl⟩
      have hlook0 := hMd.look (col_okc HK.out.2)
      rw [← hK] at hlook0
      have hlook : (Instr.lookup 105 (.map (some w.heap.size)) (.agg #[.string e.row, .string e.fam, .string e.qual]) false).run Try.prog W2.drew = .ok (.agg #[.bool K.d, .int .u64 K.u, .map (M e.wcol)]) W2.drew := hlook0
      clear hlook0
      have hin : Inner W2.drew w.heap.size (ws.length - (j + 1)) (M e.wcol) K.f := by
        cases hq : colsOf (ws.drop (j + 1)) e.wcol with
        | none =>
          rw [hq] at hK
          refine .inl ⟨hMd.nom _ hq, ?_⟩
          rw [hK]; rfl
        | some c =>
          rw [hq] at hK
          rw [hK]
          exact hMd.inner _ c hq
      have HN : Hid (ws.length - (j + 1) < maxLen) := Nat.lt_of_le_of_lt (Nat.sub_le _ _) (Nat.lt_of_le_of_lt hlen (by decide))
      have HC := withEarlier_any K (M e.wcol) w.heap.size (ws.length - (j + 1)) e W2.drew hin HN.out HK.out.2.ts (Nat.le_trans hb2.size (Nat.le_refl _))
      have HPut : Hid (∀ (w' : World) (m' : Option Nat), Inner w' w.heap.size (ws.length - (j + 1) + 1) m' (cwAdd K e).f → (m' = M e.wcol ∨ (M e.wcol = none ∧ ∃ b, m' = some b ∧ W2.drew.heap.size ≤ b)) → W2.drew.grownBy w' (M e.wcol) →
          ∃ w'', (Instr.mapUpdate 105 (.map (some w.heap.size)) (.agg #[.string e.row, .string e.fam, .string e.qual]) (.agg #[.bool (cwAdd K e).d, .int .u64 (cwAdd K e).u, .map m'])).run Try.prog w' = .ok () w'' ∧
            (∃ M', Outer w'' w.heap.size w.heap.size (ws.length - j) (colsOf (ws.drop j)) M') ∧ Below w.heap.size w w'') := by
        intro w' m' h1 h2 h3
        obtain ⟨w'', p1, p2, p3⟩ := hMd.put (col_okc HK.out.2) HN.out h3 (cwAdd K e) m' h1 h2
        refine ⟨w'', p1, ⟨fun x => if x = e.wcol then m' else M x, ?_⟩, ?_⟩
        · rw [colsOf_drop HK.out.1, ← hK, show ws.length - j = ws.length - (j + 1) + 1 by omega]
          exact p2
        · have q1 : Below w.heap.size w w' := hb2.drew.grown h3 (by show w.heap.size ≤ W2.heap.size; exact hb2.size) (fun y hy => (hMd.inLt hy).2)
          exact q1.grown p3 q1.size (fun y hy => by cases hy; exact Nat.le_refl _)
      have HCel : Hid (∀ (w' : World), W2.drew.grownBy w' (M e.wcol) → w'.cell? ⟨w1.heap.size, 0, none⟩ = some (.string e.row) ∧ w'.cell? ⟨w1.heap.size, 1, none⟩ = some (.string e.fam) ∧ w'.cell? ⟨w1.heap.size, 2, none⟩ = some (.string e.qual)) := by
        intro w' h3
        have hne : some w1.heap.size ≠ M e.wcol := fun q => by
          have := (HM.out.inLt q.symm).1
          omega
        have hbk : w'.heap[w1.heap.size]? = W2.heap[w1.heap.size]? := h3.block w1.heap.size hz2 hne
        exact ⟨(World.cell?_of_block (a := ⟨w1.heap.size, 0, none⟩) hbk).trans k0, (World.cell?_of_block (a := ⟨w1.heap.size, 1, none⟩) hbk).trans k1, (World.cell?_of_block (a := ⟨w1.heap.size, 2, none⟩) hbk).trans k2⟩
      have HCC : Hid (Calls Try.prog 90 #[.agg #[.bool K.d, .int .u64 K.u, .map (M e.wcol)], e.v] W2.drew fun r w' => ∃ m', r = .returned (.agg #[.bool (cwAdd K e).d, .int .u64 (cwAdd K e).u, .map m']) ∧ Inner w' w.heap.size (ws.length - (j + 1) + 1) m' (cwAdd K e).f ∧ (m' = M e.wcol ∨ (M e.wcol = none ∧ ∃ b, m' = some b ∧ W2.drew.heap.size ≤ b)) ∧ W2.drew.grownBy w' (M e.wcol)) := HC
      clear HC hin hMd hgd hK
      go_region_with (go_at_call 90; refine HCC.out.mono ?_; rintro r w' ⟨m', rfl, hi', hm', hg'⟩; obtain ⟨w'', hput, hfin⟩ := HPut.out w' m' hi' hm' hg'; have HFin : Hid ((∃ M', Outer w'' w.heap.size w.heap.size (ws.length - j) (colsOf (ws.drop j)) M') ∧ Below w.heap.size w w'') := hfin; obtain ⟨q0, q1, q2⟩ := HCel.out w' hg'; clear hi' hm' hg' hfin)
      all_goals
        clear hlook hput d0 d1 d2 d3 d4 d5 k0 k1 k2 q0 q1 q2
        go_wp2_with fail
        go_roundw
        case rel =>
          obtain ⟨⟨M', hM'⟩, hb'⟩ := HFin.out
          exact ⟨j, M', by omega, rfl, hM', hb'⟩
        case measure => go_light; simp [intOf]
    · obtain rfl : k = 0 := by omega
      go_wp2_with fail
      go_ret
      refine ⟨M, rfl, ?_, hb⟩
      have h := HM.out
      rw [Nat.sub_zero, List.drop_zero] at h
      exact h
end Go.Proofs.Ytnncedndlhfdkac

/-
  The order of keys as slices.SortFunc asks it: impl's compare lays blocks, turns none.
-/
namespace Go.Proofs.Ytnncedndlhfdkac
open Go.ChangeShapes Go.WideShapes Go.ChangeAt Go.RowKit Go.Deep Go.Sort
set_option linter.unusedVariables false
set_option maxRecDepth 100000

/-- Only new blocks. -/
def Lays (w w' : World) : Prop := ∃ os, w' = grow w os
theorem Lays.refl (w : World) : Lays w w := ⟨#[], by simp⟩
theorem Lays.alloc {w w' : World} (h : Lays w w') (o : Obj) : Lays w (w'.alloc o) := by
  obtain ⟨os, rfl⟩ := h
  exact ⟨os ++ #[o], by rw [alloc_eq_grow, grow_grow]⟩
theorem Lays.trans {a b c : World} (h : Lays a b) (k : Lays b c) : Lays a c := by
  obtain ⟨os, rfl⟩ := h
  obtain ⟨os', rfl⟩ := k
  exact ⟨os ++ os', grow_grow _ _ _⟩
theorem Lays.below {a b : World} (h : Lays a b) : Below a.heap.size a b := by
  obtain ⟨os, rfl⟩ := h
  refine ⟨rfl, rfl, rfl, by simp, fun k hk => ?_⟩
  unfold grow
  simp [Array.getElem?_append_left hk]

set_option maxHeartbeats 400000 in
theorem compareColumns_lays (a b : Ent) (w : World) :
    Calls Try.prog 93 #[a.v, b.v] w fun e w' => e = .returned (.int .i64 (colCmp a b)) ∧ Lays w w' := by
  unfold colCmp firstOf Ent.v
  by_cases h1 : cB a.row b.row = 0
  · have g1 : (cB a.row b.row != 0) = false := by simp [h1]
    rw [if_pos h1]
    clear h1
    by_cases h2 : cB a.fam b.fam = 0
    · have g2 : (cB a.fam b.fam != 0) = false := by simp [h2]
      rw [if_pos h2]
      clear h2
      go_enter Try.func93, Try.ntmps93
      go_wp2_with (go_at_call 113; refine (stringsCompare_any _ _ _).mono ?_; rintro e w' ⟨rfl, rfl⟩)
      go_ret
      exact ⟨rfl, ((Lays.refl _).alloc _).alloc _⟩
    · have g2 : (cB a.fam b.fam != 0) = true := by simp [h2]
      rw [if_neg h2]
      clear h2
      go_enter Try.func93, Try.ntmps93
      go_wp2_with (go_at_call 113; refine (stringsCompare_any _ _ _).mono ?_; rintro e w' ⟨rfl, rfl⟩)
      go_ret
      exact ⟨rfl, ((Lays.refl _).alloc _).alloc _⟩
  · have g1 : (cB a.row b.row != 0) = true := by simp [h1]
    rw [if_neg h1]
    clear h1
    go_enter Try.func93, Try.ntmps93
    go_wp2_with (go_at_call 113; refine (stringsCompare_any _ _ _).mono ?_; rintro e w' ⟨rfl, rfl⟩)
    go_ret
    exact ⟨rfl, ((Lays.refl _).alloc _).alloc _⟩

set_option maxHeartbeats 400000 in
theorem compare_lays (a b : Ent) (w : World) :
    Calls Try.prog 71 #[a.v, b.v] w fun e w' => e = .returned (.int .i64 (keyCmp a b)) ∧ Lays w w' := by
  by_cases h1 : colCmp a b = 0
  · have g1 : (colCmp a b != 0) = false := by simp [h1]
    by_cases ha : a.kind = 2
    · have ga : (a.kind == 2) = true := by simp [ha]
      by_cases hb : b.kind = 2
      · have gb : (b.kind == 2) = true := by simp [hb]
        have H : Hid (keyCmp a b = tsCmp a.ts b.ts) := keyCmp_ts h1 (by simp [ha, hb])
        clear h1 ha hb
        go_enter Try.func71, Try.ntmps71
        go_wp2_with fail
        refine (compareColumns_lays a b _).mono ?_
        rintro e w1 ⟨rfl, hl1⟩
        have hb1 := hl1.below
        obtain ⟨hc1, hf1⟩ := bcell hb1
        have hz1 : w.heap.size + 1 < w1.heap.size := by have := hb1.size; simp at this; omega
        go_wp2_with fail
        refine (cmpU64_any _ _ _).mono ?_
        rintro e w2 ⟨rfl, rfl⟩
        go_wp2_with fail
        go_ret
        exact ⟨ret_int H.out.symm, (((Lays.refl _).alloc _).alloc _).trans hl1⟩
      · have gb : (b.kind == 2) = false := by simp [hb]
        have H : Hid (keyCmp a b = -1) := keyCmp_del1 h1 ha hb
        clear h1 ha hb
        go_enter Try.func71, Try.ntmps71
        go_wp2_with fail
        refine (compareColumns_lays a b _).mono ?_
        rintro e w1 ⟨rfl, hl1⟩
        have hb1 := hl1.below
        obtain ⟨hc1, hf1⟩ := bcell hb1
        have hz1 : w.heap.size + 1 < w1.heap.size := by have := hb1.size; simp at this; omega
        go_wp2_with fail
        go_ret
        exact ⟨ret_int H.out.symm, (((Lays.refl _).alloc _).alloc _).trans hl1⟩
    · have ga : (a.kind == 2) = false := by simp [ha]
      by_cases hb : b.kind = 2
      · have gb : (b.kind == 2) = true := by simp [hb]
        have H : Hid (keyCmp a b = 1) := keyCmp_del2 h1 ha hb
        clear h1 ha hb
        go_enter Try.func71, Try.ntmps71
        go_wp2_with fail
        refine (compareColumns_lays a b _).mono ?_
        rintro e w1 ⟨rfl, hl1⟩
        have hb1 := hl1.below
        obtain ⟨hc1, hf1⟩ := bcell hb1
        have hz1 : w.heap.size + 1 < w1.heap.size := by have := hb1.size; simp at this; omega
        go_wp2_with fail
        go_ret
        exact ⟨ret_int H.out.symm, (((Lays.refl _).alloc _).alloc _).trans hl1⟩
      · have gb : (b.kind == 2) = false := by simp [hb]
        have H : Hid (keyCmp a b = tsCmp a.ts b.ts) := keyCmp_ts h1 (by simp [ha, hb])
        clear h1 ha hb
        go_enter Try.func71, Try.ntmps71
        go_wp2_with fail
        refine (compareColumns_lays a b _).mono ?_
        rintro e w1 ⟨rfl, hl1⟩
        have hb1 := hl1.below
        obtain ⟨hc1, hf1⟩ := bcell hb1
        have hz1 : w.heap.size + 1 < w1.heap.size := by have := hb1.size; simp at this; omega
        go_wp2_with fail
        refine (cmpU64_any _ _ _).mono ?_
        rintro e w2 ⟨rfl, rfl⟩
        go_wp2_with fail
        go_ret
        exact ⟨ret_int H.out.symm, (((Lays.refl _).alloc _).alloc _).trans hl1⟩
  · have g1 : (colCmp a b != 0) = true := by simp [h1]
    have H : Hid (keyCmp a b = colCmp a b) := keyCmp_ne h1
    clear h1
    go_enter Try.func71, Try.ntmps71
    go_wp2_with fail
    refine (compareColumns_lays a b _).mono ?_
    rintro e w1 ⟨rfl, hl1⟩
    have hb1 := hl1.below
    go_wp2_with fail
    go_ret
    exact ⟨ret_int H.out.symm, (((Lays.refl _).alloc _).alloc _).trans hl1⟩


theorem cmp_swo : ∀ x y z : Ent, (keyCmp x y < 0) = (keyCmp x y = -1) ∧ True := fun x y z => ⟨by
  rcases keyCmp_vals x y with h | h | h <;> rw [h] <;> simp, trivial⟩
end Go.Proofs.Ytnncedndlhfdkac

/-
  slices.SortFunc at this program, laid in plain words.
-/
namespace Go.Proofs.Ytnncedndlhfdkac
open Go.Shelf
def Try.sortE_ren : Go.Shelf.Ren := ⟨fun | 6 => 70 | 15 => 92 | 14 => 91 | 28 => 111 | 29 => 112 | 20 => 103 | 21 => 104 | 22 => 105 | 23 => 106 | 24 => 107 | 25 => 108 | 26 => 109 | 27 => 110 | 46 => 120 | 47 => 121 | 48 => 122 | 49 => 123 | 50 => 124 | 57 => 127 | n => n, fun | 22 => 38 | 24 => 63 | 25 => 112 | 3 => 3 | 39 => 142 | 0 => 0 | 53 => 165 | 55 => 61 | 4 => 4 | 46 => 158 | 45 => 157 | 50 => 162 | 5 => 5 | 9 => 9 | 66 => 173 | 70 => 177 | 76 => 181 | 77 => 182 | n => n, fun | n => n⟩
theorem Try.sortE : Go.Proofs.SlLaysF0.n6 Try.prog Try.sortE_ren := {
  mixed := by kernel_rfl
  f6 := ⟨Try.f70.name, by decide, Try.func70.trans (congrArg some (by kernel_rfl))⟩
  f14 := ⟨Try.f91.name, by decide, Try.func91.trans (congrArg some (by kernel_rfl))⟩
  f15 := Try.func92.trans (congrArg some (by kernel_rfl))
  f20 := ⟨Try.f103.name, by decide, Try.func103.trans (congrArg some (by kernel_rfl))⟩
  f21 := ⟨Try.f104.name, by decide, Try.func104.trans (congrArg some (by kernel_rfl))⟩
  f22 := ⟨Try.f105.name, by decide, Try.func105.trans (congrArg some (by kernel_rfl))⟩
  f23 := ⟨Try.f106.name, by decide, Try.func106.trans (congrArg some (by kernel_rfl))⟩
  f24 := ⟨Try.f107.name, by decide, Try.func107.trans (congrArg some (by kernel_rfl))⟩
  f25 := ⟨Try.f108.name, by decide, Try.func108.trans (congrArg some (by kernel_rfl))⟩
  f26 := ⟨Try.f109.name, by decide, Try.func109.trans (congrArg some (by kernel_rfl))⟩
  f27 := ⟨Try.f110.name, by decide, Try.func110.trans (congrArg some (by kernel_rfl))⟩
  f28 := Try.func111.trans (congrArg some (by kernel_rfl))
  f29 := Try.func112.trans (congrArg some (by kernel_rfl))
  f46 := ⟨Try.f120.name, by decide, Try.func120.trans (congrArg some (by kernel_rfl))⟩
  f47 := Try.func121.trans (congrArg some (by kernel_rfl))
  f48 := Try.func122.trans (congrArg some (by kernel_rfl))
  f49 := ⟨Try.f123.name, by decide, Try.func123.trans (congrArg some (by kernel_rfl))⟩
  f50 := ⟨Try.f124.name, by decide, Try.func124.trans (congrArg some (by kernel_rfl))⟩
  f57 := ⟨Try.f127.name, by decide, Try.func127.trans (congrArg some (by kernel_rfl))⟩
  t0 := Try.underlying0
  a0 := Try.isAgg0
  z0 := Try.sizeOf0
  v0 := Try.zeroValue0
  t3 := Try.underlying3
  a3 := Try.isAgg3
  z3 := Try.sizeOf3
  v3 := Try.zeroValue3
  t4 := Try.underlying4
  a4 := Try.isAgg4
  z4 := Try.sizeOf4
  v4 := Try.zeroValue4
  t5 := Try.underlying5
  a5 := Try.isAgg5
  z5 := Try.sizeOf5
  v5 := Try.zeroValue5
  t9 := Try.underlying9
  a9 := Try.isAgg9
  z9 := Try.sizeOf9
  v9 := Try.zeroValue9
  t22 := Try.underlying38
  a22 := Try.isAgg38
  z22 := Try.sizeOf38
  v22 := Try.zeroValue38
  t25 := Try.underlying112
  a25 := Try.isAgg112
  z25 := Try.sizeOf112
  v25 := Try.zeroValue112
  t39 := Try.underlying142
  a39 := Try.isAgg142
  z39 := Try.sizeOf142
  v39 := Try.zeroValue142
  t45 := Try.underlying157
  a45 := Try.isAgg157
  z45 := Try.sizeOf157
  v45 := Try.zeroValue157
  t46 := Try.underlying158
  a46 := Try.isAgg158
  z46 := Try.sizeOf158
  v46 := Try.zeroValue158
  t50 := Try.underlying162
  a50 := Try.isAgg162
  z50 := Try.sizeOf162
  v50 := Try.zeroValue162
  t53 := Try.underlying165
  a53 := Try.isAgg165
  z53 := Try.sizeOf165
  v53 := Try.zeroValue165
  t55 := Try.underlying61
  a55 := Try.isAgg61
  z55 := Try.sizeOf61
  v55 := Try.zeroValue61
  t66 := Try.underlying173
  a66 := Try.isAgg173
  z66 := Try.sizeOf173
  v66 := Try.zeroValue173
  t70 := Try.underlying177
  a70 := Try.isAgg177
  z70 := Try.sizeOf177
  v70 := Try.zeroValue177
  t76 := Try.underlying181
  a76 := Try.isAgg181
  z76 := Try.sizeOf181
  v76 := Try.zeroValue181
  t77 := Try.underlying182
  a77 := Try.isAgg182
  z77 := Try.sizeOf182
  v77 := Try.zeroValue182 }
end Go.Proofs.Ytnncedndlhfdkac

/-
  slices.SortFunc over entries, by impl's compare.
-/
namespace Go.Proofs.Ytnncedndlhfdkac
open Go.Shelf Go.RowKit Go.Lib Go.Sort
set_option linter.unusedVariables false

abbrev inhE : Inhabited Ent := ⟨⟨⟨#[]⟩, ⟨#[]⟩, ⟨#[]⟩, 0, 0, ⟨#[]⟩⟩⟩
theorem ltOf_key (x y : Ent) : ltOf keyCmp x y = true ↔ keyCmp x y = -1 := by
  unfold ltOf
  rcases keyCmp_vals x y with h | h | h <;> simp [h]
theorem ltOf_key_f (x y : Ent) : ltOf keyCmp x y = false ↔ ¬ keyCmp x y = -1 := by
  rw [← ltOf_key]; cases ltOf keyCmp x y <;> simp
theorem swoKey_ntrans (x y z : Ent) (h1 : ltOf keyCmp x y = false) (h2 : ltOf keyCmp y z = false) : ltOf keyCmp x z = false := by
  rw [ltOf_key_f] at *
  intro h3
  rcases keyCmp_vals x y with h | h | h
  · exact h1 h
  · rw [keyCmp_congr h] at h3; exact h2 h3
  · have h4 : keyCmp y x = -1 := by have := keyCmp_neg x y; omega
    exact h2 (keyCmp_trans h4 h3)
theorem swoKey : SWO (ltOf keyCmp) :=
  { irrefl := fun x => by rw [ltOf_key_f, keyCmp_self]; omega,
    trans := fun x y z h1 h2 => by rw [ltOf_key] at *; exact keyCmp_trans h1 h2,
    ntrans := swoKey_ntrans }

theorem cmpLaysE (blk off size : Nat) (w : World) : @CmpLays Ent inhE Try.prog 71 #[] Ent.cells 6 keyCmp blk off size w := by
  intro m os dk hs x y
  refine (compare_lays x y _).mono ?_
  rintro e w' ⟨he, os', hw⟩
  exact ⟨he, 0, os', by rw [hw]; rfl⟩

theorem flat_cells (R : List Ent) : (@flatK Ent inhE Ent.cells 6 R.toArray).toList = cellsE R := by
  apply List.ext_getElem?
  intro j
  by_cases hj : j < R.length * 6
  · have hq : j / 6 < R.length := by omega
    have h := cellsE_get R (j / 6) R[j / 6] (List.getElem?_eq_getElem hq) (j % 6) (Nat.mod_lt _ (by omega))
    rw [show j / 6 * 6 + j % 6 = j by omega] at h
    rw [h]
    have h6 : j % 6 < 6 := Nat.mod_lt _ (by omega)
    simp [flatK, hj, hq]
    generalize j % 6 = m at *
    match m, h6 with
    | 0, _ => rfl
    | 1, _ => rfl
    | 2, _ => rfl
    | 3, _ => rfl
    | 4, _ => rfl
    | 5, _ => rfl
  · have h1 : (cellsE R).length ≤ j := by rw [length_cellsE]; omega
    rw [List.getElem?_eq_none h1]
    simp [flatK]; omega
theorem holdsE {w : World} {base g cp : Nat} {R : List Ent} (h : OwnE w base g cp R) : @HoldsK Ent inhE Ent.cells 6 w g 0 R.toArray := by
  intro j hj
  have hj' : j < R.length * 6 := by simpa using hj
  rw [Nat.zero_add]
  refine ⟨?_, World.ownsRow.frozenAt h j⟩
  rw [World.ownsRow.cellAt h j hj', ← flat_cells]
  rw [Array.getElem?_toList]
  simp [hj']
theorem heap_sortedE {w : World} {g n : Nat} {os : Array Obj} {cur : Array Value} {e : TypeId} {fr : Nat × Nat} (S : List Ent) (hb : w.heap[g]? = some (.cells cur e fr)) :
    (@sortWorldK Ent inhE Ent.cells 6 w g 0 n S.toArray os).heap[g]? = some (.cells (putCells id 0 (@flatK Ent inhE Ent.cells 6 S.toArray) cur) e fr) := by
  have hg : g < w.heap.size := (Array.getElem?_eq_some_iff.1 hb).1
  unfold sortWorldK putRowK
  rw [heap_grow_old _ _ (by simpa [Sort.ahead] using hg)]
  simp [putRow, mapBlock, Sort.ahead, Array.getElem?_modify, hb, onCells]
theorem grownBy_sortedE (w : World) (g n : Nat) (os : Array Obj) (S : List Ent) : w.grownBy (@sortWorldK Ent inhE Ent.cells 6 w g 0 n S.toArray os) (some g) := by
  refine ⟨rfl, rfl, rfl, by simp [sortWorldK, putRowK, Sort.ahead], fun k hk hne => ?_⟩
  unfold sortWorldK putRowK
  rw [heap_grow_old _ _ (by simpa [Sort.ahead] using hk)]
  have : g ≠ k := fun e => hne (by rw [e])
  simp [putRow, mapBlock, Sort.ahead, Array.getElem?_modify, this]
theorem take_putE (cur : Array Value) (S : List Ent) (h : S.length * 6 ≤ cur.size) : (putCells id 0 (@flatK Ent inhE Ent.cells 6 S.toArray) cur).toList.take (S.length * 6) = cellsE S := by
  rw [← flat_cells]
  apply List.ext_getElem?
  intro j
  by_cases hj : j < S.length * 6
  · rw [List.getElem?_take_of_lt hj, Array.getElem?_toList, Array.getElem?_toList]
    simp [putCells, hj, show j < cur.size by omega]
  · rw [List.getElem?_take_eq_none (by omega), List.getElem?_eq_none (by simp; omega)]
theorem ownE_sorted {w : World} {base g cp n : Nat} {os : Array Obj} {R S : List Ent} (h : OwnE w base g cp R) (hl : S.length = R.length) : OwnE (@sortWorldK Ent inhE Ent.cells 6 w g 0 n S.toArray os) base g cp S := by
  rcases h.2 with ⟨h0, _⟩ | ⟨g', cap', cur, hv, hg, hb, hn, hcap, hsz, htk⟩
  · cases h0
  · simp only [Value.slice.injEq, Option.some.injEq, Addr.mk.injEq, and_true, true_and] at hv
    obtain ⟨rfl, rfl⟩ := hv
    refine ⟨length_cellsE S, .inr ⟨g, cp, _, rfl, hg, heap_sortedE S hb, by omega, hcap, by simp [putCells, hsz], take_putE cur S (by rw [hsz, hl]; exact Nat.mul_le_mul_right _ hn)⟩⟩

theorem sort_core (base g cp : Nat) (R : List Ent) (w : World) (hO : OwnE w base g cp R) (hlen : R.length ≤ 2 ^ 40) :
    Calls Try.prog 70 #[.slice (some ⟨g, 0, none⟩) R.length cp, .func (.func 71) #[] #[]] w fun e w' =>
      e = .returned (.tuple #[]) ∧ ∃ S : List Ent, S.Perm R ∧ S.Pairwise (fun a b => ¬ keyCmp b a = -1) ∧ OwnE w' base g cp S ∧ w.grownBy w' (some g) := by
  have eg : ∀ args w, (callFunc 71 args).run Try.prog w = .ok (.enter 71 args) w := enters_of Try.func71 (by kernel_rfl) rfl
  have hcon := @AnyQ.slices_SortFunc _ _ Ent inhE Try.sortE 6 Try.isAgg63 Try.sizeOf63 Ent.cells (fun _ => rfl) (fun x v hv => by
    simp at hv
    rcases hv with rfl | rfl | rfl | rfl | rfl | rfl <;> rfl) keyCmp swoKey 71 #[] g 0 cp R.toArray w eg (cmpLaysE g 0 _ w) (holdsE hO) hO.lt.2 (by simp; omega)
  change Calls Try.prog 70 _ _ _ at hcon
  refine hcon.mono ?_
  rintro e w' ⟨he, d, n, os, hp, hs, rfl⟩
  refine ⟨he, d.toList, ?_, ?_, ?_, ?_⟩
  · have h1 := hp.2.2
    have h2 := hp.1
    simpa [Array.extract_eq_self_of_le, h2] using h1
  · rw [List.pairwise_iff_getElem]
    intro i j hi hj hij
    have hi' : i < d.size := by simpa using hi
    have hj' : j < d.size := by simpa using hj
    have h := hs i j (Nat.zero_le _) hij (by rw [hp.1] at hj'; exact hj')
    have e1 := @getElem!_pos (Array Ent) Nat Ent _ _ _ inhE d j hj'
    have e2 := @getElem!_pos (Array Ent) Nat Ent _ _ _ inhE d i hi'
    rw [ltOf_key_f, e1, e2] at h
    simpa using h
  · exact ownE_sorted hO (by simpa using hp.1)
  · exact grownBy_sortedE w g n os d.toList
end Go.Proofs.Ytnncedndlhfdkac

/-
  impl.BuildRun: the entries of the columns, put in order.
-/
namespace Go.Proofs.Ytnncedndlhfdkac
open Go.ChangeShapes Go.WideShapes Go.ChangeAt Go.RowKit Go.Deep Go.Maps
set_option linter.unusedVariables false
set_option maxRecDepth 100000

theorem wf_nonneg {t : Int} (h : (Lit.int .u64 t).wf = true) : 0 ≤ t := by
  simp only [Lit.wf, Bool.and_eq_true, decide_eq_true_eq] at h
  have : IntKind.u64.min = 0 := rfl
  omega
/-- An entry that a column's state tells. -/
def InCW (c : Col) (k : CW) (x : Ent) : Prop := (k.d = true ∧ x = delE c k.u) ∨ ∃ t, (Lit.int .u64 t).wf = true ∧ k.f t = some x

theorem cols_keep {ws : List Ent} (hv : ∀ e ∈ ws, e.vld = true) (hok : ∀ e ∈ ws, e.ok) (x : Ent) : (∃ c k, colsOf ws c = some k ∧ InCW c k x) ↔ KeepTo ws ws.length x := by
  have hp : ∀ e ∈ ws, 0 ≤ e.ts := fun e he => wf_nonneg (hok e he).ts
  constructor
  · rintro ⟨c, k, hk, h⟩
    have hd := delOk ws hp c
    rw [hk] at hd
    simp only [Option.getD_some] at hd
    rcases h with ⟨h1, rfl⟩ | ⟨t, h1, h2⟩
    · obtain ⟨e, he, g1, g2, g3⟩ := hd.has h1
      have he2 : e = delE c k.u := by
        have v1 := vld_val (hv e he) g2
        subst g1
        obtain ⟨r, f, q, t, kk, v⟩ := e
        simp only at *
        subst g2 g3
        unfold delE Ent.wcol
        simp only
        rw [size_zero_eq v1 (show (⟨#[]⟩ : ByteArray).size = 0 from rfl)]
      rw [he2] at he
      obtain ⟨i, hi⟩ := List.getElem?_of_mem he
      refine ⟨i, (List.getElem?_eq_some_iff.1 hi).1, hi, .inr ⟨rfl, fun v hvv g4 g5 => ?_⟩⟩
      exact (hd.all v hvv (sameCol_wcol.1 g5) g4).2
    · have h3 := (left_iff ws hp c t x).1 (by rw [hk]; exact h2)
      obtain ⟨i, g1, g2⟩ := h3.2.2.2
      exact ⟨i, (List.getElem?_eq_some_iff.1 g1).1, g1, .inl ⟨h3.2.2.1, g2⟩⟩
  · rintro ⟨i, hi, hx, hk⟩
    have hm := List.mem_of_getElem? hx
    obtain ⟨k, hk2⟩ := (colsOf_mem ws x.wcol).2 ⟨x, hm, rfl⟩
    refine ⟨x.wcol, k, hk2, ?_⟩
    have hd := delOk ws hp x.wcol
    rw [hk2] at hd
    simp only [Option.getD_some] at hd
    rcases hk with ⟨h1, h2⟩ | ⟨h1, h2⟩
    · right
      refine ⟨x.ts, (hok x hm).ts, ?_⟩
      have := (left_iff ws hp x.wcol x.ts x).2 ⟨rfl, rfl, h1, i, hx, h2⟩
      rw [hk2] at this
      exact this
    · left
      obtain ⟨g1, g2⟩ := hd.all x hm rfl h1
      obtain ⟨e, he, q1, q2, q3⟩ := hd.has g1
      have q4 := h2 e he q2 (sameCol_wcol.2 q1)
      have v1 := vld_val (hv x hm) h1
      refine ⟨g1, ?_⟩
      obtain ⟨r, f, q, t, kk, v⟩ := x
      simp only at *
      have ht : t = k.u := by omega
      subst h1 ht
      unfold delE Ent.wcol
      simp only
      rw [size_zero_eq v1 (show (⟨#[]⟩ : ByteArray).size = 0 from rfl)]

theorem keepTo_key {ws : List Ent} (hv : ∀ x ∈ ws, x.vld = true) {x y : Ent} (hx : KeepTo ws ws.length x) (hy : KeepTo ws ws.length y) (h : keyCmp x y = 0) : x = y := by
  obtain ⟨i, _, h1, h2⟩ := hx
  obtain ⟨j, _, g1, g2⟩ := hy
  rcases Nat.lt_trichotomy i j with q | q | q
  · exact keep_uniq hv q h1 g1 h2 g2 h
  · subst q
    rw [h1] at g1
    simpa using g1
  · exact (keep_uniq hv q g1 h1 g2 h2 (by have := keyCmp_neg x y; omega)).symm
/-- A list in order, without repeats, of just what is kept: it is the run. -/
theorem kept_of {ws : List Ent} (hv : ∀ x ∈ ws, x.vld = true) {S T : List Ent} (hm : ∀ x, x ∈ S ↔ KeepTo ws ws.length x) (hn : S.Nodup) (hp : T.Perm S) (hs : T.Pairwise (fun a b => ¬ keyCmp b a = -1)) : Kept ws ws.length T := by
  have hmT : ∀ x, x ∈ T ↔ KeepTo ws ws.length x := fun x => (hp.mem_iff).trans (hm x)
  refine ⟨?_, hmT⟩
  have hnT : T.Nodup := hp.nodup_iff.2 hn
  unfold Ord
  have h2 : T.Pairwise (fun a b => a ≠ b) := hnT
  have h3 := hs.and h2
  refine List.Pairwise.imp_of_mem ?_ h3
  intro a b ha hb ⟨h4, h5⟩
  rcases keyCmp_vals a b with q | q | q
  · exact q
  · exact absurd (keepTo_key hv ((hmT a).1 ha) ((hmT b).1 hb) q) h5
  · exact absurd (by have := keyCmp_neg a b; omega) h4

theorem Inner.ne_own {w : World} {base base' N g cp : Nat} {m : Option Nat} {f : Int → Option Ent} {fs : List Ent} (h : Inner w base N m f) (hO : OwnE w base' g cp fs) : m = none ∨ m ≠ some g := by
  rcases h with ⟨h, _⟩ | ⟨b, n, rfl, hI, _, _⟩
  · exact .inl h
  · right
    intro q
    obtain ⟨D, ⟨es, ck, hh, _⟩, _⟩ := hI
    exact hO.ne_map hh (Option.some.inj q).symm

theorem appendE_any (k : CW) (m : Option Nat) (c : Col) (base base' N g cp : Nat) (fs : List Ent) (w : World) (hI : Inner w base' N m k.f) (hts : ∀ t e, k.f t = some e → e.ts = t ∧ ¬ e.kind = 2) (hwf : ∀ t e, k.f t = some e → (Lit.int .u64 t).wf = true)
    (hO : OwnE w base g cp fs) (hlen : fs.length ≤ 2 ^ 28) (hn : N ≤ 2 ^ 20) (hbase : base ≤ w.heap.size) :
    Calls Try.prog 69 #[.agg #[.bool k.d, .int .u64 k.u, .map m], .slice (some ⟨g, 0, none⟩) fs.length cp, c.v] w fun r w' =>
      ∃ g' cp' S, r = .returned (.slice (some ⟨g', 0, none⟩) (fs ++ S).length cp') ∧ OwnE w' base g' cp' (fs ++ S) ∧ (∀ x, x ∈ S ↔ InCW c k x) ∧ S.Nodup ∧ S.length ≤ N + 1 ∧ w.grownBy w' (some g) ∧ (g' = g ∨ w.heap.size ≤ g') := by
  rcases hI with ⟨rfl, hf⟩ | ⟨b, n, rfl, hI, hn', _⟩
  · refine (appendE_none k.d k.u c base g cp fs w hO hlen hbase).mono ?_
    rintro r w' ⟨g', cp', h1, h2, h3, h4⟩
    refine ⟨g', cp', del0 k.d c k.u, h1, h2, fun x => ?_, ?_, ?_, h3, h4⟩
    · unfold InCW del0
      rw [hf]
      cases k.d <;> simp
    · unfold del0; split <;> simp
    · unfold del0; split <;> simp
  · refine (appendE_some k.d k.u c b n base g cp k.f fs w hI (fun t e h => (hts t e h).1) hO hlen (Nat.le_trans hn' hn) hbase).mono ?_
    rintro r w' ⟨g', cp', S, h1, h2, h3, h4, h5, h6⟩
    rw [List.append_assoc] at h1 h2
    refine ⟨g', cp', del0 k.d c k.u ++ S, h1, h2, fun x => ?_, ?_, ?_, h4, h5⟩
    · rw [List.mem_append, h3.1 x]
      unfold InCW del0
      cases k.d <;> simp
    · rw [List.nodup_append]
      refine ⟨?_, h3.2, fun a ha x hx q => ?_⟩
      · unfold del0; split <;> simp
      · subst q
        obtain ⟨t, _, g2⟩ := (h3.1 a).1 hx
        have hk := (hts t a g2).2
        unfold del0 at ha
        split at ha
        · simp at ha
          rw [ha] at hk
          exact hk rfl
        · simp at ha
    · rw [List.length_append]
      have : (del0 k.d c k.u).length ≤ 1 := by unfold del0; split <;> simp
      omega

/-- The entries of the columns that the loop has met. -/
def MetC (ws : List Ent) (left : Lit → Bool) (S : List Ent) : Prop := (∀ x, x ∈ S ↔ ∃ c k, colsOf ws c = some k ∧ left c.l = false ∧ InCW c k x) ∧ S.Nodup
theorem inCW_col {ws : List Ent} (hp : ∀ e ∈ ws, 0 ≤ e.ts) {c : Col} {k : CW} {x : Ent} (hk : colsOf ws c = some k) (h : InCW c k x) : x.wcol = c := by
  rcases h with ⟨_, rfl⟩ | ⟨t, _, h2⟩
  · rfl
  · exact ((left_iff ws hp c t x).1 (by rw [hk]; exact h2)).1
theorem metC_step {ws : List Ent} (hp : ∀ e ∈ ws, 0 ≤ e.ts) (hokc : ∀ c k, colsOf ws c = some k → Col.okc c) {left : Lit → Bool} {S S' : List Ent} {c : Col} {k : CW} (h : MetC ws left S) (hk : colsOf ws c = some k) (hl : left c.l = true)
    (hS : ∀ x, x ∈ S' ↔ InCW c k x) (hN : S'.Nodup) : MetC ws (fun z => left z && !z.sameKey c.l) (S ++ S') := by
  refine ⟨fun x => ?_, ?_⟩
  · rw [List.mem_append, h.1 x, hS x]
    constructor
    · rintro (⟨c', k', h1, h2, h3⟩ | h3)
      · exact ⟨c', k', h1, by simp [h2], h3⟩
      · exact ⟨c, k, hk, by simp [Col.l, colL, Lit.sameKey], h3⟩
    · rintro ⟨c', k', h1, h2, h3⟩
      by_cases q : c' = c
      · subst q
        rw [hk] at h1
        injection h1 with h1
        subst h1
        exact .inr h3
      · left
        have hs : c'.l.sameKey c.l = false := Maps.sameKey_ne (fun e => q (Col.inj (hokc c' k' h1) (hokc c k hk) e))
        refine ⟨c', k', h1, ?_, h3⟩
        simpa [hs] using h2
  · rw [List.nodup_append]
    refine ⟨h.2, hN, fun a ha b hb q => ?_⟩
    subst q
    obtain ⟨c', k', h1, h2, h3⟩ := (h.1 a).1 ha
    have e1 := inCW_col hp h1 h3
    have e2 := inCW_col hp hk ((hS a).1 hb)
    rw [e1] at e2
    subst e2
    rw [hl] at h2
    cases h2

theorem keyCol_inv {v : Value} {l : Lit} (h : keyOf Try.prog 73 v = some l) : ∃ c : Col, v = c.v ∧ Col.okc c ∧ l = c.l := by
  have h1 : Try.prog.keyType 73 = true := by kernel_rfl
  have h2 : Try.prog.cellsOf 73 = 3 := by kernel_rfl
  obtain ⟨n, hn⟩ := typesSome
  have hcopy := h
  unfold keyOf at h
  rw [Try.underlying73] at h
  simp only [h1, Bool.true_and] at h
  split at h
  · rename_i hf
    cases v with
    | agg cs =>
      simp only [Value.formed, Try.underlying73, h2, beq_iff_eq] at hf
      obtain ⟨a, b, c, rfl⟩ := Go.Joins.array3 hf
      rw [hn] at h
      cases a <;> first
        | (exfalso; simp [Program.keyLits, Try.underlying73, Try.underlying9, h2, Try.cellsStr, Value.cells] at h; done)
        | skip
      rename_i s0
      cases b <;> first
        | (exfalso; simp [Program.keyLits, Try.underlying73, Try.underlying9, h2, Try.cellsStr, Value.cells] at h; done)
        | skip
      rename_i s1
      cases c <;> first
        | (exfalso; simp [Program.keyLits, Try.underlying73, Try.underlying9, h2, Try.cellsStr, Value.cells] at h; done)
        | skip
      rename_i s2
      by_cases z0 : s0.size ≤ maxLen
      · by_cases z1 : s1.size ≤ maxLen
        · by_cases z2 : s2.size ≤ maxLen
          · refine ⟨(s0, s1, s2), rfl, ⟨z0, z1, z2⟩, ?_⟩
            have := keyCol z0 z1 z2
            rw [this] at hcopy
            exact (Option.some.inj hcopy).symm
          · exfalso; simp [Program.keyLits, Try.underlying73, Try.underlying9, h2, Try.cellsStr, Value.cells, z2] at h
        · exfalso; simp [Program.keyLits, Try.underlying73, Try.underlying9, h2, Try.cellsStr, Value.cells, z1] at h
      · exfalso; simp [Program.keyLits, Try.underlying73, Try.underlying9, h2, Try.cellsStr, Value.cells, z0] at h
    | _ => simp [Value.formed, Try.underlying73] at hf
  · cases h

set_option maxHeartbeats 4000000 in
set_option maxRecDepth 100000 in
theorem implBuild_core (b off cap : Nat) (ws : List Ent) (w : World) (hE : EntsAt w b off ws) (hok : ∀ e ∈ ws, e.ok) (hB : b < w.heap.size) (hlen : ws.length ≤ cap) (hcap : cap ≤ maxLen) (hws : ws.length ≤ 1048576) :
    Calls Try.prog 30 #[.slice (some ⟨b, off, none⟩) ws.length cap] w fun r w' =>
      ((¬ GoodW ws ∧ r = .returned (.agg #[.slice none 0 0])) ∨ (GoodW ws ∧ ∃ g cp R, r = .returned (.agg #[.slice (some ⟨g, 0, none⟩) R.length cp]) ∧ OwnE w' w.heap.size g cp R ∧ Kept ws ws.length R)) ∧ Below w.heap.size w w' := by
  have HO : Hid (∀ e ∈ ws, e.ok) := hok
  have HC : Hid (ws.length ≤ cap ∧ cap ≤ maxLen) := ⟨hlen, hcap⟩
  obtain ⟨W0, hW0⟩ : ∃ W0 : World, W0 = w.alloc (Obj.cells #[.slice none 0 0] 40) := ⟨_, rfl⟩
  have hb0 : Below w.heap.size w W0 := by rw [hW0]; exact (Below.refl _ _).alloc (Nat.le_refl _) _
  have hz0 : w.heap.size < W0.heap.size := by rw [hW0]; simp
  have ca : W0.cell? ⟨w.heap.size, 0, none⟩ = some (.slice none 0 0) := by rw [hW0]; simp
  have cf : W0.frozen? ⟨w.heap.size, 0, none⟩ = false := by rw [hW0]; simp
  have HE0 : Hid (EntsAt W0 b off ws) := hE.below hb0 hB
  clear hE hok hlen hcap
  obtain ⟨i, hi, hi0, hi1, hi2⟩ := info_parts Try.infoEnt
  have HI : Hid (Try.prog.info? 63 = some i ∧ i.zero = some (.agg #[.string ⟨#[]⟩, .string ⟨#[]⟩, .string ⟨#[]⟩, .int .u64 0, .int .i64 0, .string ⟨#[]⟩]) ∧ i.size = 6 ∧ i.bytes = 80) := ⟨hi, hi0, hi1, hi2⟩
  clear hi hi0 hi1 hi2
  go_enter Try.func30, Try.ntmps30
  go_wp2_with fail
  rw [← hW0]
  clear hW0
  refine (validWrites_core b off cap ws _ HE0.out HO.out (by omega) HC.out.1 HC.out.2).mono ?_
  rintro e w1 ⟨rb, rfl, hr, hb1⟩
  have HR : Hid (rb = true ↔ GoodW ws) := hr
  clear hr
  have hs1 := hb1.size
  have ca1 : w1.cell? ⟨w.heap.size, 0, none⟩ = some (.slice none 0 0) := by rw [hb1.cell (p := ⟨w.heap.size, 0, none⟩) hz0]; exact ca
  have cf1 : w1.frozen? ⟨w.heap.size, 0, none⟩ = false := by rw [hb1.frozen (p := ⟨w.heap.size, 0, none⟩) hz0]; exact cf
  have HE1 : Hid (EntsAt w1 b off ws) := HE0.out.below hb1 (by omega)
  have k1 : Below w.heap.size w w1 := hb0.trans (hb1.mono (by omega))
  cases rb
  · have HN : Hid (¬ GoodW ws) := fun h => Bool.noConfusion (HR.out.2 h)
    go_wp2_with fail
    refine bodyPost_ret (v := .agg #[.slice none 0 0]) (by simp [results, Try.results30, go_sem, ca1]) rfl ⟨.inl ⟨HN.out, rfl⟩, ?_⟩
    exact k1.setCell (by show w.heap.size ≤ w.heap.size; omega) _
  have HG : Hid (GoodW ws) := HR.out.1 rfl
  have hgl : ws.length ≤ 10000 := HG.out.1
  clear HR
  go_wp2_with (at_make; refine wpList_make_own _ rfl _ _ 38 rfl (w.heap.size + 1) 63 i _ 6 Try.underlying38 HI.out.1 HI.out.2.1 HI.out.2.2.1 _ _ _ ws.length rfl rfl ?_ ?hb ?hm ?hs ?_)
  case hb => rw [HI.out.2.2.2]; omega
  case hm => unfold maxLen; omega
  case hs => omega
  · rfl
  intro w2 hown hgrow
  have hO2 : OwnE w2 (w.heap.size + 1) w1.heap.size ws.length [] := hown
  have hb2 : Below w1.heap.size w1 w2 := (Below.refl _ _).grown hgrow (Nat.le_refl _) (fun j hj => by cases hj)
  have HO2 : Hid (OwnE w2 (w.heap.size + 1) w1.heap.size ws.length []) := hO2
  have hg2 := hO2.lt
  have hs2 := hb2.size
  have HE2 : Hid (EntsAt w2 b off ws) := HE1.out.below hb2 (by omega)
  clear hown hO2 hgrow
  go_wp2_with fail
  refine (gather_core b off cap ws _ HE2.out HO.out (by omega) hws).mono ?_
  rintro r w3 ⟨M, rfl, hM, hb3⟩
  have hs3 := hb3.size
  obtain ⟨D, hD, hv⟩ := hM.map
  have hsd := hD.size_le
  have HV : Hid (∀ c, Col.okc c → (colsOf ws c = none ∧ Maps.has D c.l = false) ∨ ∃ k, colsOf ws c = some k ∧ Maps.has D c.l = true ∧ ∀ z, D.atKey c.l z = .held (.agg #[.bool k.d, .int .u64 k.u, .map (M c)])) := hv
  have HM : Hid (Outer w3 w2.heap.size w2.heap.size ws.length (colsOf ws) M) := hM
  have hMl := hM.lt
  have HO3 : Hid (OwnE w3 (w.heap.size + 1) w1.heap.size ws.length []) := HO2.out.below hb3 hg2.2
  have ca3 : w3.cell? ⟨w.heap.size, 0, none⟩ = some (.slice none 0 0) := by rw [hb3.cell (p := ⟨w.heap.size, 0, none⟩) (by show w.heap.size < _; omega), hb2.cell (p := ⟨w.heap.size, 0, none⟩) (by show w.heap.size < _; omega)]; exact ca1
  have cf3 : w3.frozen? ⟨w.heap.size, 0, none⟩ = false := by rw [hb3.frozen (p := ⟨w.heap.size, 0, none⟩) (by show w.heap.size < _; omega), hb2.frozen (p := ⟨w.heap.size, 0, none⟩) (by show w.heap.size < _; omega)]; exact cf1
  have k3 : Below (w.heap.size + 1) w1 w3 := (hb2.mono (by omega)).trans (hb3.mono (by omega))
  clear hv hM
  go_wp2_with (at_range; refine wpList_range_own _ rfl _ 105 rfl 73 109 lawCol Try.underlying105 Rh w2.heap.size ws.length D rfl hD ?_; intro w4 hrg4 hg4 hs4)
  go_frame
  have hp : ∀ e ∈ ws, 0 ≤ e.ts := fun e he => wf_nonneg (HO.out e he).ts
  have HP : Hid (∀ e ∈ ws, 0 ≤ e.ts) := hp
  clear hp
  have HS0 : Hid (MetC ws (Maps.has D) []) := by
    refine ⟨fun x => ⟨fun h => by simp at h, ?_⟩, List.nodup_nil⟩
    rintro ⟨c, k, h1, h2, _⟩
    rcases HV.out c (HM.out.ok c k h1) with ⟨q1, _⟩ | ⟨k', _, q2, _⟩
    · rw [q1] at h1; cases h1
    · rw [q2] at h2; cases h2
  have HI4 : Hid (∀ c k, colsOf ws c = some k → Inner w4 w2.heap.size ws.length (M c) k.f) := fun c k h => (HM.out.inner c k h).kept hg4 (by cases M c <;> simp)
  have k4 : Below (w.heap.size + 1) w1 w4 := k3.grown hg4 (by omega) (fun j hj => by cases hj)
  go_loopw [3] (fun s wr => ∃ (left : Lit → Bool) (cnt : Nat) (S : List Ent) (g2 cp2 : Nat), s = .slice (some ⟨g2, 0, none⟩) S.length cp2 ∧ OwnE wr (w.heap.size + 1) g2 cp2 S ∧ wr.ranges Try.prog 73 Rh w2.heap.size w3.heap.size ws.length D left cnt ∧ MetC ws left S ∧ cnt ≤ ws.length ∧ S.length ≤ (ws.length - cnt) * 10001 ∧
      (∀ c k, colsOf ws c = some k → Inner wr w2.heap.size ws.length (M c) k.f) ∧ Below (w.heap.size + 1) w1 wr ∧ g2 ≠ w3.heap.size) (fun _ wr => wr.rangeLeft w2.heap.size w3.heap.size)
  case atStart =>
    exact ⟨Maps.has D, Maps.size D, [], w1.heap.size, ws.length, rfl, HO3.out.kept hg4 (by simp), hrg4, HS0.out, hsd, by simp, HI4.out, k4, by omega⟩
  case round =>
    obtain ⟨left, cnt, S, g2, cp2, rfl, hO5, hrg, hH, hcn, hSl, hIn, hbr, hne2⟩ := hrel
    have HR : Hid (OwnE wr (w.heap.size + 1) g2 cp2 S ∧ MetC ws left S ∧ (∀ c k, colsOf ws c = some k → Inner wr w2.heap.size ws.length (M c) k.f)) := ⟨hO5, hH, hIn⟩
    have hg5 := hO5.lt
    have hsr := hbr.size
    have hrl := hrg.lt
    have hne1 : g2 ≠ w2.heap.size := by
      obtain ⟨es, ck, hh, _⟩ := hrg.owns
      exact hO5.ne_map hh
    clear hO5 hH hIn
    go_wp2_with (at_next; refine wpList_next_ranges _ rfl _ rfl 73 lawCol Rh (fun c : Col => Col.v c) (fun v : Value => v) (fun key kl h => by obtain ⟨c, h1, _⟩ := keyCol_inv h; exact ⟨c, h1⟩) (fun v y _ => ⟨v, rfl⟩) w2.heap.size w3.heap.size ws.length D left cnt rfl hrg ?_ ?_)
    · intro h0 hl
      have HL : Hid (∀ kl, left kl = false) := hl
      have hSb : S.length ≤ 2 ^ 40 := by
        have := Nat.mul_le_mul_right 10001 (show ws.length - cnt ≤ 10000 by omega)
        omega
      have car : wr.cell? ⟨w.heap.size, 0, none⟩ = some (.slice none 0 0) := by rw [hbr.cell (p := ⟨w.heap.size, 0, none⟩) (by show w.heap.size < _; omega)]; exact ca1
      have cfr : wr.frozen? ⟨w.heap.size, 0, none⟩ = false := by rw [hbr.frozen (p := ⟨w.heap.size, 0, none⟩) (by show w.heap.size < _; omega)]; exact cf1
      clear hl
      go_wp2_with fail
      refine (sort_core (w.heap.size + 1) g2 cp2 S _ HR.out.1 hSb).mono ?_
      rintro r w7 ⟨rfl, T, hpT, hsT, hO7, hg7⟩
      have ca7 : w7.cell? ⟨w.heap.size, 0, none⟩ = some (.slice none 0 0) := hg7.cell car (fun q => by have q' : w.heap.size = g2 := Option.some.inj q; omega)
      have cf7 : w7.frozen? ⟨w.heap.size, 0, none⟩ = false := by
        rw [World.frozen?_of_block (a := ⟨w.heap.size, 0, none⟩) (hg7.block w.heap.size (by omega) (fun q => by injection q; omega))]; exact cfr
      have hbr7 : Below (w.heap.size + 1) w1 w7 := hbr.grown hg7 (by omega) (fun j hj => by cases hj; exact hg5.1)
      have hTl : T.length = S.length := hpT.length_eq
      have HF : Hid (OwnE w7 (w.heap.size + 1) g2 cp2 T ∧ Kept ws ws.length T) := ⟨hO7, kept_of HG.out.2 (fun x => (HR.out.2.1.1 x).trans (Iff.trans ⟨fun ⟨c, k, a1, _, a2⟩ => ⟨c, k, a1, a2⟩, fun ⟨c, k, a1, a2⟩ => ⟨c, k, a1, HL.out _, a2⟩⟩ (cols_keep HG.out.2 HO.out x))) HR.out.2.1.2 hpT hsT⟩
      have HT : Hid (T.length = S.length) := hTl
      clear hpT hsT hO7 hg7 hTl
      go_wp2_with fail
      refine bodyPost_ret (v := .agg #[.slice (some ⟨g2, 0, none⟩) S.length cp2]) (by simp [results, Try.results30, go_sem, ca7]) rfl ⟨.inr ⟨HG.out, g2, cp2, T, by rw [HT.out], ?_, HF.out.2⟩, ?_⟩
      · exact (HF.out.1.setBelow ⟨w.heap.size, 0, none⟩ (by show w.heap.size < _; omega) _).mono (by omega)
      · exact (k1.trans (hbr7.mono (by omega))).setCell (by show w.heap.size ≤ w.heap.size; omega) _
    · intro xr xf xq c kl y1 y2 w5 cnt1 hkey hlk hvv hat hrg5 hlt5 hg5' hs5 hen
      obtain ⟨x', q1, q2, q3⟩ := keyCol_inv hkey
      have q4 : x' = (xr, xf, xq) := by
        obtain ⟨b1, b2, b3⟩ := x'
        simp at q1
        obtain ⟨rfl, rfl, rfl⟩ := q1
        rfl
      subst q3
      obtain ⟨k, hk, hce⟩ : ∃ k, colsOf ws x' = some k ∧ c = .agg #[.bool k.d, .int .u64 k.u, .map (M x')] := by
        rcases HV.out x' q2 with ⟨_, h2⟩ | ⟨k, h1, h2, h3⟩
        · have := hat (.held (.bool true))
          rw [Maps.atKey_of_not_has h2] at this
          have h5 := hat (.held (.bool false))
          rw [Maps.atKey_of_not_has h2] at h5
          rw [← h5] at this
          cases this
        · refine ⟨k, h1, ?_⟩
          have h4 := hat (.held (.bool true))
          rw [h3] at h4
          have h5 := (Rh_eq hvv).1
          rw [h5] at h4
          injection h4 with h4
          exact h4.symm
      subst hce
      have HK : Hid (colsOf ws x' = some k ∧ left x'.l = true) := ⟨hk, hlk⟩
      have HQ : Hid (x' = (xr, xf, xq)) := q4
      clear hk hlk hat hvv hkey q1 q2 q4
      have HG5 : Hid (wr.grownBy w5 (some w3.heap.size)) := hg5'
      have hle1 : wr.heap.size ≤ w5.heap.size := by omega
      have hle2 : w5.heap.size ≤ wr.heap.size := by omega
      clear hg5' hs5
      have hgB : wr.grownBy ((w5.alloc (Obj.cells #[.string xr, .string xf, .string xq] 73)).alloc (Obj.cells #[.bool k.d, .int .u64 k.u, .map (M x')] 109)) (some w3.heap.size) := HG5.out.trans ((World.grownBy_alloc _ _ _).trans (World.grownBy_alloc _ _ _))
      have hIx : Inner ((w5.alloc (Obj.cells #[.string xr, .string xf, .string xq] 73)).alloc (Obj.cells #[.bool k.d, .int .u64 k.u, .map (M x')] 109)) w2.heap.size ws.length (M x') k.f := by
        refine (HR.out.2.2 x' k HK.out.1).kept hgB ?_
        cases hq : M x' with
        | none => exact .inl rfl
        | some bb =>
          refine .inr (fun q => ?_)
          have := (HM.out.inLt hq).1
          have := Option.some.inj q
          omega
      have hOx : OwnE ((w5.alloc (Obj.cells #[.string xr, .string xf, .string xq] 73)).alloc (Obj.cells #[.bool k.d, .int .u64 k.u, .map (M x')] 109)) (w.heap.size + 1) g2 cp2 S := HR.out.1.kept hgB (fun q => hne2 (Option.some.inj q))
      have hltx : S.length ≤ 2 ^ 28 := by
        have := Nat.mul_le_mul_right 10001 (show ws.length - cnt ≤ 10000 by omega)
        omega
      have HA := appendE_any k (M x') x' (w.heap.size + 1) w2.heap.size ws.length g2 cp2 S ((w5.alloc (Obj.cells #[.string xr, .string xf, .string xq] 73)).alloc (Obj.cells #[.bool k.d, .int .u64 k.u, .map (M x')] 109)) hIx
        (fun t e h => by have h3 := (left_iff ws HP.out x' t e).1 (by rw [HK.out.1]; exact h); exact ⟨h3.2.1, h3.2.2.1⟩)
        (fun t e h => by have h3 := (left_iff ws HP.out x' t e).1 (by rw [HK.out.1]; exact h); obtain ⟨ii, q5, _⟩ := h3.2.2.2; rw [← h3.2.1]; exact (HO.out e (List.mem_of_getElem? q5)).ts)
        hOx hltx (by omega) (by simp; omega)
      have HB : Hid (wr.grownBy ((w5.alloc (Obj.cells #[.string xr, .string xf, .string xq] 73)).alloc (Obj.cells #[.bool k.d, .int .u64 k.u, .map (M x')] 109)) (some w3.heap.size) ∧ OwnE ((w5.alloc (Obj.cells #[.string xr, .string xf, .string xq] 73)).alloc (Obj.cells #[.bool k.d, .int .u64 k.u, .map (M x')] 109)) (w.heap.size + 1) g2 cp2 S ∧ Inner ((w5.alloc (Obj.cells #[.string xr, .string xf, .string xq] 73)).alloc (Obj.cells #[.bool k.d, .int .u64 k.u, .map (M x')] 109)) w2.heap.size ws.length (M x') k.f) := ⟨hgB, hOx, hIx⟩
      have HAA : Hid (Calls Try.prog 69 #[.agg #[.bool k.d, .int .u64 k.u, .map (M x')], .slice (some ⟨g2, 0, none⟩) S.length cp2, .agg #[.string xr, .string xf, .string xq]] ((w5.alloc (Obj.cells #[.string xr, .string xf, .string xq] 73)).alloc (Obj.cells #[.bool k.d, .int .u64 k.u, .map (M x')] 109)) fun r w' =>
        ∃ g' cp' S', r = .returned (.slice (some ⟨g', 0, none⟩) (S ++ S').length cp') ∧ OwnE w' (w.heap.size + 1) g' cp' (S ++ S') ∧ (∀ x, x ∈ S' ↔ InCW x' k x) ∧ S'.Nodup ∧ S'.length ≤ ws.length + 1 ∧ (((w5.alloc (Obj.cells #[.string xr, .string xf, .string xq] 73)).alloc (Obj.cells #[.bool k.d, .int .u64 k.u, .map (M x')] 109))).grownBy w' (some g2) ∧ (g' = g2 ∨ (((w5.alloc (Obj.cells #[.string xr, .string xf, .string xq] 73)).alloc (Obj.cells #[.bool k.d, .int .u64 k.u, .map (M x')] 109))).heap.size ≤ g')) := by
        have h := HA
        rw [HQ.out] at h ⊢
        exact h
      clear HA hgB hOx hIx
      go_wp2_with fail
      refine HAA.out.mono ?_
      rintro r w7 ⟨g', cp', S', rfl, hO7, hS7, hN7, hl7, hg7, hloc7⟩
      have hrg7 := ((hrg5.alloc (Obj.cells #[.string xr, .string xf, .string xq] 73)).alloc (Obj.cells #[.bool k.d, .int .u64 k.u, .map (M x')] 109)).kept hg7 (fun q => hne1 (Option.some.inj q).symm) (fun q => hne2 (Option.some.inj q).symm)
      have hbr6 : Below (w.heap.size + 1) w1 ((w5.alloc (Obj.cells #[.string xr, .string xf, .string xq] 73)).alloc (Obj.cells #[.bool k.d, .int .u64 k.u, .map (M x')] 109)) := hbr.grown HB.out.1 (by omega) (fun j hj => by cases hj; omega)
      have hbr7 : Below (w.heap.size + 1) w1 w7 := hbr6.grown hg7 (by simp; omega) (fun j hj => by cases hj; exact hg5.1)
      have hne7 : g' ≠ w3.heap.size := by
        rcases hloc7 with q | q
        · rw [q]; exact hne2
        · simp at q; omega
      have hIn7 : ∀ c k', colsOf ws c = some k' → Inner w7 w2.heap.size ws.length (M c) k'.f := by
        intro c k' hc
        have h6 : Inner ((w5.alloc (Obj.cells #[.string xr, .string xf, .string xq] 73)).alloc (Obj.cells #[.bool k.d, .int .u64 k.u, .map (M x')] 109)) w2.heap.size ws.length (M c) k'.f := by
          refine (HR.out.2.2 c k' hc).kept HB.out.1 ?_
          cases hq : M c with
          | none => exact .inl rfl
          | some bb =>
            refine .inr (fun q => ?_)
            have := (HM.out.inLt hq).1
            have := Option.some.inj q
            omega
        exact h6.kept hg7 (h6.ne_own HB.out.2.1)
      have HF : Hid (OwnE w7 (w.heap.size + 1) g' cp' (S ++ S') ∧ MetC ws (fun z => left z && !z.sameKey x'.l) (S ++ S') ∧ (∀ c k', colsOf ws c = some k' → Inner w7 w2.heap.size ws.length (M c) k'.f) ∧ (S ++ S').length ≤ (ws.length - cnt1) * 10001) := by
        refine ⟨hO7, metC_step HP.out HM.out.ok HR.out.2.1 HK.out.1 HK.out.2 hS7 hN7, hIn7, ?_⟩
        rw [List.length_append]
        have h1 : (ws.length - cnt + 1) * 10001 ≤ (ws.length - cnt1) * 10001 := Nat.mul_le_mul_right _ (by omega)
        omega
      clear hO7 hS7 hN7 hl7 hg7 hloc7 hIn7 hrg5 hen hltx hbr6
      go_wp2_with fail
      go_roundw
      case rel =>
        exact ⟨_, cnt1, S ++ S', g', cp', by simp, HF.out.1, hrg7, HF.out.2.1, by omega, HF.out.2.2.2, HF.out.2.2.1, hbr7, hne7⟩
      case measure => rw [hrg7.left_eq, hrg.left_eq]; exact hlt5
end Go.Proofs.Ytnncedndlhfdkac

/-
  What BuildRun hands back.
-/
namespace Go.Proofs.Ytnncedndlhfdkac
open Go.ChangeShapes Go.WideShapes Go.ChangeAt Go.RowKit Go.Deep
set_option linter.unusedVariables false
set_option maxRecDepth 100000

theorem specBuild_any (g : Nat) (ws : List Ent) (base : Nat) (w : World) (hO : OwnE w base g ws.length ws) (hok : ∀ e ∈ ws, e.ok) (hlen : ws.length ≤ 1048576) :
    Calls Try.prog 28 #[.slice (some ⟨g, 0, none⟩) ws.length ws.length] w fun r w' =>
      ∃ (a : Option Addr) (n c : Nat) (R : List Ent), r = .returned (.agg #[.slice a n c]) ∧ OwnU w' w.heap.size (.slice a n c) R ∧ RunOf ws R ∧ R.length ≤ ws.length ∧ Below w.heap.size w w' := by
  refine (specBuild_core g 0 ws.length ws w hO.at hok hO.lt.2 hlen).mono ?_
  rintro r w' ⟨g', cp, R, rfl, h1, h2, h3, h4, h5⟩
  exact ⟨_, _, _, R, rfl, .inr ⟨g', cp, rfl, h1⟩, ⟨h4, h5⟩, h3, h2⟩
theorem implBuild_at (b off cap : Nat) (ws : List Ent) (w : World) (hE : EntsAt w b off ws) (hok : ∀ e ∈ ws, e.ok) (hB : b < w.heap.size) (hl : ws.length ≤ cap) (hcap : cap ≤ maxLen) (hlen : ws.length ≤ 1048576) :
    Calls Try.prog 30 #[.slice (some ⟨b, off, none⟩) ws.length cap] w fun r w' =>
      ∃ (a : Option Addr) (n c : Nat) (R : List Ent), r = .returned (.agg #[.slice a n c]) ∧ OwnU w' w.heap.size (.slice a n c) R ∧ RunOf ws R ∧ Below w.heap.size w w' := by
  refine (implBuild_core b off cap ws w hE hok hB hl hcap hlen).mono ?_
  rintro r w' ⟨h | ⟨h1, g', cp, R, h2, h3, h4⟩, hb⟩
  · exact ⟨_, _, _, [], h.2, .inl ⟨rfl, rfl⟩, ⟨fun q => absurd q h.1, fun _ => rfl⟩, hb⟩
  · exact ⟨_, _, _, R, h2, .inr ⟨g', cp, rfl, h3⟩, ⟨fun _ => h4, fun q => absurd h1 q⟩, hb⟩
theorem implBuild_any (g : Nat) (ws : List Ent) (base : Nat) (w : World) (hO : OwnE w base g ws.length ws) (hok : ∀ e ∈ ws, e.ok) (hlen : ws.length ≤ 1048576) :
    Calls Try.prog 30 #[.slice (some ⟨g, 0, none⟩) ws.length ws.length] w fun r w' =>
      ∃ (a : Option Addr) (n c : Nat) (R : List Ent), r = .returned (.agg #[.slice a n c]) ∧ OwnU w' w.heap.size (.slice a n c) R ∧ RunOf ws R ∧ Below w.heap.size w w' :=
  implBuild_at g 0 ws.length ws w hO.at hok hO.lt.2 hO.caps.1 hO.caps.2 hlen
end Go.Proofs.Ytnncedndlhfdkac

