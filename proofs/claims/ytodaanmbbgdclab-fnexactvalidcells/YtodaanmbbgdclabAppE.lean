/-
  impl.appendEntries: what a column leaves, appended.
-/
import Derived.Test.YtodaanmbbgdclabCols
import Derived.Maps.AppendAt
import Derived.Laws.IdiomRangeMap
namespace Go.Proofs.Ytodaanmbbgdclab
open Go.ChangeShapes Go.WideShapes Go.ChangeAt Go.RowKit Go.Deep Go.Maps
set_option linter.unusedVariables false
set_option maxRecDepth 100000

/-- One entry appended to a row of the call's own: and where the row then lies. -/
theorem wpList_append_entAt {ops : Array Oper} {rest : List Oper} {o : Oper} {a : Act} {Q : Exit → Act → World → Prop} (w : World) (hgd : o.guard = none) (s x : Operand)
    (ho : o.op = .call { callee := .builtin .append, args := #[s, x], argTypes := #[27, 27] })
    (base g cp n blk : Nat) (fs : List Ent) (e : Ent) (hs : a.eval s = .slice (some ⟨g, 0, none⟩) n cp) (hx : a.eval x = .slice (some ⟨blk, 0, none⟩) 1 1) (hn : n = fs.length) (hO : OwnE w base g cp fs)
    (hc : EntsAt w blk 0 [e]) (hlen : fs.length ≤ 2 ^ 30) (hbase : base ≤ w.heap.size)
    (h : ∀ g' cp' w', OwnE w' base g' cp' (fs ++ [e]) → w.grownBy w' (some g) → (g' = g ∨ g' = w.heap.size) → wpList Try.prog ops Q rest (a.put o.dst (.slice (some ⟨g', 0, none⟩) (n + 1) cp')) w') : wpList Try.prog ops Q (o :: rest) a w := by
  obtain ⟨i, hi, hz0, hz1, hz2⟩ := info_parts Try.infoEnt
  subst hn
  obtain ⟨c0, c1, c2, c3, c4, c5⟩ := hc 0 e rfl
  refine wpList_append_own_at w hgd s x 27 ho base 49 i _ 6 80 Try.underlying27 hi hz0 hz1 hz2 rfl (by decide) (.slice (some ⟨g, 0, none⟩) fs.length cp) fs.length (cellsE fs) hs hO ⟨blk, 0, none⟩ 1 1 (cellsE [e]) hx rfl ?_ ?_ ?_ ?_ hbase ?_
  · intro j u hu
    have hj : j < 6 := by
      have := (List.getElem?_eq_some_iff.1 hu).1
      rw [length_cellsE] at this
      simpa using this
    rw [Addr.add_mid, Nat.zero_add]
    simp only [Nat.zero_mul, Nat.zero_add] at c0 c1 c2 c3 c4 c5
    match j, hj, hu with
    | 0, _, hu => simp [cellsE] at hu; rw [← hu]; exact c0
    | 1, _, hu => simp [cellsE] at hu; rw [← hu]; exact c1
    | 2, _, hu => simp [cellsE] at hu; rw [← hu]; exact c2
    | 3, _, hu => simp [cellsE] at hu; rw [← hu]; exact c3
    | 4, _, hu => simp [cellsE] at hu; rw [← hu]; exact c4
    | 5, _, hu => simp [cellsE] at hu; rw [← hu]; exact c5
  · intro u hu
    simp [cellsE] at hu
    rcases hu with rfl | rfl | rfl | rfl | rfl | rfl <;> rfl
  · unfold maxLen; omega
  · omega
  · intro v' w' hown hgr hnil hloc
    rw [← cellsE_append] at hown
    have hlen' : (fs ++ [e]).length = fs.length + 1 := by simp
    rcases hown.2 with ⟨hv, _⟩ | ⟨g', cap', cur, hv, h1, h2, h3⟩
    · have := (hnil.1 hv).1
      simp at this
    · subst hv
      refine h g' cap' w' (by unfold OwnE; rw [hlen']; exact hown) hgr ?_
      rcases hloc with q | q
      · exact .inl (Option.some.inj q)
      · exact .inr (Option.some.inj q)

theorem OwnE.kept {w w' : World} {base g cp : Nat} {fs : List Ent} {row : Option Nat} (h : OwnE w base g cp fs) (hg : w.grownBy w' row) (hne : some g ≠ row) : OwnE w' base g cp fs :=
  World.ownsRow.kept h hg (.inr hne)
theorem OwnE.ne_map {w : World} {base g cp b : Nat} {fs : List Ent} {es : Array MapEntry} {ck : Nat} (h : OwnE w base g cp fs) (hb : w.heap[b]? = some (.map es ck)) : g ≠ b := by
  rcases h.2 with ⟨h0, _⟩ | ⟨g', cap', cur, hv, _, hc, _⟩
  · cases h0
  · simp only [Value.slice.injEq, Option.some.injEq, Addr.mk.injEq, and_true, true_and] at hv
    obtain ⟨rfl, rfl⟩ := hv
    intro q
    rw [q, hb] at hc
    cases hc

/-- The delete that a column's state tells. -/
def delE (c : Col) (u : Int) : Ent := ⟨c.1, c.2.1, c.2.2, u, 2, ⟨#[]⟩⟩
def del0 (d : Bool) (c : Col) (u : Int) : List Ent := if d = true then [delE c u] else []

set_option maxHeartbeats 4000000 in
set_option maxRecDepth 100000 in
theorem appendE_none (d : Bool) (u : Int) (c : Col) (base g cp : Nat) (fs : List Ent) (w : World) (hO : OwnE w base g cp fs) (hlen : fs.length ≤ 2 ^ 28) (hbase : base ≤ w.heap.size) :
    Calls Try.prog 42 #[.agg #[.bool d, .int .u64 u, .map none], .slice (some ⟨g, 0, none⟩) fs.length cp, c.v] w fun r w' =>
      ∃ g' cp', r = .returned (.slice (some ⟨g', 0, none⟩) (fs ++ del0 d c u).length cp') ∧ OwnE w' base g' cp' (fs ++ del0 d c u) ∧ w.grownBy w' (some g) ∧ (g' = g ∨ w.heap.size ≤ g') := by
  have hg := hO.lt
  have HO : Hid (OwnE w base g cp fs) := hO
  clear hO
  obtain ⟨r, f, q⟩ := c
  unfold Col.v colV
  simp only
  cases d
  · have hrg := run_range_nilMap (P := Try.prog) ((w.alloc (Obj.cells #[.bool false, .int .u64 u, .map none] 74)).alloc (Obj.cells #[.string r, .string f, .string q] 71)) 72 _ _ Try.underlying72
    have hnx : ∀ ty, (Instr.next (.pointer (some ⟨((w.alloc (Obj.cells #[.bool false, .int .u64 u, .map none] 74)).alloc (Obj.cells #[.string r, .string f, .string q] 71)).heap.size, 0, none⟩)) false ty).run Try.prog (((w.alloc (Obj.cells #[.bool false, .int .u64 u, .map none] 74)).alloc (Obj.cells #[.string r, .string f, .string q] 71)).alloc (.mapIter none 0 #[] 0)) = _ := fun ty => run_next_nilMap _ ty 0 0 #[]
    have e1 : ((w.alloc (Obj.cells #[.bool false, .int .u64 u, .map none] 74)).alloc (Obj.cells #[.string r, .string f, .string q] 71)).heap.size = w.heap.size + 1 + 1 := by simp
    rw [e1] at hrg hnx
    clear e1
    go_enter Try.func42, Try.ntmps42
    go_wp2_with fail
    go_loopw [1] (fun s wr => s = .slice (some ⟨g, 0, none⟩) fs.length cp ∧ wr = (((w.alloc (Obj.cells #[.bool false, .int .u64 u, .map none] 74)).alloc (Obj.cells #[.string r, .string f, .string q] 71)).alloc (.mapIter none 0 #[] 0))) (fun _ _ => 0)
    case atStart => exact ⟨rfl, rfl⟩
    case round =>
      obtain ⟨rfl, rfl⟩ := hrel
      go_wp2_with fail
      go_ret
      have hb : Below w.heap.size w (((w.alloc (Obj.cells #[.bool false, .int .u64 u, .map none] 74)).alloc (Obj.cells #[.string r, .string f, .string q] 71)).alloc (.mapIter none 0 #[] 0)) := (((Below.refl _ _).alloc (Nat.le_refl _) _).alloc (by simp) _).alloc (by simp; omega) _
      refine ⟨g, cp, by simp [del0], ?_, grown_of_below hb _, .inl rfl⟩
      simp only [del0, List.append_nil, Bool.false_eq_true, if_false]
      exact HO.out.below hb hg.2
  · have hrg : ∀ W : World, (Instr.range 72 (.map none)).run Try.prog W = .ok (.pointer (some ⟨W.heap.size, 0, none⟩)) (W.alloc (.mapIter none 0 #[] 0)) := fun W => run_range_nilMap (P := Try.prog) W 72 _ _ Try.underlying72
    have hnx : ∀ (W : World) ty, (Instr.next (.pointer (some ⟨W.heap.size, 0, none⟩)) false ty).run Try.prog (W.alloc (.mapIter none 0 #[] 0)) = .ok (.tuple #[.bool false]) (W.alloc (.mapIter none 0 #[] 0)) := fun W ty => run_next_nilMap W ty 0 0 #[]
    go_enter Try.func42, Try.ntmps42
    go_wp2_with (at_builtin; refine wpList_append_entAt _ rfl _ _ rfl base g cp _ _ fs (delE (r, f, q) u) rfl rfl rfl ?hO ?hc ?hl ?hb ?_)
    case hO => exact HO.out.below ((((Below.refl _ _).alloc (Nat.le_refl _) _).alloc (by simp) _).alloc (by simp; omega) _) hg.2
    case hc =>
      have h := ent_new ((w.alloc (Obj.cells #[.bool true, .int .u64 u, .map none] 74)).alloc (Obj.cells #[.string r, .string f, .string q] 71)) (delE (r, f, q) u)
      simpa [delE] using h
    case hl => omega
    case hb => simp; omega
    intro g' cp' w' hO' hgr hloc
    have hb3 : Below w.heap.size w (((w.alloc (Obj.cells #[.bool true, .int .u64 u, .map none] 74)).alloc (Obj.cells #[.string r, .string f, .string q] 71)).alloc (Obj.cells #[.string r, .string f, .string q, .int .u64 u, .int .i64 2, .string ⟨#[]⟩] 49)) := (((Below.refl _ _).alloc (Nat.le_refl _) _).alloc (by simp) _).alloc (by simp; omega) _
    have c2 : w'.cell? ⟨w.heap.size, 2, none⟩ = some (.map none) := by
      have hk := hgr.block w.heap.size (by simp; omega) (fun q => by injection q; omega)
      rw [World.cell?_of_block (a := ⟨w.heap.size, 2, none⟩) hk]
      go_simp
    have hgw : w.grownBy w' (some g) := ⟨hgr.os.trans hb3.os, hgr.tape.trans hb3.tape, hgr.output.trans hb3.output, Nat.le_trans hb3.size hgr.size, fun j hj hne => (hgr.block j (by simp; omega) hne).trans (hb3.block j hj)⟩
    have HO' : Hid (OwnE w' base g' cp' (fs ++ [delE (r, f, q) u]) ∧ w.grownBy w' (some g) ∧ (g' = g ∨ w.heap.size ≤ g')) := ⟨hO', hgw, hloc.imp id (fun q => by first | omega | (rw [q]; omega) | (rw [q]; simp; omega))⟩
    clear hO' hgr hloc hb3 hgw
    go_wp2_with fail
    go_loopw [1] (fun s wr => s = .slice (some ⟨g', 0, none⟩) (fs.length + 1) cp' ∧ wr = w'.alloc (.mapIter none 0 #[] 0)) (fun _ _ => 0)
    case atStart => exact ⟨rfl, rfl⟩
    case round =>
      obtain ⟨rfl, rfl⟩ := hrel
      go_wp2_with fail
      go_ret
      have hb : Below w'.heap.size w' (w'.alloc (.mapIter none 0 #[] 0)) := (Below.refl _ _).alloc (Nat.le_refl _) _
      refine ⟨g', cp', by simp [del0], ?_, HO'.out.2.1.trans (grown_of_below hb _), HO'.out.2.2⟩
      simp only [del0, if_true]
      exact HO'.out.1.below hb HO'.out.1.lt.2

/-- The entries that a map from timestamps holds. -/
def Holds6 (F : Int → Option Ent) (S : List Ent) : Prop := (∀ x, x ∈ S ↔ ∃ t, (Lit.int .u64 t).wf = true ∧ F t = some x) ∧ S.Nodup
def HoldsTo (F : Int → Option Ent) (left : Lit → Bool) (S : List Ent) : Prop := (∀ x, x ∈ S ↔ ∃ t, (Lit.int .u64 t).wf = true ∧ F t = some x ∧ left (.int .u64 t) = false) ∧ S.Nodup
theorem holdsTo_step {F : Int → Option Ent} {left : Lit → Bool} {S : List Ent} {t : Int} {e : Ent} (h : HoldsTo F left S) (hts : ∀ t e, F t = some e → e.ts = t) (hw : (Lit.int .u64 t).wf = true) (he : F t = some e) (hl : left (.int .u64 t) = true) :
    HoldsTo F (fun z => left z && !z.sameKey (.int .u64 t)) (S ++ [e]) := by
  have hkey : WideAt.IsKeyLit (.int .u64 t) := lawTs.key (keyTs hw)
  have hne : e ∉ S := fun hm => by
    obtain ⟨t', h1, h2, h3⟩ := (h.1 e).1 hm
    have : t' = t := (hts t' e h2).symm.trans (hts t e he)
    subst this
    rw [hl] at h3
    cases h3
  refine ⟨fun x => ?_, ?_⟩
  · rw [List.mem_append, h.1 x]
    constructor
    · rintro (⟨t', h1, h2, h3⟩ | hx)
      · exact ⟨t', h1, h2, by simp [h3]⟩
      · simp at hx
        subst hx
        exact ⟨t, hw, he, by simp [Lit.sameKey]⟩
    · rintro ⟨t', h1, h2, h3⟩
      by_cases q : t' = t
      · subst q
        rw [he] at h2
        simp at h2
        right; simp [h2]
      · left
        have hs : (Lit.int .u64 t').sameKey (.int .u64 t) = false := Maps.sameKey_ne (fun e => q (by injection e))
        refine ⟨t', h1, h2, ?_⟩
        simpa [hs] using h3
  · rw [List.nodup_append]
    exact ⟨h.2, by simp, fun a ha b hb => by simp at hb; subst hb; exact fun q => hne (q ▸ ha)⟩

set_option maxHeartbeats 4000000 in
set_option maxRecDepth 100000 in
theorem appendE_some (d : Bool) (u : Int) (c : Col) (b n base g cp : Nat) (F : Int → Option Ent) (fs : List Ent) (w : World) (hI : Inn w b n F) (hts : ∀ t e, F t = some e → e.ts = t) (hO : OwnE w base g cp fs) (hlen : fs.length ≤ 2 ^ 28) (hn : n ≤ 2 ^ 20) (hbase : base ≤ w.heap.size) :
    Calls Try.prog 42 #[.agg #[.bool d, .int .u64 u, .map (some b)], .slice (some ⟨g, 0, none⟩) fs.length cp, c.v] w fun r w' =>
      ∃ g' cp' S, r = .returned (.slice (some ⟨g', 0, none⟩) (fs ++ del0 d c u ++ S).length cp') ∧ OwnE w' base g' cp' (fs ++ del0 d c u ++ S) ∧ Holds6 F S ∧ w.grownBy w' (some g) ∧ (g' = g ∨ w.heap.size ≤ g') ∧ S.length ≤ n := by
  have hg := hO.lt
  have hbl := hI.lt
  have HO : Hid (OwnE w base g cp fs ∧ Inn w b n F ∧ ∀ t e, F t = some e → e.ts = t) := ⟨hO, hI, hts⟩
  have hgb : g ≠ b := by
    obtain ⟨D, ⟨es, ck, hh, _⟩, _⟩ := hI
    exact hO.ne_map hh
  clear hO hI hts
  obtain ⟨r, f, q⟩ := c
  unfold Col.v colV
  simp only
  go_enter Try.func42, Try.ntmps42
  go_upto_if 10 with fail
  go_cut [1] (fun s wx => ∃ g1 cp1, s = .slice (some ⟨g1, 0, none⟩) (fs ++ del0 d (r, f, q) u).length cp1 ∧ OwnE wx base g1 cp1 (fs ++ del0 d (r, f, q) u) ∧ w.grownBy wx (some g) ∧ (g1 = g ∨ w.heap.size ≤ g1) ∧ wx.cell? ⟨w.heap.size, 2, none⟩ = some (.map (some b)) ∧ w.heap.size + 2 ≤ wx.heap.size)
  case first =>
    cases d
    · go_wp2_with fail
      go_meet
      have hb2 : Below w.heap.size w ((w.alloc (Obj.cells #[.bool false, .int .u64 u, .map (some b)] 74)).alloc (Obj.cells #[.string r, .string f, .string q] 71)) := ((Below.refl _ _).alloc (Nat.le_refl _) _).alloc (by simp) _
      refine ⟨g, cp, by simp [del0], ?_, grown_of_below hb2 _, .inl rfl, by go_simp, by simp⟩
      simp only [del0, List.append_nil, Bool.false_eq_true, if_false]
      exact HO.out.1.below hb2 hg.2
    · go_wp2_with (at_builtin; refine wpList_append_entAt _ rfl _ _ rfl base g cp _ _ fs (delE (r, f, q) u) rfl rfl rfl ?hO ?hc ?hl ?hb ?_)
      case hO => exact HO.out.1.below ((((Below.refl _ _).alloc (Nat.le_refl _) _).alloc (by simp) _).alloc (by simp; omega) _) hg.2
      case hc =>
        have h := ent_new ((w.alloc (Obj.cells #[.bool true, .int .u64 u, .map (some b)] 74)).alloc (Obj.cells #[.string r, .string f, .string q] 71)) (delE (r, f, q) u)
        simpa [delE] using h
      case hl => omega
      case hb => simp; omega
      intro g' cp' w' hO' hgr hloc
      have hb3 : Below w.heap.size w (((w.alloc (Obj.cells #[.bool true, .int .u64 u, .map (some b)] 74)).alloc (Obj.cells #[.string r, .string f, .string q] 71)).alloc (Obj.cells #[.string r, .string f, .string q, .int .u64 u, .int .i64 2, .string ⟨#[]⟩] 49)) := (((Below.refl _ _).alloc (Nat.le_refl _) _).alloc (by simp) _).alloc (by simp; omega) _
      have c2 : w'.cell? ⟨w.heap.size, 2, none⟩ = some (.map (some b)) := by
        have hk := hgr.block w.heap.size (by simp; omega) (fun q => by injection q; omega)
        rw [World.cell?_of_block (a := ⟨w.heap.size, 2, none⟩) hk]
        go_simp
      have hgw : w.grownBy w' (some g) := ⟨hgr.os.trans hb3.os, hgr.tape.trans hb3.tape, hgr.output.trans hb3.output, Nat.le_trans hb3.size hgr.size, fun j hj hne => (hgr.block j (by simp; omega) hne).trans (hb3.block j hj)⟩
      have HO' : Hid (OwnE w' base g' cp' (fs ++ [delE (r, f, q) u]) ∧ w.grownBy w' (some g) ∧ (g' = g ∨ w.heap.size ≤ g') ∧ w.heap.size + 2 ≤ w'.heap.size) := ⟨hO', hgw, hloc.imp id (fun q => by first | omega | (rw [q]; omega) | (rw [q]; simp; omega)), by have := hgr.size; simp at this; omega⟩
      clear hO' hgr hloc hb3 hgw
      go_wp2_with fail
      go_meet
      refine ⟨g', cp', by simp [del0], ?_, HO'.out.2.1, HO'.out.2.2.1, c2, HO'.out.2.2.2⟩
      simp only [del0, if_true]
      exact HO'.out.1
  case rest =>
  obtain ⟨g1, cp1, rfl, hO1, hgw, hloc, c2, hsz⟩ := hcut
  obtain ⟨D, hD, hv⟩ := HO.out.2.1.kept hgw (fun q => hgb (Option.some.inj q).symm)
  obtain ⟨fs1, hfs1⟩ : ∃ fs1 : List Ent, fs1 = fs ++ del0 d (r, f, q) u := ⟨_, rfl⟩
  rw [← hfs1] at hO1 ⊢
  have hfl : fs1.length ≤ 2 ^ 28 + 1 := by
    rw [hfs1]; unfold del0; split <;> simp <;> omega
  have HO1 : Hid (OwnE wc base g1 cp1 fs1 ∧ w.grownBy wc (some g) ∧ (g1 = g ∨ w.heap.size ≤ g1)) := ⟨hO1, hgw, hloc⟩
  have HV : Hid (∀ t, (Lit.int .u64 t).wf = true → (F t = none ∧ Maps.has D (.int .u64 t) = false) ∨ ∃ e, F t = some e ∧ Maps.has D (.int .u64 t) = true ∧ ∀ z, D.atKey (.int .u64 t) z = .held e.v) := hv
  have hsd := hD.size_le
  have hbw := hD.lt
  have HFS : Hid (fs1 = fs ++ del0 d (r, f, q) u) := hfs1
  have hg1 := hO1.lt
  have hgs := hgw.size
  clear hv hfs1 hO1 hgw hloc
  go_wp2_with (at_range; refine wpList_range_own _ rfl _ 72 rfl 47 49 lawTs Try.underlying72 Rh b n D rfl hD ?_; intro w0 hrg0 hg0 hs0)
  go_frame
  have HS0 : Hid (HoldsTo F (Maps.has D) []) := by
    refine ⟨fun x => ⟨fun h => by simp at h, ?_⟩, List.nodup_nil⟩
    rintro ⟨t, h1, h2, h3⟩
    rcases HV.out t h1 with ⟨q1, _⟩ | ⟨e, _, q2, _⟩
    · rw [q1] at h2; cases h2
    · rw [q2] at h3; cases h3
  have hgb1 : g1 ≠ b := by
    obtain ⟨es, ck, hh, _⟩ := hD
    exact HO1.out.1.ne_map hh
  go_loopw [1] (fun s wr => ∃ (left : Lit → Bool) (cnt : Nat) (S : List Ent) (g2 cp2 : Nat), s = .slice (some ⟨g2, 0, none⟩) (fs1.length + S.length) cp2 ∧ OwnE wr base g2 cp2 (fs1 ++ S) ∧ wr.ranges Try.prog 47 Rh b wc.heap.size n D left cnt ∧ HoldsTo F left S ∧ S.length + cnt ≤ n ∧ w.grownBy wr (some g) ∧ (g2 = g ∨ w.heap.size ≤ g2) ∧ g2 ≠ b ∧ g2 ≠ wc.heap.size) (fun _ wr => wr.rangeLeft b wc.heap.size)
  case atStart =>
    exact ⟨Maps.has D, Maps.size D, [], g1, cp1, by simp, by rw [List.append_nil]; exact HO1.out.1.kept hg0 (by simp), hrg0, HS0.out, by simpa using hsd, HO1.out.2.1.trans (hg0.but _), HO1.out.2.2, hgb1, by omega⟩
  case round =>
    obtain ⟨left, cnt, S, g2, cp2, rfl, hO2, hrg, hH, hcn, hgr2, hloc2, hne1, hne2⟩ := hrel
    have HR : Hid (OwnE wr base g2 cp2 (fs1 ++ S) ∧ HoldsTo F left S ∧ w.grownBy wr (some g) ∧ (g2 = g ∨ w.heap.size ≤ g2)) := ⟨hO2, hH, hgr2, hloc2⟩
    have hg2 := hO2.lt
    have hs2 := hgr2.size
    have hrl := hrg.lt
    clear hO2 hH hgr2 hloc2
    go_wp2_with (at_next; refine wpList_next_ranges _ rfl _ rfl 47 lawTs Rh (fun t : Int => Value.int .u64 t) (fun v : Value => v) (fun key kl h => by obtain ⟨x, h1, _⟩ := Maps.keyOf_int_inv Try.underlying47 h; exact ⟨x, h1⟩) (fun v y _ => ⟨v, rfl⟩) b wc.heap.size n D left cnt rfl hrg ?_ ?_)
    · intro h0 hl
      have HL : Hid (∀ kl, left kl = false) := hl
      clear hl
      go_wp2_with fail
      go_ret
      refine ⟨g2, cp2, S, ?_, ?_, ?_, HR.out.2.2.1, HR.out.2.2.2, by omega⟩
      · rw [← HFS.out, List.length_append]; rfl
      · rw [← HFS.out]; exact HR.out.1
      · refine ⟨fun x => (HR.out.2.1.1 x).trans ⟨fun ⟨t, a1, a2, _⟩ => ⟨t, a1, a2⟩, fun ⟨t, a1, a2⟩ => ⟨t, a1, a2, HL.out _⟩⟩, HR.out.2.1.2⟩
    · intro x c kl y1 y2 w1 cnt1 hkey hlk hvv hat hrg1 hlt1 hg1' hs1 hen
      obtain ⟨x', q1, q2, q3⟩ := Maps.keyOf_int_inv Try.underlying47 hkey
      have q4 : x' = x := by injection q1 with _ q; exact q.symm
      subst q4
      subst q2
      obtain ⟨e, he, hce⟩ : ∃ e, F x' = some e ∧ c = e.v := by
        rcases HV.out x' q3 with ⟨_, h2⟩ | ⟨e, h1, h2, h3⟩
        · have := hat (.held (.bool true))
          rw [Maps.atKey_of_not_has h2] at this
          have h5 := hat (.held (.bool false))
          rw [Maps.atKey_of_not_has h2] at h5
          rw [← h5] at this
          cases this
        · refine ⟨e, h1, ?_⟩
          have h4 := hat (.held (.bool true))
          rw [h3] at h4
          have h5 := (Rh_eq hvv).1
          rw [h5] at h4
          injection h4 with h4
          exact h4.symm
      subst hce
      have HE : Hid (F x' = some e ∧ (Lit.int .u64 x').wf = true ∧ left (.int .u64 x') = true) := ⟨he, q3, hlk⟩
      clear he q3 hlk hat hvv hkey q1
      unfold Ent.v at *
      have HO3 : Hid (OwnE w1 base g2 cp2 (fs1 ++ S)) := HR.out.1.kept hg1' (fun q => hne2 (Option.some.inj q))
      have hs1' : w1.heap.size = wr.heap.size := hs1
      have HS1 : Hid (w1.heap.size = wr.heap.size) := hs1'
      have hle1 : wr.heap.size ≤ w1.heap.size := by omega
      have hle2 : w1.heap.size ≤ wr.heap.size := by omega
      have HG1 : Hid (wr.grownBy w1 (some wc.heap.size)) := hg1'
      clear hs1 hs1' hg1'
      go_wp2_with (at_builtin; refine wpList_append_entAt _ rfl _ _ rfl base g2 cp2 _ _ (fs1 ++ S) e rfl rfl (by simp) ?hO ?hc ?hl ?hb ?_)
      case hO => exact HO3.out.below (((Below.refl _ _).alloc (Nat.le_refl _) _).alloc (by simp) _) (by omega)
      case hc =>
        have h := ent_new (w1.alloc (Obj.cells #[.string e.row, .string e.fam, .string e.qual, .int .u64 e.ts, .int .i64 e.kind, .string e.val] 49)) e
        simpa using h
      case hl => simp; omega
      case hb => simp; omega
      intro g' cp' w' hO' hgr hloc
      have hbx : Below w1.heap.size w1 ((w1.alloc (Obj.cells #[.string e.row, .string e.fam, .string e.qual, .int .u64 e.ts, .int .i64 e.kind, .string e.val] 49)).alloc (Obj.cells #[.string e.row, .string e.fam, .string e.qual, .int .u64 e.ts, .int .i64 e.kind, .string e.val] 49)) := ((Below.refl _ _).alloc (Nat.le_refl _) _).alloc (by simp) _
      have hg4 : w1.grownBy w' (some g2) := ⟨hgr.os.trans hbx.os, hgr.tape.trans hbx.tape, hgr.output.trans hbx.output, Nat.le_trans hbx.size hgr.size, fun j hj hne => (hgr.block j (by simp; omega) hne).trans (hbx.block j hj)⟩
      have hrg4 := hrg1.kept hg4 (fun q => hne1 (Option.some.inj q).symm) (fun q => hne2 (Option.some.inj q).symm)
      have hgw' : w.grownBy w' (some g) := by
        have a1 := HR.out.2.2.1.andThen HG1.out (fun j hj => by cases hj; left; omega)
        exact a1.andThen hg4 (fun j hj => by
          cases hj
          rcases HR.out.2.2.2 with q | q
          · right; rw [q]
          · left; exact q)
      have hloc' : g' = g ∨ w.heap.size ≤ g' := by
        rcases hloc with q | q
        · rw [q]; exact HR.out.2.2.2
        · right
          first
            | omega
            | (rw [q]; simp; omega)
      have hne1' : g' ≠ b := by
        obtain ⟨es, ck, hh, _⟩ := hrg4.owns
        exact hO'.ne_map hh
      have hne2' : g' ≠ wc.heap.size := by
        rcases hloc with q | q
        · rw [q]; exact hne2
        · intro q2
          have h5 := q.symm.trans q2
          first
            | omega
            | (simp at h5; omega)
      have HF : Hid (OwnE w' base g' cp' (fs1 ++ (S ++ [e])) ∧ HoldsTo F (fun z => left z && !z.sameKey (.int .u64 x')) (S ++ [e]) ∧ w.grownBy w' (some g) ∧ (g' = g ∨ w.heap.size ≤ g')) := ⟨hO', holdsTo_step HR.out.2.1 HO.out.2.2 HE.out.2.1 HE.out.1 HE.out.2.2, hgw', hloc'⟩
      clear hO' hgr hloc hbx hg4 hgw' hloc' hrg1 hen
      go_wp2_with fail
      go_roundw
      case rel =>
        refine ⟨_, cnt1, S ++ [e], g', cp', ?_, ?_, hrg4, HF.out.2.1, ?_, HF.out.2.2.1, HF.out.2.2.2, hne1', hne2'⟩
        · simp; omega
        · exact HF.out.1
        · simp; omega
      case measure => rw [hrg4.left_eq, hrg.left_eq]; exact hlt1
end Go.Proofs.Ytodaanmbbgdclab
