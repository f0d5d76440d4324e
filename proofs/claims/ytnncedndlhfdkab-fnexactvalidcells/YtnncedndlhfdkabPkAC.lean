import Derived.Maps.AppendAt
import Derived.Laws.IdiomRangeMap
import Derived.Deep.RegionLaw
import Derived.Deep.AppendLies
import Derived.Deep.QuietTactic
import Derived.BigQuiet
import Derived.Test.YtnncedndlhfdkabPkAB
import Derived.Test.YtnncedndlhfdkabPkAA
/-
  The columns of a list of writes: the model, and the map that holds them.
-/
namespace Go.Proofs.Ytnncedndlhfdkab
open Go.ChangeShapes Go.WideShapes Go.ChangeAt Go.RowKit Go.Deep Go.Maps
set_option linter.unusedVariables false
set_option maxRecDepth 100000

/-- What a list of writes leaves of one column. -/
structure CW where
  d : Bool
  u : Int
  f : Int → Option Ent
def cw0 : CW := ⟨false, 0, fun _ => none⟩
def cwAdd (c : CW) (e : Ent) : CW :=
  if e.kind = 2 then ⟨true, max c.u e.ts, c.f⟩
  else if c.d = true ∧ e.ts ≤ c.u then c
  else ⟨c.d, c.u, fun t => if t = e.ts then (if (c.f t).isSome then c.f t else some e) else c.f t⟩
/-- A column's name. -/
abbrev Col := ByteArray × ByteArray × ByteArray
def Ent.wcol (e : Ent) : Col := (e.row, e.fam, e.qual)
def colsOf : List Ent → Col → Option CW
  | [], _ => none
  | w :: rest, c => if c = w.wcol then some (cwAdd ((colsOf rest c).getD cw0) w) else colsOf rest c

def Col.okc (c : Col) : Prop := c.1.size ≤ maxLen ∧ c.2.1.size ≤ maxLen ∧ c.2.2.size ≤ maxLen
abbrev Col.v (c : Col) : Value := colV c.1 c.2.1 c.2.2
def Col.l (c : Col) : Lit := colL c.1 c.2.1 c.2.2
theorem Col.key {c : Col} (h : c.okc) : keyOf Try.prog 84 c.v = some c.l := keyCol h.1 h.2.1 h.2.2
theorem Col.inj {c c' : Col} (h : c.okc) (h' : c'.okc) (e : c.l = c'.l) : c = c' := by
  have h1 := Col.key h
  have h2 := Col.key h'
  rw [← e] at h2
  have := lawCol.inj h1 h2
  obtain ⟨a, b, d⟩ := c
  obtain ⟨a', b', d'⟩ := c'
  simp at this
  obtain ⟨rfl, rfl, rfl⟩ := this
  rfl

/-- The inner map of a column. -/
def Inner (w : World) (base N : Nat) (m : Option Nat) (f : Int → Option Ent) : Prop :=
  (m = none ∧ f = fun _ => none) ∨ ∃ b n, m = some b ∧ Inn w b n f ∧ n ≤ N ∧ base ≤ b
theorem Inner.kept {w w' : World} {base N : Nat} {m : Option Nat} {f : Int → Option Ent} {row : Option Nat} (h : Inner w base N m f) (hg : w.grownBy w' row) (hne : m = none ∨ m ≠ row) : Inner w' base N m f := by
  rcases h with h | ⟨b, n, rfl, h, hn, hb⟩
  · exact .inl h
  · refine .inr ⟨b, n, rfl, h.kept hg ?_, hn, hb⟩
    rcases hne with e | e
    · cases e
    · exact e
theorem Inner.mono {w : World} {base N N' : Nat} {m : Option Nat} {f : Int → Option Ent} (h : Inner w base N m f) (hn : N ≤ N') : Inner w base N' m f := by
  rcases h with h | ⟨b, n, rfl, h, h1, hb⟩
  · exact .inl h
  · exact .inr ⟨b, n, rfl, h, by omega, hb⟩

/-- Block 'B' is the map of the columns 'G'; 'M' says where their inner maps lie. -/
structure Outer (w : World) (base B N : Nat) (G : Col → Option CW) (M : Col → Option Nat) : Prop where
  map : ∃ D, w.ownsMap Try.prog 84 Rh B N D ∧ ∀ c, Col.okc c → (G c = none ∧ Maps.has D c.l = false) ∨ ∃ k, G c = some k ∧ Maps.has D c.l = true ∧ ∀ z, D.atKey c.l z = .held (.agg #[.bool k.d, .int .u64 k.u, .map (M c)])
  inner : ∀ c k, G c = some k → Inner w base N (M c) k.f
  nom : ∀ c, G c = none → M c = none
  apart : ∀ c c' b, M c = some b → M c' = some b → c = c'
  off : ∀ c b, M c = some b → b ≠ B
  ok : ∀ c k, G c = some k → Col.okc c

theorem zeroCW (w : World) : (zeroValue 87).run Try.prog w = .ok (.agg #[.bool false, .int .u64 0, .map none]) w := by kernel_rfl

theorem Outer.look {w : World} {base B N : Nat} {G : Col → Option CW} {M : Col → Option Nat} (h : Outer w base B N G M) {c : Col} (hc : Col.okc c) :
    (Instr.lookup 81 (.map (some B)) c.v false).run Try.prog w = .ok (.agg #[.bool ((G c).getD cw0).d, .int .u64 ((G c).getD cw0).u, .map (M c)]) w := by
  obtain ⟨D, hD, hv⟩ := h.map
  obtain ⟨v, ps, hrun, hR⟩ := hD.lookup lawCol Try.underlying81 (zeroCW w) (zd := .held (.agg #[.bool false, .int .u64 0, .map none])) (zp := []) rfl (Col.key hc)
  have hR' := (Rh_eq hR).1
  rcases hv c hc with ⟨h1, h2⟩ | ⟨k, h1, h2, h3⟩
  · rw [Maps.atKey_of_not_has h2] at hR'
    simp only [DataW.held.injEq] at hR'
    rw [h1, h.nom c h1, hrun, ← hR']; rfl
  · rw [h3] at hR'
    simp only [DataW.held.injEq] at hR'
    rw [h1, hrun, ← hR']; rfl

theorem Outer.lt {w : World} {base B N : Nat} {G : Col → Option CW} {M : Col → Option Nat} (h : Outer w base B N G M) : B < w.heap.size := by
  obtain ⟨D, hD, _⟩ := h.map
  exact hD.lt
theorem Outer.inLt {w : World} {base B N : Nat} {G : Col → Option CW} {M : Col → Option Nat} (h : Outer w base B N G M) {c : Col} {b : Nat} (hb : M c = some b) : b < w.heap.size ∧ base ≤ b := by
  cases hg : G c with
  | none => rw [h.nom c hg] at hb; cases hb
  | some k =>
    rcases h.inner c k hg with ⟨e, _⟩ | ⟨b', n, e, hi, _, hbb⟩
    · rw [e] at hb; cases hb
    · rw [e] at hb
      injection hb with hb
      subst hb
      exact ⟨hi.lt, hbb⟩
theorem Outer.kept {w w' : World} {base B N : Nat} {G : Col → Option CW} {M : Col → Option Nat} (h : Outer w base B N G M) (hg : w.grownBy w' none) : Outer w' base B N G M := by
  obtain ⟨D, hD, hv⟩ := h.map
  exact ⟨⟨D, hD.kept hg (by simp), hv⟩, fun c k hk => (h.inner c k hk).kept hg (by cases M c <;> simp), h.nom, h.apart, h.off, h.ok⟩
theorem Outer.made (w : World) (base : Nat) : Outer (w.alloc (.map #[] 0)) base w.heap.size 0 (fun _ => none) (fun _ => none) :=
  ⟨⟨.map [], World.ownsMap_made w Try.prog 84 Rh, fun c _ => .inl ⟨rfl, rfl⟩⟩, fun c k h => (by cases h), fun _ _ => rfl, fun _ _ _ h => (by cases h), fun _ _ h => (by cases h), fun _ _ h => (by cases h)⟩

theorem Outer.put {w w' : World} {base B N : Nat} {G : Col → Option CW} {M : Col → Option Nat} (h : Outer w base B N G M) {c : Col} (hc : Col.okc c) (hN : N < maxLen) (hg : w.grownBy w' (M c)) (k : CW) (m : Option Nat)
    (hi : Inner w' base (N + 1) m k.f) (hm : m = M c ∨ (M c = none ∧ ∃ b, m = some b ∧ w.heap.size ≤ b)) :
    ∃ w'', (Instr.mapUpdate 81 (.map (some B)) c.v (.agg #[.bool k.d, .int .u64 k.u, .map m])).run Try.prog w' = .ok () w'' ∧
      Outer w'' base B (N + 1) (fun x => if x = c then some k else G x) (fun x => if x = c then m else M x) ∧ w'.grownBy w'' (some B) := by
  obtain ⟨D, hD, hv⟩ := h.map
  have hne : some B ≠ M c := fun q => h.off c B q.symm rfl
  obtain ⟨w'', hrun, ho, hg2⟩ := (hD.kept hg hne).update lawCol Try.underlying81 hN (Col.key hc) (val := .agg #[.bool k.d, .int .u64 k.u, .map m]) (d := .held (.agg #[.bool k.d, .int .u64 k.u, .map m])) (ps := []) rfl
  clear hN
  have hmB : ∀ b, m = some b → b ≠ B := fun b hb => by
    rcases hm with e | ⟨_, b', e, hlt⟩
    · rw [e] at hb; exact h.off c b hb
    · rw [e] at hb
      injection hb with hb
      have := h.lt
      omega
  refine ⟨w'', hrun, ⟨⟨_, ho, fun x hx => ?_⟩, fun x kx hk => ?_, fun x hx => ?_, fun x y b hx hy => ?_, fun x b hx => ?_, fun x kx hk => ?_⟩, hg2⟩
  · by_cases e : x = c
    · subst e
      exact .inr ⟨k, by simp, Maps.has_put_same (hD.kept hg hne).isMap (lawCol.key (Col.key hc)) _, fun z => by rw [if_pos rfl]; exact Maps.atKey_put_same (hD.kept hg hne).isMap (lawCol.key (Col.key hc)) _ z⟩
    · have hl : x.l ≠ c.l := fun q => e (Col.inj hx hc q)
      rcases hv x hx with ⟨h1, h2⟩ | ⟨kk, h1, h2, h3⟩
      · exact .inl ⟨by simp [e, h1], by rw [Maps.has_put_other hl]; exact h2⟩
      · exact .inr ⟨kk, by simp [e, h1], by rw [Maps.has_put_other hl]; exact h2, fun z => by rw [Maps.atKey_put_other hl, if_neg e]; exact h3 z⟩
  · by_cases e : x = c
    · subst e
      simp at hk
      subst hk
      simp only [if_true]
      refine hi.kept hg2 ?_
      cases hq : m with
      | none => exact .inl rfl
      | some b => exact .inr (fun q => hmB b hq (by injection q))
    · simp [e] at hk
      simp only [e, if_false]
      have h0 := h.inner x kx hk
      have h1 : Inner w' base N (M x) kx.f := h0.kept hg (by
        cases hq : M x with
        | none => exact .inl rfl
        | some b => exact .inr (fun q => e (h.apart x c b hq q.symm)))
      refine (h1.kept hg2 ?_).mono (by omega)
      cases hq : M x with
      | none => exact .inl rfl
      | some b => exact .inr (fun q => h.off x b hq (by injection q))
  · by_cases e : x = c
    · simp [e] at hx
    · simp [e] at hx ⊢
      exact h.nom x hx
  · by_cases e : x = c
    · by_cases e' : y = c
      · rw [e, e']
      · simp [e] at hx
        simp [e'] at hy
        rcases hm with q | ⟨_, b', q, hlt⟩
        · rw [q] at hx; rw [e]; exact h.apart c y b hx hy
        · rw [q] at hx
          have hx' : b' = b := Option.some.inj hx
          exact absurd (h.inLt hy).1 (by rw [← hx']; exact Nat.not_lt.2 hlt)
    · by_cases e' : y = c
      · simp [e] at hx
        simp [e'] at hy
        rcases hm with q | ⟨_, b', q, hlt⟩
        · rw [q] at hy; rw [e']; exact h.apart x c b hx hy
        · rw [q] at hy
          have hy' : b' = b := Option.some.inj hy
          exact absurd (h.inLt hx).1 (by rw [← hy']; exact Nat.not_lt.2 hlt)
      · simp [e] at hx
        simp [e'] at hy
        exact h.apart x y b hx hy
  · by_cases e : x = c
    · simp [e] at hx; exact hmB b hx
    · simp [e] at hx; exact h.off x b hx
  · by_cases e : x = c
    · rw [e]; exact hc
    · simp [e] at hk; exact h.ok x kx hk
end Go.Proofs.Ytnncedndlhfdkab

/-
  impl.appendEntries: what a column leaves, appended.
-/
namespace Go.Proofs.Ytnncedndlhfdkab
open Go.ChangeShapes Go.WideShapes Go.ChangeAt Go.RowKit Go.Deep Go.Maps
set_option linter.unusedVariables false
set_option maxRecDepth 100000

/-- One entry appended to a row of the call's own: and where the row then lies. -/
theorem wpList_append_entAt {ops : Array Oper} {rest : List Oper} {o : Oper} {a : Act} {Q : Exit → Act → World → Prop} (w : World) (hgd : o.guard = none) (s x : Operand)
    (ho : o.op = .call { callee := .builtin .append, args := #[s, x], argTypes := #[27, 27] })
    (base g cp n blk : Nat) (fs : List Ent) (e : Ent) (hs : a.eval s = .slice (some ⟨g, 0, none⟩) n cp) (hx : a.eval x = .slice (some ⟨blk, 0, none⟩) 1 1) (hn : n = fs.length) (hO : OwnE w base g cp fs)
    (hc : EntsAt w blk 0 [e]) (hlen : fs.length ≤ 2 ^ 30) (hbase : base ≤ w.heap.size)
    (h : ∀ g' cp' w', OwnE w' base g' cp' (fs ++ [e]) → w.grownBy w' (some g) → (g' = g ∨ g' = w.heap.size) → wpList Try.prog ops Q rest (a.put o.dst (.slice (some ⟨g', 0, none⟩) (n + 1) cp')) w') : wpList Try.prog ops Q (o :: rest) a w := by
  obtain ⟨i, hi, hz0, hz1, hz2⟩ := info_parts Try.infoEnt
  subst hn
  obtain ⟨c0, c1, c2, c3, c4, c5⟩ := hc 0 e rfl
  refine wpList_append_own_at w hgd s x 27 ho base 62 i _ 6 80 Try.underlying27 hi hz0 hz1 hz2 rfl (by decide) (.slice (some ⟨g, 0, none⟩) fs.length cp) fs.length (cellsE fs) hs hO ⟨blk, 0, none⟩ 1 1 (cellsE [e]) hx rfl ?_ ?_ ?_ ?_ hbase ?_
  · intro j u hu
    have hj : j < 6 := by
      have := (List.getElem?_eq_some_iff.1 hu).1
      rw [length_cellsE] at this
      simpa using this
    rw [Addr.add_mid, Nat.zero_add]
    simp only [Nat.zero_mul, Nat.zero_add] at c0 c1 c2 c3 c4 c5
    match j, hj, hu with
    | 0, _, hu => simp [cellsE] at hu; rw [← hu]; exact c0
    | 1, _, hu => simp [cellsE] at hu; rw [← hu]; exact c1
    | 2, _, hu => simp [cellsE] at hu; rw [← hu]; exact c2
    | 3, _, hu => simp [cellsE] at hu; rw [← hu]; exact c3
    | 4, _, hu => simp [cellsE] at hu; rw [← hu]; exact c4
    | 5, _, hu => simp [cellsE] at hu; rw [← hu]; exact c5
  · intro u hu
    simp [cellsE] at hu
    rcases hu with rfl | rfl | rfl | rfl | rfl | rfl <;> rfl
  · unfold maxLen; omega
  · omega
  · intro v' w' hown hgr hnil hloc
    rw [← cellsE_append] at hown
    have hlen' : (fs ++ [e]).length = fs.length + 1 := by simp
    rcases hown.2 with ⟨hv, _⟩ | ⟨g', cap', cur, hv, h1, h2, h3⟩
    · have := (hnil.1 hv).1
      simp at this
    · subst hv
      refine h g' cap' w' (by unfold OwnE; rw [hlen']; exact hown) hgr ?_
      rcases hloc with q | q
      · exact .inl (Option.some.inj q)
      · exact .inr (Option.some.inj q)

theorem OwnE.kept {w w' : World} {base g cp : Nat} {fs : List Ent} {row : Option Nat} (h : OwnE w base g cp fs) (hg : w.grownBy w' row) (hne : some g ≠ row) : OwnE w' base g cp fs :=
  World.ownsRow.kept h hg (.inr hne)
theorem OwnE.ne_map {w : World} {base g cp b : Nat} {fs : List Ent} {es : Array MapEntry} {ck : Nat} (h : OwnE w base g cp fs) (hb : w.heap[b]? = some (.map es ck)) : g ≠ b := by
  rcases h.2 with ⟨h0, _⟩ | ⟨g', cap', cur, hv, _, hc, _⟩
  · cases h0
  · simp only [Value.slice.injEq, Option.some.injEq, Addr.mk.injEq, and_true, true_and] at hv
    obtain ⟨rfl, rfl⟩ := hv
    intro q
    rw [q, hb] at hc
    cases hc

/-- The delete that a column's state tells. -/
def delE (c : Col) (u : Int) : Ent := ⟨c.1, c.2.1, c.2.2, u, 2, ⟨#[]⟩⟩
def del0 (d : Bool) (c : Col) (u : Int) : List Ent := if d = true then [delE c u] else []

set_option maxHeartbeats 4000000 in
set_option maxRecDepth 100000 in
theorem appendE_none (d : Bool) (u : Int) (c : Col) (base g cp : Nat) (fs : List Ent) (w : World) (hO : OwnE w base g cp fs) (hlen : fs.length ≤ 2 ^ 28) (hbase : base ≤ w.heap.size) :
    Calls Try.prog 53 #[.agg #[.bool d, .int .u64 u, .map none], .slice (some ⟨g, 0, none⟩) fs.length cp, c.v] w fun r w' =>
      ∃ g' cp', r = .returned (.slice (some ⟨g', 0, none⟩) (fs ++ del0 d c u).length cp') ∧ OwnE w' base g' cp' (fs ++ del0 d c u) ∧ w.grownBy w' (some g) ∧ (g' = g ∨ w.heap.size ≤ g') := by
  have hg := hO.lt
  have HO : Hid (OwnE w base g cp fs) := hO
  clear hO
  obtain ⟨r, f, q⟩ := c
  unfold Col.v colV
  simp only
  cases d
  · have hrg := run_range_nilMap (P := Try.prog) ((w.alloc (Obj.cells #[.bool false, .int .u64 u, .map none] 87)).alloc (Obj.cells #[.string r, .string f, .string q] 84)) 85 _ _ Try.underlying85
    have hnx : ∀ ty, (Instr.next (.pointer (some ⟨((w.alloc (Obj.cells #[.bool false, .int .u64 u, .map none] 87)).alloc (Obj.cells #[.string r, .string f, .string q] 84)).heap.size, 0, none⟩)) false ty).run Try.prog (((w.alloc (Obj.cells #[.bool false, .int .u64 u, .map none] 87)).alloc (Obj.cells #[.string r, .string f, .string q] 84)).alloc (.mapIter none 0 #[] 0)) = _ := fun ty => run_next_nilMap _ ty 0 0 #[]
    have e1 : ((w.alloc (Obj.cells #[.bool false, .int .u64 u, .map none] 87)).alloc (Obj.cells #[.string r, .string f, .string q] 84)).heap.size = w.heap.size + 1 + 1 := by simp
    rw [e1] at hrg hnx
    clear e1
    go_enter Try.func53, Try.ntmps53
    go_wp2_with fail
    go_loopw [1] (fun s wr => s = .slice (some ⟨g, 0, none⟩) fs.length cp ∧ wr = (((w.alloc (Obj.cells #[.bool false, .int .u64 u, .map none] 87)).alloc (Obj.cells #[.string r, .string f, .string q] 84)).alloc (.mapIter none 0 #[] 0))) (fun _ _ => 0)
    case atStart => exact ⟨rfl, rfl⟩
    case round =>
      obtain ⟨rfl, rfl⟩ := hrel
      go_wp2_with fail
      go_ret
      have hb : Below w.heap.size w (((w.alloc (Obj.cells #[.bool false, .int .u64 u, .map none] 87)).alloc (Obj.cells #[.string r, .string f, .string q] 84)).alloc (.mapIter none 0 #[] 0)) := (((Below.refl _ _).alloc (Nat.le_refl _) _).alloc (by simp) _).alloc (by simp; omega) _
      refine ⟨g, cp, by simp [del0], ?_, grown_of_below hb _, .inl rfl⟩
      simp only [del0, List.append_nil, Bool.false_eq_true, if_false]
      exact HO.out.below hb hg.2
  · have hrg : ∀ W : World, (Instr.range 85 (.map none)).run Try.prog W = .ok (.pointer (some ⟨W.heap.size, 0, none⟩)) (W.alloc (.mapIter none 0 #[] 0)) := fun W => run_range_nilMap (P := Try.prog) W 85 _ _ Try.underlying85
    have hnx : ∀ (W : World) ty, (Instr.next (.pointer (some ⟨W.heap.size, 0, none⟩)) false ty).run Try.prog (W.alloc (.mapIter none 0 #[] 0)) = .ok (.tuple #[.bool false]) (W.alloc (.mapIter none 0 #[] 0)) := fun W ty => run_next_nilMap W ty 0 0 #[]
    go_enter Try.func53, Try.ntmps53
    go_wp2_with (at_builtin; refine wpList_append_entAt _ rfl _ _ rfl base g cp _ _ fs (delE (r, f, q) u) rfl rfl rfl ?hO ?hc ?hl ?hb ?_)
    case hO => exact HO.out.below ((((Below.refl _ _).alloc (Nat.le_refl _) _).alloc (by simp) _).alloc (by simp; omega) _) hg.2
    case hc =>
      have h := ent_new ((w.alloc (Obj.cells #[.bool true, .int .u64 u, .map none] 87)).alloc (Obj.cells #[.string r, .string f, .string q] 84)) (delE (r, f, q) u)
      simpa [delE] using h
    case hl => omega
    case hb => simp; omega
    intro g' cp' w' hO' hgr hloc
    have hb3 : Below w.heap.size w (((w.alloc (Obj.cells #[.bool true, .int .u64 u, .map none] 87)).alloc (Obj.cells #[.string r, .string f, .string q] 84)).alloc (Obj.cells #[.string r, .string f, .string q, .int .u64 u, .int .i64 2, .string ⟨#[]⟩] 62)) := (((Below.refl _ _).alloc (Nat.le_refl _) _).alloc (by simp) _).alloc (by simp; omega) _
    have c2 : w'.cell? ⟨w.heap.size, 2, none⟩ = some (.map none) := by
      have hk := hgr.block w.heap.size (by simp; omega) (fun q => by injection q; omega)
      rw [World.cell?_of_block (a := ⟨w.heap.size, 2, none⟩) hk]
      go_simp
    have hgw : w.grownBy w' (some g) := ⟨hgr.os.trans hb3.os, hgr.tape.trans hb3.tape, hgr.output.trans hb3.output, Nat.le_trans hb3.size hgr.size, fun j hj hne => (hgr.block j (by simp; omega) hne).trans (hb3.block j hj)⟩
    have HO' : Hid (OwnE w' base g' cp' (fs ++ [delE (r, f, q) u]) ∧ w.grownBy w' (some g) ∧ (g' = g ∨ w.heap.size ≤ g')) := ⟨hO', hgw, hloc.imp id (fun q => by first | omega | (rw [q]; omega) | (rw [q]; simp; omega))⟩
    clear hO' hgr hloc hb3 hgw
    go_wp2_with fail
    go_loopw [1] (fun s wr => s = .slice (some ⟨g', 0, none⟩) (fs.length + 1) cp' ∧ wr = w'.alloc (.mapIter none 0 #[] 0)) (fun _ _ => 0)
    case atStart => exact ⟨rfl, rfl⟩
    case round =>
      obtain ⟨rfl, rfl⟩ := hrel
      go_wp2_with fail
      go_ret
      have hb : Below w'.heap.size w' (w'.alloc (.mapIter none 0 #[] 0)) := (Below.refl _ _).alloc (Nat.le_refl _) _
      refine ⟨g', cp', by simp [del0], ?_, HO'.out.2.1.trans (grown_of_below hb _), HO'.out.2.2⟩
      simp only [del0, if_true]
      exact HO'.out.1.below hb HO'.out.1.lt.2

/-- The entries that a map from timestamps holds. -/
def Holds6 (F : Int → Option Ent) (S : List Ent) : Prop := (∀ x, x ∈ S ↔ ∃ t, (Lit.int .u64 t).wf = true ∧ F t = some x) ∧ S.Nodup
def HoldsTo (F : Int → Option Ent) (left : Lit → Bool) (S : List Ent) : Prop := (∀ x, x ∈ S ↔ ∃ t, (Lit.int .u64 t).wf = true ∧ F t = some x ∧ left (.int .u64 t) = false) ∧ S.Nodup
theorem holdsTo_step {F : Int → Option Ent} {left : Lit → Bool} {S : List Ent} {t : Int} {e : Ent} (h : HoldsTo F left S) (hts : ∀ t e, F t = some e → e.ts = t) (hw : (Lit.int .u64 t).wf = true) (he : F t = some e) (hl : left (.int .u64 t) = true) :
    HoldsTo F (fun z => left z && !z.sameKey (.int .u64 t)) (S ++ [e]) := by
  have hkey : WideAt.IsKeyLit (.int .u64 t) := lawTs.key (keyTs hw)
  have hne : e ∉ S := fun hm => by
    obtain ⟨t', h1, h2, h3⟩ := (h.1 e).1 hm
    have : t' = t := (hts t' e h2).symm.trans (hts t e he)
    subst this
    rw [hl] at h3
    cases h3
  refine ⟨fun x => ?_, ?_⟩
  · rw [List.mem_append, h.1 x]
    constructor
    · rintro (⟨t', h1, h2, h3⟩ | hx)
      · exact ⟨t', h1, h2, by simp [h3]⟩
      · simp at hx
        subst hx
        exact ⟨t, hw, he, by simp [Lit.sameKey]⟩
    · rintro ⟨t', h1, h2, h3⟩
      by_cases q : t' = t
      · subst q
        rw [he] at h2
        simp at h2
        right; simp [h2]
      · left
        have hs : (Lit.int .u64 t').sameKey (.int .u64 t) = false := Maps.sameKey_ne (fun e => q (by injection e))
        refine ⟨t', h1, h2, ?_⟩
        simpa [hs] using h3
  · rw [List.nodup_append]
    exact ⟨h.2, by simp, fun a ha b hb => by simp at hb; subst hb; exact fun q => hne (q ▸ ha)⟩

set_option maxHeartbeats 4000000 in
set_option maxRecDepth 100000 in
theorem appendE_some (d : Bool) (u : Int) (c : Col) (b n base g cp : Nat) (F : Int → Option Ent) (fs : List Ent) (w : World) (hI : Inn w b n F) (hts : ∀ t e, F t = some e → e.ts = t) (hO : OwnE w base g cp fs) (hlen : fs.length ≤ 2 ^ 28) (hn : n ≤ 2 ^ 20) (hbase : base ≤ w.heap.size) :
    Calls Try.prog 53 #[.agg #[.bool d, .int .u64 u, .map (some b)], .slice (some ⟨g, 0, none⟩) fs.length cp, c.v] w fun r w' =>
      ∃ g' cp' S, r = .returned (.slice (some ⟨g', 0, none⟩) (fs ++ del0 d c u ++ S).length cp') ∧ OwnE w' base g' cp' (fs ++ del0 d c u ++ S) ∧ Holds6 F S ∧ w.grownBy w' (some g) ∧ (g' = g ∨ w.heap.size ≤ g') ∧ S.length ≤ n := by
  have hg := hO.lt
  have hbl := hI.lt
  have HO : Hid (OwnE w base g cp fs ∧ Inn w b n F ∧ ∀ t e, F t = some e → e.ts = t) := ⟨hO, hI, hts⟩
  have hgb : g ≠ b := by
    obtain ⟨D, ⟨es, ck, hh, _⟩, _⟩ := hI
    exact hO.ne_map hh
  clear hO hI hts
  obtain ⟨r, f, q⟩ := c
  unfold Col.v colV
  simp only
  go_enter Try.func53, Try.ntmps53
  go_upto_if 10 with fail
  go_cut [1] (fun s wx => ∃ g1 cp1, s = .slice (some ⟨g1, 0, none⟩) (fs ++ del0 d (r, f, q) u).length cp1 ∧ OwnE wx base g1 cp1 (fs ++ del0 d (r, f, q) u) ∧ w.grownBy wx (some g) ∧ (g1 = g ∨ w.heap.size ≤ g1) ∧ wx.cell? ⟨w.heap.size, 2, none⟩ = some (.map (some b)) ∧ w.heap.size + 2 ≤ wx.heap.size)
  case first =>
    cases d
    · go_wp2_with fail
      go_meet
      have hb2 : Below w.heap.size w ((w.alloc (Obj.cells #[.bool false, .int .u64 u, .map (some b)] 87)).alloc (Obj.cells #[.string r, .string f, .string q] 84)) := ((Below.refl _ _).alloc (Nat.le_refl _) _).alloc (by simp) _
      refine ⟨g, cp, by simp [del0], ?_, grown_of_below hb2 _, .inl rfl, by go_simp, by simp⟩
      simp only [del0, List.append_nil, Bool.false_eq_true, if_false]
      exact HO.out.1.below hb2 hg.2
    · go_wp2_with (at_builtin; refine wpList_append_entAt _ rfl _ _ rfl base g cp _ _ fs (delE (r, f, q) u) rfl rfl rfl ?hO ?hc ?hl ?hb ?_)
      case hO => exact HO.out.1.below ((((Below.refl _ _).alloc (Nat.le_refl _) _).alloc (by simp) _).alloc (by simp; omega) _) hg.2
      case hc =>
        have h := ent_new ((w.alloc (Obj.cells #[.bool true, .int .u64 u, .map (some b)] 87)).alloc (Obj.cells #[.string r, .string f, .string q] 84)) (delE (r, f, q) u)
        simpa [delE] using h
      case hl => omega
      case hb => simp; omega
      intro g' cp' w' hO' hgr hloc
      have hb3 : Below w.heap.size w (((w.alloc (Obj.cells #[.bool true, .int .u64 u, .map (some b)] 87)).alloc (Obj.cells #[.string r, .string f, .string q] 84)).alloc (Obj.cells #[.string r, .string f, .string q, .int .u64 u, .int .i64 2, .string ⟨#[]⟩] 62)) := (((Below.refl _ _).alloc (Nat.le_refl _) _).alloc (by simp) _).alloc (by simp; omega) _
      have c2 : w'.cell? ⟨w.heap.size, 2, none⟩ = some (.map (some b)) := by
        have hk := hgr.block w.heap.size (by simp; omega) (fun q => by injection q; omega)
        rw [World.cell?_of_block (a := ⟨w.heap.size, 2, none⟩) hk]
        go_simp
      have hgw : w.grownBy w' (some g) := ⟨hgr.os.trans hb3.os, hgr.tape.trans hb3.tape, hgr.output.trans hb3.output, Nat.le_trans hb3.size hgr.size, fun j hj hne => (hgr.block j (by simp; omega) hne).trans (hb3.block j hj)⟩
      have HO' : Hid (OwnE w' base g' cp' (fs ++ [delE (r, f, q) u]) ∧ w.grownBy w' (some g) ∧ (g' = g ∨ w.heap.size ≤ g') ∧ w.heap.size + 2 ≤ w'.heap.size) := ⟨hO', hgw, hloc.imp id (fun q => by first | omega | (rw [q]; omega) | (rw [q]; simp; omega)), by have := hgr.size; simp at this; omega⟩
      clear hO' hgr hloc hb3 hgw
      go_wp2_with fail
      go_meet
      refine ⟨g', cp', by simp [del0], ?_, HO'.out.2.1, HO'.out.2.2.1, c2, HO'.out.2.2.2⟩
      simp only [del0, if_true]
      exact HO'.out.1
  case rest =>
  obtain ⟨g1, cp1, rfl, hO1, hgw, hloc, c2, hsz⟩ := hcut
  obtain ⟨D, hD, hv⟩ := HO.out.2.1.kept hgw (fun q => hgb (Option.some.inj q).symm)
  obtain ⟨fs1, hfs1⟩ : ∃ fs1 : List Ent, fs1 = fs ++ del0 d (r, f, q) u := ⟨_, rfl⟩
  rw [← hfs1] at hO1 ⊢
  have hfl : fs1.length ≤ 2 ^ 28 + 1 := by
    rw [hfs1]; unfold del0; split <;> simp <;> omega
  have HO1 : Hid (OwnE wc base g1 cp1 fs1 ∧ w.grownBy wc (some g) ∧ (g1 = g ∨ w.heap.size ≤ g1)) := ⟨hO1, hgw, hloc⟩
  have HV : Hid (∀ t, (Lit.int .u64 t).wf = true → (F t = none ∧ Maps.has D (.int .u64 t) = false) ∨ ∃ e, F t = some e ∧ Maps.has D (.int .u64 t) = true ∧ ∀ z, D.atKey (.int .u64 t) z = .held e.v) := hv
  have hsd := hD.size_le
  have hbw := hD.lt
  have HFS : Hid (fs1 = fs ++ del0 d (r, f, q) u) := hfs1
  have hg1 := hO1.lt
  have hgs := hgw.size
  clear hv hfs1 hO1 hgw hloc
  go_wp2_with (at_range; refine wpList_range_own _ rfl _ 85 rfl 60 62 lawTs Try.underlying85 Rh b n D rfl hD ?_; intro w0 hrg0 hg0 hs0)
  go_frame
  have HS0 : Hid (HoldsTo F (Maps.has D) []) := by
    refine ⟨fun x => ⟨fun h => by simp at h, ?_⟩, List.nodup_nil⟩
    rintro ⟨t, h1, h2, h3⟩
    rcases HV.out t h1 with ⟨q1, _⟩ | ⟨e, _, q2, _⟩
    · rw [q1] at h2; cases h2
    · rw [q2] at h3; cases h3
  have hgb1 : g1 ≠ b := by
    obtain ⟨es, ck, hh, _⟩ := hD
    exact HO1.out.1.ne_map hh
  go_loopw [1] (fun s wr => ∃ (left : Lit → Bool) (cnt : Nat) (S : List Ent) (g2 cp2 : Nat), s = .slice (some ⟨g2, 0, none⟩) (fs1.length + S.length) cp2 ∧ OwnE wr base g2 cp2 (fs1 ++ S) ∧ wr.ranges Try.prog 60 Rh b wc.heap.size n D left cnt ∧ HoldsTo F left S ∧ S.length + cnt ≤ n ∧ w.grownBy wr (some g) ∧ (g2 = g ∨ w.heap.size ≤ g2) ∧ g2 ≠ b ∧ g2 ≠ wc.heap.size) (fun _ wr => wr.rangeLeft b wc.heap.size)
  case atStart =>
    exact ⟨Maps.has D, Maps.size D, [], g1, cp1, by simp, by rw [List.append_nil]; exact HO1.out.1.kept hg0 (by simp), hrg0, HS0.out, by simpa using hsd, HO1.out.2.1.trans (hg0.but _), HO1.out.2.2, hgb1, by omega⟩
  case round =>
    obtain ⟨left, cnt, S, g2, cp2, rfl, hO2, hrg, hH, hcn, hgr2, hloc2, hne1, hne2⟩ := hrel
    have HR : Hid (OwnE wr base g2 cp2 (fs1 ++ S) ∧ HoldsTo F left S ∧ w.grownBy wr (some g) ∧ (g2 = g ∨ w.heap.size ≤ g2)) := ⟨hO2, hH, hgr2, hloc2⟩
    have hg2 := hO2.lt
    have hs2 := hgr2.size
    have hrl := hrg.lt
    clear hO2 hH hgr2 hloc2
    go_wp2_with (at_next; refine wpList_next_ranges _ rfl _ rfl 60 lawTs Rh (fun t : Int => Value.int .u64 t) (fun v : Value => v) (fun key kl h => by obtain ⟨x, h1, _⟩ := Maps.keyOf_int_inv Try.underlying60 h; exact ⟨x, h1⟩) (fun v y _ => ⟨v, rfl⟩) b wc.heap.size n D left cnt rfl hrg ?_ ?_)
    · intro h0 hl
      have HL : Hid (∀ kl, left kl = false) := hl
      clear hl
      go_wp2_with fail
      go_ret
      refine ⟨g2, cp2, S, ?_, ?_, ?_, HR.out.2.2.1, HR.out.2.2.2, by omega⟩
      · rw [← HFS.out, List.length_append]; rfl
      · rw [← HFS.out]; exact HR.out.1
      · refine ⟨fun x => (HR.out.2.1.1 x).trans ⟨fun ⟨t, a1, a2, _⟩ => ⟨t, a1, a2⟩, fun ⟨t, a1, a2⟩ => ⟨t, a1, a2, HL.out _⟩⟩, HR.out.2.1.2⟩
    · intro x c kl y1 y2 w1 cnt1 hkey hlk hvv hat hrg1 hlt1 hg1' hs1 hen
      obtain ⟨x', q1, q2, q3⟩ := Maps.keyOf_int_inv Try.underlying60 hkey
      have q4 : x' = x := by injection q1 with _ q; exact q.symm
      subst q4
      subst q2
      obtain ⟨e, he, hce⟩ : ∃ e, F x' = some e ∧ c = e.v := by
        rcases HV.out x' q3 with ⟨_, h2⟩ | ⟨e, h1, h2, h3⟩
        · have := hat (.held (.bool true))
          rw [Maps.atKey_of_not_has h2] at this
          have h5 := hat (.held (.bool false))
          rw [Maps.atKey_of_not_has h2] at h5
          rw [← h5] at this
          cases this
        · refine ⟨e, h1, ?_⟩
          have h4 := hat (.held (.bool true))
          rw [h3] at h4
          have h5 := (Rh_eq hvv).1
          rw [h5] at h4
          injection h4 with h4
          exact h4.symm
      subst hce
      have HE : Hid (F x' = some e ∧ (Lit.int .u64 x').wf = true ∧ left (.int .u64 x') = true) := ⟨he, q3, hlk⟩
      clear he q3 hlk hat hvv hkey q1
      unfold Ent.v at *
      have HO3 : Hid (OwnE w1 base g2 cp2 (fs1 ++ S)) := HR.out.1.kept hg1' (fun q => hne2 (Option.some.inj q))
      have hs1' : w1.heap.size = wr.heap.size := hs1
      have HS1 : Hid (w1.heap.size = wr.heap.size) := hs1'
      have hle1 : wr.heap.size ≤ w1.heap.size := by omega
      have hle2 : w1.heap.size ≤ wr.heap.size := by omega
      have HG1 : Hid (wr.grownBy w1 (some wc.heap.size)) := hg1'
      clear hs1 hs1' hg1'
      go_wp2_with (at_builtin; refine wpList_append_entAt _ rfl _ _ rfl base g2 cp2 _ _ (fs1 ++ S) e rfl rfl (by simp) ?hO ?hc ?hl ?hb ?_)
      case hO => exact HO3.out.below (((Below.refl _ _).alloc (Nat.le_refl _) _).alloc (by simp) _) (by omega)
      case hc =>
        have h := ent_new (w1.alloc (Obj.cells #[.string e.row, .string e.fam, .string e.qual, .int .u64 e.ts, .int .i64 e.kind, .string e.val] 62)) e
        simpa using h
      case hl => simp; omega
      case hb => simp; omega
      intro g' cp' w' hO' hgr hloc
      have hbx : Below w1.heap.size w1 ((w1.alloc (Obj.cells #[.string e.row, .string e.fam, .string e.qual, .int .u64 e.ts, .int .i64 e.kind, .string e.val] 62)).alloc (Obj.cells #[.string e.row, .string e.fam, .string e.qual, .int .u64 e.ts, .int .i64 e.kind, .string e.val] 62)) := ((Below.refl _ _).alloc (Nat.le_refl _) _).alloc (by simp) _
      have hg4 : w1.grownBy w' (some g2) := ⟨hgr.os.trans hbx.os, hgr.tape.trans hbx.tape, hgr.output.trans hbx.output, Nat.le_trans hbx.size hgr.size, fun j hj hne => (hgr.block j (by simp; omega) hne).trans (hbx.block j hj)⟩
      have hrg4 := hrg1.kept hg4 (fun q => hne1 (Option.some.inj q).symm) (fun q => hne2 (Option.some.inj q).symm)
      have hgw' : w.grownBy w' (some g) := by
        have a1 := HR.out.2.2.1.andThen HG1.out (fun j hj => by cases hj; left; omega)
        exact a1.andThen hg4 (fun j hj => by
          cases hj
          rcases HR.out.2.2.2 with q | q
          · right; rw [q]
          · left; exact q)
      have hloc' : g' = g ∨ w.heap.size ≤ g' := by
        rcases hloc with q | q
        · rw [q]; exact HR.out.2.2.2
        · right
          first
            | omega
            | (rw [q]; simp; omega)
      have hne1' : g' ≠ b := by
        obtain ⟨es, ck, hh, _⟩ := hrg4.owns
        exact hO'.ne_map hh
      have hne2' : g' ≠ wc.heap.size := by
        rcases hloc with q | q
        · rw [q]; exact hne2
        · intro q2
          have h5 := q.symm.trans q2
          first
            | omega
            | (simp at h5; omega)
      have HF : Hid (OwnE w' base g' cp' (fs1 ++ (S ++ [e])) ∧ HoldsTo F (fun z => left z && !z.sameKey (.int .u64 x')) (S ++ [e]) ∧ w.grownBy w' (some g) ∧ (g' = g ∨ w.heap.size ≤ g')) := ⟨hO', holdsTo_step HR.out.2.1 HO.out.2.2 HE.out.2.1 HE.out.1 HE.out.2.2, hgw', hloc'⟩
      clear hO' hgr hloc hbx hg4 hgw' hloc' hrg1 hen
      go_wp2_with fail
      go_roundw
      case rel =>
        refine ⟨_, cnt1, S ++ [e], g', cp', ?_, ?_, hrg4, HF.out.2.1, ?_, HF.out.2.2.1, HF.out.2.2.2, hne1', hne2'⟩
        · simp; omega
        · exact HF.out.1
        · simp; omega
      case measure => rw [hrg4.left_eq, hrg.left_eq]; exact hlt1
end Go.Proofs.Ytnncedndlhfdkab

/-
  What has turned between two worlds.
-/
namespace Go.Proofs.Ytnncedndlhfdkab
open Go.ChangeShapes Go.WideShapes Go.ChangeAt Go.RowKit Go.Deep
set_option linter.unusedVariables false
set_option linter.unusedSimpArgs false

/-- From 'w' to 'w'': only what lies in blocks of 'S' has turned, and new blocks came. -/
structure Chg (S : Nat → Prop) (w w' : World) : Prop where
  os : w'.os = w.os
  tape : w'.tape = w.tape
  output : w'.output = w.output
  size : w.heap.size ≤ w'.heap.size
  block : ∀ k, k < w.heap.size → ¬ S k → w'.heap[k]? = w.heap[k]?
theorem Chg.refl (S : Nat → Prop) (w : World) : Chg S w w := ⟨rfl, rfl, rfl, Nat.le_refl _, fun _ _ _ => rfl⟩
theorem Chg.trans {S : Nat → Prop} {a b c : World} (h : Chg S a b) (k : Chg S b c) : Chg S a c :=
  ⟨k.os.trans h.os, k.tape.trans h.tape, k.output.trans h.output, Nat.le_trans h.size k.size, fun i hi hn => (k.block i (Nat.lt_of_lt_of_le hi h.size) hn).trans (h.block i hi hn)⟩
theorem Chg.mono {S T : Nat → Prop} {w w' : World} (h : Chg S w w') (hs : ∀ k, S k → T k) : Chg T w w' := ⟨h.os, h.tape, h.output, h.size, fun k hk hn => h.block k hk (fun q => hn (hs k q))⟩
theorem Chg.of_below {S : Nat → Prop} {w w' : World} (h : Below w.heap.size w w') : Chg S w w' := ⟨h.os, h.tape, h.output, h.size, fun k hk _ => h.block k hk⟩
theorem Chg.of_grown {S : Nat → Prop} {w w' : World} {row : Option Nat} (h : w.grownBy w' row) (hs : ∀ k, row = some k → S k) : Chg S w w' :=
  ⟨h.os, h.tape, h.output, h.size, fun k hk hn => h.block k hk (fun q => hn (hs k q.symm))⟩
theorem Chg.of_set {S : Nat → Prop} (w : World) (g o : Nat) (u : Value) (hs : S g) : Chg S w (w.setCell ⟨g, o, none⟩ u) := Chg.of_grown (grown_set w g o u) (fun k hk => by cases hk; exact hs)
theorem Chg.below {S : Nat → Prop} {B : Nat} {a w w' : World} (h : Below B a w) (k : Chg S w w') (hB : B ≤ w.heap.size) (hs : ∀ k, S k → B ≤ k) : Below B a w' :=
  h.trans ⟨k.os, k.tape, k.output, k.size, fun i hi => k.block i (by omega) (fun q => by have := hs i q; omega)⟩
theorem Chg.cell {S : Nat → Prop} {w w' : World} (h : Chg S w w') {p : Addr} (hp : p.block < w.heap.size) (hn : ¬ S p.block) : w'.cell? p = w.cell? p := World.cell?_of_block (w := w) (h.block p.block hp hn)
theorem Chg.frozen {S : Nat → Prop} {w w' : World} (h : Chg S w w') {p : Addr} (hp : p.block < w.heap.size) (hn : ¬ S p.block) : w'.frozen? p = w.frozen? p := World.frozen?_of_block (w := w) (h.block p.block hp hn)
theorem EntsAt.chg {S : Nat → Prop} {w w' : World} {b off : Nat} {es : List Ent} (h : EntsAt w b off es) (hb : Chg S w w') (hlt : b < w.heap.size) (hn : ¬ S b) : EntsAt w' b off es := by
  intro i e he
  have := h i e he
  refine ⟨?_, ?_, ?_, ?_, ?_, ?_⟩
  all_goals rw [hb.cell (by exact hlt) (by exact hn)]
  · exact this.1
  · exact this.2.1
  · exact this.2.2.1
  · exact this.2.2.2.1
  · exact this.2.2.2.2.1
  · exact this.2.2.2.2.2
theorem own_apart {w : World} {base e size : Nat} {v : Value} {n : Nat} {xs : List Value} {base' e' size' : Nat} {v' : Value} {n' : Nat} {xs' : List Value} (h : w.ownsRow base e size v n xs) (h' : w.ownsRow base' e' size' v' n' xs') (hne : e ≠ e') : ∀ k, v.ownBlock = some k → v'.ownBlock ≠ some k := by
  intro k hk hk'
  rcases h.2 with ⟨rfl, _⟩ | ⟨g1, cap1, cur, rfl, _, hc, _⟩
  · simp [Value.ownBlock] at hk
  · rcases h'.2 with ⟨rfl, _⟩ | ⟨g2, cap2, cur2, rfl, _, hc2, _⟩
    · simp [Value.ownBlock] at hk'
    · simp [Value.ownBlock] at hk hk'
      subst hk hk'
      rw [hc] at hc2
      simp at hc2
      exact hne hc2.2
theorem own_chg {S : Nat → Prop} {w w' : World} {base e size : Nat} {v : Value} {n : Nat} {xs : List Value} (h : w.ownsRow base e size v n xs) (hb : Chg S w w') (hn : ∀ k, v.ownBlock = some k → ¬ S k) : w'.ownsRow base e size v n xs := by
  refine ⟨h.1, ?_⟩
  rcases h.2 with hz | ⟨g, cap, cur, rfl, h1, hg, rest⟩
  · exact .inl hz
  · refine .inr ⟨g, cap, cur, rfl, h1, ?_, rest⟩
    have hlt : g < w.heap.size := by
      rcases Nat.lt_or_ge g w.heap.size with q | q
      · exact q
      · rw [Array.getElem?_eq_none q] at hg; cases hg
    rw [hb.block g hlt (hn g rfl)]; exact hg

end Go.Proofs.Ytnncedndlhfdkab

/-
  The put of a cell; spec.l3Puts.
-/
namespace Go.Proofs.Ytnncedndlhfdkab
open Go.ChangeShapes Go.WideShapes Go.ChangeAt Go.RowKit Go.Deep
set_option linter.unusedVariables false
set_option linter.unusedSimpArgs false
set_option maxRecDepth 100000

theorem ent_boxP (w : World) (e : Ent) : EntsAt (w.alloc (Obj.cells #[.string e.row, .string e.fam, .string e.qual, .int .u64 e.ts, .int .i64 e.kind, .string e.val] 62)) w.heap.size 0 [e] := by
  intro j y hy
  obtain rfl : j = 0 := by
    have := (List.getElem?_eq_some_iff.1 hy).1
    simpa using this
  simp at hy
  subst hy
  simp
/-- The put of a cell. -/
def putE (x : Ent) : Ent := { x with kind := 0 }
set_option maxHeartbeats 400000 in
theorem specPut_any (e : Ent) (w : World) :
    Calls Try.prog 72 #[.agg #[.string e.row, .string e.fam, .string e.qual, .int .u64 e.ts, .string e.val]] w fun r w' => r = .returned (putE e).v ∧ Below w.heap.size w w' := by
  go_enter Try.func72, Try.ntmps72
  go_wp2
  refine bodyPost_ret (v := (putE e).v) (by simp [results, Try.results72, go_sem, putE]) rfl ⟨rfl, ?_⟩
  exact ((Below.refl _ _).alloc (Nat.le_refl _) _).alloc (by simp) _
set_option maxHeartbeats 400000 in
theorem implPut_any (e : Ent) (w : World) :
    Calls Try.prog 44 #[.agg #[.string e.row, .string e.fam, .string e.qual, .int .u64 e.ts, .string e.val]] w fun r w' => r = .returned (putE e).v ∧ Below w.heap.size w w' := by
  go_enter Try.func44, Try.ntmps44
  go_wp2
  refine bodyPost_ret (v := (putE e).v) (by simp [results, Try.results44, go_sem, putE]) rfl ⟨rfl, ?_⟩
  exact ((Below.refl _ _).alloc (Nat.le_refl _) _).alloc (by simp) _

/-- One entry appended, at a step of a region that draws. -/
theorem step_append_ent {ops : Array Oper} {o : Oper} {a : Act} {K : Act → World → Prop} {Q : Exit → Act → World → Prop} {E : Prop} (w : World) (hgd : o.guard = none) (s x : Operand)
    (ho : o.op = .call { callee := .builtin .append, args := #[s, x], argTypes := #[27, 27] })
    (base g cp n blk : Nat) (fs : List Ent) (e : Ent) (hn : n = fs.length) (hs : a.eval s = .slice (some ⟨g, 0, none⟩) n cp) (hx : a.eval x = .slice (some ⟨blk, 0, none⟩) 1 1) (hO : OwnE w base g cp fs)
    (hc : EntsAt w blk 0 [e]) (hlen : fs.length ≤ 2 ^ 30) (hbase : base ≤ w.heap.size)
    (h : ∀ g' cp' w', OwnE w' base g' cp' (fs ++ [e]) → w.grownBy w' (some g) → (g = g' ∨ g' = w.heap.size) → K (a.put o.dst (.slice (some ⟨g', 0, none⟩) (n + 1) cp')) w') : if Region.wanted o (yielded ops a.tmps) = true then Oper.wp Try.prog o a w K Q else E := by
  subst hn
  obtain ⟨i, hi, hz0, hz1, hz2⟩ := info_parts Try.infoEnt
  obtain ⟨c0, c1, c2, c3, c4, c5⟩ := hc 0 e rfl
  refine step_append_lies w hgd s x 27 ho base 62 i _ 6 80 Try.underlying27 hi hz0 hz1 hz2 rfl (by decide) (.slice (some ⟨g, 0, none⟩) fs.length cp) fs.length (cellsE fs) hs hO ⟨blk, 0, none⟩ 1 1 (cellsE [e]) hx rfl ?_ ?_ (by decide) ?_ ?_ hbase w.heap.size rfl ?_
  · intro j u hu
    have hj : j < 6 := by
      have := (List.getElem?_eq_some_iff.1 hu).1
      rw [length_cellsE] at this
      simpa using this
    rw [Addr.add_mid, Nat.zero_add]
    simp only [Nat.zero_mul, Nat.zero_add] at c0 c1 c2 c3 c4 c5
    match j, hj, hu with
    | 0, _, hu => simp [cellsE] at hu; rw [← hu]; exact c0
    | 1, _, hu => simp [cellsE] at hu; rw [← hu]; exact c1
    | 2, _, hu => simp [cellsE] at hu; rw [← hu]; exact c2
    | 3, _, hu => simp [cellsE] at hu; rw [← hu]; exact c3
    | 4, _, hu => simp [cellsE] at hu; rw [← hu]; exact c4
    | 5, _, hu => simp [cellsE] at hu; rw [← hu]; exact c5
  · intro u hu
    simp [cellsE] at hu
    rcases hu with rfl | rfl | rfl | rfl | rfl | rfl <;> rfl
  · unfold maxLen; omega
  · omega
  · intro g' cp' w' hO' hgr hat hlt
    refine h g' cp' w' ?_ hgr ?_
    · unfold OwnE
      rw [List.length_append, cellsE_append]
      exact hO'
    · rcases hat with q | q
      · exact .inl (by simpa [Value.ownBlock] using q)
      · exact .inr q
def putsTo (L : List Ent) (m : Nat) : List Ent := (L.take m).map putE
theorem putsTo_succ {L : List Ent} {m : Nat} {x : Ent} (h : L[m]? = some x) : putsTo L (m + 1) = putsTo L m ++ [putE x] := by
  unfold putsTo; rw [List.take_add_one, h]; simp
theorem putsTo_len {L : List Ent} {m : Nat} (h : m ≤ L.length) : (putsTo L m).length = m := by simp [putsTo]; omega
theorem putsTo_all {L : List Ent} {m : Nat} (h : L.length ≤ m) : putsTo L m = L.map putE := by unfold putsTo; rw [List.take_of_length_le h]

/-- How the putting stands. -/
structure PInv (w : World) (ov : Nat) (L : List Ent) (m g5 cp5 : Nat) (wr : World) : Prop where
  hdr : wr.cell? ⟨ov, 0, none⟩ = some (.slice (some ⟨g5, 0, none⟩) m cp5)
  free : wr.frozen? ⟨ov, 0, none⟩ = false
  lt : ov < wr.heap.size
  own : w.heap.size < ov
  row : OwnE wr w.heap.size g5 cp5 (putsTo L m)
  ne : ¬ g5 = ov
  new : w.heap.size < g5
  res : wr.cell? ⟨w.heap.size, 0, none⟩ = some (.slice none 0 0)
  rfree : wr.frozen? ⟨w.heap.size, 0, none⟩ = false
  below : Below w.heap.size w wr
theorem PInv.step {w : World} {ov : Nat} {L : List Ent} {m g5 cp5 : Nat} {wr w' : World} (h : PInv w ov L m g5 cp5 wr) (hb : Below wr.heap.size wr w') : PInv w ov L m g5 cp5 w' where
  hdr := by rw [hb.cell (p := ⟨ov, 0, none⟩) h.lt]; exact h.hdr
  free := by rw [hb.frozen (p := ⟨ov, 0, none⟩) h.lt]; exact h.free
  lt := by have := hb.size; have := h.lt; omega
  own := h.own
  row := h.row.below hb h.row.lt.2
  ne := h.ne
  new := h.new
  res := by rw [hb.cell (p := ⟨w.heap.size, 0, none⟩) (by have := h.own; have := h.lt; show w.heap.size < wr.heap.size; omega)]; exact h.res
  rfree := by rw [hb.frozen (p := ⟨w.heap.size, 0, none⟩) (by have := h.own; have := h.lt; show w.heap.size < wr.heap.size; omega)]; exact h.rfree
  below := h.below.trans (hb.mono h.below.size)
theorem PInv.push {w : World} {ov : Nat} {L : List Ent} {m g5 cp5 : Nat} {wA w7 : World} (h : PInv w ov L m g5 cp5 wA) {x : Ent} (hx : L[m]? = some x) {g7 cp7 : Nat} (hO : OwnE w7 w.heap.size g7 cp7 (putsTo L m ++ [putE x])) (hgr : wA.grownBy w7 (some g5)) (hgg : g5 = g7 ∨ g7 = wA.heap.size) :
    PInv w ov L (m + 1) g7 cp7 (w7.setCell ⟨ov, 0, none⟩ (.slice (some ⟨g7, 0, none⟩) (m + 1) cp7)) ∧ w7.cell? ⟨ov, 0, none⟩ = some (.slice (some ⟨g5, 0, none⟩) m cp5) ∧ w7.frozen? ⟨ov, 0, none⟩ = false := by
  have hc7 : Chg (fun k => k = g5) wA w7 := Chg.of_grown hgr (fun k hk => by cases hk; rfl)
  have hc8 : Chg (fun k => k = ov) w7 (w7.setCell ⟨ov, 0, none⟩ (.slice (some ⟨g7, 0, none⟩) (m + 1) cp7)) := Chg.of_set _ _ _ _ rfl
  have s7 := hc7.size
  have s8 := hc8.size
  have hl := h.lt
  have ho := h.own
  have hn := h.new
  have c7 : w7.cell? ⟨ov, 0, none⟩ = some (.slice (some ⟨g5, 0, none⟩) m cp5) := by rw [hc7.cell (p := ⟨ov, 0, none⟩) hl (fun q => h.ne q.symm)]; exact h.hdr
  have f7 : w7.frozen? ⟨ov, 0, none⟩ = false := by rw [hc7.frozen (p := ⟨ov, 0, none⟩) hl (fun q => h.ne q.symm)]; exact h.free
  have hne7 : ¬ g7 = ov := by
    rcases hgg with q | q
    · rw [← q]; exact h.ne
    · omega
  refine ⟨?_, c7, f7⟩
  exact {
    hdr := World.cell?_setCell_same _ _ _ c7
    free := by rw [World.frozen?_setCell]; exact f7
    lt := by omega
    own := ho
    row := by
      rw [putsTo_succ hx]
      exact World.ownsRow.kept hO (grown_set w7 ov 0 _) (.inr (fun q => hne7 (Option.some.inj q)))
    ne := hne7
    new := by
      rcases hgg with q | q
      · rw [← q]; exact hn
      · omega
    res := by
      rw [hc8.cell (p := ⟨w.heap.size, 0, none⟩) (by show w.heap.size < w7.heap.size; omega) (by show ¬ w.heap.size = ov; omega), hc7.cell (p := ⟨w.heap.size, 0, none⟩) (by show w.heap.size < wA.heap.size; omega) (by show ¬ w.heap.size = g5; omega)]
      exact h.res
    rfree := by
      rw [hc8.frozen (p := ⟨w.heap.size, 0, none⟩) (by show w.heap.size < w7.heap.size; omega) (by show ¬ w.heap.size = ov; omega), hc7.frozen (p := ⟨w.heap.size, 0, none⟩) (by show w.heap.size < wA.heap.size; omega) (by show ¬ w.heap.size = g5; omega)]
      exact h.rfree
    below := Chg.below (Chg.below h.below hc7 h.below.size (fun k q => by omega)) hc8 (by omega) (fun k q => by omega) }

set_option maxHeartbeats 4000000 in
theorem puts_core (g cap : Nat) (L : List Ent) (base : Nat) (w : World) (hC : OwnC w base g cap L) (hn : L.length ≤ 1048576) :
    Calls Try.prog 41 #[.slice (some ⟨g, 0, none⟩) L.length cap] w fun r w' =>
      ∃ g' cp, r = .returned (.agg #[.slice (some ⟨g', 0, none⟩) L.length cp]) ∧ OwnE w' w.heap.size g' cp (L.map putE) ∧ Below w.heap.size w w' := by
  have HC : Hid (OwnC w base g cap L) := hC
  have hgl := hC.lt.2
  clear hC
  obtain ⟨Wa, hWa⟩ : ∃ Wa : World, Wa = w.alloc (Obj.cells #[.slice none 0 0] 29) := ⟨_, rfl⟩
  have hba : Below w.heap.size w Wa := by rw [hWa]; exact (Below.refl _ _).alloc (Nat.le_refl _) _
  have hza : Wa.heap.size = w.heap.size + 1 := by rw [hWa]; simp
  obtain ⟨Wb, hWb⟩ : ∃ Wb : World, Wb = Wa.alloc (Obj.cells #[] 62) := ⟨_, rfl⟩
  have hbb : Below Wa.heap.size Wa Wb := by rw [hWb]; exact (Below.refl _ _).alloc (Nat.le_refl _) _
  have hzb : Wb.heap.size = w.heap.size + 1 + 1 := by rw [hWb]; simp [hza]
  obtain ⟨Wc, hWc⟩ : ∃ Wc : World, Wc = Wb.alloc (Obj.cells #[.slice (some ⟨w.heap.size + 1, 0, none⟩) 0 0] 29) := ⟨_, rfl⟩
  have hbc : Below Wb.heap.size Wb Wc := by rw [hWc]; exact (Below.refl _ _).alloc (Nat.le_refl _) _
  have hzc : Wc.heap.size = w.heap.size + 1 + 1 + 1 := by rw [hWc]; simp [hzb]
  have HP : Hid (PInv w (w.heap.size + 1 + 1) L 0 (w.heap.size + 1) 0 Wc) := by
    have k1 : Below Wa.heap.size Wa Wc := hbb.trans (hbc.mono (by omega))
    exact {
      hdr := by rw [hWc, ← hzb]; simp
      free := by
        rw [hWc, ← hzb]
        exact World.ownsRow.frozenAt (World.ownsRow_lit (base := 0) (e := 29) (size := 1) Wb #[.slice (some ⟨w.heap.size + 1, 0, none⟩) 0 0] 1 (Nat.zero_le _) (by decide) rfl) 0
      lt := by omega
      own := by omega
      row := by
        have h0 : OwnE Wb w.heap.size (w.heap.size + 1) 0 [] := by
          rw [hWb, ← hza]
          exact World.ownsRow_made Wa #[] 0 (by omega) (Nat.zero_le _) (by simp)
        exact h0.below hbc (by omega)
      ne := by omega
      new := by omega
      res := by
        rw [k1.cell (p := ⟨w.heap.size, 0, none⟩) (by show w.heap.size < Wa.heap.size; omega), hWa]; simp
      rfree := by
        rw [k1.frozen (p := ⟨w.heap.size, 0, none⟩) (by show w.heap.size < Wa.heap.size; omega), hWa]
        exact World.ownsRow.frozenAt (World.ownsRow_lit (base := 0) (e := 29) (size := 1) w #[.slice none 0 0] 1 (Nat.zero_le _) (by decide) rfl) 0
      below := hba.trans (k1.mono (by omega)) }
  go_enter Try.func41, Try.ntmps41
  go_wp2_with fail
  rw [← hWa, ← hWb, ← hWc]
  clear hWa hWb hWc hba hbb hbc
  generalize w.heap.size + 1 + 1 = ov at *
  generalize w.heap.size + 1 = g0 at *
  go_loopw [4] (fun i wr => ∃ (m g5 cp5 : Nat), m ≤ L.length ∧ i = .int .i64 m ∧ PInv w ov L m g5 cp5 wr) (fun i _ => L.length - (intOf i).toNat)
  case atStart => exact ⟨0, _, _, Nat.zero_le _, rfl, HP.out⟩
  case round =>
    obtain ⟨m, g5, cp5, hm, rfl, hI⟩ := hrel
    have HI : Hid (PInv w ov L m g5 cp5 wr) := hI
    have hbw := hI.below
    have hsw := hbw.size
    have h0 := hI.hdr
    have hf0 := hI.free
    have hgl5 := hI.row.lt.2
    have hlo := hI.lt
    clear hI HP
    by_cases hlt : m < L.length
    · obtain ⟨x, hx⟩ : ∃ x, L[m]? = some x := ⟨_, List.getElem?_eq_getElem hlt⟩
      obtain ⟨c0, c1, c2, c3, c4⟩ := (HC.out.below hbw hgl).at m x hx
      simp only [Nat.zero_add, Nat.zero_mul] at c0 c1 c2 c3 c4
      have HX : Hid (L[m]? = some x ∧ CelsAt wr g 0 L) := ⟨hx, (HC.out.below hbw hgl).at⟩
      have HTM : Hid (m = (putsTo L m).length) := (putsTo_len hm).symm
      have hpl : (putsTo L m).length ≤ 2 ^ 30 := by rw [← HTM.out]; omega
      clear hx
      have zm : (m : Int) < (L.length : Int) := by omega
      have ngo : g ≠ ov := by have := HI.out.own; omega
      have hgr0 : g < wr.heap.size := by omega
      go_upto_region 5 with fail
      go_region_law ((first
                | (go_simp; go_at_call 72; refine (specPut_any x _).mono ?_; rintro e' w6 ⟨rfl, hb6⟩; have hq6 : Below wr.heap.size wr w6 := ((Below.refl wr.heap.size wr).drew).trans hb6; have m6 := (HI.out.step hq6).hdr; have m6a : ∀ o, (w6.alloc o).cell? ⟨ov, 0, none⟩ = some (.slice (some ⟨g5, 0, none⟩) m cp5) := fun o => by { rw [((Below.refl w6.heap.size w6).alloc (Nat.le_refl _) o).cell (p := ⟨ov, 0, none⟩) (Nat.lt_of_lt_of_le hlo hq6.size)]; exact m6 })
                | (refine step_append_ent _ (by rfl) _ _ (by rfl) w.heap.size g5 cp5 m w6.heap.size (putsTo L m) (putE x) HTM.out (by rfl) (by rfl) ?hO ?hc hpl ?hb ?_
                   case hO => exact (HI.out.step hq6).row.below ((Below.refl _ _).alloc (Nat.le_refl _) _) (Nat.lt_of_lt_of_le hgl5 hq6.size)
                   case hc => exact ent_boxP w6 (putE x)
                   case hb => exact Nat.le_trans hsw (Nat.le_trans hq6.size (by simp))
                   intro g7 cp7 w7 hO7 hgr7 hgg7
                   have hpp := ((HI.out.step hq6).step ((Below.refl w6.heap.size w6).alloc (Nat.le_refl _) (Obj.cells #[.string (putE x).row, .string (putE x).fam, .string (putE x).qual, .int .u64 (putE x).ts, .int .i64 (putE x).kind, .string (putE x).val] 62))).push HX.out.1 hO7 hgr7 (by simpa using hgg7)
                   have fin7 : Hid (PInv w ov L (m + 1) g7 cp7 (w7.setCell ⟨ov, 0, none⟩ (.slice (some ⟨g7, 0, none⟩) (m + 1) cp7))) := hpp.1
                   have m7 := hpp.2.1
                   have f7 := hpp.2.2
                   clear hpp hO7 hgr7 hgg7)))
      all_goals go_wp2_with fail
      all_goals go_roundw
      all_goals first
        | exact ⟨m + 1, g7, cp7, by omega, by go_num, fin7.out⟩
        | (go_light; simp [intOf]; omega)
    · have hml : m = L.length := by omega
      have HF : Hid (OwnE wr w.heap.size g5 cp5 (L.map putE)) := by have := HI.out.row; rw [putsTo_all (by omega)] at this; exact this
      have r0 := HI.out.res
      have rf := HI.out.rfree
      have HM : Hid (m = L.length) := hml
      have zm : ¬ (m : Int) < (L.length : Int) := by omega
      have hnew := HI.out.new
      clear hml
      go_wp2_with fail
      refine bodyPost_ret (v := .agg #[.slice (some ⟨g5, 0, none⟩) m cp5]) (by simp [results, Try.results41, go_sem, World.cell?_setCell_same _ _ _ r0]) rfl ⟨g5, cp5, by rw [HM.out], ?_, ?_⟩
      · exact World.ownsRow.kept HF.out (grown_set wr w.heap.size 0 _) (.inr (fun q => by have h2 : g5 = w.heap.size := Option.some.inj q; omega))
      · exact hbw.setCell (Nat.le_refl _) _

end Go.Proofs.Ytnncedndlhfdkab

/-
  Runs that are valid: the loop of spec.ValidRun.
-/
namespace Go.Proofs.Ytnncedndlhfdkab
open Go.ChangeShapes Go.WideShapes Go.ChangeAt Go.RowKit Go.Deep
set_option linter.unusedVariables false

theorem okPair_f1 {p e : Ent} (h : (keyCmp p e != -1) = true) : okPair p e = false := by
  unfold okPair; simp at h; simp [h]
theorem okPair_t1 {p e : Ent} (h : (keyCmp p e != -1) = false) (h2 : (p.kind == 2) = false) : okPair p e = true := by
  unfold okPair; simp at h; simp [h, h2]
theorem okPair_t2 {p e : Ent} (h : (keyCmp p e != -1) = false) (h2 : (e.kind == 2) = false) : okPair p e = true := by
  unfold okPair; simp at h; simp [h, h2]
theorem okPair_s {p e : Ent} (h : (keyCmp p e != -1) = false) (h2 : (p.kind == 2) = true) (h3 : (e.kind == 2) = true) : okPair p e = !sameCol p e := by
  unfold okPair; simp at h; simp [h, h2, h3]

/-- How the test of spec.ValidRun on two neighbours comes out. -/
theorem pair_ways (p e : Ent) :
    ((keyCmp p e != -1) = true ∧ okPair p e = false) ∨ ((keyCmp p e != -1) = false ∧ (p.kind == 2) = false ∧ okPair p e = true) ∨
    ((keyCmp p e != -1) = false ∧ (p.kind == 2) = true ∧ (e.kind == 2) = false ∧ okPair p e = true) ∨
    ((keyCmp p e != -1) = false ∧ (p.kind == 2) = true ∧ (e.kind == 2) = true ∧ sameCol p e = true ∧ okPair p e = false) ∨
    ((keyCmp p e != -1) = false ∧ (p.kind == 2) = true ∧ (e.kind == 2) = true ∧ sameCol p e = false ∧ okPair p e = true) := by
  cases h1 : (keyCmp p e != -1)
  · cases h2 : (p.kind == 2)
    · exact .inr (.inl ⟨rfl, rfl, okPair_t1 h1 h2⟩)
    · cases h3 : (e.kind == 2)
      · exact .inr (.inr (.inl ⟨rfl, rfl, rfl, okPair_t2 h1 h3⟩))
      · cases h4 : sameCol p e
        · exact .inr (.inr (.inr (.inr ⟨rfl, rfl, rfl, rfl, by rw [okPair_s h1 h2 h3, h4]; rfl⟩)))
        · exact .inr (.inr (.inr (.inl ⟨rfl, rfl, rfl, rfl, by rw [okPair_s h1 h2 h3, h4]; rfl⟩)))
  · exact .inl ⟨rfl, okPair_f1 h1⟩

set_option maxHeartbeats 2000000 in
theorem specValidRun_core (b off cap : Nat) (es : List Ent) (w : World) (hE : EntsAt w b off es) (hok : ∀ e ∈ es, e.ok) (hB : b < w.heap.size) (hlen : es.length ≤ cap) (hcap : cap ≤ maxLen) :
    Calls Try.prog 9 #[.agg #[.slice (some ⟨b, off, none⟩) es.length cap]] w fun e w' =>
      ∃ r : Bool, e = .returned (.bool r) ∧ (r = true ↔ GoodR es) ∧ Below w.heap.size w w' := by
  obtain ⟨W0, hW0⟩ : ∃ W0 : World, W0 = w.alloc (Obj.cells #[.slice (some ⟨b, off, none⟩) es.length cap] 29) := ⟨_, rfl⟩
  have hb0 : Below w.heap.size w W0 := by rw [hW0]; exact (Below.refl _ _).alloc (Nat.le_refl _) _
  have hz0 : w.heap.size < W0.heap.size := by rw [hW0]; simp
  have ca : W0.cell? ⟨w.heap.size, 0, none⟩ = some (.slice (some ⟨b, off, none⟩) es.length cap) := by rw [hW0]; simp
  have HE : Hid (EntsAt W0 b off es) := hE.below hb0 hB
  have HO : Hid (∀ e ∈ es, e.ok) := hok
  clear hE hok
  unfold maxLen at hcap
  by_cases hbig : 10000 < es.length
  · have H : Hid (¬ GoodR es) := fun h => by have := h.1.1; omega
    go_enter Try.func9, Try.ntmps9
    go_wp2
    go_ret
    exact ⟨_, rfl, iffF H.out, (Below.refl _ _).alloc (Nat.le_refl _) _⟩
  go_enter Try.func9, Try.ntmps9
  go_wp2_with fail
  rw [← hW0]
  clear hW0
  go_loopw [3] (fun i wr => ∃ (k : Nat), k ≤ es.length ∧ i = .int .i64 k ∧ (∀ x ∈ es.take k, x.vld = true) ∧ PairsTo es k ∧ Below W0.heap.size W0 wr) (fun i _ => es.length - (intOf i).toNat)
  case atStart => exact ⟨0, Nat.zero_le _, rfl, by simp, fun i p e hi => by omega, Below.refl _ _⟩
  case round =>
    obtain ⟨k, hk, rfl, hv, hP, hb⟩ := hrel
    have HV : Hid ((∀ x ∈ es.take k, x.vld = true) ∧ PairsTo es k) := ⟨hv, hP⟩
    clear hv hP
    have hs2 := hb.size
    have car : wr.cell? ⟨w.heap.size, 0, none⟩ = some (.slice (some ⟨b, off, none⟩) es.length cap) := by rw [hb.cell (p := ⟨w.heap.size, 0, none⟩) (by show w.heap.size < _; omega)]; exact ca
    by_cases hlt : k < es.length
    · obtain ⟨e, he⟩ : ∃ e, es[k]? = some e := ⟨_, List.getElem?_eq_getElem hlt⟩
      have HEr := HE.out.below hb (by omega)
      obtain ⟨c0, c1, c2, c3, c4, c5⟩ := HEr k e he
      have HK : Hid (e.ok ∧ es[k]? = some e ∧ EntsAt wr b off es) := ⟨HO.out e (List.mem_of_getElem? he), he, HEr⟩
      clear he HEr
      go_wp2_with fail
      refine (specValid_core e.row e.fam e.qual e.val e.ts e.kind _ HK.out.1.row HK.out.1.fam HK.out.1.qual HK.out.1.val).mono ?_
      rintro e' w1 ⟨rfl, hb1⟩
      obtain ⟨hc1, hf1⟩ := bcell hb1
      have hz1 : wr.heap.size < w1.heap.size := by have := hb1.size; simp at this; omega
      have hb2 := (hb.alloc hb.size (Obj.cells #[.string e.row, .string e.fam, .string e.qual, .int .u64 e.ts, .int .i64 e.kind, .string e.val] 62)).trans (hb1.mono (by simp; omega))
      clear c0 c1 c2 c3 c4 c5
      cases hv : vE e.row e.fam e.qual e.kind e.val
      · have H : Hid (¬ GoodR es) := fun h => by
          have := h.1.2 e (List.mem_of_getElem? HK.out.2.1)
          unfold Ent.vld at this
          rw [hv] at this
          cases this
        go_wp2_with fail
        go_ret
        exact ⟨_, rfl, iffF H.out, hb0.trans (hb2.mono (by omega))⟩
      · have H : Hid (∀ x ∈ es.take (k + 1), x.vld = true) := vld_of_take HV.out.1 HK.out.2.1 hv
        by_cases hk0 : k = 0
        · subst hk0
          go_wp2_with fail
          go_roundw
          case rel => exact ⟨0 + 1, by omega, by go_num, H.out, fun i p e hi => by omega, hb2⟩
          case measure => simp [intOf]; omega
        · obtain ⟨m, rfl⟩ : ∃ m, k = m + 1 := ⟨k - 1, by omega⟩
          obtain ⟨p, hp⟩ : ∃ e, es[m]? = some e := ⟨_, List.getElem?_eq_getElem (by omega)⟩
          have hbw : Below wr.heap.size wr w1 := ((Below.refl _ _).alloc (Nat.le_refl _) (Obj.cells #[.string e.row, .string e.fam, .string e.qual, .int .u64 e.ts, .int .i64 e.kind, .string e.val] 62)).trans (hb1.mono (by simp))
          have car1 : w1.cell? ⟨w.heap.size, 0, none⟩ = some (.slice (some ⟨b, off, none⟩) es.length cap) := by rw [hbw.cell (p := ⟨w.heap.size, 0, none⟩) (by show w.heap.size < _; omega)]; exact car
          obtain ⟨d0, d1, d2, d3, d4, d5⟩ := HK.out.2.2.below hbw (by omega) m p hp
          have HKp : Hid (es[m]? = some p) := hp
          clear hp
          have hw : IntKind.i64.wrap (m : Int) = (m : Int) := Go.IntWalk.i64_in _ (by omega)
          go_wp2_with fail
          refine (specCompareKeys_any p e _).mono ?_
          rintro e' w2 ⟨rfl, hb3⟩
          obtain ⟨hc3, hf3⟩ := bcell hb3
          have hz3 : w1.heap.size < w2.heap.size := by have := hb3.size; simp at this; omega
          have hb4 := (hb2.alloc hb2.size (Obj.cells #[.string p.row, .string p.fam, .string p.qual, .int .u64 p.ts, .int .i64 p.kind, .string p.val] 62)).trans (hb3.mono (by have := hb2.size; simp; omega))
          clear d0 d1 d2 d3 d4 d5
          rcases pair_ways p e with ⟨g1, ho⟩ | ⟨g1, g2, ho⟩ | ⟨g1, g2, g3, ho⟩ | ⟨g1, g2, g3, g4, ho⟩ | ⟨g1, g2, g3, g4, ho⟩
          · have H2 : Hid (¬ GoodR es) := fun h => by
              have := h.2 m p e HKp.out HK.out.2.1
              rw [ho] at this; cases this
            go_wp2_with fail
            go_ret
            exact ⟨_, rfl, iffF H2.out, hb0.trans (hb4.mono (by omega))⟩
          · have H2 : Hid (PairsTo es (m + 1 + 1)) := pairsTo_succ HV.out.2 HKp.out HK.out.2.1 ho
            go_wp2_with fail
            go_roundw
            case rel => exact ⟨m + 1 + 1, by omega, by go_num, H.out, H2.out, hb4⟩
            case measure => simp [intOf]; omega
          · have H2 : Hid (PairsTo es (m + 1 + 1)) := pairsTo_succ HV.out.2 HKp.out HK.out.2.1 ho
            go_wp2_with fail
            go_roundw
            case rel => exact ⟨m + 1 + 1, by omega, by go_num, H.out, H2.out, hb4⟩
            case measure => simp [intOf]; omega
          · have H2 : Hid (¬ GoodR es) := fun h => by
              have := h.2 m p e HKp.out HK.out.2.1
              rw [ho] at this; cases this
            go_wp2_with fail
            refine (sameColumn_any p e _).mono ?_
            rintro e' w3 ⟨rfl, hb5⟩
            have hb6 := hb4.trans (hb5.mono hb4.size)
            go_wp2_with fail
            go_ret
            exact ⟨_, rfl, iffF H2.out, hb0.trans (hb6.mono (by omega))⟩
          · have H2 : Hid (PairsTo es (m + 1 + 1)) := pairsTo_succ HV.out.2 HKp.out HK.out.2.1 ho
            go_wp2_with fail
            refine (sameColumn_any p e _).mono ?_
            rintro e' w3 ⟨rfl, hb5⟩
            have hb6 := hb4.trans (hb5.mono hb4.size)
            go_wp2_with fail
            go_roundw
            case rel => exact ⟨m + 1 + 1, by omega, by go_num, H.out, H2.out, hb6⟩
            case measure => simp [intOf]; omega
    · go_wp2_with fail
      go_ret
      refine ⟨_, rfl, iffT ⟨⟨by omega, fun e he => ?_⟩, pairs_of_to HV.out.2 (by omega)⟩, hb0.trans (hb.mono (by omega))⟩
      have := HV.out.1
      rw [List.take_of_length_le (by omega)] at this
      exact this e he
end Go.Proofs.Ytnncedndlhfdkab

/-
  A region that draws its order, whose operations read and whose callees leave alone what lay there: one walk.
-/
namespace Go.Proofs.Ytnncedndlhfdkab
open Go.ChangeShapes Go.WideShapes Go.ChangeAt Go.RowKit Go.Deep
set_option linter.unusedVariables false

/-- A world that has grown out of 'w'. -/
structure Out (w : World) where
  u : World
  out : Below w.heap.size w u

theorem wp_region_out {id : Nat} {Q : Exit → Act → World → Prop} {a : Act} {w : World} {l : List Oper} (hm : Try.prog.follows .mixedOrders = true) (hB : Region.lexB .any l.toArray = true)
    (h : wpQuiet Try.prog l.toArray (fun w' => ∃ n : Out w, w' = n.u) (fun a' => ∀ w', (∃ n : Out w, w' = n.u) → Q .normal a' w') l a) : (Code.region id l.toArray true).wp Try.prog Q a w :=
  wp_region_quiet (C := fun w' => ∃ n : Out w, w' = n.u) hm hB ⟨⟨_, (Below.refl _ _).drew⟩, rfl⟩ (by simpa using h)
theorem Calls.out_of {f : FuncId} {args : Array Value} {w : World} {n : Out w} {v : Value}
    (h : Calls Try.prog f args n.u fun e w' => e = .returned v ∧ Below n.u.heap.size n.u w') : Calls Try.prog f args n.u fun e w'' => e = .returned v ∧ ∃ m : Out w, w'' = m.u :=
  h.mono fun _ w' ⟨he, hb⟩ => ⟨he, ⟨w', n.out.trans (hb.mono n.out.size)⟩, rfl⟩
theorem ents_out {w : World} {b off j : Nat} {L : List Ent} {x : Ent} (h : EntsAt w b off L) (hb : b < w.heap.size) (hx : L[j]? = some x) :
    (∀ n : Out w, n.u.cell? ⟨b, off + j * 6, none⟩ = some (.string x.row)) ∧ (∀ n : Out w, n.u.cell? ⟨b, off + j * 6 + 1, none⟩ = some (.string x.fam)) ∧ (∀ n : Out w, n.u.cell? ⟨b, off + j * 6 + 2, none⟩ = some (.string x.qual)) ∧
    (∀ n : Out w, n.u.cell? ⟨b, off + j * 6 + 3, none⟩ = some (.int .u64 x.ts)) ∧ (∀ n : Out w, n.u.cell? ⟨b, off + j * 6 + 4, none⟩ = some (.int .i64 x.kind)) ∧ (∀ n : Out w, n.u.cell? ⟨b, off + j * 6 + 5, none⟩ = some (.string x.val)) :=
  ⟨fun n => (h.below n.out hb j x hx).1, fun n => (h.below n.out hb j x hx).2.1, fun n => (h.below n.out hb j x hx).2.2.1, fun n => (h.below n.out hb j x hx).2.2.2.1, fun n => (h.below n.out hb j x hx).2.2.2.2.1, fun n => (h.below n.out hb j x hx).2.2.2.2.2⟩
end Go.Proofs.Ytnncedndlhfdkab

/-
  impl.ValidCells, spec.ValidCells.
-/
namespace Go.Proofs.Ytnncedndlhfdkab
open Go.ChangeShapes Go.WideShapes Go.ChangeAt Go.RowKit Go.Deep
set_option linter.unusedVariables false
set_option linter.unusedSimpArgs false
set_option maxRecDepth 100000

theorem putE_ok {e : Ent} (h : e.ok) : (putE e).ok := ⟨h.row, h.fam, h.qual, h.val, h.ts, (show (Lit.int .i64 0).wf = true by decide)⟩
theorem okPair_put (a b : Ent) : okPair (putE a) (putE b) = (keyCmp (putE a) (putE b) == -1) := by
  unfold okPair putE; simp
set_option maxHeartbeats 2000000 in
theorem cellCompare_any (a b : Ent) (w : World) :
    Calls Try.prog 45 #[a.c, b.c] w fun e w' => e = .returned (.int .i64 (keyCmp (putE a) (putE b))) ∧ Below w.heap.size w w' := by
  unfold Ent.c
  obtain ⟨W0, hW0⟩ : ∃ W0 : World, W0 = (w.alloc (Obj.cells #[.string a.row, .string a.fam, .string a.qual, .int .u64 a.ts, .string a.val] 71)).alloc (Obj.cells #[.string b.row, .string b.fam, .string b.qual, .int .u64 b.ts, .string b.val] 71) := ⟨_, rfl⟩
  have hb0 : Below w.heap.size w W0 := by rw [hW0]; exact ((Below.refl _ _).alloc (Nat.le_refl _) _).alloc (by simp) _
  have hz0 : W0.heap.size = w.heap.size + 2 := by rw [hW0]; simp
  have HA : Hid (CelsAt W0 w.heap.size 0 [a] ∧ CelsAt W0 (w.heap.size + 1) 0 [b]) := by
    rw [hW0]
    refine ⟨(cel_new w a).below ((Below.refl _ _).alloc (Nat.le_refl _) _) (by simp), ?_⟩
    have := cel_new (w.alloc (Obj.cells #[.string a.row, .string a.fam, .string a.qual, .int .u64 a.ts, .string a.val] 71)) b
    simpa using this
  have q : ∀ n : Out W0, CelsAt n.u w.heap.size 0 [a] ∧ CelsAt n.u (w.heap.size + 1) 0 [b] := fun n => ⟨HA.out.1.below n.out (by omega), HA.out.2.below n.out (by omega)⟩
  have a0 : ∀ n : Out W0, n.u.cell? ⟨w.heap.size, 0, none⟩ = some (.string a.row) := fun n => by simpa using ((q n).1 0 a rfl).1
  have a1 : ∀ n : Out W0, n.u.cell? ⟨w.heap.size, 1, none⟩ = some (.string a.fam) := fun n => by simpa using ((q n).1 0 a rfl).2.1
  have a2 : ∀ n : Out W0, n.u.cell? ⟨w.heap.size, 2, none⟩ = some (.string a.qual) := fun n => by simpa using ((q n).1 0 a rfl).2.2.1
  have a3 : ∀ n : Out W0, n.u.cell? ⟨w.heap.size, 3, none⟩ = some (.int .u64 a.ts) := fun n => by simpa using ((q n).1 0 a rfl).2.2.2.1
  have a4 : ∀ n : Out W0, n.u.cell? ⟨w.heap.size, 4, none⟩ = some (.string a.val) := fun n => by simpa using ((q n).1 0 a rfl).2.2.2.2
  have b0 : ∀ n : Out W0, n.u.cell? ⟨w.heap.size + 1, 0, none⟩ = some (.string b.row) := fun n => by simpa using ((q n).2 0 b rfl).1
  have b1 : ∀ n : Out W0, n.u.cell? ⟨w.heap.size + 1, 1, none⟩ = some (.string b.fam) := fun n => by simpa using ((q n).2 0 b rfl).2.1
  have b2 : ∀ n : Out W0, n.u.cell? ⟨w.heap.size + 1, 2, none⟩ = some (.string b.qual) := fun n => by simpa using ((q n).2 0 b rfl).2.2.1
  have b3 : ∀ n : Out W0, n.u.cell? ⟨w.heap.size + 1, 3, none⟩ = some (.int .u64 b.ts) := fun n => by simpa using ((q n).2 0 b rfl).2.2.2.1
  have b4 : ∀ n : Out W0, n.u.cell? ⟨w.heap.size + 1, 4, none⟩ = some (.string b.val) := fun n => by simpa using ((q n).2 0 b rfl).2.2.2.2
  clear q HA
  go_enter Try.func45, Try.ntmps45
  go_upto_region 1 with fail
  rw [← hW0]
  clear hW0 hz0
  have inh : Nonempty (Out W0) := ⟨⟨W0, Below.refl _ _⟩⟩
  refine wp_region_out (by kernel_rfl) (by kernel_rfl) ?_
  repeat (go_big_quiet_step ((first | (go_at_call 44; exact Calls.out_of (implPut_any _ _)) | (go_at_call 55; exact Calls.out_of (compare_any (putE a) (putE b) _)))))
  refine wpQuiet_nil ?_
  rintro w1 ⟨⟨wx, hb1⟩, rfl⟩
  go_wp2_with fail
  go_ret
  exact ⟨rfl, hb0.trans (hb1.mono hb0.size)⟩

/-- Whether it holds is told. -/
def ValPost (P : Prop) (w : World) (e : Ending) (w' : World) : Prop := ∃ r : Bool, e = .returned (.bool r) ∧ (r = true ↔ P) ∧ Below w.heap.size w w'
theorem pairsTo_one (es : List Ent) : PairsTo es 1 := fun i p e hi => by omega
theorem goodPut_pair {L : List Ent} {i : Nat} {p c : Ent} (h : GoodR (L.map putE)) (hp : L[i]? = some p) (hc : L[i + 1]? = some c) : keyCmp (putE p) (putE c) = -1 := by
  have h1 := h.2 i (putE p) (putE c) (by rw [List.getElem?_map, hp]; rfl) (by rw [List.getElem?_map, hc]; rfl)
  rw [okPair_put] at h1
  simpa using h1
set_option maxHeartbeats 8000000 in
theorem implCells_core (g cap : Nat) (L : List Ent) (base : Nat) (w : World) (hC : OwnC w base g cap L) (hok : ∀ e ∈ L, e.ok) (hn : L.length ≤ 1048576) :
    Calls Try.prog 16 #[.slice (some ⟨g, 0, none⟩) L.length cap] w (ValPost (GoodR (L.map putE)) w) := by
  have HC : Hid (OwnC w base g cap L ∧ ∀ e ∈ L, e.ok) := ⟨hC, hok⟩
  have hgl := hC.lt.2
  clear hC hok
  by_cases hbig : 10000 < L.length
  · have H : Hid (¬ GoodR (L.map putE)) := fun h => by have := h.1.1; rw [List.length_map] at this; omega
    have z : (10000 : Int) < (L.length : Int) := by omega
    go_enter Try.func16, Try.ntmps16
    go_wp2_with fail
    go_ret
    exact ⟨_, rfl, iffF H.out, Below.refl _ _⟩
  have z : ¬ (10000 : Int) < (L.length : Int) := by omega
  go_enter Try.func16, Try.ntmps16
  go_wp2_with fail
  go_loopw [10] (fun iv wr => ∃ (k : Nat), k ≤ L.length ∧ iv = .int .i64 (k : Int) ∧ (∀ x ∈ L.take k, (putE x).vld = true) ∧ PairsTo (L.map putE) k ∧ Below w.heap.size w wr) (fun iv _ => L.length - (intOf iv).toNat)
  case atStart => exact ⟨0, Nat.zero_le _, rfl, by simp, fun i p e hi => by omega, Below.refl _ _⟩
  case round =>
    obtain ⟨k, hk, rfl, hv, hP, hb⟩ := hrel
    have HV : Hid ((∀ x ∈ L.take k, (putE x).vld = true) ∧ PairsTo (L.map putE) k) := ⟨hv, hP⟩
    have hs := hb.size
    clear hv hP
    by_cases hlt : k < L.length
    · obtain ⟨c, hc⟩ : ∃ c, L[k]? = some c := ⟨_, List.getElem?_eq_getElem hlt⟩
      have HCc : Hid (L[k]? = some c ∧ c.ok) := ⟨hc, HC.out.2 c (List.mem_of_getElem? hc)⟩
      have HR : Hid (CelsAt wr g 0 L) := HC.out.1.at.below hb hgl
      obtain ⟨c0, c1, c2, c3, c4⟩ := HR.out k c hc
      simp only [Nat.zero_add] at c0 c1 c2 c3 c4
      have zk : (k : Int) < (L.length : Int) := by omega
      obtain ⟨W1, hW1⟩ : ∃ W1 : World, W1 = wr.alloc (Obj.cells #[.string c.row, .string c.fam, .string c.qual, .int .u64 c.ts, .string c.val] 71) := ⟨_, rfl⟩
      have HW1 : Hid (CelsAt W1 wr.heap.size 0 [c] ∧ CelsAt W1 g 0 L ∧ Below w.heap.size w W1 ∧ W1.heap.size = wr.heap.size + 1) := by
        have hba : Below wr.heap.size wr W1 := by rw [hW1]; exact (Below.refl _ _).alloc (Nat.le_refl _) _
        refine ⟨by rw [hW1]; exact cel_new wr c, HR.out.below hba (by omega), hb.trans (hba.mono hs), by rw [hW1]; simp⟩
      clear hc
      go_upto_region 6 with fail
      rw [← hW1]
      clear hW1 c0 c1 c2 c3 c4 HR
      have hz1 := HW1.out.2.2.2
      have q : ∀ n : Out W1, CelsAt n.u wr.heap.size 0 [c] := fun n => HW1.out.1.below n.out (by omega)
      have a0 : ∀ n : Out W1, n.u.cell? ⟨wr.heap.size, 0, none⟩ = some (.string c.row) := fun n => by simpa using ((q n) 0 c rfl).1
      have a1 : ∀ n : Out W1, n.u.cell? ⟨wr.heap.size, 1, none⟩ = some (.string c.fam) := fun n => by simpa using ((q n) 0 c rfl).2.1
      have a2 : ∀ n : Out W1, n.u.cell? ⟨wr.heap.size, 2, none⟩ = some (.string c.qual) := fun n => by simpa using ((q n) 0 c rfl).2.2.1
      have a3 : ∀ n : Out W1, n.u.cell? ⟨wr.heap.size, 3, none⟩ = some (.int .u64 c.ts) := fun n => by simpa using ((q n) 0 c rfl).2.2.2.1
      have a4 : ∀ n : Out W1, n.u.cell? ⟨wr.heap.size, 4, none⟩ = some (.string c.val) := fun n => by simpa using ((q n) 0 c rfl).2.2.2.2
      clear q hz1
      have inh : Nonempty (Out W1) := ⟨⟨W1, Below.refl _ _⟩⟩
      obtain ⟨bv, hbv⟩ : ∃ bv, bv = (putE c).vld := ⟨_, rfl⟩
      have HVal : Hid (∀ n : Out W1, Calls Try.prog 43 #[(putE c).v] n.u fun e w' => e = .returned (.bool bv) ∧ Below n.u.heap.size n.u w') := fun n => by
        rw [hbv]
        exact implValid_core _ _ _ _ _ _ n.u HCc.out.2.row HCc.out.2.fam HCc.out.2.qual HCc.out.2.val
      have HBv : Hid ((putE c).vld = bv) := hbv.symm
      clear hbv
      cases bv
      · have HF : Hid (¬ GoodR (L.map putE)) := fun h => by
          have := h.1.2 (putE c) (List.mem_map.2 ⟨c, List.mem_of_getElem? HCc.out.1, rfl⟩)
          rw [HBv.out] at this; cases this
        refine wp_region_out (by kernel_rfl) (by kernel_rfl) ?_
        repeat (go_big_quiet_step ((first | (go_at_call 44; exact Calls.out_of (implPut_any _ _)) | (go_at_call 43; exact Calls.out_of (HVal.out _)))))
        refine wpQuiet_nil ?_
        rintro w2 ⟨⟨wx, hb2⟩, rfl⟩
        go_wp2_with fail
        go_ret
        exact ⟨_, rfl, iffF HF.out, HW1.out.2.2.1.trans (hb2.mono HW1.out.2.2.1.size)⟩
      have HVN : Hid (∀ x ∈ L.take (k + 1), (putE x).vld = true) := by
        intro x hx
        rw [List.take_add_one, HCc.out.1] at hx
        rcases List.mem_append.1 hx with hx | hx
        · exact HV.out.1 x hx
        · simp at hx; subst hx; exact HBv.out
      by_cases hk0 : k = 0
      · subst hk0
        refine wp_region_out (by kernel_rfl) (by kernel_rfl) ?_
        repeat (go_big_quiet_step ((first | (go_at_call 44; exact Calls.out_of (implPut_any _ _)) | (go_at_call 43; exact Calls.out_of (HVal.out _)))))
        refine wpQuiet_nil ?_
        rintro w2 ⟨⟨wx, hb2⟩, rfl⟩
        go_wp2_with fail
        go_roundw
        case rel => exact ⟨1, by omega, by go_num, HVN.out, pairsTo_one _, HW1.out.2.2.1.trans (hb2.mono HW1.out.2.2.1.size)⟩
        case measure => simp [intOf]; omega
      obtain ⟨m, rfl⟩ : ∃ m, k = m + 1 := ⟨k - 1, by omega⟩
      obtain ⟨p, hp⟩ : ∃ p, L[m]? = some p := ⟨_, List.getElem?_eq_getElem (by omega)⟩
      have HPp : Hid (L[m]? = some p) := hp
      have q : ∀ n : Out W1, CelsAt n.u g 0 L := fun n => HW1.out.2.1.below n.out (by have := HW1.out.2.2.2; omega)
      have p0 : ∀ n : Out W1, n.u.cell? ⟨g, m * 5, none⟩ = some (.string p.row) := fun n => by simpa using ((q n) m p hp).1
      have p1 : ∀ n : Out W1, n.u.cell? ⟨g, m * 5 + 1, none⟩ = some (.string p.fam) := fun n => by simpa using ((q n) m p hp).2.1
      have p2 : ∀ n : Out W1, n.u.cell? ⟨g, m * 5 + 2, none⟩ = some (.string p.qual) := fun n => by simpa using ((q n) m p hp).2.2.1
      have p3 : ∀ n : Out W1, n.u.cell? ⟨g, m * 5 + 3, none⟩ = some (.int .u64 p.ts) := fun n => by simpa using ((q n) m p hp).2.2.2.1
      have p4 : ∀ n : Out W1, n.u.cell? ⟨g, m * 5 + 4, none⟩ = some (.string p.val) := fun n => by simpa using ((q n) m p hp).2.2.2.2
      clear q hp
      obtain ⟨kc, hkc⟩ : ∃ kc, kc = keyCmp (putE p) (putE c) := ⟨_, rfl⟩
      have HCm : Hid (∀ n : Out W1, Calls Try.prog 45 #[p.c, c.c] n.u fun e w' => e = .returned (.int .i64 kc) ∧ Below n.u.heap.size n.u w') := fun n => by
        rw [hkc]; exact cellCompare_any p c n.u
      have HKc : Hid (kc = keyCmp (putE p) (putE c)) := hkc
      have zm : (m : Int) < (L.length : Int) := by omega
      have zm0 : (0 : Int) < (m : Int) + 1 := by omega
      clear hkc
      by_cases hneg : 0 ≤ kc
      · have HF : Hid (¬ GoodR (L.map putE)) := fun h => by
          have := goodPut_pair h HPp.out HCc.out.1
          rw [← HKc.out] at this; omega
        refine wp_region_out (by kernel_rfl) (by kernel_rfl) ?_
        repeat (go_big_quiet_step ((first | (go_at_call 44; exact Calls.out_of (implPut_any _ _)) | (go_at_call 43; exact Calls.out_of (HVal.out _)) | (go_at_call 45; exact Calls.out_of (HCm.out _)))))
        refine wpQuiet_nil ?_
        rintro w2 ⟨⟨wx, hb2⟩, rfl⟩
        go_wp2_with fail
        go_ret
        exact ⟨_, rfl, iffF HF.out, HW1.out.2.2.1.trans (hb2.mono HW1.out.2.2.1.size)⟩
      · have HPN : Hid (PairsTo (L.map putE) (m + 1 + 1)) := by
          refine pairsTo_succ HV.out.2 (p := putE p) (e := putE c) (by rw [List.getElem?_map, HPp.out]; rfl) (by rw [List.getElem?_map, HCc.out.1]; rfl) ?_
          rw [okPair_put]
          rcases keyCmp_vals (putE p) (putE c) with h | h | h
          · rw [h]; rfl
          · rw [HKc.out, h] at hneg; omega
          · rw [HKc.out, h] at hneg; omega
        refine wp_region_out (by kernel_rfl) (by kernel_rfl) ?_
        repeat (go_big_quiet_step ((first | (go_at_call 44; exact Calls.out_of (implPut_any _ _)) | (go_at_call 43; exact Calls.out_of (HVal.out _)) | (go_at_call 45; exact Calls.out_of (HCm.out _)))))
        refine wpQuiet_nil ?_
        rintro w2 ⟨⟨wx, hb2⟩, rfl⟩
        go_wp2_with fail
        go_roundw
        case rel => exact ⟨m + 1 + 1, by omega, by go_num, HVN.out, HPN.out, HW1.out.2.2.1.trans (hb2.mono HW1.out.2.2.1.size)⟩
        case measure => simp [intOf]; omega
    · have hkl : k = L.length := by omega
      have HF : Hid (GoodR (L.map putE)) := by
        refine ⟨⟨by rw [List.length_map]; omega, fun e he => ?_⟩, pairs_of_to HV.out.2 (by rw [List.length_map]; omega)⟩
        obtain ⟨x, hx, rfl⟩ := List.mem_map.1 he
        exact HV.out.1 x (by rw [List.take_of_length_le (by omega)]; exact hx)
      have zk : ¬ (k : Int) < (L.length : Int) := by omega
      clear hkl
      go_wp2_with fail
      go_ret
      exact ⟨_, rfl, iffT HF.out, hb⟩

set_option maxHeartbeats 1000000 in
theorem specCells_core (g cap : Nat) (L : List Ent) (base : Nat) (w : World) (hC : OwnC w base g cap L) (hok : ∀ e ∈ L, e.ok) (hn : L.length ≤ 1048576) :
    Calls Try.prog 14 #[.slice (some ⟨g, 0, none⟩) L.length cap] w (ValPost (GoodR (L.map putE)) w) := by
  have HC : Hid (OwnC w base g cap L ∧ ∀ e ∈ L, e.ok) := ⟨hC, hok⟩
  clear hC hok
  go_enter Try.func14, Try.ntmps14
  go_wp2_with fail
  refine (puts_core g cap L base w HC.out.1 hn).mono ?_
  rintro e w1 ⟨g1, cp1, rfl, hO1, hb1⟩
  have HO : Hid (OwnE w1 w.heap.size g1 cp1 (L.map putE) ∧ cp1 ≤ maxLen ∧ L.length ≤ cp1) := by
    refine ⟨hO1, ?_⟩
    rcases hO1.2 with ⟨h0, _⟩ | ⟨g', cap', cur, hv, _, _, hn, hcap, _, _⟩
    · cases h0
    · simp only [Value.slice.injEq, Option.some.injEq, Addr.mk.injEq, and_true, true_and] at hv
      obtain ⟨rfl, rfl⟩ := hv
      rw [List.length_map] at hn
      exact ⟨hcap, hn⟩
  have hl : L.length = (L.map putE).length := (List.length_map ..).symm
  have HV : Hid (Calls Try.prog 9 #[.agg #[.slice (some ⟨g1, 0, none⟩) L.length cp1]] w1 fun e w' => ∃ r : Bool, e = .returned (.bool r) ∧ (r = true ↔ GoodR (L.map putE)) ∧ Below w1.heap.size w1 w') := by
    show Calls _ _ _ _ _
    have := specValidRun_core g1 0 cp1 (L.map putE) w1 HO.out.1.at (fun e he => by obtain ⟨x, hx, rfl⟩ := List.mem_map.1 he; exact putE_ok (HC.out.2 x hx)) HO.out.1.lt.2 (by rw [List.length_map]; exact HO.out.2.2) HO.out.2.1
    rw [List.length_map] at this
    exact this
  clear hO1 hl
  go_wp2_with fail
  refine HV.out.mono ?_
  rintro e w2 ⟨r, rfl, hr, hb2⟩
  have HR : Hid (r = true ↔ GoodR (L.map putE)) := hr
  clear hr
  go_wp2_with fail
  go_ret
  exact ⟨r, rfl, HR.out, hb1.trans (hb2.mono hb1.size)⟩
end Go.Proofs.Ytnncedndlhfdkab

