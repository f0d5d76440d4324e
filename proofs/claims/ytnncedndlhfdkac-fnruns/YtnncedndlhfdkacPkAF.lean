import Derived.Deep.DeepCutAuto
import Derived.Deep.RegionWith
import Derived.Sort.LotB
import Derived.Test.YtnncedndlhfdkacPkAB
import Derived.Test.YtnncedndlhfdkacPkAA
import Derived.Test.YtnncedndlhfdkacPkAC
import Derived.Test.YtnncedndlhfdkacPkAD
import Derived.Test.YtnncedndlhfdkacPkAE
/-
  Visible cells in memory, one behind another: an entry without its kind.
-/
namespace Go.Proofs.Ytnncedndlhfdkac
open Go.ChangeShapes Go.WideShapes Go.ChangeAt Go.RowKit Go.Deep
set_option linter.unusedVariables false
set_option linter.unusedSimpArgs false

abbrev Ent.five (e : Ent) : List Value := [.string e.row, .string e.fam, .string e.qual, .int .u64 e.ts, .string e.val]
abbrev Ent.c (e : Ent) : Value := .agg #[.string e.row, .string e.fam, .string e.qual, .int .u64 e.ts, .string e.val]
def cellsC (es : List Ent) : List Value := es.flatMap Ent.five
theorem cellsC_nil : cellsC [] = [] := rfl
theorem cellsC_cons (e : Ent) (es : List Ent) : cellsC (e :: es) = e.five ++ cellsC es := by simp [cellsC]
theorem cellsC_append (es fs : List Ent) : cellsC (es ++ fs) = cellsC es ++ cellsC fs := by simp [cellsC]
theorem length_cellsC (es : List Ent) : (cellsC es).length = es.length * 5 := by
  induction es with
  | nil => rfl
  | cons e es ih => rw [cellsC_cons, List.length_append, ih]; simp; omega
theorem cellsC_get (es : List Ent) : ∀ (k : Nat) (e : Ent), es[k]? = some e → ∀ j, j < 5 → (cellsC es)[k * 5 + j]? = e.five[j]? := by
  induction es with
  | nil => intro k e h; simp at h
  | cons f es ih =>
    intro k e h j hj
    rw [cellsC_cons]
    cases k with
    | zero =>
      simp at h; subst h
      rw [List.getElem?_append_left (by show 0 * 5 + j < 5; omega)]
      simp
    | succ k =>
      simp at h
      rw [List.getElem?_append_right (by show 5 ≤ (k + 1) * 5 + j; omega)]
      have : (k + 1) * 5 + j - f.five.length = k * 5 + j := by show (k + 1) * 5 + j - 5 = _; omega
      rw [this]; exact ih k e h j hj
theorem cellsC_set (es : List Ent) : ∀ (k : Nat) (e e' : Ent) (u : Value) (j : Nat), es[k]? = some e → j < 5 → e'.five = e.five.set j u → (cellsC es).set (k * 5 + j) u = cellsC (es.set k e') := by
  induction es with
  | nil => intro k e e' u j h; simp at h
  | cons f es ih =>
    intro k e e' u j h hj hc
    rw [cellsC_cons]
    cases k with
    | zero =>
      simp at h; subst h
      rw [List.set_append_left _ _ (by show 0 * 5 + j < 5; omega), List.set_cons_zero, cellsC_cons, hc]
      simp
    | succ k =>
      simp at h
      rw [List.set_append_right _ _ (by show 5 ≤ (k + 1) * 5 + j; omega), List.set_cons_succ, cellsC_cons]
      have : (k + 1) * 5 + j - f.five.length = k * 5 + j := by show (k + 1) * 5 + j - 5 = _; omega
      rw [this, ih k e e' u j h hj hc]

/-- The cells 'es' lie at ⟨b, off⟩, five each. -/
def CelsAt (w : World) (b off : Nat) (es : List Ent) : Prop :=
  ∀ i e, es[i]? = some e → w.cell? ⟨b, off + i * 5, none⟩ = some (.string e.row) ∧ w.cell? ⟨b, off + i * 5 + 1, none⟩ = some (.string e.fam) ∧ w.cell? ⟨b, off + i * 5 + 2, none⟩ = some (.string e.qual) ∧
    w.cell? ⟨b, off + i * 5 + 3, none⟩ = some (.int .u64 e.ts) ∧ w.cell? ⟨b, off + i * 5 + 4, none⟩ = some (.string e.val)
theorem CelsAt.below {B : Nat} {w w' : World} {b off : Nat} {es : List Ent} (h : CelsAt w b off es) (hb : Below B w w') (hlt : b < B) : CelsAt w' b off es := by
  intro i e he
  have := h i e he
  refine ⟨?_, ?_, ?_, ?_, ?_⟩
  all_goals rw [hb.cell (by exact hlt)]
  · exact this.1
  · exact this.2.1
  · exact this.2.2.1
  · exact this.2.2.2.1
  · exact this.2.2.2.2

/-- A row of the call's own holds the cells 'es'. -/
def OwnC (w : World) (base g cap : Nat) (es : List Ent) : Prop := w.ownsRow base 69 5 (.slice (some ⟨g, 0, none⟩) es.length cap) es.length (cellsC es)
theorem OwnC.at {w : World} {base g cap : Nat} {es : List Ent} (h : OwnC w base g cap es) : CelsAt w g 0 es := by
  intro i e he
  have hi : i < es.length := (List.getElem?_eq_some_iff.1 he).1
  have c := fun j (hj : j < 5) => (World.ownsRow.cellAt h (i * 5 + j) (by omega)).trans (cellsC_get es i e he j hj)
  refine ⟨?_, ?_, ?_, ?_, ?_⟩
  · simpa using c 0 (by omega)
  · simpa using c 1 (by omega)
  · simpa using c 2 (by omega)
  · simpa using c 3 (by omega)
  · simpa using c 4 (by omega)
theorem OwnC.lt {w : World} {base g cap : Nat} {es : List Ent} (h : OwnC w base g cap es) : base ≤ g ∧ g < w.heap.size := World.ownsRow.lt h g rfl
theorem OwnC.below {B : Nat} {w w' : World} {base g cap : Nat} {es : List Ent} (h : OwnC w base g cap es) (hb : Below B w w') (hg : g < B) : OwnC w' base g cap es := by
  refine ⟨h.1, ?_⟩
  rcases h.2 with hn | ⟨g', cap', cur, hv, h1, h2, rest⟩
  · exact .inl hn
  · simp only [Value.slice.injEq, Option.some.injEq, Addr.mk.injEq, and_true, true_and] at hv
    obtain ⟨rfl, rfl⟩ := hv
    exact .inr ⟨g, cap, cur, rfl, h1, by rw [hb.block g hg]; exact h2, rest⟩
theorem OwnC.set {w : World} {base g cap : Nat} {es : List Ent} (h : OwnC w base g cap es) (k j : Nat) (e e' : Ent) (u : Value) (hk : es[k]? = some e) (hj : j < 5) (hc : e'.five = e.five.set j u) :
    OwnC (w.setCell ⟨g, k * 5 + j, none⟩ u) base g cap (es.set k e') := by
  have := (World.ownsRow.stored h (k * 5 + j) u).1
  rw [cellsC_set es k e e' u j hk hj hc] at this
  unfold OwnC
  rw [List.length_set]
  exact this
theorem OwnC.upd {w : World} {base g cap m j : Nat} {fs : List Ent} {f f' : Ent} {u : Value} (h : OwnC w base g cap (fs.set m f)) (hm : m < fs.length) (hj : j < 5) (hc : f'.five = f.five.set j u) :
    OwnC (w.setCell ⟨g, m * 5 + j, none⟩ u) base g cap (fs.set m f') := by
  have := h.set m j f f' u (by simp [hm]) hj hc
  rwa [List.set_set] at this
theorem OwnC.mono {w : World} {base base' g cap : Nat} {es : List Ent} (h : OwnC w base g cap es) (hb : base' ≤ base) : OwnC w base' g cap es := by
  refine ⟨h.1, ?_⟩
  rcases h.2 with hn | ⟨g', cap', cur, hv, h1, rest⟩
  · exact .inl hn
  · exact .inr ⟨g', cap', cur, hv, Nat.le_trans hb h1, rest⟩
theorem OwnC.kept {w w' : World} {base g cp : Nat} {fs : List Ent} {row : Option Nat} (h : OwnC w base g cp fs) (hg : w.grownBy w' row) (hne : some g ≠ row) : OwnC w' base g cp fs :=
  World.ownsRow.kept h hg (.inr hne)
theorem OwnC.caps {w : World} {base g cp : Nat} {R : List Ent} (h : OwnC w base g cp R) : R.length ≤ cp ∧ cp ≤ maxLen := by
  rcases h.2 with ⟨h0, _⟩ | ⟨g', cap', cur, hv, _, _, hn, hcap, _, _⟩
  · cases h0
  · simp only [Value.slice.injEq, Option.some.injEq, Addr.mk.injEq, and_true, true_and] at hv
    obtain ⟨rfl, rfl⟩ := hv
    exact ⟨hn, hcap⟩
theorem ownC_new (w : World) : OwnC (w.alloc (Obj.cells #[] 69)) w.heap.size w.heap.size 0 [] := World.ownsRow_made w #[] 0 (Nat.le_refl _) (Nat.zero_le _) (by simp)

theorem Try.infoCel : (Try.prog.info? 69).map (fun i => (i.zero, i.size, i.bytes)) = some (some (.agg #[.string ⟨#[]⟩, .string ⟨#[]⟩, .string ⟨#[]⟩, .int .u64 0, .string ⟨#[]⟩]), 5, 72) := by kernel_rfl

theorem cel_new (wx : World) (f : Ent) : CelsAt (wx.alloc (Obj.cells #[.string f.row, .string f.fam, .string f.qual, .int .u64 f.ts, .string f.val] 69)) wx.heap.size 0 [f] := by
  intro j y hy
  obtain rfl : j = 0 := by
    have := (List.getElem?_eq_some_iff.1 hy).1
    simpa using this
  simp at hy
  subst hy
  simp

/-- One cell appended to a row of the call's own. -/
theorem wpList_append_cel {ops : Array Oper} {rest : List Oper} {o : Oper} {a : Act} {Q : Exit → Act → World → Prop} (w : World) (hgd : o.guard = none) (s x : Operand)
    (ho : o.op = .call { callee := .builtin .append, args := #[s, x], argTypes := #[27, 27] })
    (base g cp n blk : Nat) (fs : List Ent) (e : Ent) (hs : a.eval s = .slice (some ⟨g, 0, none⟩) n cp) (hx : a.eval x = .slice (some ⟨blk, 0, none⟩) 1 1) (hn : n = fs.length) (hO : OwnC w base g cp fs)
    (hc : CelsAt w blk 0 [e]) (hlen : fs.length ≤ 2 ^ 30) (hbase : base ≤ w.heap.size)
    (h : ∀ g' cp' w', OwnC w' base g' cp' (fs ++ [e]) → w.grownBy w' (some g) → wpList Try.prog ops Q rest (a.put o.dst (.slice (some ⟨g', 0, none⟩) (n + 1) cp')) w') : wpList Try.prog ops Q (o :: rest) a w := by
  obtain ⟨i, hi, hz0, hz1, hz2⟩ := info_parts Try.infoCel
  subst hn
  obtain ⟨c0, c1, c2, c3, c4⟩ := hc 0 e rfl
  refine wpList_append_own w hgd s x 27 ho base 69 i _ 5 72 Try.underlying27 hi hz0 hz1 hz2 rfl (by decide) (.slice (some ⟨g, 0, none⟩) fs.length cp) fs.length (cellsC fs) hs hO ⟨blk, 0, none⟩ 1 1 (cellsC [e]) hx rfl ?_ ?_ ?_ ?_ hbase ?_
  · intro j u hu
    have hj : j < 5 := by
      have := (List.getElem?_eq_some_iff.1 hu).1
      rw [length_cellsC] at this
      simpa using this
    rw [Addr.add_mid, Nat.zero_add]
    simp only [Nat.zero_mul, Nat.zero_add] at c0 c1 c2 c3 c4
    match j, hj, hu with
    | 0, _, hu => simp [cellsC] at hu; rw [← hu]; exact c0
    | 1, _, hu => simp [cellsC] at hu; rw [← hu]; exact c1
    | 2, _, hu => simp [cellsC] at hu; rw [← hu]; exact c2
    | 3, _, hu => simp [cellsC] at hu; rw [← hu]; exact c3
    | 4, _, hu => simp [cellsC] at hu; rw [← hu]; exact c4
  · intro u hu
    simp [cellsC] at hu
    rcases hu with rfl | rfl | rfl | rfl | rfl <;> rfl
  · unfold maxLen; omega
  · omega
  · intro v' w' hown hgr hnil
    rw [← cellsC_append] at hown
    have hlen' : (fs ++ [e]).length = fs.length + 1 := by simp
    rcases hown.2 with ⟨hv, _⟩ | ⟨g', cap', cur, hv, h1, h2, h3⟩
    · have := (hnil.1 hv).1
      simp at this
    · subst hv
      exact h g' cap' w' (by unfold OwnC; rw [hlen']; exact hown) hgr

set_option maxHeartbeats 400000 in
theorem specCell_any (e : Ent) (w : World) :
    Calls Try.prog 38 #[e.v] w fun r w' => r = .returned e.c ∧ Below w.heap.size w w' := by
  unfold Ent.v
  go_enter Try.func38, Try.ntmps38
  go_wp2
  refine bodyPost_ret (v := e.c) (by simp [results, Try.results38, go_sem]) rfl ⟨rfl, ?_⟩
  exact ((Below.refl _ _).alloc (Nat.le_refl _) _).alloc (by simp) _
set_option maxHeartbeats 400000 in
theorem implCell_any (e : Ent) (w : World) :
    Calls Try.prog 66 #[e.v] w fun r w' => r = .returned e.c ∧ Below w.heap.size w w' := by
  unfold Ent.v
  go_enter Try.func66, Try.ntmps66
  go_wp2
  refine bodyPost_ret (v := e.c) (by simp [results, Try.results66, go_sem]) rfl ⟨rfl, ?_⟩
  exact ((Below.refl _ _).alloc (Nat.le_refl _) _).alloc (by simp) _

set_option maxHeartbeats 400000 in
theorem eqCell_same (a : Ent) (w : World) :
    Calls Try.prog 45 #[a.c, a.c] w fun e w' => e = .returned (.bool true) ∧ Below w.heap.size w w' := by
  unfold Ent.c
  go_enter Try.func45, Try.ntmps45
  go_wp2
  go_ret
  exact ⟨rfl, ((Below.refl _ _).alloc (Nat.le_refl _) _).alloc (by simp) _⟩

set_option maxHeartbeats 1000000 in
theorem eqCellS_same (b off cap b' off' cap' : Nat) (es : List Ent) (w : World) (hE : CelsAt w b off es) (hE' : CelsAt w b' off' es) (hB : b < w.heap.size) (hB' : b' < w.heap.size) (hlen : es.length ≤ maxLen) :
    Calls Try.prog 13 #[.slice (some ⟨b, off, none⟩) es.length cap, .slice (some ⟨b', off', none⟩) es.length cap'] w fun e w' =>
      e = .returned (.bool true) ∧ Below w.heap.size w w' := by
  have HE : Hid (CelsAt w b off es ∧ CelsAt w b' off' es) := ⟨hE, hE'⟩
  clear hE hE'
  unfold maxLen at hlen
  go_enter Try.func13, Try.ntmps13
  go_wp2
  go_loopw [5] (fun i wr => ∃ (k : Nat), k ≤ es.length ∧ i = .int .i64 k ∧ Below w.heap.size w wr) (fun i _ => es.length - (intOf i).toNat)
  case atStart => exact ⟨0, Nat.zero_le _, rfl, Below.refl _ _⟩
  case round =>
    obtain ⟨k, hk, rfl, hb⟩ := hrel
    have hs2 := hb.size
    by_cases hlt : k < es.length
    · obtain ⟨e, he⟩ : ∃ e, es[k]? = some e := ⟨_, List.getElem?_eq_getElem hlt⟩
      obtain ⟨c0, c1, c2, c3, c4⟩ := HE.out.1.below hb hB k e he
      obtain ⟨d0, d1, d2, d3, d4⟩ := HE.out.2.below hb hB' k e he
      clear he
      go_upto_region 6 with fail
      go_cut [26] (fun s wx => s = .bool false ∧ Below w.heap.size w wx)
      case first =>
        have z2 : (k : Int) < (es.length : Int) := by omega
        go_region_with (go_at_call 45; refine (eqCell_same e _).mono ?_; rintro e' w' ⟨rfl, hbb⟩)
        all_goals go_wp2_with fail
        all_goals go_meet
        all_goals exact ⟨rfl, hb.drew.trans (hbb.mono (by simp; omega))⟩
      case rest =>
      obtain ⟨rfl, h3⟩ := hcut
      clear c0 c1 c2 c3 c4 d0 d1 d2 d3 d4
      go_wp2_with fail
      go_roundw
      case rel => exact ⟨k + 1, by omega, by go_num, h3⟩
      case measure => simp [intOf]; omega
    · go_wp2_with fail
      go_ret
      exact ⟨rfl, hb⟩
theorem eqCellS_own {w : World} {base g cp base' g' cp' : Nat} {es : List Ent} (h : OwnC w base g cp es) (h' : OwnC w base' g' cp' es) :
    Calls Try.prog 13 #[.slice (some ⟨g, 0, none⟩) es.length cp, .slice (some ⟨g', 0, none⟩) es.length cp'] w fun e w' => e = .returned (.bool true) ∧ Below w.heap.size w w' :=
  eqCellS_same g 0 cp g' 0 cp' es w h.at h'.at h.lt.2 h'.lt.2 (Nat.le_trans h.caps.1 h.caps.2)
end Go.Proofs.Ytnncedndlhfdkac

/-
  spec.Replay.
-/
namespace Go.Proofs.Ytnncedndlhfdkac
open Go.ChangeShapes Go.WideShapes Go.ChangeAt Go.RowKit Go.Deep
set_option linter.unusedVariables false
set_option linter.unusedSimpArgs false

theorem ord_len : ∀ (R ws : List Ent), Ord R → (∀ x ∈ R, x ∈ ws) → R.length ≤ ws.length
  | [], _, _, _ => by simp
  | a :: R, ws, h, hs => by
    have h' := List.pairwise_cons.1 h
    obtain ⟨l1, l2, rfl⟩ := List.append_of_mem (hs a (by simp))
    have := ord_len R (l1 ++ l2) h'.2 (fun x hx => by
      have h1 := hs x (List.mem_cons_of_mem _ hx)
      simp only [List.mem_append, List.mem_cons] at h1 ⊢
      rcases h1 with h1 | rfl | h1
      · exact .inl h1
      · have := h'.1 x hx
        rw [keyCmp_self] at this
        omega
      · exact .inr h1)
    simp at this ⊢
    omega
theorem rep_len {ws L : List Ent} {k : Nat} (h : Rep ws k L) : L.length ≤ ws.length :=
  ord_len L ws h.1 (fun x hx => by
    obtain ⟨i, _, a, _⟩ := (h.2 x).1 hx
    exact List.mem_of_getElem? a)
theorem kept_len {ws R : List Ent} {k : Nat} (h : Kept ws k R) : R.length ≤ ws.length :=
  ord_len R ws h.1 (fun x hx => by
    obtain ⟨i, _, a, _⟩ := (h.2 x).1 hx
    exact List.mem_of_getElem? a)

/-- What the replay of 'ws' may be. -/
def RepOf (ws L : List Ent) : Prop := (GoodW ws → Rep ws ws.length L) ∧ (¬ GoodW ws → L = [])
/-- What a delete leaves of the first 'j'. -/
def leftTo (e : Ent) (L : List Ent) (j : Nat) : List Ent := (L.take j).filter fun x => !(hit x e)
theorem leftTo_succ {e : Ent} {L : List Ent} {j : Nat} {x : Ent} (hx : L[j]? = some x) : leftTo e L (j + 1) = leftTo e L j ++ (if hit x e = true then [] else [x]) := by
  unfold leftTo
  rw [List.take_add_one, hx, List.filter_append]
  cases h : hit x e <;> simp [h]
theorem leftTo_all (e : Ent) (L : List Ent) : leftTo e L L.length = L.filter fun x => !(hit x e) := by unfold leftTo; rw [List.take_length]
theorem leftTo_len (e : Ent) (L : List Ent) (j : Nat) : (leftTo e L j).length ≤ L.length := Nat.le_trans (List.length_filter_le _ _) (by rw [List.length_take]; exact Nat.min_le_right _ _)
theorem OwnC.setBelow {w : World} {base g cap : Nat} {es : List Ent} (h : OwnC w base g cap es) (a : Addr) (ha : a.block < base) (u : Value) : OwnC (w.setCell a u) base g cap es := ownsRow_setCell_below h ha u

theorem OwnE.keptG {w w' : World} {base g cp : Nat} {fs : List Ent} {row : Option Nat} (h : OwnE w base g cp fs) (hg : w.grownBy w' row) (hne : some g ≠ row) : OwnE w' base g cp fs :=
  World.ownsRow.kept h hg (.inr hne)
theorem OwnC.ne_ent {w : World} {base g cp base' g' cp' : Nat} {es fs : List Ent} (h : OwnC w base g cp es) (h' : OwnE w base' g' cp' fs) : g ≠ g' := by
  rcases h.2 with ⟨h0, _⟩ | ⟨g1, cap1, cur, hv, _, hc, _⟩
  · cases h0
  · rcases h'.2 with ⟨h0, _⟩ | ⟨g2, cap2, cur2, hv2, _, hc2, _⟩
    · cases h0
    · simp only [Value.slice.injEq, Option.some.injEq, Addr.mk.injEq, and_true, true_and] at hv hv2
      obtain ⟨rfl, rfl⟩ := hv
      obtain ⟨rfl, rfl⟩ := hv2
      intro q
      rw [q, hc2] at hc
      simp at hc
theorem sameColumn_is (a b : Ent) {s : Bool} (hs : sameCol a b = s) (w : World) :
    Calls Try.prog 62 #[a.v, b.v] w fun e w' => e = .returned (.bool s) ∧ Below w.heap.size w w' := hs ▸ sameColumn_any a b w

set_option maxHeartbeats 8000000 in
set_option maxRecDepth 100000 in
theorem specReplay_core (b off cap : Nat) (ws : List Ent) (w : World) (hE : EntsAt w b off ws) (hok : ∀ e ∈ ws, e.ok) (hB : b < w.heap.size) (hlen : ws.length ≤ 1048576) :
    Calls Try.prog 27 #[.slice (some ⟨b, off, none⟩) ws.length cap] w fun r w' =>
      ∃ (g cp : Nat) (L : List Ent), r = .returned (.slice (some ⟨g, 0, none⟩) L.length cp) ∧ OwnC w' w.heap.size g cp L ∧ Below w.heap.size w w' ∧ L.length ≤ ws.length ∧ RepOf ws L := by
  have HE : Hid (EntsAt w b off ws) := hE
  have HO : Hid (∀ e ∈ ws, e.ok) := hok
  clear hE hok
  obtain ⟨W0, hW0⟩ : ∃ W0 : World, W0 = w.alloc (Obj.cells #[] 69) := ⟨_, rfl⟩
  have hb0 : Below w.heap.size w W0 := by rw [hW0]; exact (Below.refl _ _).alloc (Nat.le_refl _) _
  have hz0 : w.heap.size < W0.heap.size := by rw [hW0]; simp
  have HC0 : Hid (OwnC W0 w.heap.size w.heap.size 0 []) := by show OwnC W0 w.heap.size w.heap.size 0 []; rw [hW0]; exact ownC_new w
  have HE0 : Hid (EntsAt W0 b off ws) := HE.out.below hb0 hB
  go_enter Try.func27, Try.ntmps27
  go_wp2_with fail
  rw [← hW0]
  clear hW0
  refine (goodWrites_core b off cap ws _ HE0.out HO.out (by omega) hlen).mono ?_
  rintro e w1 ⟨r, rfl, hr, hb1⟩
  have HR : Hid (r = true ↔ GoodW ws) := hr
  clear hr
  have hs1 := hb1.size
  have k1 : Below w.heap.size w w1 := hb0.trans (hb1.mono (by omega))
  have HC1 : Hid (OwnC w1 w.heap.size w.heap.size 0 []) := HC0.out.below hb1 hz0
  cases r
  · have HN : Hid (¬ GoodW ws) := fun h => Bool.noConfusion (HR.out.2 h)
    go_wp2_with fail
    go_ret
    exact ⟨_, 0, [], rfl, HC1.out, k1, by simp, fun h => absurd h HN.out, fun _ => rfl⟩
  have HG : Hid (GoodW ws) := HR.out.1 rfl
  clear HR
  obtain ⟨W1, hW1⟩ : ∃ W1 : World, W1 = w1.alloc (Obj.cells #[] 63) := ⟨_, rfl⟩
  have hbA : Below w1.heap.size w1 W1 := by rw [hW1]; exact (Below.refl _ _).alloc (Nat.le_refl _) _
  have hzA : w1.heap.size < W1.heap.size := by rw [hW1]; simp
  have HL1 : Hid (OwnE W1 w1.heap.size w1.heap.size 0 []) := by
    show OwnE W1 w1.heap.size w1.heap.size 0 []
    rw [hW1]
    exact World.ownsRow_made w1 #[] 0 (Nat.le_refl _) (Nat.zero_le _) (by simp)
  have HE1 : Hid (EntsAt W1 b off ws) := (HE0.out.below hb1 (by omega)).below hbA (by omega)
  have HCA : Hid (OwnC W1 w.heap.size w.heap.size 0 []) := HC1.out.below hbA (by omega)
  go_wp2_with fail
  rw [← hW1]
  clear hW1
  go_loopw [4, 5] (fun o i wr => ∃ (k g cp : Nat) (L : List Ent), k ≤ ws.length ∧ i = .int .i64 k ∧ o = .slice (some ⟨g, 0, none⟩) L.length cp ∧ OwnE wr w1.heap.size g cp L ∧ Rep ws k L ∧ Below W1.heap.size W1 wr) (fun _ i _ => ws.length - (intOf i).toNat)
  case atStart => exact ⟨0, _, 0, [], Nat.zero_le _, rfl, rfl, HL1.out, rep_zero ws, Below.refl _ _⟩
  case round =>
    obtain ⟨k, g, cp, L, hk, rfl, rfl, hO, hK, hb⟩ := hrel
    obtain ⟨wo, rfl⟩ : ∃ wo : World, wo = wr := ⟨_, rfl⟩
    have HK : Hid (OwnE wo w1.heap.size g cp L ∧ Rep ws k L) := ⟨hO, hK⟩
    have hg := hO.lt
    have hLl := rep_len hK
    have hs := hb.size
    clear hO hK
    by_cases hlt : k < ws.length
    · obtain ⟨e, he⟩ : ∃ e, ws[k]? = some e := ⟨_, List.getElem?_eq_getElem hlt⟩
      have HEo : Hid (EntsAt wo b off ws) := HE1.out.below hb (by omega)
      obtain ⟨c0, c1, c2, c3, c4, c5⟩ := HEo.out k e he
      have HKe : Hid (ws[k]? = some e) := he
      clear he
      obtain ⟨W2, hW2⟩ : ∃ W2 : World, W2 = wo.alloc (Obj.cells #[.string e.row, .string e.fam, .string e.qual, .int .u64 e.ts, .int .i64 e.kind, .string e.val] 63) := ⟨_, rfl⟩
      have hbW : Below wo.heap.size wo W2 := by rw [hW2]; exact (Below.refl _ _).alloc (Nat.le_refl _) _
      have hzW : wo.heap.size < W2.heap.size := by rw [hW2]; simp
      have hzE : W2.heap.size = wo.heap.size + 1 := by rw [hW2]; simp
      have HN1 : Hid (EntsAt W2 wo.heap.size 0 [e]) := by show EntsAt W2 wo.heap.size 0 [e]; rw [hW2]; exact ent_new wo e
      have HL2 : Hid (OwnE W2 w1.heap.size g cp L) := HK.out.1.below hbW hg.2
      have hbX : Below W1.heap.size W1 W2 := hb.trans (hbW.mono hs)
      cases g2 : (e.kind == 0)
      · have HK2 : Hid (¬ e.kind = 0) := by show ¬ e.kind = 0; simpa using g2
        obtain ⟨W3, hW3⟩ : ∃ W3 : World, W3 = W2.alloc (Obj.cells #[] 63) := ⟨_, rfl⟩
        have hb3 : Below W2.heap.size W2 W3 := by rw [hW3]; exact (Below.refl _ _).alloc (Nat.le_refl _) _
        have hz3 : W2.heap.size < W3.heap.size := by rw [hW3]; simp
        have HL3 : Hid (OwnE W3 w1.heap.size g cp L) := HL2.out.below hb3 (by omega)
        have HN3 : Hid (EntsAt W3 wo.heap.size 0 [e]) := HN1.out.below hb3 hzW
        have HF3 : Hid (OwnE W3 W2.heap.size W2.heap.size 0 []) := by
          show OwnE W3 W2.heap.size W2.heap.size 0 []
          rw [hW3]
          exact World.ownsRow_made W2 #[] 0 (Nat.le_refl _) (Nat.zero_le _) (by simp)
        go_wp2_with fail
        rw [← hW2, ← hzE, ← hW3]
        clear hW2 hW3 hzE c0 c1 c2 c3 c4 c5
        go_loopw [7, 8] (fun l i wr => ∃ (j g2 cp2 : Nat), j ≤ L.length ∧ i = .int .i64 j ∧ l = .slice (some ⟨g2, 0, none⟩) (leftTo e L j).length cp2 ∧ OwnE wr W2.heap.size g2 cp2 (leftTo e L j) ∧ Below W2.heap.size W2 wr) (fun _ i _ => L.length - (intOf i).toNat)
        case atStart => exact ⟨0, _, 0, Nat.zero_le _, rfl, rfl, HF3.out, hb3⟩
        case round =>
          obtain ⟨j, g3, cp3, hj, rfl, rfl, hF, hbi⟩ := hrel
          have HF : Hid (OwnE wr W2.heap.size g3 cp3 (leftTo e L j)) := hF
          have hg3 := hF.lt
          have hlf := leftTo_len e L j
          clear hF
          have hsi := hbi.size
          by_cases hjl : j < L.length
          · obtain ⟨x, hx⟩ : ∃ x, L[j]? = some x := ⟨_, List.getElem?_eq_getElem hjl⟩
            have HX : Hid (L[j]? = some x) := hx
            have hec : ∀ wx, Below W2.heap.size W2 wx → EntsAt wx g 0 L ∧ EntsAt wx wo.heap.size 0 [e] := fun wx h => ⟨(HL2.out.below h (by omega)).at, HN1.out.below h hzW⟩
            have HEC : Hid (∀ wx, Below W2.heap.size W2 wx → EntsAt wx g 0 L ∧ EntsAt wx wo.heap.size 0 [e]) := hec
            clear hec hx
            obtain ⟨c0, c1, c2, c3, c4, c5⟩ := (HEC.out wr hbi).1 j x HX.out
            obtain ⟨d0, d1, d2, d3, d4, d5⟩ := (HEC.out wr hbi).2 0 e rfl
            simp only [Nat.zero_add, Nat.zero_mul] at c0 c1 c2 c3 c4 c5 d0 d1 d2 d3 d4 d5
            have z2 : (j : Int) < (L.length : Int) := by omega
            go_upto_region 15 with fail
            go_cut [9] (fun s wx => s = .bool (hit x e) ∧ Below wr.heap.size wr wx)
            case first =>
              obtain ⟨q0, q1, q2, q3, q4, q5⟩ := ents_out (HEC.out wr hbi).1 (by omega) HX.out
              obtain ⟨r0, r1, r2, r3, r4, r5⟩ := ents_out (HEC.out wr hbi).2 (by omega) (rfl : [e][0]? = some e)
              simp only [Nat.zero_add, Nat.zero_mul] at q0 q1 q2 q3 q4 q5 r0 r1 r2 r3 r4 r5
              clear c0 c1 c2 c3 c4 c5 d0 d1 d2 d3 d4 d5
              have inh : Nonempty (Out wr) := ⟨⟨wr, Below.refl _ _⟩⟩
              cases hsc : sameCol x e
              · have hh : hit x e = false := by unfold hit; rw [hsc]; rfl
                refine wp_region_out (by kernel_rfl) (by kernel_rfl) ?_
                repeat (go_big_quiet_step ((go_at_call 62; exact Calls.out_of (sameColumn_is x e hsc _))))
                refine wpQuiet_nil ?_
                rintro wx ⟨⟨wy, hby⟩, rfl⟩
                go_wp2_with fail
                go_meet
                exact ⟨by rw [hh], hby⟩
              · cases hts : (x.ts == e.ts)
                · cases hk2 : (e.kind == 2)
                  · have hh : hit x e = false := by unfold hit; rw [hsc, hts, hk2]; rfl
                    refine wp_region_out (by kernel_rfl) (by kernel_rfl) ?_
                    repeat (go_big_quiet_step ((go_at_call 62; exact Calls.out_of (sameColumn_is x e hsc _))))
                    refine wpQuiet_nil ?_
                    rintro wx ⟨⟨wy, hby⟩, rfl⟩
                    go_wp2_with fail
                    go_meet
                    exact ⟨by rw [hh], hby⟩
                  · have hh : hit x e = decide (x.ts ≤ e.ts) := by unfold hit; rw [hsc, hts, hk2]; rfl
                    refine wp_region_out (by kernel_rfl) (by kernel_rfl) ?_
                    repeat (go_big_quiet_step ((go_at_call 62; exact Calls.out_of (sameColumn_is x e hsc _))))
                    refine wpQuiet_nil ?_
                    rintro wx ⟨⟨wy, hby⟩, rfl⟩
                    go_wp2_with fail
                    go_meet
                    exact ⟨by rw [hh], hby⟩
                · have hh : hit x e = true := by unfold hit; rw [hsc, hts]; rfl
                  refine wp_region_out (by kernel_rfl) (by kernel_rfl) ?_
                  repeat (go_big_quiet_step ((go_at_call 62; exact Calls.out_of (sameColumn_is x e hsc _))))
                  refine wpQuiet_nil ?_
                  rintro wx ⟨⟨wy, hby⟩, rfl⟩
                  go_wp2_with fail
                  go_meet
                  exact ⟨by rw [hh], hby⟩
            case rest =>
            obtain ⟨rfl, h3⟩ := hcut
            have hb4 : Below W2.heap.size W2 wc := hbi.trans (h3.mono hsi)
            have HF4 : Hid (OwnE wc W2.heap.size g3 cp3 (leftTo e L j)) := HF.out.below h3 hg3.2
            have hs4 := h3.size
            clear c0 c1 c2 c3 c4 c5 d0 d1 d2 d3 d4 d5
            obtain ⟨c0, c1, c2, c3, c4, c5⟩ := (HEC.out wc hb4).1 j x HX.out
            simp only [Nat.zero_add, Nat.zero_mul] at c0 c1 c2 c3 c4 c5
            cases hh : hit x e
            · have HH : Hid (leftTo e L (j + 1) = leftTo e L j ++ [x]) := by show leftTo e L (j + 1) = leftTo e L j ++ [x]; rw [leftTo_succ HX.out, hh]; rfl
              go_wp2_with (at_builtin; refine wpList_append_ent _ rfl _ _ rfl W2.heap.size g3 cp3 _ _ (leftTo e L j) x rfl rfl rfl ?hO ?hc ?hl ?hb ?_)
              case hO => exact HF4.out.below ((Below.refl _ _).alloc (Nat.le_refl _) _) (by omega)
              case hc => exact ent_new wc x
              case hl => omega
              case hb => simp; omega
              intro g' cp' w' hO' hgr
              have HO' : Hid (OwnE w' W2.heap.size g' cp' (leftTo e L (j + 1))) := by show OwnE w' W2.heap.size g' cp' (leftTo e L (j + 1)); rw [HH.out]; exact hO'
              have hb' : Below W2.heap.size W2 w' := (hb4.alloc hb4.size _).grown hgr (by simp; omega) (fun j hj => by cases hj; omega)
              have hle : (leftTo e L (j + 1)).length = (leftTo e L j).length + 1 := by rw [HH.out]; simp
              have HLE : Hid ((leftTo e L (j + 1)).length = (leftTo e L j).length + 1) := hle
              clear hO' hgr hle
              go_wp2_with fail
              go_roundw
              case rel => exact ⟨j + 1, g', cp', by omega, by go_num, by rw [HLE.out], HO'.out, hb'⟩
              case measure => go_light; simp [intOf]; omega
            · have HH : Hid (leftTo e L (j + 1) = leftTo e L j) := by show leftTo e L (j + 1) = leftTo e L j; rw [leftTo_succ HX.out, hh]; simp
              go_wp2_with fail
              go_roundw
              case rel => exact ⟨j + 1, g3, cp3, by omega, by go_num, by rw [HH.out], by rw [HH.out]; exact HF4.out, hb4⟩
              case measure => go_light; simp [intOf]; omega
          · have HJ : Hid (j = L.length) := by show j = L.length; omega
            have HS' : Hid (Rep ws (k + 1) (leftTo e L j)) := by
              show Rep ws (k + 1) (leftTo e L j)
              rw [HJ.out, leftTo_all]
              exact rep_del HK.out.2 HKe.out HK2.out
            have hb5 : Below W1.heap.size W1 wr := hbX.trans (hbi.mono (by omega))
            go_wp2_with fail
            go_roundw
            case rel => exact ⟨k + 1, g3, cp3, leftTo e L j, by omega, by go_num, rfl, HF.out.mono (by omega), HS'.out, hb5⟩
            case measure => go_light; simp [intOf]; omega
      · have HK2 : Hid (e.kind = 0) := by show e.kind = 0; simpa using g2
        have HS' : Hid (Rep ws (k + 1) (into L e)) := rep_put HK.out.2 HKe.out HK2.out
        go_wp2_with fail
        rw [← hW2]
        clear hW2 hzE c0 c1 c2 c3 c4 c5
        refine (into_core g 0 cp L e _ HL2.out.at (by omega) (by omega)).mono ?_
        rintro e' w3 ⟨g', cp', rfl, hO', hb4⟩
        have HO' : Hid (OwnE w3 W2.heap.size g' cp' (into L e)) := hO'
        have hb5 := hbX.trans (hb4.mono (by omega))
        clear hO'
        go_wp2_with fail
        go_roundw
        case rel => exact ⟨k + 1, g', cp', into L e, by omega, by go_num, rfl, HO'.out.mono (by omega), HS'.out, hb5⟩
        case measure => go_light; simp [intOf]; omega
    · have hkk : k = ws.length := by omega
      have HKK : Hid (RepOf ws L) := by
        refine ⟨fun _ => ?_, fun h => absurd HG.out h⟩
        rw [← hkk]; exact HK.out.2
      clear hkk
      have hbw : Below w.heap.size w wo := (k1.trans (hbA.mono (by omega))).trans (hb.mono (by omega))
      have HCo : Hid (OwnC wo w.heap.size w.heap.size 0 []) := HCA.out.below hb (by omega)
      go_wp2_with fail
      go_loopw [3, 10] (fun o i wr => ∃ (m g5 cp5 : Nat), m ≤ L.length ∧ i = .int .i64 m ∧ o = .slice (some ⟨g5, 0, none⟩) m cp5 ∧ OwnC wr w.heap.size g5 cp5 (L.take m) ∧ OwnE wr w1.heap.size g cp L ∧ Below w.heap.size w wr) (fun _ i _ => L.length - (intOf i).toNat)
      case atStart => exact ⟨0, _, 0, Nat.zero_le _, rfl, rfl, HCo.out, HK.out.1, hbw⟩
      case round =>
        obtain ⟨m, g5, cp5, hm, rfl, rfl, hC, hL, hbm⟩ := hrel
        have HM : Hid (OwnC wr w.heap.size g5 cp5 (L.take m) ∧ OwnE wr w1.heap.size g cp L) := ⟨hC, hL⟩
        have hg5 := hC.lt
        have hgl := hL.lt
        have hne := hC.ne_ent hL
        have hsm := hbm.size
        have HTM : Hid (m = (L.take m).length) := by show m = (L.take m).length; rw [List.length_take]; omega
        clear hC hL
        by_cases hlt : m < L.length
        · obtain ⟨x, hx⟩ : ∃ x, L[m]? = some x := ⟨_, List.getElem?_eq_getElem hlt⟩
          have HX : Hid (L.take (m + 1) = L.take m ++ [x]) := by show L.take (m + 1) = L.take m ++ [x]; rw [List.take_add_one, hx]; rfl
          obtain ⟨c0, c1, c2, c3, c4, c5⟩ := HM.out.2.at m x hx
          simp only [Nat.zero_add, Nat.zero_mul] at c0 c1 c2 c3 c4 c5
          clear hx
          go_wp2_with fail
          refine (specCell_any x _).mono ?_
          rintro e' w3 ⟨rfl, hb3⟩
          have hs3 := hb3.size
          have HM3 : Hid (OwnC w3 w.heap.size g5 cp5 (L.take m) ∧ OwnE w3 w1.heap.size g cp L) := ⟨HM.out.1.below hb3 hg5.2, HM.out.2.below hb3 hgl.2⟩
          have hbm3 : Below w.heap.size w w3 := hbm.trans (hb3.mono (by omega))
          clear c0 c1 c2 c3 c4 c5 hb3
          go_wp2_with (at_builtin; refine wpList_append_cel _ rfl _ _ rfl w.heap.size g5 cp5 _ _ (L.take m) x rfl rfl HTM.out ?hO ?hc ?hl ?hb ?_)
          case hO => exact HM3.out.1.below ((Below.refl _ _).alloc (Nat.le_refl _) _) (by omega)
          case hc => exact cel_new w3 x
          case hl => rw [← HTM.out]; omega
          case hb => simp; omega
          intro g' cp' w' hO' hgr
          have HO' : Hid (OwnC w' w.heap.size g' cp' (L.take (m + 1))) := by show OwnC w' w.heap.size g' cp' (L.take (m + 1)); rw [HX.out]; exact hO'
          have hb' : Below w.heap.size w w' := (hbm3.alloc hbm3.size _).grown hgr (by simp; omega) (fun j hj => by cases hj; omega)
          have HL' : Hid (OwnE w' w1.heap.size g cp L) := OwnE.keptG (HM3.out.2.below ((Below.refl _ _).alloc (Nat.le_refl _) _) (by omega)) hgr (fun q => hne (Option.some.inj q).symm)
          clear hO' hgr
          go_wp2_with fail
          go_roundw
          case rel => exact ⟨m + 1, g', cp', by omega, by go_num, rfl, HO'.out, HL'.out, hb'⟩
          case measure => go_light; simp [intOf]; omega
        · have HT : Hid (L.take m = L) := List.take_of_length_le (by omega)
          go_wp2_with fail
          go_ret
          refine ⟨g5, cp5, L, ?_, ?_, hbm, hLl, HKK.out⟩
          · have e1 : m = L.length := by omega
            show Ending.returned (Value.slice (some ⟨g5, 0, none⟩) m cp5) = _
            rw [e1]
          · have h := HM.out.1
            rw [HT.out] at h
            exact h
end Go.Proofs.Ytnncedndlhfdkac

/-
  What BuildRun may hand back.
-/
namespace Go.Proofs.Ytnncedndlhfdkac
set_option linter.unusedVariables false

/-- What a run of 'ws' may be. -/
def RunOf (ws R : List Ent) : Prop := (GoodW ws → Kept ws ws.length R) ∧ (¬ GoodW ws → R = [])
theorem runOf_uniq {ws R S : List Ent} (h : RunOf ws R) (k : RunOf ws S) : R = S := by
  by_cases g : GoodW ws
  · exact kept_uniq (h.1 g) (k.1 g)
  · rw [h.2 g, k.2 g]
end Go.Proofs.Ytnncedndlhfdkac

/-
  Replay and the run of the same writes.
-/
namespace Go.Proofs.Ytnncedndlhfdkac
open Go.ChangeShapes Go.WideShapes Go.ChangeAt Go.RowKit Go.Deep
set_option linter.unusedVariables false

theorem runOf_len {ws R : List Ent} (h : RunOf ws R) : R.length ≤ ws.length := by
  by_cases g : GoodW ws
  · exact kept_len (h.1 g)
  · rw [h.2 g]; simp
theorem repOf_puts {ws L R : List Ent} (h : RepOf ws L) (k : RunOf ws R) : L = puts R := by
  by_cases g : GoodW ws
  · exact rep_kept (h.1 g) (k.1 g)
  · rw [h.2 g, k.2 g]; rfl
theorem runField (a : Option Addr) (n c : Nat) (w : World) : (Instr.field 40 (.agg #[.slice a n c]) 0).run Try.prog w = .ok (.slice a n c) w := by
  simp [Instr.field, go_sem, part, asAgg]
end Go.Proofs.Ytnncedndlhfdkac

/-
  The marks, looked for.
-/
namespace Go.Proofs.Ytnncedndlhfdkac
open Go.ChangeShapes Go.WideShapes Go.ChangeAt Go.RowKit Go.Deep
set_option linter.unusedVariables false

theorem markText_in (W0 : World) (a : Int) (w : World) (hb : Below W0.heap.size W0 w) (h0 : 0 < a) (h1 : a ≤ 2 ^ 40) :
    Calls Try.prog 47 #[.int .i64 a] w fun e w' => e = .returned (.string (mText a.toNat)) ∧ Below W0.heap.size W0 w' := by
  refine (markText_any a w h0 h1).mono ?_
  rintro e w' ⟨he, hb'⟩
  exact ⟨he, hb.trans (hb'.mono hb.size)⟩

set_option maxHeartbeats 2000000 in
theorem heldEntryS_core (b off cap : Nat) (es : List Ent) (k : Int) (w : World) (hE : EntsAt w b off es) (hmk : marked k es es.length) (hB : b < w.heap.size) (h0 : 0 < k) (h1 : k ≤ 2 ^ 30) (hn : es.length ≤ 1048576) :
    Calls Try.prog 51 #[.slice (some ⟨b, off, none⟩) es.length cap, .int .i64 k] w fun e w' =>
      e = .returned (.int .i64 (k + es.length * 6)) ∧ Below w.heap.size w w' := by
  have HE : Hid (EntsAt w b off es ∧ marked k es es.length) := ⟨hE, hmk⟩
  clear hE hmk
  go_enter Try.func51, Try.ntmps51
  go_wp2
  go_loopw [1, 5] (fun c i wr => ∃ (m : Nat) (a : Int), m ≤ es.length ∧ i = .int .i64 m ∧ c = .int .i64 a ∧ a = k + m * 6 ∧ Below w.heap.size w wr) (fun _ i _ => es.length - (intOf i).toNat)
  case atStart => exact ⟨0, k, Nat.zero_le _, rfl, rfl, by simp, Below.refl _ _⟩
  case round =>
    obtain ⟨m, a, hm, rfl, rfl, ha, hb⟩ := hrel
    have ha0 : 0 < a := by omega
    have ha1 : a ≤ 2 ^ 31 := by omega
    have HA : Hid (a = k + m * 6) := ha
    clear ha
    have hs := hb.size
    by_cases hlt : m < es.length
    · have he : es[m]? = some (mEnt a) := by rw [HA.out]; exact HE.out.2 m hlt
      have HM : Hid (es[m]? = some (mEnt a)) := he
      clear he
      have z2 : (m : Int) < (es.length : Int) := by omega
      have hce : ∀ wx, Below w.heap.size w wx → wx.cell? ⟨b, off + m * 6, none⟩ = some (.string (mText a.toNat)) ∧ wx.cell? ⟨b, off + m * 6 + 1, none⟩ = some (.string (mText (a + 1).toNat)) ∧ wx.cell? ⟨b, off + m * 6 + 2, none⟩ = some (.string (mText (a + 1 + 1).toNat)) ∧
          wx.cell? ⟨b, off + m * 6 + 3, none⟩ = some (.int .u64 (a + 1 + 1 + 1)) ∧ wx.cell? ⟨b, off + m * 6 + 4, none⟩ = some (.int .i64 (a + 1 + 1 + 1 + 1)) ∧ wx.cell? ⟨b, off + m * 6 + 5, none⟩ = some (.string (mText (a + 1 + 1 + 1 + 1 + 1).toNat)) :=
        fun wx hx => (HE.out.1.below hx hB) m _ HM.out
      have HC : Hid (∀ wx, Below w.heap.size w wx → wx.cell? ⟨b, off + m * 6, none⟩ = some (.string (mText a.toNat)) ∧ wx.cell? ⟨b, off + m * 6 + 1, none⟩ = some (.string (mText (a + 1).toNat)) ∧ wx.cell? ⟨b, off + m * 6 + 2, none⟩ = some (.string (mText (a + 1 + 1).toNat)) ∧
          wx.cell? ⟨b, off + m * 6 + 3, none⟩ = some (.int .u64 (a + 1 + 1 + 1)) ∧ wx.cell? ⟨b, off + m * 6 + 4, none⟩ = some (.int .i64 (a + 1 + 1 + 1 + 1)) ∧ wx.cell? ⟨b, off + m * 6 + 5, none⟩ = some (.string (mText (a + 1 + 1 + 1 + 1 + 1).toNat))) := hce
      clear hce
      have c1 := (HC.out wr hb).1
      go_upto_region 4 with fail
      go_cut [19] (fun s wx => s = .bool false ∧ Below w.heap.size w wx)
      case first =>
        go_region_with (go_at_call 47; refine (markText_in w _ _ ?hB (by omega) (by omega)).mono ?_; (case hB => (repeat (first | assumption | refine Below.drew ?_))); rintro e' w' ⟨rfl, hbb⟩; have cx := (HC.out w' hbb).1)
        all_goals go_wp2_with fail
        all_goals go_meet
        all_goals exact ⟨rfl, by assumption⟩
      case rest =>
      obtain ⟨rfl, h2⟩ := hcut
      clear c1
      obtain ⟨wa, rfl⟩ : ∃ wa : World, wa = wc := ⟨_, rfl⟩
      have c2 := (HC.out wa h2).2.1
      go_upto_region 7 with fail
      go_cut [29] (fun s wx => s = .bool false ∧ Below w.heap.size w wx)
      case first =>
        go_region_with (go_at_call 47; refine (markText_in w _ _ ?hB (by omega) (by omega)).mono ?_; (case hB => (repeat (first | assumption | refine Below.drew ?_))); rintro e' w' ⟨rfl, hbb⟩; have cx := (HC.out w' hbb).2.1)
        all_goals go_wp2_with fail
        all_goals go_meet
        all_goals exact ⟨rfl, by assumption⟩
      case rest =>
      obtain ⟨rfl, h3⟩ := hcut
      clear c2
      obtain ⟨wb, rfl⟩ : ∃ wb : World, wb = wc := ⟨_, rfl⟩
      have c3 := (HC.out wb h3).2.2.1
      go_upto_region 10 with fail
      go_cut [39] (fun s wx => s = .bool false ∧ Below w.heap.size w wx)
      case first =>
        go_region_with (go_at_call 47; refine (markText_in w _ _ ?hB (by omega) (by omega)).mono ?_; (case hB => (repeat (first | assumption | refine Below.drew ?_))); rintro e' w' ⟨rfl, hbb⟩; have cx := (HC.out w' hbb).2.2.1)
        all_goals go_wp2_with fail
        all_goals go_meet
        all_goals exact ⟨rfl, by assumption⟩
      case rest =>
      obtain ⟨rfl, h4⟩ := hcut
      clear c3
      obtain ⟨wd, rfl⟩ : ∃ wd : World, wd = wc := ⟨_, rfl⟩
      have c4 := (HC.out wd h4).2.2.2.1
      have c5 := (HC.out wd h4).2.2.2.2.1
      have c6 := (HC.out wd h4).2.2.2.2.2
      go_upto_region 19 with fail
      go_cut [68] (fun s wx => s = .bool false ∧ Below w.heap.size w wx)
      case first =>
        go_region_with (go_at_call 47; refine (markText_in w _ _ ?hB (by omega) (by omega)).mono ?_; (case hB => (repeat (first | assumption | refine Below.drew ?_))); rintro e' w' ⟨rfl, hbb⟩; have cx := (HC.out w' hbb).2.2.2.2.2)
        all_goals go_wp2_with fail
        all_goals go_meet
        all_goals exact ⟨rfl, by assumption⟩
      case rest =>
      obtain ⟨rfl, h5⟩ := hcut
      clear c4 c5 c6
      go_wp2_with fail
      refine ⟨⟨m + 1, a + 1 + 1 + 1 + 1 + 1 + 1, by omega, by go_num, rfl, ?_, h5⟩, ?_⟩
      · go_light
        have := HA.out
        omega
      · go_light
        simp [intOf]; omega
    · go_wp2_with fail
      go_ret
      have e1 : m = es.length := by omega
      refine ⟨?_, hb⟩
      rw [HA.out, e1]; rfl
end Go.Proofs.Ytnncedndlhfdkac

/-
  A run that came back: of the call's own, or nil; its marks.
-/
namespace Go.Proofs.Ytnncedndlhfdkac
open Go.ChangeShapes Go.WideShapes Go.ChangeAt Go.RowKit Go.Deep
set_option linter.unusedVariables false
set_option maxRecDepth 100000

/-- A slice of the call's own, or nil. -/
def OwnU (w : World) (base : Nat) (u : Value) (R : List Ent) : Prop := (u = .slice none 0 0 ∧ R = []) ∨ ∃ g cp, u = .slice (some ⟨g, 0, none⟩) R.length cp ∧ OwnE w base g cp R
theorem OwnE.caps {w : World} {base g cp : Nat} {R : List Ent} (h : OwnE w base g cp R) : R.length ≤ cp ∧ cp ≤ maxLen := by
  rcases h.2 with ⟨h0, _⟩ | ⟨g', cap', cur, hv, _, _, hn, hcap, _, _⟩
  · cases h0
  · simp only [Value.slice.injEq, Option.some.injEq, Addr.mk.injEq, and_true, true_and] at hv
    obtain ⟨rfl, rfl⟩ := hv
    exact ⟨hn, hcap⟩
theorem OwnU.ins {w : World} {base : Nat} {u : Value} {R : List Ent} (h : OwnU w base u R) : InEnts w u R := by
  rcases h with ⟨rfl, rfl⟩ | ⟨g, cp, rfl, hO⟩
  · exact .inl ⟨_, _, rfl, rfl⟩
  · exact InEnts.own hO hO.caps.1 hO.caps.2
theorem OwnU.kept {w w' : World} {base : Nat} {u : Value} {R : List Ent} {row : Option Nat} (h : OwnU w base u R) (hg : w.grownBy w' row) (hne : ∀ g, row = some g → g < base) : OwnU w' base u R := by
  rcases h with h | ⟨g, cp, rfl, hO⟩
  · exact .inl h
  · exact .inr ⟨g, cp, rfl, World.ownsRow.kept hO hg (.inr (fun q => by have := hne g q.symm; have := hO.lt.1; omega))⟩
theorem OwnU.row {w : World} {base : Nat} {u : Value} {R : List Ent} (h : OwnU w base u R) : ∀ g, u.ownBlock = some g → base ≤ g ∧ g < w.heap.size := by
  intro g hg
  rcases h with ⟨rfl, _⟩ | ⟨g', cp, rfl, hO⟩
  · cases hg
  · have : g' = g := Option.some.inj hg
    subst this
    exact hO.lt
theorem OwnU.keptNe {w w' : World} {base : Nat} {u : Value} {R : List Ent} {row : Option Nat} (h : OwnU w base u R) (hg : w.grownBy w' row) (hne : ∀ g, u.ownBlock = some g → row ≠ some g) : OwnU w' base u R := by
  rcases h with h | ⟨g, cp, rfl, hO⟩
  · exact .inl h
  · exact .inr ⟨g, cp, rfl, World.ownsRow.kept hO hg (.inr (fun q => hne g rfl q.symm))⟩
theorem OwnU.ownCells {w : World} {base : Nat} {u : Value} {R : List Ent} (h : OwnU w base u R) : u.cells = #[u] := by
  rcases h with ⟨rfl, _⟩ | ⟨g, cp, rfl, _⟩ <;> rfl

set_option maxHeartbeats 400000 in
theorem markEntryS_zero (a : Option Addr) (cap : Nat) (k : Int) (w : World) :
    Calls Try.prog 46 #[.slice a 0 cap, .int .i64 k] w fun e w' => e = .returned (.int .i64 k) ∧ Below w.heap.size w w' := by
  go_enter Try.func46, Try.ntmps46
  go_wp2
  go_loopw [1, 5] (fun c i wr => c = .int .i64 k ∧ i = .int .i64 0 ∧ wr = w) (fun _ i _ => 0)
  case atStart => exact ⟨rfl, rfl, rfl⟩
  case round =>
    obtain ⟨rfl, rfl, rfl⟩ := hrel
    go_wp2_with fail
    go_ret
    exact ⟨rfl, Below.refl _ _⟩
set_option maxHeartbeats 400000 in
theorem heldEntryS_zero (a : Option Addr) (cap : Nat) (k : Int) (w : World) :
    Calls Try.prog 51 #[.slice a 0 cap, .int .i64 k] w fun e w' => e = .returned (.int .i64 k) ∧ Below w.heap.size w w' := by
  go_enter Try.func51, Try.ntmps51
  go_wp2
  go_loopw [1, 5] (fun c i wr => c = .int .i64 k ∧ i = .int .i64 0 ∧ wr = w) (fun _ i _ => 0)
  case atStart => exact ⟨rfl, rfl, rfl⟩
  case round =>
    obtain ⟨rfl, rfl, rfl⟩ := hrel
    go_wp2_with fail
    go_ret
    exact ⟨rfl, Below.refl _ _⟩

/-- Marks laid: only blocks from 'base' on have turned. -/
theorem markEntryS_own (base : Nat) (u : Value) (R : List Ent) (k : Int) (w : World) (h : OwnU w base u R) (h0 : 0 < k) (h1 : k ≤ 2 ^ 30) (hn : R.length ≤ 1048576) (hbase : base ≤ w.heap.size) :
    Calls Try.prog 46 #[u, .int .i64 k] w fun e w' =>
      ∃ R', e = .returned (.int .i64 (k + R.length * 6)) ∧ OwnU w' base u R' ∧ R'.length = R.length ∧ marked k R' R'.length ∧ w.grownBy w' u.ownBlock := by
  rcases h with ⟨rfl, rfl⟩ | ⟨g, cp, rfl, hO⟩
  · refine (markEntryS_zero none 0 k w).mono ?_
    rintro e w' ⟨rfl, hb⟩
    exact ⟨[], by simp, .inl ⟨rfl, rfl⟩, rfl, fun j hj => by simp at hj, grown_of_below hb _⟩
  · refine (markEntryS_core base g cp R k w hO h0 h1 hn).mono ?_
    rintro e w' ⟨fs, rfl, hO', hl, hm, hg⟩
    exact ⟨fs, rfl, .inr ⟨g, cp, by rw [hl], hO'⟩, hl, by rw [hl]; exact hm, hg⟩
theorem heldEntryS_own (base : Nat) (u : Value) (R : List Ent) (k : Int) (w : World) (h : OwnU w base u R) (hm : marked k R R.length) (h0 : 0 < k) (h1 : k ≤ 2 ^ 30) (hn : R.length ≤ 1048576) :
    Calls Try.prog 51 #[u, .int .i64 k] w fun e w' => e = .returned (.int .i64 (k + R.length * 6)) ∧ Below w.heap.size w w' := by
  rcases h with ⟨rfl, rfl⟩ | ⟨g, cp, rfl, hO⟩
  · refine (heldEntryS_zero none 0 k w).mono ?_
    rintro e w' ⟨rfl, hb⟩
    exact ⟨by simp, hb⟩
  · exact heldEntryS_core g 0 cp R k w hO.at hm hO.lt.2 h0 h1 hn

set_option maxHeartbeats 400000 in
theorem markRun_own (base : Nat) (u : Value) (R : List Ent) (k : Int) (w : World) (h : OwnU w base u R) (h0 : 0 < k) (h1 : k ≤ 2 ^ 30) (hn : R.length ≤ 1048576) (hbase : base ≤ w.heap.size) :
    Calls Try.prog 21 #[.agg #[u], .int .i64 k] w fun e w' =>
      ∃ R', e = .returned (.int .i64 (k + R.length * 6)) ∧ OwnU w' base u R' ∧ R'.length = R.length ∧ marked k R' R'.length ∧ w.grownBy w' u.ownBlock := by
  have hu := h.ownCells
  have hb0 : Below w.heap.size w (w.alloc (Obj.cells #[u] 40)) := (Below.refl _ _).alloc (Nat.le_refl _) _
  have HU : Hid (OwnU (w.alloc (Obj.cells #[u] 40)) base u R) := h.kept (grown_of_below hb0 none) (fun g q => by cases q)
  clear h
  go_enter Try.func21, Try.ntmps21
  go_wp2_with fail
  refine (markEntryS_own base u R k _ HU.out h0 h1 hn (by simp; omega)).mono ?_
  rintro e w1 ⟨R', rfl, hU', hl, hm, hb1⟩
  have HF : Hid (OwnU w1 base u R' ∧ R'.length = R.length ∧ marked k R' R'.length) := ⟨hU', hl, hm⟩
  clear hU' hl hm
  go_wp2_with fail
  go_ret
  exact ⟨R', rfl, HF.out.1, HF.out.2.1, HF.out.2.2, (grown_of_below hb0 _).trans hb1⟩
set_option maxHeartbeats 400000 in
theorem heldRun_own (base : Nat) (u : Value) (R : List Ent) (k : Int) (w : World) (h : OwnU w base u R) (hm : marked k R R.length) (h0 : 0 < k) (h1 : k ≤ 2 ^ 30) (hn : R.length ≤ 1048576) :
    Calls Try.prog 22 #[.agg #[u], .int .i64 k] w fun e w' => e = .returned (.int .i64 (k + R.length * 6)) ∧ Below w.heap.size w w' := by
  have hu := h.ownCells
  have hb0 : Below w.heap.size w (w.alloc (Obj.cells #[u] 40)) := (Below.refl _ _).alloc (Nat.le_refl _) _
  have HU : Hid (OwnU (w.alloc (Obj.cells #[u] 40)) base u R ∧ marked k R R.length) := ⟨h.kept (grown_of_below hb0 none) (fun g q => by cases q), hm⟩
  clear h hm
  go_enter Try.func22, Try.ntmps22
  go_wp2_with fail
  refine (heldEntryS_own base u R k _ HU.out.1 HU.out.2 h0 h1 hn).mono ?_
  rintro e w1 ⟨rfl, hb1⟩
  have hge : 0 ≤ k + (R.length : Int) * 6 := by omega
  go_wp2_with fail
  go_ret
  exact ⟨rfl, hb0.trans (hb1.mono (by simp))⟩

end Go.Proofs.Ytnncedndlhfdkac

/-
  The law FnRuns: the loop that cuts the writes into runs.
-/
namespace Go.Proofs.Ytnncedndlhfdkac
open Go.ChangeShapes Go.WideShapes Go.ChangeAt Go.RowKit Go.Deep
set_option linter.unusedVariables false
set_option linter.unusedSimpArgs false
set_option maxRecDepth 100000

/-- The loop of the cuts: the first 'm' writes lie in the runs. -/
structure KInv (w0 : World) (ws : List Ent) (m k g cp : Nat) (l : List Rm) (wr : World) : Prop where
  row : OwnW wr w0.heap.size g cp l
  ats : ∀ r ∈ l, r.at wr ∧ w0.heap.size ≤ r.b ∧ ¬ r.b = g
  ok : okM l
  good : ∀ es ∈ esM l, GoodR es
  cuts : Cuts (ws.take m) (esM l)
  below : Below w0.heap.size w0 wr
  ka : k ≤ m
  al : m ≤ ws.length
  cnt : l.length ≤ m
theorem KInv.rms {w0 : World} {ws : List Ent} {m k g cp : Nat} {l : List Rm} {wr : World} (h : KInv w0 ws m k g cp l wr) : RmsAt wr g 0 l := by
  intro i r hr
  rw [Nat.zero_add]
  exact ⟨h.row.cell hr, (h.ats r (List.mem_of_getElem? hr)).1⟩
theorem KInv.call {w0 : World} {ws : List Ent} {m k g cp : Nat} {l : List Rm} {wr w1 : World} (h : KInv w0 ws m k g cp l wr) (hb : Below wr.heap.size wr w1) : KInv w0 ws m k g cp l w1 := by
  have hg := h.row.lt
  have hs := h.below.size
  exact ⟨h.row.chg (Chg.of_below hb) (S := fun _ => False) (fun q => q), fun r hr => ⟨(h.ats r hr).1.chg (Chg.of_below hb) (S := fun _ => False) (fun q => q), (h.ats r hr).2⟩, h.ok, h.good, h.cuts, h.below.trans (hb.mono hs), h.ka, h.al, h.cnt⟩
theorem goodW_piece {ws : List Ent} (h : GoodW ws) (m j : Nat) : GoodW ((ws.drop m).take j) :=
  ⟨Nat.le_trans (by simp; omega) h.1, fun e he => h.2 e (List.mem_of_mem_drop (List.mem_of_mem_take he))⟩
theorem KInv.step {w0 wr w3 W5 w6 : World} {ws R : List Ent} {m k g cp g2 cp2 g' cp' j : Nat} {l : List Rm} (h : KInv w0 ws m k g cp l wr) (hg : GoodW ws) (hok : ∀ e ∈ ws, e.ok) (hj : 1 ≤ j) (hl : m + j ≤ ws.length)
    (hO2 : OwnE w3 wr.heap.size g2 cp2 R) (hb3 : Below wr.heap.size wr w3) (hK : Kept ((ws.drop m).take j) ((ws.drop m).take j).length R) (hb5 : Below w3.heap.size w3 W5) (hz5 : W5.heap.size = w3.heap.size + 1)
    (hO' : OwnW w6 w0.heap.size g' cp' (⟨g2, 0, cp2, R⟩ :: l)) (hgr : W5.grownBy w6 (some w3.heap.size)) (hat : g' = w3.heap.size ∨ g' = W5.heap.size) : KInv w0 ws (m + j) (k + 1) g' cp' (⟨g2, 0, cp2, R⟩ :: l) w6 := by
  have hcg : Chg (fun k => k = w3.heap.size) W5 w6 := Chg.of_grown hgr (fun k hk => by cases hk; rfl)
  have s0 := h.below.size
  have s3 := hb3.size
  have s6 := hcg.size
  have hg2 := hO2.lt
  have hcap : R.length ≤ cp2 ∧ cp2 ≤ maxLen := by
    rcases hO2.2 with ⟨h0, _⟩ | ⟨g', cap', cur, hv, _, _, hn, hcap, _, _⟩
    · cases h0
    · simp only [Value.slice.injEq, Option.some.injEq, Addr.mk.injEq, and_true, true_and] at hv
      obtain ⟨rfl, rfl⟩ := hv
      exact ⟨hn, hcap⟩
  have hka := h.ka
  have hcnt := h.cnt
  refine ⟨hO', ?_, ?_, ?_, ?_, ?_, by omega, hl, by simp; omega⟩
  · intro r hr
    rcases List.mem_cons.1 hr with rfl | hr
    · have h1 : (⟨g2, 0, cp2, R⟩ : Rm).at w3 := ⟨hO2.at, hg2.2, hcap.1, hcap.2⟩
      exact ⟨(h1.chg (Chg.of_below hb5) (S := fun _ => False) (fun q => q)).chg hcg (by show ¬ g2 = w3.heap.size; omega), by show w0.heap.size ≤ g2; omega, by show ¬ g2 = g'; omega⟩
    · obtain ⟨h1, h2, h3⟩ := h.ats r hr
      have hlt := h1.lt
      exact ⟨((h1.chg (Chg.of_below hb3) (S := fun _ => False) (fun q => q)).chg (Chg.of_below hb5) (S := fun _ => False) (fun q => q)).chg hcg (by show ¬ r.b = w3.heap.size; omega), h2, by omega⟩
  · intro r hr e he
    rcases List.mem_cons.1 hr with rfl | hr
    · exact hok e (List.mem_of_mem_drop (List.mem_of_mem_take (kept_sub hK e he)))
    · exact h.ok r hr e he
  · intro es he
    rcases List.mem_cons.1 he with rfl | he
    · exact kept_good (goodW_piece hg m j) hK (kept_len hK)
    · exact h.good es he
  · rw [List.take_add]
    exact .cut h.cuts hK
  · exact ((h.below.trans (hb3.mono s0)).trans (hb5.mono (by omega))).grown hgr (by omega) (fun j hj => by cases hj; omega)
theorem BytesIn.below {w w' : World} {v : Value} {n : Nat} (h : BytesIn w v n) (hb : Below w.heap.size w w') : BytesIn w' v n := by
  refine ⟨h.1, ?_⟩
  rcases h.2 with h | ⟨b, off, cap, rfl, hlt, hc⟩
  · exact .inl h
  · refine .inr ⟨b, off, cap, rfl, by have := hb.size; omega, fun k hk => ?_⟩
    obtain ⟨x, h1, h2⟩ := hc k hk
    exact ⟨x, by rw [hb.cell (p := ⟨b, off + k, none⟩) hlt]; exact h1, h2⟩
/-- What impl.BuildRun and impl.Replay answer. -/
def BuildC : Prop := ∀ (b off cap : Nat) (ws : List Ent) (w : World), EntsAt w b off ws → (∀ e ∈ ws, e.ok) → b < w.heap.size → ws.length ≤ cap → cap ≤ maxLen → ws.length ≤ 1048576 →
    Calls Try.prog 30 #[.slice (some ⟨b, off, none⟩) ws.length cap] w fun r w' =>
      ∃ (a : Option Addr) (n c : Nat) (R : List Ent), r = .returned (.agg #[.slice a n c]) ∧ OwnU w' w.heap.size (.slice a n c) R ∧ RunOf ws R ∧ Below w.heap.size w w'
def ReplayC : Prop := ∀ (b off cap : Nat) (ws : List Ent) (w : World), EntsAt w b off ws → (∀ e ∈ ws, e.ok) → b < w.heap.size → ws.length ≤ cap → cap ≤ maxLen → ws.length ≤ 1048576 →
    Calls Try.prog 29 #[.slice (some ⟨b, off, none⟩) ws.length cap] w fun r w' =>
      ∃ (g cp : Nat) (R : List Ent), r = .returned (.slice (some ⟨g, 0, none⟩) (puts R).length cp) ∧ OwnC w' w.heap.size g cp (puts R) ∧ RunOf ws R ∧ Below w.heap.size w w'
end Go.Proofs.Ytnncedndlhfdkac

/-
  laws.lwCells.
-/
namespace Go.Proofs.Ytnncedndlhfdkac
open Go.ChangeShapes Go.WideShapes Go.ChangeAt Go.RowKit Go.Deep
set_option linter.unusedVariables false
set_option linter.unusedSimpArgs false
set_option maxRecDepth 100000

set_option maxHeartbeats 1000000 in
theorem lwCells_same (b off cap b' off' cap' : Nat) (es : List Ent) (w : World) (hE : CelsAt w b off es) (hE' : CelsAt w b' off' es) (hB : b < w.heap.size) (hB' : b' < w.heap.size) (hlen : es.length ≤ maxLen) :
    Calls Try.prog 25 #[.slice (some ⟨b, off, none⟩) es.length cap, .slice (some ⟨b', off', none⟩) es.length cap'] w fun e w' => e = .returned (.bool true) ∧ Below w.heap.size w w' := by
  have HE : Hid (CelsAt w b off es ∧ CelsAt w b' off' es) := ⟨hE, hE'⟩
  clear hE hE'
  unfold maxLen at hlen
  go_enter Try.func25, Try.ntmps25
  go_wp2
  go_loopw [5] (fun i wr => ∃ (k : Nat), k ≤ es.length ∧ i = .int .i64 k ∧ Below w.heap.size w wr) (fun i _ => es.length - (intOf i).toNat)
  case atStart => exact ⟨0, Nat.zero_le _, rfl, Below.refl _ _⟩
  case round =>
    obtain ⟨k, hk, rfl, hb⟩ := hrel
    have hs2 := hb.size
    by_cases hlt : k < es.length
    · obtain ⟨e, he⟩ : ∃ e, es[k]? = some e := ⟨_, List.getElem?_eq_getElem hlt⟩
      obtain ⟨c0, c1, c2, c3, c4⟩ := HE.out.1.below hb hB k e he
      obtain ⟨d0, d1, d2, d3, d4⟩ := HE.out.2.below hb hB' k e he
      clear he
      go_upto_region 6 with fail
      go_cut [25] (fun s wx => s = .bool false ∧ Below w.heap.size w wx)
      case first =>
        have z2 : (k : Int) < (es.length : Int) := by omega
        go_region
        all_goals go_wp2_with fail
        all_goals go_meet
        all_goals exact ⟨rfl, hb.drew⟩
      case rest =>
      obtain ⟨rfl, h3⟩ := hcut
      clear c0 c1 c2 c3 c4 d0 d1 d2 d3 d4
      go_wp2_with fail
      go_roundw
      case rel => exact ⟨k + 1, by omega, by go_num, h3⟩
      case measure => simp [intOf]; omega
    · go_wp2_with fail
      go_ret
      exact ⟨rfl, hb⟩
theorem lwCells_own {w : World} {base g cp base' g' cp' : Nat} {es : List Ent} (h : OwnC w base g cp es) (h' : OwnC w base' g' cp' es) :
    Calls Try.prog 25 #[.slice (some ⟨g, 0, none⟩) es.length cp, .slice (some ⟨g', 0, none⟩) es.length cp'] w fun e w' => e = .returned (.bool true) ∧ Below w.heap.size w w' :=
  lwCells_same g 0 cp g' 0 cp' es w h.at h'.at h.lt.2 h'.lt.2 (Nat.le_trans h.caps.1 h.caps.2)
end Go.Proofs.Ytnncedndlhfdkac

/-
  laws.lwAt, laws.lwInRange.
-/
namespace Go.Proofs.Ytnncedndlhfdkac
open Go.ChangeShapes Go.WideShapes Go.ChangeAt Go.RowKit Go.Deep
set_option linter.unusedVariables false
set_option linter.unusedSimpArgs false
set_option maxRecDepth 100000

set_option maxHeartbeats 1000000 in
theorem lwAt_core (v : Value) (n k : Nat) (w : World) (h : BytesIn w v n) (hk : k ≤ 1000) :
    Calls Try.prog 31 #[v, .int .i64 k] w fun e w' => ∃ x : Int, e = .returned (.int .i64 x) ∧ 0 ≤ x ∧ x < 256 ∧ w' = w := by
  by_cases hlt : k < n
  · obtain ⟨hn, hh⟩ := h
    rcases hh with ⟨_, _, _, rfl⟩ | ⟨b, off, cap, rfl, hb, hc⟩
    · omega
    obtain ⟨x, hx, hx0, hx1⟩ := hc k hlt
    have z : (k : Int) < (n : Int) := by omega
    clear hc
    go_enter Try.func31, Try.ntmps31
    go_wp2_with fail
    go_ret
    exact ⟨x, rfl, hx0, hx1, rfl⟩
  · obtain ⟨a, cap, rfl⟩ := h.slice
    have z : ¬ (k : Int) < (n : Int) := by omega
    clear h
    obtain ⟨y, hy⟩ : ∃ y : Int, ((k : Int) * 37 + 11) % 256 = y := ⟨_, rfl⟩
    have hy0 : 0 ≤ y ∧ y < 256 := by omega
    go_enter Try.func31, Try.ntmps31
    go_wp2_with fail
    go_ret
    exact ⟨y, rfl, hy0.1, hy0.2, rfl⟩

def inTo (lo : ByteArray) (hh : Bool) (hi : ByteArray) (L : List Ent) (k : Nat) : List Ent := (L.take k).filter fun x => inR lo hh hi x.row
theorem inTo_succ {lo : ByteArray} {hh : Bool} {hi : ByteArray} {L : List Ent} {k : Nat} {x : Ent} (h : L[k]? = some x) : inTo lo hh hi L (k + 1) = inTo lo hh hi L k ++ (if inR lo hh hi x.row = true then [x] else []) := by
  unfold inTo
  rw [List.take_add_one, h]
  cases hq : inR lo hh hi x.row <;> simp [hq]
theorem inTo_len {lo : ByteArray} {hh : Bool} {hi : ByteArray} {L : List Ent} {k : Nat} : (inTo lo hh hi L k).length ≤ L.length := Nat.le_trans (List.length_filter_le _ _) (by simp; omega)

set_option maxHeartbeats 4000000 in
theorem lwInRange_core (b off cap : Nat) (L : List Ent) (lo hi : ByteArray) (hh : Bool) (w : World) (hC : CelsAt w b off L) (hB : b < w.heap.size) (hlen : L.length ≤ 1000000) :
    Calls Try.prog 32 #[.slice (some ⟨b, off, none⟩) L.length cap, .agg #[.string lo, .bool hh, .string hi]] w fun r w' =>
      ∃ (g cp : Nat), r = .returned (.slice (some ⟨g, 0, none⟩) (L.filter fun x => inR lo hh hi x.row).length cp) ∧ OwnC w' w.heap.size g cp (L.filter fun x => inR lo hh hi x.row) ∧ Below w.heap.size w w' := by
  obtain ⟨Wa, hWa⟩ : ∃ Wa : World, Wa = w.alloc (Obj.cells #[.string lo, .bool hh, .string hi] 31) := ⟨_, rfl⟩
  have hba : Below w.heap.size w Wa := by rw [hWa]; exact (Below.refl _ _).alloc (Nat.le_refl _) _
  have hza : Wa.heap.size = w.heap.size + 1 := by rw [hWa]; simp
  obtain ⟨Wb, hWb⟩ : ∃ Wb : World, Wb = Wa.alloc (Obj.cells #[] 69) := ⟨_, rfl⟩
  have hbb : Below Wa.heap.size Wa Wb := by rw [hWb]; exact (Below.refl _ _).alloc (Nat.le_refl _) _
  have hzb : Wb.heap.size = w.heap.size + 1 + 1 := by rw [hWb]; simp [hza]
  have HO : Hid (OwnC Wb (w.heap.size + 1) (w.heap.size + 1) 0 [] ∧ Below w.heap.size w Wb ∧ Wb.cell? ⟨w.heap.size, 0, none⟩ = some (.string lo) ∧ Wb.cell? ⟨w.heap.size, 1, none⟩ = some (.bool hh) ∧ Wb.cell? ⟨w.heap.size, 2, none⟩ = some (.string hi)) := by
    refine ⟨by rw [hWb, ← hza]; exact ownC_new Wa, hba.trans (hbb.mono (by omega)), ?_, ?_, ?_⟩
    · rw [hbb.cell (p := ⟨w.heap.size, 0, none⟩) (by show w.heap.size < Wa.heap.size; omega), hWa]; simp
    · rw [hbb.cell (p := ⟨w.heap.size, 1, none⟩) (by show w.heap.size < Wa.heap.size; omega), hWa]; simp
    · rw [hbb.cell (p := ⟨w.heap.size, 2, none⟩) (by show w.heap.size < Wa.heap.size; omega), hWa]; simp
  have HC : Hid (CelsAt w b off L) := hC
  clear hC
  go_enter Try.func32, Try.ntmps32
  go_wp2_with fail
  rw [← hWa, ← hWb]
  clear hWa hWb
  go_loopw [5, 6] (fun o i wr => ∃ (k g cp : Nat), k ≤ L.length ∧ i = .int .i64 k ∧ o = .slice (some ⟨g, 0, none⟩) (inTo lo hh hi L k).length cp ∧ OwnC wr (w.heap.size + 1) g cp (inTo lo hh hi L k) ∧ Below (w.heap.size + 1) Wb wr) (fun _ i _ => L.length - (intOf i).toNat)
  case atStart => exact ⟨0, w.heap.size + 1, 0, Nat.zero_le _, rfl, rfl, by simpa [inTo] using HO.out.1, Below.refl _ _⟩
  case round =>
    obtain ⟨k, g, cp, hk, rfl, rfl, hOk, hb⟩ := hrel
    have hs := hb.size
    have hg := hOk.lt
    have HOk : Hid (OwnC wr (w.heap.size + 1) g cp (inTo lo hh hi L k)) := hOk
    clear hOk
    have kb : Below w.heap.size w wr := HO.out.2.1.trans (hb.mono (by omega))
    by_cases hlt : k < L.length
    · obtain ⟨x, hx⟩ : ∃ x, L[k]? = some x := ⟨_, List.getElem?_eq_getElem hlt⟩
      have HX : Hid (inTo lo hh hi L (k + 1) = inTo lo hh hi L k ++ (if inR lo hh hi x.row = true then [x] else [])) := inTo_succ hx
      have HXk : Hid (L[k]? = some x) := hx
      obtain ⟨c0, c1, c2, c3, c4⟩ := HC.out.below kb hB k x hx
      have r0 : wr.cell? ⟨w.heap.size, 0, none⟩ = some (.string lo) := by rw [hb.cell (p := ⟨w.heap.size, 0, none⟩) (by show w.heap.size < w.heap.size + 1; omega)]; exact HO.out.2.2.1
      have r1 : wr.cell? ⟨w.heap.size, 1, none⟩ = some (.bool hh) := by rw [hb.cell (p := ⟨w.heap.size, 1, none⟩) (by show w.heap.size < w.heap.size + 1; omega)]; exact HO.out.2.2.2.1
      have r2 : wr.cell? ⟨w.heap.size, 2, none⟩ = some (.string hi) := by rw [hb.cell (p := ⟨w.heap.size, 2, none⟩) (by show w.heap.size < w.heap.size + 1; omega)]; exact HO.out.2.2.2.2
      clear hx
      have z : (k : Int) < (L.length : Int) := by omega
      go_upto_region 5 with fail
      go_cut [36] (fun s wx => s = .bool (inR lo hh hi x.row) ∧ Below wr.heap.size wr wx)
      case first =>
        cases hb1 : Op.bytesLess x.row.toList lo.toList
        · cases hh
          · go_quiet (fail)
            go_wp2_with fail
            go_meet
            exact ⟨by simp [inR, hb1], below_drewN (Below.refl _ _) _⟩
          · go_quiet (fail)
            go_wp2_with fail
            go_meet
            exact ⟨by simp [inR, hb1], below_drewN (Below.refl _ _) _⟩
        · go_quiet (fail)
          go_wp2_with fail
          go_meet
          exact ⟨by simp [inR, hb1], below_drewN (Below.refl _ _) _⟩
      case rest =>
        obtain ⟨rfl, hbc⟩ := hcut
        have hsc := hbc.size
        have hOc := HOk.out.below hbc hg.2
        have kc : Below (w.heap.size + 1) Wb wc := hb.trans (hbc.mono (by omega))
        have kw : Below w.heap.size w wc := kb.trans (hbc.mono (by omega))
        clear c0 c1 c2 c3 c4 r0 r1 r2
        cases hq : inR lo hh hi x.row
        · have HN : Hid (OwnC wc (w.heap.size + 1) g cp (inTo lo hh hi L (k + 1)) ∧ inTo lo hh hi L (k + 1) = inTo lo hh hi L k) := by
            have h1 : inTo lo hh hi L (k + 1) = inTo lo hh hi L k := by rw [HX.out, hq]; simp
            exact ⟨by rw [h1]; exact hOc, h1⟩
          clear hOc
          go_wp2_with fail
          go_roundw
          case rel => exact ⟨k + 1, g, cp, by omega, by go_num, by rw [HN.out.2], HN.out.1, kc⟩
          case measure => go_light; simp [intOf]; omega
        · have HN : Hid (inTo lo hh hi L (k + 1) = inTo lo hh hi L k ++ [x]) := by
            show inTo lo hh hi L (k + 1) = inTo lo hh hi L k ++ [x]
            rw [HX.out, hq]; simp
          have HO2 : Hid (OwnC wc (w.heap.size + 1) g cp (inTo lo hh hi L k) ∧ (inTo lo hh hi L k).length ≤ L.length) := ⟨hOc, inTo_len⟩
          obtain ⟨c0, c1, c2, c3, c4⟩ := HC.out.below kw hB k x HXk.out
          clear hOc
          obtain ⟨m, hm⟩ : ∃ m, (inTo lo hh hi L k).length = m := ⟨_, rfl⟩
          rw [hm]
          have HM : Hid (m = (inTo lo hh hi L k).length) := hm.symm
          clear hm
          go_wp2_with (at_builtin; refine wpList_append_cel _ rfl _ _ rfl (w.heap.size + 1) g cp _ _ (inTo lo hh hi L k) x rfl rfl HM.out ?hO ?hc ?hl ?hb ?_)
          case hO => exact HO2.out.1.below ((Below.refl _ _).alloc (Nat.le_refl _) _) (by omega)
          case hc => exact cel_new wc x
          case hl => have := HO2.out.2; omega
          case hb => simp; omega
          intro g' cp' w' hO' hgr
          have HN2 : Hid (OwnC w' (w.heap.size + 1) g' cp' (inTo lo hh hi L (k + 1))) := by show OwnC w' (w.heap.size + 1) g' cp' (inTo lo hh hi L (k + 1)); rw [HN.out]; exact hO'
          have k2 : Below (w.heap.size + 1) Wb w' := (kc.alloc (by omega) _).grown hgr (by simp; omega) (fun j hj => by cases hj; exact hg.1)
          clear hO' hgr c0 c1 c2 c3 c4
          go_wp2_with fail
          go_roundw
          case rel => exact ⟨k + 1, g', cp', by omega, by go_num, by rw [HN.out, HM.out]; simp, HN2.out, k2⟩
          case measure => go_light; simp [intOf]; omega
    · have HE : Hid (inTo lo hh hi L k = L.filter fun x => inR lo hh hi x.row) := by
        show inTo lo hh hi L k = _
        unfold inTo
        rw [List.take_of_length_le (by omega)]
      have HE2 : Hid (OwnC wr (w.heap.size + 1) g cp (L.filter fun x => inR lo hh hi x.row)) := by have := HOk.out; rw [HE.out] at this; exact this
      rw [HE.out]
      clear HOk
      go_wp2_with fail
      go_ret
      exact ⟨g, cp, rfl, OwnC.mono HE2.out (by omega), kb⟩
end Go.Proofs.Ytnncedndlhfdkac

/-
  The merge as a fold: entries come in the order of keys, and at one key the newest run's first.
-/
namespace Go.Proofs.Ytnncedndlhfdkac
set_option linter.unusedVariables false
set_option linter.unusedSimpArgs false

/-- Comes before: a smaller key, or the same key in a newer run. -/
def Lt2 (p q : Nat × Ent) : Prop := keyCmp p.2 q.2 = -1 ∨ (keyCmp p.2 q.2 = 0 ∧ p.1 < q.1)
theorem lt2_trans {p q r : Nat × Ent} (h : Lt2 p q) (k : Lt2 q r) : Lt2 p r := by
  rcases h with h | ⟨h, h'⟩ <;> rcases k with k | ⟨k, k'⟩
  · exact .inl (keyCmp_trans h k)
  · left
    have h1 := keyCmp_congr k (c := p.2)
    have h2 := keyCmp_neg p.2 q.2
    have h3 := keyCmp_neg p.2 r.2
    omega
  · left
    have h1 := keyCmp_congr h (c := r.2)
    omega
  · right
    have h1 := keyCmp_congr h (c := r.2)
    exact ⟨by omega, by omega⟩
theorem lt2_irrefl (p : Nat × Ent) : ¬ Lt2 p p := by
  rintro (h | ⟨_, h⟩)
  · rw [keyCmp_self] at h; omega
  · omega
theorem lt2_total {p q : Nat × Ent} (h : ¬ p.1 = q.1) : Lt2 p q ∨ Lt2 q p := by
  have h2 := keyCmp_neg p.2 q.2
  rcases keyCmp_vals p.2 q.2 with k | k | k
  · exact .inl (.inl k)
  · by_cases hl : p.1 < q.1
    · exact .inl (.inr ⟨k, hl⟩)
    · exact .inr (.inr ⟨by omega, by omega⟩)
  · exact .inr (.inl (by omega))
theorem lt2_asymm {p q : Nat × Ent} (h : Lt2 p q) : ¬ Lt2 q p := fun k => lt2_irrefl p (lt2_trans h k)

/-- What stands in the way of a put of run 'a'. -/
def Over (P : List (Nat × Ent)) (a : Nat) (x : Ent) : Prop := ∃ p ∈ P, p.1 < a ∧ kills p.2 x = true
/-- What has been shown of what came. -/
def Shown (P : List (Nat × Ent)) (L : List Ent) : Prop := Ord L ∧ ∀ x, x ∈ L ↔ ∃ a, (a, x) ∈ P ∧ x.kind = 0 ∧ ¬ Over P a x

abbrev Ent.col (e : Ent) : ByteArray × ByteArray × ByteArray := (e.row, e.fam, e.qual)
theorem sameCol_col {a b : Ent} : sameCol a b = true ↔ a.col = b.col := by
  rw [sameCol_iff]; simp [Ent.col]
theorem key_le {a b : Ent} (h : keyCmp a b ≤ 0) : cB a.row b.row ≤ 0 ∧ (a.row = b.row → cB a.fam b.fam ≤ 0 ∧ (a.fam = b.fam → cB a.qual b.qual ≤ 0 ∧ (a.qual = b.qual → kindCmp a.kind b.kind ≤ 0 ∧ (kindCmp a.kind b.kind = 0 → tsCmp a.ts b.ts ≤ 0)))) := by
  have F : ∀ {x y : Int}, firstOf x y ≤ 0 → x ≤ 0 ∧ (x = 0 → y ≤ 0) := by
    intro x y
    unfold firstOf
    by_cases h : x = 0
    · rw [if_pos h]; intro k; exact ⟨by omega, fun _ => k⟩
    · rw [if_neg h]; intro k; exact ⟨k, fun q => absurd q h⟩
  unfold keyCmp at h
  obtain ⟨h1, h⟩ := F h
  refine ⟨h1, fun q => ?_⟩
  obtain ⟨h2, h⟩ := F (h (cB_zero.2 q))
  refine ⟨h2, fun q => ?_⟩
  obtain ⟨h3, h⟩ := F (h (cB_zero.2 q))
  refine ⟨h3, fun q => ?_⟩
  exact F (h (cB_zero.2 q))
theorem Lt2.le {p q : Nat × Ent} (h : Lt2 p q) : keyCmp p.2 q.2 ≤ 0 := by
  rcases h with h | ⟨h, _⟩ <;> omega
/-- A column's entries stand together. -/
theorem col_between {a b c : Ent} (h : keyCmp a b ≤ 0) (k : keyCmp b c ≤ 0) (q : a.col = c.col) : b.col = c.col := by
  simp only [Ent.col, Prod.mk.injEq] at q ⊢
  obtain ⟨q1, q2, q3⟩ := q
  obtain ⟨h1, h⟩ := key_le h
  obtain ⟨k1, k⟩ := key_le k
  have n1 := cB_neg a.row b.row
  rw [← q1] at k1 k ⊢
  have e1 : b.row = a.row := cB_zero.1 (by omega)
  obtain ⟨h2, h⟩ := h e1.symm
  obtain ⟨k2, k⟩ := k e1
  have n2 := cB_neg a.fam b.fam
  rw [← q2] at k2 k ⊢
  have e2 : b.fam = a.fam := cB_zero.1 (by omega)
  obtain ⟨h3, h⟩ := h e2.symm
  obtain ⟨k3, k⟩ := k e2
  have n3 := cB_neg a.qual b.qual
  rw [← q3] at k3 k ⊢
  have e3 : b.qual = a.qual := cB_zero.1 (by omega)
  exact ⟨e1, e2, e3⟩
/-- Timestamps fall. -/
theorem ts_falls {a b : Ent} (h : keyCmp a b ≤ 0) (q : a.col = b.col) (ha : ¬ a.kind = 2) (hb : ¬ b.kind = 2) : b.ts ≤ a.ts := by
  simp only [Ent.col, Prod.mk.injEq] at q
  have hk : kindCmp a.kind b.kind = 0 := kindCmp_zero.2 ⟨fun h => absurd h ha, fun h => absurd h hb⟩
  have := (((((key_le h).2 q.1).2 q.2.1).2 q.2.2).2) hk
  unfold tsCmp at this
  (repeat' split at this) <;> omega
/-- What does away with a put of an older run comes before it. -/
theorem kill_lt2 {d x : Ent} {a b : Nat} (h : kills d x = true) (hab : a < b) (hx : x.kind = 0) : Lt2 (a, d) (b, x) := by
  unfold kills at h
  rw [Bool.and_eq_true, sameCol_iff] at h
  obtain ⟨⟨h1, h2, h3⟩, h4⟩ := h
  by_cases hd : d.kind = 2
  · left
    show keyCmp d x = -1
    unfold keyCmp
    rw [cB_zero.2 h1, cB_zero.2 h2, cB_zero.2 h3]
    have : kindCmp d.kind x.kind = -1 := by
      unfold kindCmp
      rw [if_pos hd, if_neg (by omega)]
    rw [this]
    simp [firstOf]
  · right
    refine ⟨keyCmp_zero.2 ⟨h1, h2, h3, ⟨fun q => absurd q hd, fun q => by have q' : x.kind = 2 := q; omega⟩, ?_⟩, hab⟩
    simpa [hd] using h4

theorem over_push {P : List (Nat × Ent)} {a b : Nat} {e x : Ent} (hx : x.kind = 0) (h : Lt2 (b, x) (a, e)) : Over (P ++ [(a, e)]) b x ↔ Over P b x := by
  constructor
  · rintro ⟨p, hp, h1, h2⟩
    rcases List.mem_append.1 hp with hp | hp
    · exact ⟨p, hp, h1, h2⟩
    · simp at hp
      subst hp
      exact absurd h (lt2_asymm (kill_lt2 h2 h1 hx))
  · rintro ⟨p, hp, h1, h2⟩
    exact ⟨p, List.mem_append_left _ hp, h1, h2⟩
theorem over_self {P : List (Nat × Ent)} {a : Nat} {e : Ent} : Over (P ++ [(a, e)]) a e ↔ Over P a e := by
  constructor
  · rintro ⟨p, hp, h1, h2⟩
    rcases List.mem_append.1 hp with hp | hp
    · exact ⟨p, hp, h1, h2⟩
    · simp at hp
      subst hp
      simp at h1
  · rintro ⟨p, hp, h1, h2⟩
    exact ⟨p, List.mem_append_left _ hp, h1, h2⟩
theorem shown_nil : Shown [] [] := ⟨List.Pairwise.nil, fun x => by simp⟩
theorem shown_skip {P : List (Nat × Ent)} {L : List Ent} {a : Nat} {e : Ent} (h : Shown P L) (hP : ∀ p ∈ P, Lt2 p (a, e)) (hn : ¬ (e.kind = 0 ∧ ¬ Over P a e)) : Shown (P ++ [(a, e)]) L := by
  refine ⟨h.1, fun x => (h.2 x).trans ⟨?_, ?_⟩⟩
  · rintro ⟨b, h1, h2, h3⟩
    exact ⟨b, List.mem_append_left _ h1, h2, fun q => h3 ((over_push h2 (hP _ h1)).1 q)⟩
  · rintro ⟨b, h1, h2, h3⟩
    rcases List.mem_append.1 h1 with h1 | h1
    · exact ⟨b, h1, h2, fun q => h3 ((over_push h2 (hP _ h1)).2 q)⟩
    · simp at h1
      obtain ⟨rfl, rfl⟩ := h1
      exact absurd ⟨h2, fun q => h3 (over_self.2 q)⟩ hn
theorem shown_put {P : List (Nat × Ent)} {L : List Ent} {a : Nat} {e : Ent} (h : Shown P L) (hP : ∀ p ∈ P, Lt2 p (a, e)) (h0 : e.kind = 0) (hn : ¬ Over P a e) : Shown (P ++ [(a, e)]) (L ++ [e]) := by
  refine ⟨List.pairwise_append.2 ⟨h.1, by simp, fun y hy z hz => ?_⟩, fun x => ?_⟩
  · simp at hz
    subst hz
    obtain ⟨b, h1, h2, h3⟩ := (h.2 y).1 hy
    rcases hP _ h1 with q | ⟨q, q'⟩
    · exact q
    · refine absurd ⟨(b, y), h1, q', ?_⟩ hn
      obtain ⟨k1, k2, k3, k4, k5⟩ := keyCmp_zero.1 q
      unfold kills
      have hk : ¬ y.kind = 2 := by omega
      simp at k1 k2 k3 k5
      simp [sameCol_iff, hk, k1, k2, k3, k5]
  · rw [List.mem_append, h.2 x]
    constructor
    · rintro (⟨b, h1, h2, h3⟩ | hx)
      · exact ⟨b, List.mem_append_left _ h1, h2, fun q => h3 ((over_push h2 (hP _ h1)).1 q)⟩
      · simp at hx
        subst hx
        exact ⟨a, by simp, h0, fun q => hn (over_self.1 q)⟩
    · rintro ⟨b, h1, h2, h3⟩
      rcases List.mem_append.1 h1 with h1 | h1
      · exact .inl ⟨b, h1, h2, fun q => h3 ((over_push h2 (hP _ h1)).2 q)⟩
      · simp at h1
        obtain ⟨rfl, rfl⟩ := h1
        exact .inr (by simp)

/-- The merger's memory of the column at hand, behind what came. -/
structure Mem (P : List (Nat × Ent)) (c : ByteArray × ByteArray × ByteArray) (ds : List (Nat × Int)) (dec : Bool) (ts : Int) : Prop where
  dels : ∀ d, d ∈ ds ↔ ∃ p ∈ P, p.2.kind = 2 ∧ p.2.col = c ∧ d = (p.1, p.2.ts)
  some : dec = true → ∃ p ∈ P, ¬ p.2.kind = 2 ∧ p.2.col = c ∧ p.2.ts = ts
  all : ∀ p ∈ P, ¬ p.2.kind = 2 → p.2.col = c → dec = true ∧ ts ≤ p.2.ts
  len : ds.length ≤ P.length
/-- It is the last one's column. -/
def Last (P : List (Nat × Ent)) (c : ByteArray × ByteArray × ByteArray) : Prop := ∀ p, P.getLast? = some p → p.2.col = c

theorem mem_nil (c : ByteArray × ByteArray × ByteArray) (ts : Int) : Mem [] c [] false ts := ⟨by simp, by simp, by simp, by simp⟩
theorem last_nil (c : ByteArray × ByteArray × ByteArray) : Last [] c := by intro p h; simp at h
theorem last_push (P : List (Nat × Ent)) (a : Nat) (e : Ent) : Last (P ++ [(a, e)]) e.col := by intro p h; simp at h; subst h; rfl
theorem col_fresh {P : List (Nat × Ent)} {c : ByteArray × ByteArray × ByteArray} {a : Nat} {e : Ent} (hl : Last P c) (hS : P.Pairwise Lt2) (hP : ∀ p ∈ P, Lt2 p (a, e)) (hc : ¬ e.col = c) : ∀ p ∈ P, ¬ p.2.col = e.col := by
  intro p hp hq
  obtain ⟨l, hll⟩ : ∃ l, P.getLast? = some l := by
    cases hg : P.getLast? with
    | none => rw [List.getLast?_eq_none_iff] at hg; subst hg; simp at hp
    | some l => exact ⟨l, rfl⟩
  have hm : l ∈ P := List.mem_of_getLast? hll
  have h1 : keyCmp p.2 l.2 ≤ 0 := by
    by_cases hpl : p = l
    · subst hpl; rw [keyCmp_self]; omega
    · obtain ⟨Q, hQ⟩ := List.getLast?_eq_some_iff.1 hll
      subst hQ
      rcases List.mem_append.1 hp with hp | hp
      · exact ((List.pairwise_append.1 hS).2.2 p hp l (by simp)).le
      · simp at hp; exact absurd hp hpl
  have := col_between h1 (hP l hm).le hq
  exact hc (this.symm.trans (hl l hll))
theorem mem_turn {P : List (Nat × Ent)} {c : ByteArray × ByteArray × ByteArray} {a : Nat} {e : Ent} (hl : Last P c) (hS : P.Pairwise Lt2) (hP : ∀ p ∈ P, Lt2 p (a, e)) (hc : ¬ e.col = c) (ts : Int) : Mem P e.col [] false ts := by
  have := col_fresh hl hS hP hc
  refine ⟨fun d => ⟨fun h => by simp at h, ?_⟩, by simp, fun p hp _ q => absurd q (this p hp), by simp⟩
  rintro ⟨p, hp, _, q, _⟩
  exact absurd q (this p hp)
theorem mem_del {P : List (Nat × Ent)} {ds : List (Nat × Int)} {dec : Bool} {ts : Int} {a : Nat} {e : Ent} (h : Mem P e.col ds dec ts) (h2 : e.kind = 2) : Mem (P ++ [(a, e)]) e.col (ds ++ [(a, e.ts)]) dec ts := by
  refine ⟨fun d => ?_, fun q => ?_, fun p hp hn hc => ?_, by simpa using h.len⟩
  · rw [List.mem_append, h.dels]
    constructor
    · rintro (⟨p, hp, q⟩ | hd)
      · exact ⟨p, List.mem_append_left _ hp, q⟩
      · simp at hd
        exact ⟨(a, e), by simp, h2, rfl, hd⟩
    · rintro ⟨p, hp, q1, q2, q3⟩
      rcases List.mem_append.1 hp with hp | hp
      · exact .inl ⟨p, hp, q1, q2, q3⟩
      · simp at hp
        subst hp
        exact .inr (by simpa using q3)
  · obtain ⟨p, hp, k⟩ := h.some q
    exact ⟨p, List.mem_append_left _ hp, k⟩
  · rcases List.mem_append.1 hp with hp | hp
    · exact h.all p hp hn hc
    · simp at hp
      subst hp
      exact absurd h2 hn
theorem mem_same {P : List (Nat × Ent)} {ds : List (Nat × Int)} {dec : Bool} {ts : Int} {a : Nat} {e : Ent} (h : Mem P e.col ds dec ts) (h2 : ¬ e.kind = 2) (hd : dec = true) (ht : ts = e.ts) : Mem (P ++ [(a, e)]) e.col ds dec ts := by
  refine ⟨fun d => ?_, fun q => ?_, fun p hp hn hc => ?_, by simpa using Nat.le_succ_of_le h.len⟩
  · rw [h.dels]
    constructor
    · rintro ⟨p, hp, q⟩
      exact ⟨p, List.mem_append_left _ hp, q⟩
    · rintro ⟨p, hp, q1, q2, q3⟩
      rcases List.mem_append.1 hp with hp | hp
      · exact ⟨p, hp, q1, q2, q3⟩
      · simp at hp
        subst hp
        exact absurd q1 h2
  · obtain ⟨p, hp, k⟩ := h.some q
    exact ⟨p, List.mem_append_left _ hp, k⟩
  · rcases List.mem_append.1 hp with hp | hp
    · exact h.all p hp hn hc
    · simp at hp
      subst hp
      exact ⟨hd, by simp [ht]⟩
theorem mem_new {P : List (Nat × Ent)} {ds : List (Nat × Int)} {dec : Bool} {ts : Int} {a : Nat} {e : Ent} (h : Mem P e.col ds dec ts) (hP : ∀ p ∈ P, Lt2 p (a, e)) (h2 : ¬ e.kind = 2) : Mem (P ++ [(a, e)]) e.col ds true e.ts := by
  refine ⟨fun d => ?_, fun q => ⟨(a, e), by simp, h2, rfl, rfl⟩, fun p hp hn hc => ⟨rfl, ?_⟩, by simpa using Nat.le_succ_of_le h.len⟩
  · rw [h.dels]
    constructor
    · rintro ⟨p, hp, q⟩
      exact ⟨p, List.mem_append_left _ hp, q⟩
    · rintro ⟨p, hp, q1, q2, q3⟩
      rcases List.mem_append.1 hp with hp | hp
      · exact ⟨p, hp, q1, q2, q3⟩
      · simp at hp
        subst hp
        exact absurd q1 h2
  · rcases List.mem_append.1 hp with hp | hp
    · exact ts_falls (hP p hp).le hc hn h2
    · simp at hp
      subst hp
      simp
/-- A newer run's entry at the same key decides. -/
theorem over_decided {P : List (Nat × Ent)} {ds : List (Nat × Int)} {dec : Bool} {ts : Int} {a : Nat} {e : Ent} (h : Mem P e.col ds dec ts) (hP : ∀ p ∈ P, Lt2 p (a, e)) (h2 : ¬ e.kind = 2) (hd : dec = true) (ht : ts = e.ts) : Over P a e := by
  obtain ⟨p, hp, k1, k2, k3⟩ := h.some hd
  simp only [Ent.col, Prod.mk.injEq] at k2
  have hz : keyCmp p.2 e = 0 := keyCmp_zero.2 ⟨k2.1, k2.2.1, k2.2.2, ⟨fun q => absurd q k1, fun q => absurd q h2⟩, by omega⟩
  refine ⟨p, hp, ?_, ?_⟩
  · rcases hP p hp with q | ⟨_, q⟩
    · have q' : keyCmp p.2 e = -1 := q
      omega
    · exact q
  · unfold kills
    simp [sameCol_iff, k1, k2]
    omega
def hides (ds : List (Nat × Int)) (ts : Int) (a : Nat) : Bool := ds.any fun d => decide (d.1 < a) && decide (ts ≤ d.2)
theorem over_hides {P : List (Nat × Ent)} {ds : List (Nat × Int)} {dec : Bool} {ts : Int} {a : Nat} {e : Ent} (h : Mem P e.col ds dec ts) (hP : ∀ p ∈ P, Lt2 p (a, e)) (h2 : ¬ e.kind = 2) (hd : ¬ (dec = true ∧ ts = e.ts)) : Over P a e ↔ hides ds e.ts a = true := by
  unfold hides
  rw [List.any_eq_true]
  constructor
  · rintro ⟨p, hp, h1, hk⟩
    have hk' := hk
    unfold kills at hk
    rw [Bool.and_eq_true, sameCol_col] at hk
    by_cases hp2 : p.2.kind = 2
    · refine ⟨(p.1, p.2.ts), (h.dels _).2 ⟨p, hp, hp2, hk.1, rfl⟩, ?_⟩
      have := hk.2
      simp [hp2] at this
      simp [h1, this]
    · exfalso
      have hts : p.2.ts = e.ts := by
        have := hk.2
        simpa [hp2] using this
      obtain ⟨hdec, hle⟩ := h.all p hp hp2 hk.1
      obtain ⟨y, hy, y1, y2, y3⟩ := h.some hdec
      have f1 := ts_falls (hP y hy).le y2 y1 h2
      have f1' : e.ts ≤ y.2.ts := f1
      exact hd ⟨hdec, by omega⟩
  · rintro ⟨d, hd1, hd2⟩
    obtain ⟨p, hp, q1, q2, rfl⟩ := (h.dels d).1 hd1
    simp at hd2
    refine ⟨p, hp, hd2.1, ?_⟩
    unfold kills
    rw [sameCol_col.2 q2]
    simp [q1, hd2.2]
/-- All that lies in the range has come. -/
theorem shown_all {rs : List (List Ent)} {inr : ByteArray → Bool} {P : List (Nat × Ent)} {L : List Ent} (h : Shown P L) (hP : ∀ a x, (a, x) ∈ P ↔ (∃ j, At rs a j x) ∧ inr x.row = true) : Mrg rs inr L := by
  have ho : ∀ a x, inr x.row = true → (Over P a x ↔ HidTo rs a x) := by
    intro a x hr
    constructor
    · rintro ⟨⟨b, d⟩, hp, h1, h2⟩
      obtain ⟨⟨j, es, k1, k2⟩, _⟩ := (hP b d).1 hp
      exact ⟨b, es, d, h1, k1, List.mem_of_getElem? k2, h2⟩
    · rintro ⟨b, es, d, h1, k1, k2, h2⟩
      obtain ⟨j, hj⟩ := List.getElem?_of_mem k2
      refine ⟨(b, d), (hP b d).2 ⟨⟨j, es, k1, hj⟩, ?_⟩, h1, h2⟩
      unfold kills at h2
      rw [Bool.and_eq_true, sameCol_iff] at h2
      rw [h2.1.1]; exact hr
  refine ⟨h.1, fun x => (h.2 x).trans ⟨?_, ?_⟩⟩
  · rintro ⟨a, h1, h2, h3⟩
    obtain ⟨⟨j, hj⟩, hr⟩ := (hP a x).1 h1
    exact ⟨a, j, hj, h2, hr, fun q => h3 ((ho a x hr).2 q)⟩
  · rintro ⟨a, j, hj, h2, hr, h3⟩
    exact ⟨a, (hP a x).2 ⟨⟨j, hj⟩, hr⟩, h2, fun q => h3 ((ho a x hr).1 q)⟩
end Go.Proofs.Ytnncedndlhfdkac

/-
  Cursors and their heap, without memory: what the least one gives next.
-/
namespace Go.Proofs.Ytnncedndlhfdkac
set_option linter.unusedVariables false
set_option linter.unusedSimpArgs false

/-- A cursor: its block, the entries that it holds, its place among them and its age. -/
structure Cu where
  blk : Nat
  r : Rm
  pos : Nat
  age : Nat
instance : Inhabited Cu := ⟨⟨0, ⟨0, 0, 0, []⟩, 0, 0⟩⟩
def Cu.head (c : Cu) : Ent := c.r.es[c.pos]?.getD zeroE
def Cu.rest (c : Cu) : List Ent := c.r.es.drop c.pos
theorem Cu.head_get {c : Cu} (h : c.pos < c.r.es.length) : c.r.es[c.pos]? = some c.head := by
  unfold Cu.head
  rw [List.getElem?_eq_getElem h]; rfl
theorem Cu.rest_cons {c : Cu} (h : c.pos < c.r.es.length) : c.rest = c.head :: c.r.es.drop (c.pos + 1) := by
  unfold Cu.rest
  obtain ⟨h1, h2⟩ := List.getElem?_eq_some_iff.1 (Cu.head_get h)
  rw [← h2]; exact List.drop_eq_getElem_cons h1
def lessC (a b : Cu) : Bool := if keyCmp a.head b.head = 0 then decide (a.age < b.age) else decide (keyCmp a.head b.head < 0)
/-- The heap's order, from the other side. -/
def gtC (a b : Cu) : Bool := lessC b a
theorem lessC_iff {a b : Cu} : lessC a b = true ↔ Lt2 (a.age, a.head) (b.age, b.head) := by
  unfold lessC Lt2
  rcases keyCmp_vals a.head b.head with h | h | h <;> simp [h]
theorem lessC_false {a b : Cu} : lessC a b = false ↔ ¬ Lt2 (a.age, a.head) (b.age, b.head) := by
  rw [← lessC_iff]; simp
theorem lt2_not_trans {p q r : Nat × Ent} (h : ¬ Lt2 p q) (k : ¬ Lt2 q r) : ¬ Lt2 p r := by
  intro hr
  by_cases hpq : p.1 = q.1
  · have h2 := keyCmp_neg p.2 q.2
    rcases keyCmp_vals p.2 q.2 with c | c | c
    · exact h (.inl c)
    · have e := keyCmp_congr c (c := r.2)
      refine k ?_
      rcases hr with g | ⟨g, g'⟩
      · exact .inl (by omega)
      · exact .inr ⟨by omega, by omega⟩
    · exact k (lt2_trans (.inl (by omega)) hr)
  · rcases lt2_total hpq with g | g
    · exact h g
    · exact k (lt2_trans g hr)
theorem swo_gtC : Go.Sort.SWO gtC where
  irrefl := fun x => lessC_false.2 (lt2_irrefl _)
  trans := fun x y z h k => by
    unfold gtC at *
    rw [lessC_iff] at *
    exact lt2_trans k h
  ntrans := fun x y z h k => by
    unfold gtC at *
    rw [lessC_false] at *
    exact lt2_not_trans k h

def sumL (l : List (Nat × List Ent)) : Nat := (l.map fun p => p.2.length).sum
/-- What came and what is still to come. -/
structure Flow (A : Nat → Ent → Prop) (N : Nat) (P : List (Nat × Ent)) (l : List (Nat × List Ent)) : Prop where
  sorted : P.Pairwise Lt2
  ahead : ∀ p ∈ P, ∀ c ∈ l, ∀ x ∈ c.2, Lt2 p (c.1, x)
  all : ∀ a x, A a x ↔ (a, x) ∈ P ∨ ∃ c ∈ l, c.1 = a ∧ x ∈ c.2
  ages : l.Pairwise fun c c' => c.1 ≠ c'.1
  ord : ∀ c ∈ l, Ord c.2
  count : P.length + sumL l = N
theorem Flow.perm {A : Nat → Ent → Prop} {N : Nat} {P : List (Nat × Ent)} {l m : List (Nat × List Ent)} (h : Flow A N P l) (hp : l.Perm m) : Flow A N P m where
  sorted := h.sorted
  ahead := fun p hp' c hc => h.ahead p hp' c (hp.mem_iff.2 hc)
  all := fun a x => (h.all a x).trans (by
    constructor
    · rintro (k | ⟨c, hc, k⟩)
      · exact .inl k
      · exact .inr ⟨c, hp.mem_iff.1 hc, k⟩
    · rintro (k | ⟨c, hc, k⟩)
      · exact .inl k
      · exact .inr ⟨c, hp.mem_iff.2 hc, k⟩)
  ages := (hp.pairwise_iff (fun h => Ne.symm h)).1 h.ages
  ord := fun c hc => h.ord c (hp.mem_iff.2 hc)
  count := by
    have : sumL m = sumL l := ((hp.map (fun p : Nat × List Ent => p.2.length)).sum_nat).symm
    rw [this]; exact h.count
theorem Flow.done {A : Nat → Ent → Prop} {N : Nat} {P : List (Nat × Ent)} (h : Flow A N P []) : ∀ a x, (a, x) ∈ P ↔ A a x := fun a x => by
  rw [h.all]; simp
theorem Flow.next {A : Nat → Ent → Prop} {N : Nat} {P : List (Nat × Ent)} {a : Nat} {e : Ent} {r : List Ent} {l : List (Nat × List Ent)} (h : Flow A N P ((a, e :: r) :: l)) : ∀ p ∈ P, Lt2 p (a, e) :=
  fun p hp => h.ahead p hp (a, e :: r) (by simp) e (by simp)
theorem Flow.step {A : Nat → Ent → Prop} {N : Nat} {P : List (Nat × Ent)} {a : Nat} {e : Ent} {r : List Ent} {l : List (Nat × List Ent)} (h : Flow A N P ((a, e :: r) :: l))
    (hm : ∀ c ∈ l, ∃ y ys, c.2 = y :: ys ∧ ¬ Lt2 (c.1, y) (a, e)) : Flow A N (P ++ [(a, e)]) ((a, r) :: l) where
  sorted := List.pairwise_append.2 ⟨h.sorted, by simp, fun p hp q hq => by simp at hq; subst hq; exact h.next p hp⟩
  ahead := fun p hp c hc x hx => by
    rcases List.mem_append.1 hp with hp | hp
    · rcases List.mem_cons.1 hc with rfl | hc
      · exact h.ahead p hp (a, e :: r) (by simp) x (List.mem_cons_of_mem _ hx)
      · exact h.ahead p hp c (List.mem_cons_of_mem _ hc) x hx
    · simp at hp
      subst hp
      have ho := List.pairwise_cons.1 (h.ord (a, e :: r) (by simp))
      rcases List.mem_cons.1 hc with rfl | hc
      · exact .inl (ho.1 x hx)
      · obtain ⟨y, ys, e1, e2⟩ := hm c hc
        have hne : ¬ a = c.1 := (List.pairwise_cons.1 h.ages).1 c hc
        have h1 : Lt2 (a, e) (c.1, y) := (lt2_total (p := (a, e)) (q := (c.1, y)) hne).resolve_right e2
        rw [e1] at hx
        rcases List.mem_cons.1 hx with rfl | hx
        · exact h1
        · have ho' := h.ord c (List.mem_cons_of_mem _ hc)
          rw [e1] at ho'
          exact lt2_trans h1 (.inl ((List.pairwise_cons.1 ho').1 x hx))
  all := fun b x => (h.all b x).trans (by
    constructor
    · rintro (k | ⟨c, hc, k1, k2⟩)
      · exact .inl (List.mem_append_left _ k)
      · rcases List.mem_cons.1 hc with rfl | hc
        · rcases List.mem_cons.1 k2 with rfl | k2
          · left; simp at k1; subst k1; simp
          · exact .inr ⟨(a, r), by simp, k1, k2⟩
        · exact .inr ⟨c, List.mem_cons_of_mem _ hc, k1, k2⟩
    · rintro (k | ⟨c, hc, k1, k2⟩)
      · rcases List.mem_append.1 k with k | k
        · exact .inl k
        · simp at k
          exact .inr ⟨(a, e :: r), by simp, k.1.symm, by simp [k.2]⟩
      · rcases List.mem_cons.1 hc with rfl | hc
        · exact .inr ⟨(a, e :: r), by simp, k1, List.mem_cons_of_mem _ k2⟩
        · exact .inr ⟨c, List.mem_cons_of_mem _ hc, k1, k2⟩)
  ages := List.pairwise_cons.2 ⟨fun c hc => (List.pairwise_cons.1 h.ages).1 c hc, (List.pairwise_cons.1 h.ages).2⟩
  ord := fun c hc => by
    rcases List.mem_cons.1 hc with rfl | hc
    · exact (List.pairwise_cons.1 (h.ord (a, e :: r) (by simp))).2
    · exact h.ord c (List.mem_cons_of_mem _ hc)
  count := by
    have := h.count
    simp [sumL] at this ⊢
    omega
theorem Flow.drop {A : Nat → Ent → Prop} {N : Nat} {P : List (Nat × Ent)} {a : Nat} {l : List (Nat × List Ent)} (h : Flow A N P ((a, []) :: l)) : Flow A N P l where
  sorted := h.sorted
  ahead := fun p hp c hc => h.ahead p hp c (List.mem_cons_of_mem _ hc)
  all := fun b x => (h.all b x).trans (by simp)
  ages := (List.pairwise_cons.1 h.ages).2
  ord := fun c hc => h.ord c (List.mem_cons_of_mem _ hc)
  count := by
    have := h.count
    simp [sumL] at this ⊢
    omega
end Go.Proofs.Ytnncedndlhfdkac

