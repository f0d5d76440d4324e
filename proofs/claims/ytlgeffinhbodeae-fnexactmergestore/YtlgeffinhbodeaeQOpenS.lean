/-
  Slices of entries and runs that come in, opened.
-/
import Derived.Test.YtlgeffinhbodeaeQEq
namespace Go.Proofs.Ytlgeffinhbodeae
open Go.ChangeShapes Go.WideShapes Go.ChangeAt Go.RowKit Go.Deep
set_option linter.unusedVariables false

theorem list_of_forall {α : Type} {P : Nat → α → Prop} : ∀ n, (∀ i, i < n → ∃ x, P i x) → ∃ l : List α, l.length = n ∧ ∀ i x, l[i]? = some x → P i x
  | 0, _ => ⟨[], rfl, fun i x h => by simp at h⟩
  | n + 1, h => by
    obtain ⟨l, hl, hp⟩ := list_of_forall n (fun i hi => h i (by omega))
    obtain ⟨x, hx⟩ := h n (by omega)
    refine ⟨l ++ [x], by simp [hl], fun i y hy => ?_⟩
    by_cases hi : i < l.length
    · rw [List.getElem?_append_left hi] at hy; exact hp i y hy
    · rw [List.getElem?_append_right (by omega)] at hy
      have : i - l.length = 0 := by
        have := (List.getElem?_eq_some_iff.1 hy).1
        simp at this; omega
      rw [this] at hy
      simp at hy
      subst hy
      rw [show i = n by omega]; exact hx

set_option maxRecDepth 100000 in
theorem ents_of_trod {H : Type} {enc : TypeId × Value → H} {w : World} {base : Nat} {held : Bool} {fuel : Nat} {v : Value} {x : DataW H × List MemPlace}
    (h : DataW.trod enc Try.prog w base (fun _ => true) held fuel 256 [v] = some x) : ∃ es : List Ent, InEnts w v es ∧ ∀ e ∈ es, e.ok := by
  rcases open_slice Try.underlying256 h with ⟨hcs, _⟩ | ⟨a, len, cap, m, n, D, Pl, hcs, hba, hl, hm, hmm, _, hel⟩
  · simp only [List.cons.injEq, and_true] at hcs
    exact ⟨[], .inl ⟨none, 0, hcs, rfl⟩, by simp⟩
  · simp only [List.cons.injEq, and_true] at hcs
    subst hcs
    rw [if_pos rfl] at hmm
    subst hmm
    have hel6 : ∀ i, i < m → ∃ cs', w.cells? base (a.add (i * 6)) 6 = some cs' ∧ DataW.trod enc Try.prog w base (fun _ => true) held n 289 cs' = some (D i, Pl i) := fun i hi => by
      have := hel i hi
      rw [Try.cellsEnt] at this
      exact this
    clear hel
    have HM : Hid (m ≤ maxLen) := hm
    clear hm
    by_cases h0 : len = 0
    · subst h0; exact ⟨[], .inl ⟨_, _, rfl, rfl⟩, by simp⟩
    · obtain ⟨b, off, spot⟩ := a
      have hspot : spot = none := by
        obtain ⟨cs', hc, _⟩ := hel6 0 (by omega)
        obtain ⟨_, hlen, hget⟩ := World.cells?_some hc
        have h1 := hget 0 (by omega)
        have h2 : (w.cell? ((Addr.add ⟨b, off, spot⟩ (0 * 6)).add 0)).isSome = true := by rw [h1]; simp; omega
        obtain ⟨u, hu⟩ := Option.isSome_iff_exists.1 h2
        simpa [Addr.add] using World.cell?_spot hu
      subst hspot
      obtain ⟨es, hes, hp⟩ := list_of_forall (P := fun i (e : Ent) => e.ok ∧ (w.cell? ⟨b, off + i * 6, none⟩ = some (.string e.row) ∧ w.cell? ⟨b, off + i * 6 + 1, none⟩ = some (.string e.fam) ∧ w.cell? ⟨b, off + i * 6 + 2, none⟩ = some (.string e.qual) ∧
          w.cell? ⟨b, off + i * 6 + 3, none⟩ = some (.int .u64 e.ts) ∧ w.cell? ⟨b, off + i * 6 + 4, none⟩ = some (.int .i64 e.kind) ∧ w.cell? ⟨b, off + i * 6 + 5, none⟩ = some (.string e.val))) len (fun i hi => by
        obtain ⟨cs', hc, ht⟩ := hel6 i (by omega)
        obtain ⟨e, ok, rfl⟩ := ent_of_trod ht
        obtain ⟨_, hlen, hget⟩ := World.cells?_some hc
        refine ⟨e, ok, ?_, ?_, ?_, ?_, ?_, ?_⟩
        · simpa [Addr.add_mid] using hget 0 (by omega)
        · simpa [Addr.add_mid] using hget 1 (by omega)
        · simpa [Addr.add_mid] using hget 2 (by omega)
        · simpa [Addr.add_mid] using hget 3 (by omega)
        · simpa [Addr.add_mid] using hget 4 (by omega)
        · simpa [Addr.add_mid] using hget 5 (by omega))
      have hlt : b < w.heap.size := by
        obtain ⟨cs', hc, _⟩ := hel6 0 (by omega)
        simpa [Addr.add] using World.cells?_block hc (by omega)
      subst hes
      refine ⟨es, .inr ⟨b, off, m, rfl, fun i e he => (hp i e he).2, hlt, hl, HM.out⟩, fun e he => ?_⟩
      obtain ⟨i, hi⟩ := List.getElem?_of_mem he
      exact (hp i e hi).1

/-! ### Runs by value -/

theorem OwnE.mono {w : World} {base base' g cap : Nat} {es : List Ent} (h : OwnE w base g cap es) (hb : base' ≤ base) : OwnE w base' g cap es := by
  refine ⟨h.1, ?_⟩
  rcases h.2 with hn | ⟨g', cap', cur, hv, h1, rest⟩
  · exact .inl hn
  · exact .inr ⟨g', cap', cur, hv, Nat.le_trans hb h1, rest⟩

set_option maxRecDepth 100000 in
theorem open_run {H : Type} {enc : TypeId × Value → H} {w : World} {base b0 : Nat} {held : Bool} {r : Reach} {v : Value} {d : DataW H} {p : List MemPlace}
    (hv : Value.okWide Try.prog w r b0 258 v) (h : DataW.Trod enc Try.prog w base (fun _ => true) held 258 v d p) :
    ∃ (u : Value) (es : List Ent), v = .agg #[u] ∧ InEnts w u es ∧ ∀ e ∈ es, e.ok := by
  obtain ⟨cs, rfl, hsz⟩ := okWide_struct Try.underlying258 hv
  obtain ⟨fuel, hf⟩ := h
  obtain ⟨y0, n, _, hl, h0⟩ := trod_struct1 Try.underlying258 hf
  have h1 : Try.prog.cellsOf 258 = 1 := by kernel_rfl
  have h2 : Try.prog.cellsOf 256 = 1 := by kernel_rfl
  rw [h1] at hsz
  obtain ⟨l⟩ := cs
  match l, hsz with
  | [u], _ =>
    simp [h2, Value.cells] at h0
    obtain ⟨es, he, ok⟩ := ents_of_trod h0
    exact ⟨u, es, rfl, he, ok⟩

set_option maxHeartbeats 400000 in
theorem szRun_any (u : Value) (es : List Ent) (left : Int) (w : World) (h : InEnts w u es) (hok : ∀ e ∈ es, e.ok) (h0 : 0 ≤ left) (h1 : left ≤ 2 ^ 40) :
    Calls Try.prog 177 #[.agg #[u], .int .i64 left] w fun e w' =>
      ∃ x, e = .returned (.int .i64 x) ∧ (x = -1 ∨ (0 ≤ x ∧ x + es.length ≤ left)) ∧ Below w.heap.size w w' := by
  have HE : Hid (InEnts w u es ∧ ∀ e ∈ es, e.ok) := ⟨h, hok⟩
  have hu : u.cells = #[u] := by
    rcases h with ⟨a, cap, rfl, _⟩ | ⟨b, off, cap, rfl, _⟩ <;> rfl
  clear h hok
  go_enter Try.func177, Try.ntmps177
  go_wp2_with fail
  refine (szEntryS_any u es left _ (HE.out.1.below ((Below.refl _ _).alloc (Nat.le_refl _) _) (Nat.le_refl _)) HE.out.2 h0 h1).mono ?_
  rintro e w1 ⟨x, rfl, hx, hb1⟩
  have k1 : Below w.heap.size w w1 := ((Below.refl _ _).alloc (Nat.le_refl _) (Obj.cells #[u] 258)).trans (hb1.mono (by simp))
  have HX : Hid (x = -1 ∨ (0 ≤ x ∧ x + es.length ≤ left)) := hx
  by_cases hx0 : x < 0
  · clear hx
    go_wp2_with fail
    go_ret
    exact ⟨_, rfl, .inl rfl, k1⟩
  · clear hx
    go_wp2_with fail
    go_ret
    exact ⟨_, rfl, HX.out, k1⟩

set_option maxHeartbeats 400000 in
theorem toRun_any (u : Value) (es : List Ent) (w : World) (h : InEnts w u es) (h1 : es.length ≤ 1048576) :
    Calls Try.prog 178 #[.agg #[u]] w fun e w' =>
      ∃ g, e = .returned (.agg #[.slice (some ⟨g, 0, none⟩) es.length es.length]) ∧ OwnE w' w.heap.size g es.length es ∧ Below w.heap.size w w' := by
  have HE : Hid (InEnts w u es) := h
  have hu : u.cells = #[u] := by
    rcases h with ⟨a, cap, rfl, _⟩ | ⟨b, off, cap, rfl, _⟩ <;> rfl
  clear h
  go_enter Try.func178, Try.ntmps178
  go_wp2_with fail
  refine (toEntryS_any u es _ (HE.out.below ((((Below.refl _ _).alloc (Nat.le_refl _) _).alloc (by simp) _).alloc (by simp; omega) _) (Nat.le_refl _)) h1).mono ?_
  rintro e w1 ⟨g, rfl, hO, hb1⟩
  obtain ⟨hc1, hf1⟩ := bcell hb1
  have k1 : Below w.heap.size w w1 := ((((Below.refl _ _).alloc (Nat.le_refl _) (Obj.cells #[u] 258)).alloc (by simp) (Obj.cells #[.slice none 0 0] 30)).alloc (by simp; omega) (Obj.cells #[.slice none 0 0] 30)).trans (hb1.mono (by simp; omega))
  have HO : Hid (OwnE w1 (w.heap.size + 1 + 1 + 1) g es.length es) := by
    show OwnE w1 (w.heap.size + 1 + 1 + 1) g es.length es
    simpa using hO
  clear hO
  go_wp2_with fail
  refine bodyPost_ret (v := .agg #[.slice (some ⟨g, 0, none⟩) es.length es.length]) (by simp [results, Try.results178, go_sem, hc1]) rfl ⟨g, rfl, ?_, ?_⟩
  · exact OwnE.mono (ownsRow_setCell_below (ownsRow_setCell_below HO.out (by show w.heap.size + 1 + 1 < _; omega) _) (by show w.heap.size + 1 < _; omega) _) (by omega)
  · exact (k1.setCell (by show w.heap.size ≤ w.heap.size + 1 + 1; omega) _).setCell (by show w.heap.size ≤ w.heap.size + 1; omega) _

set_option maxHeartbeats 400000 in
theorem eqRun_any (u u' : Value) (es : List Ent) (w : World) (h : InEnts w u es) (h' : InEnts w u' es) :
    Calls Try.prog 179 #[.agg #[u], .agg #[u']] w fun e w' => e = .returned (.bool true) ∧ Below w.heap.size w w' := by
  have HE : Hid (InEnts w u es ∧ InEnts w u' es) := ⟨h, h'⟩
  have hu : u.cells = #[u] := by
    rcases h with ⟨a, cap, rfl, _⟩ | ⟨b, off, cap, rfl, _⟩ <;> rfl
  have hu' : u'.cells = #[u'] := by
    rcases h' with ⟨a, cap, rfl, _⟩ | ⟨b, off, cap, rfl, _⟩ <;> rfl
  clear h h'
  go_enter Try.func179, Try.ntmps179
  go_wp2_with fail
  have k0 : Below w.heap.size w ((w.alloc (Obj.cells #[u] 30)).alloc (Obj.cells #[u'] 30)) := ((Below.refl _ _).alloc (Nat.le_refl _) _).alloc (by simp) _
  refine (eqEntryS_any u u' es _ (HE.out.1.below k0 (Nat.le_refl _)) (HE.out.2.below k0 (Nat.le_refl _))).mono ?_
  rintro e w1 ⟨rfl, hb1⟩
  go_wp2_with fail
  go_ret
  exact ⟨rfl, k0.trans (hb1.mono (by simp; omega))⟩
end Go.Proofs.Ytlgeffinhbodeae
