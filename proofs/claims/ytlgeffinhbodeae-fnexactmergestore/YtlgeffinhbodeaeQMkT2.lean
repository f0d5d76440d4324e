/-
  Marks looked for in runs; marks of tablets.
-/
import Derived.Test.YtlgeffinhbodeaeQMkT
namespace Go.Proofs.Ytlgeffinhbodeae
open Go.ChangeShapes Go.WideShapes Go.ChangeAt Go.RowKit Go.Deep
set_option linter.unusedVariables false
set_option linter.unusedSimpArgs false
set_option maxRecDepth 100000

theorem OwnRow.shape {w : World} {base : Nat} {v : Value} {rs : List Rw} (h : OwnRow w base v rs) : ∃ ad c, v = .slice ad rs.length c ∧ ∀ i r, rs[i]? = some r → ∃ g, ad = some ⟨g, 0, none⟩ ∧ g < w.heap.size ∧ w.cell? ⟨g, i, none⟩ = some r.u := by
  rcases h with ⟨rfl, a, c, h⟩ | ⟨g, cp, hv, hO⟩
  · exact ⟨a, c, h, fun i r hi => by simp at hi⟩
  · refine ⟨_, cp, hv, fun i r hi => ⟨g, rfl, (World.ownsRow.lt hO g rfl).2, ?_⟩⟩
    have hl := (List.getElem?_eq_some_iff.1 hi).1
    have := World.ownsRow.cellAt hO i (by omega)
    rw [List.getElem?_map, hi] at this
    exact this

set_option maxHeartbeats 2000000 in
theorem heldRunS_gen (base : Nat) (v : Value) (rs : List Rw) (a : Int) (w : World) (hrow : OwnRow w base v rs) (hks : ∀ r ∈ rs, OwnK w base r) (hmk : MarkedR a rs) (h0 : 0 < a) (h1 : a + totW rs * 6 ≤ 2 ^ 30) (hn : totW rs ≤ 1048576) (hl : rs.length ≤ 1048576) :
    Calls Try.prog 126 #[v, .int .i64 a] w fun e w' => e = .returned (.int .i64 (a + totW rs * 6)) ∧ Below w.heap.size w w' := by
  obtain ⟨ad, vc, rfl, hcell⟩ := hrow.shape
  have HA : Hid ((∀ r ∈ rs, OwnK w base r) ∧ MarkedR a rs ∧ ∀ i r, rs[i]? = some r → ∃ g, ad = some ⟨g, 0, none⟩ ∧ g < w.heap.size ∧ w.cell? ⟨g, i, none⟩ = some r.u) := ⟨hks, hmk, hcell⟩
  clear hrow hks hmk hcell
  go_enter Try.func126, Try.ntmps126
  go_wp2_with fail
  go_loopw [1, 5] (fun c i wr => ∃ (m : Nat) (b : Int), m ≤ rs.length ∧ i = .int .i64 m ∧ c = .int .i64 b ∧ b = a + totW (rs.take m) * 6 ∧ Below w.heap.size w wr) (fun _ i _ => rs.length - (intOf i).toNat)
  case atStart => exact ⟨0, a, Nat.zero_le _, rfl, rfl, by simp [totW], Below.refl _ _⟩
  case round =>
    obtain ⟨m, b, hm, rfl, rfl, hb, hbw⟩ := hrel
    have HB : Hid (b = a + totW (rs.take m) * 6) := hb
    have hb0 : 0 < b := by omega
    have hb1 : b ≤ 2 ^ 30 := by have := totW_le rs m; omega
    have hsz := hbw.size
    clear hb
    by_cases hlt : m < rs.length
    · obtain ⟨r, hr⟩ : ∃ r, rs[m]? = some r := ⟨_, List.getElem?_eq_getElem hlt⟩
      obtain ⟨g, rfl, hg, c0⟩ := HA.out.2.2 m r hr
      rw [← hbw.cell (p := ⟨g, m, none⟩) (by exact hg)] at c0
      have HR : Hid (rs[m]? = some r ∧ OwnK wr base r ∧ marked b r.es r.es.length) := by
        refine ⟨hr, (HA.out.1 r (List.mem_of_getElem? hr)).below hbw, ?_⟩
        have := HA.out.2.1 m r hr
        rw [← HB.out] at this
        exact this
      have hru := HR.out.2.1.ucells
      have hrl : r.es.length ≤ 1048576 := by have := totW_mem hr; omega
      have HB2 : Hid (b + (r.es.length : Int) * 6 = a + totW (rs.take (m + 1)) * 6) := by
        have h2 := totW_take hr
        have h3 := HB.out
        show b + (r.es.length : Int) * 6 = a + totW (rs.take (m + 1)) * 6
        omega
      clear hr
      have zm : (m : Int) < (rs.length : Int) := by omega
      go_wp2_with fail
      refine (heldK base r b _ HR.out.2.1 HR.out.2.2 hb0 hb1 hrl).mono ?_
      rintro e w1 ⟨rfl, hb2⟩
      have hb3 := hbw.trans (hb2.mono hsz)
      have zz : ¬ b + (r.es.length : Int) * 6 < 0 := by omega
      clear c0 hb2
      go_wp2_with fail
      go_roundw
      case rel => go_light; exact ⟨m + 1, b + r.es.length * 6, by omega, by go_num, rfl, HB2.out, hb3⟩
      case measure => go_light; simp [intOf]; omega
    · have zm : ¬ (m : Int) < (rs.length : Int) := by omega
      have HF : Hid (b = a + totW rs * 6) := by
        have q1 := HB.out
        rw [List.take_of_length_le (by omega)] at q1
        exact q1
      go_wp2_with fail
      go_ret
      exact ⟨by rw [HF.out]; rfl, hbw⟩

/-- A tablet that came back. -/
structure Tx where
  lo : ByteArray
  v : Value
  rs : List Rw
def Tx.pr (t : Tx) : Pr := (t.lo, t.v)
def Tx.tn (t : Tx) : Tn := ⟨t.lo, t.v, t.rs.map Rw.rn⟩
def OwnTRow (w : World) (base : Nat) (v : Value) (ts : List Tx) : Prop :=
  (ts = [] ∧ ∃ a c, v = .slice a 0 c) ∨ ∃ g cp, v = .slice (some ⟨g, 0, none⟩) ts.length cp ∧ OwnP w base g cp (ts.map Tx.pr)
structure OwnSt (w : World) (base : Nat) (v : Value) (ts : List Tx) : Prop where
  row : OwnTRow w base v ts
  runs : ∀ t ∈ ts, OwnRow w base t.v t.rs
  ents : ∀ t ∈ ts, ∀ r ∈ t.rs, OwnK w base r
theorem OwnTRow.kept {w w' : World} {base : Nat} {v : Value} {ts : List Tx} {row : Option Nat} (h : OwnTRow w base v ts) (hg : w.grownBy w' row) (hne : ∀ g, v.ownBlock = some g → ts ≠ [] → row ≠ some g) : OwnTRow w' base v ts := by
  rcases h with h | ⟨g, cp, hv, hO⟩
  · exact .inl h
  · by_cases hr : ts = []
    · subst hr; exact .inl ⟨rfl, _, _, hv⟩
    · exact .inr ⟨g, cp, hv, World.ownsRow.kept hO hg (.inr (fun q => hne g (by rw [hv]; rfl) hr q.symm))⟩
theorem OwnTRow.below {w w' : World} {base : Nat} {v : Value} {ts : List Tx} (h : OwnTRow w base v ts) (hb : Below w.heap.size w w') : OwnTRow w' base v ts := h.kept (grown_of_below hb none) (fun _ _ _ q => by cases q)
theorem OwnSt.below {w w' : World} {base : Nat} {v : Value} {ts : List Tx} (h : OwnSt w base v ts) (hb : Below w.heap.size w w') : OwnSt w' base v ts :=
  ⟨h.row.below hb, fun t ht => (h.runs t ht).below hb, fun t ht r hr => (h.ents t ht r hr).below hb⟩
theorem OwnTRow.ucells {w : World} {base : Nat} {v : Value} {rs : List Tx} (h : OwnTRow w base v rs) : v.cells = #[v] := by
  rcases h with ⟨_, a, c, h⟩ | ⟨g, cp, h, _⟩ <;> rw [h] <;> rfl
theorem OwnSt.ins {w : World} {base : Nat} {v : Value} {ts : List Tx} (h : OwnSt w base v ts) : InTabs w v (ts.map Tx.tn) := by
  rcases h.row with ⟨rfl, a, c, hv⟩ | ⟨g, cp, rfl, hO⟩
  · exact .inl ⟨a, c, hv, rfl⟩
  · have hO1 : w.ownsRow base 133 2 (.slice (some ⟨g, 0, none⟩) ts.length cp) ts.length (cellsP (ts.map Tx.pr)) := by
      have := hO
      unfold OwnP at this
      rw [List.length_map] at this
      exact this
    have hc := OwnRow.caps hO1
    refine .inr ⟨g, 0, cp, by simp, fun i t hi => ?_, hO.lt.2, by simpa using hc.1, hc.2⟩
    rw [List.getElem?_map] at hi
    cases hp : ts[i]? with
    | none => rw [hp] at hi; cases hi
    | some p =>
      rw [hp] at hi
      simp at hi
      subst hi
      have hm := List.mem_of_getElem? hp
      obtain ⟨c0, c1⟩ := hO.cells (p := p.pr) (i := i) (by rw [List.getElem?_map, hp]; rfl)
      rw [Nat.zero_add]
      exact ⟨c0, c1, (h.runs p hm).ins (h.ents p hm)⟩
def KeysT (v : Value) (ts : List Tx) (k : Nat) : Prop := (ts ≠ [] ∧ v.ownBlock = some k) ∨ ∃ t ∈ ts, KeysOf t.rs k
theorem OwnSt.key {w : World} {base : Nat} {v : Value} {ts : List Tx} (h : OwnSt w base v ts) {k : Nat} (hk : KeysT v ts k) : base ≤ k ∧ k < w.heap.size := by
  rcases hk with ⟨hne, hv⟩ | ⟨t, ht, r, hr, hk⟩
  · rcases h.row with ⟨h1, _⟩ | ⟨g, cp, rfl, hO⟩
    · exact absurd h1 hne
    · have : g = k := Option.some.inj hv
      subst this
      exact hO.lt
  · exact (h.ents t ht r hr).key hk
def ApartT (ts : List Tx) : Prop := Apart (ts.flatMap Tx.rs)
def wx (t : Tx) : Nat := 1 + totW t.rs * 6
def totX : List Tx → Nat
  | [] => 0
  | t :: ts => wx t + totX ts
theorem totX_append : ∀ (a b : List Tx), totX (a ++ b) = totX a + totX b
  | [], b => by simp [totX]
  | r :: a, b => by simp [totX, totX_append a b]; omega
theorem totX_take {rs : List Tx} {k : Nat} {r : Tx} (h : rs[k]? = some r) : totX (rs.take (k + 1)) = totX (rs.take k) + wx r := by
  rw [List.take_add_one, h, totX_append]; simp [totX]
theorem totX_le (rs : List Tx) (k : Nat) : totX (rs.take k) ≤ totX rs := by
  have h := totX_append (rs.take k) (rs.drop k)
  rw [List.take_append_drop] at h
  omega
theorem totX_mem {rs : List Tx} {k : Nat} {r : Tx} (h : rs[k]? = some r) : wx r ≤ totX rs := by
  have h1 := totX_take h
  have h2 := totX_le rs (k + 1)
  omega
def shpT (t : Tx) : Value × List (Value × Option Nat × Nat) := (t.v, t.rs.map shp)
theorem shpT_wx {a b : Tx} (h : shpT a = shpT b) : wx a = wx b := by
  simp [shpT] at h
  unfold wx
  rw [shp_tot (by simpa using h.2)]
theorem shpT_tot : ∀ {a b : List Tx}, a.map shpT = b.map shpT → totX a = totX b
  | [], [], _ => rfl
  | [], _ :: _, h => by simp at h
  | _ :: _, [], h => by simp at h
  | x :: a, y :: b, h => by
    rw [List.map_cons, List.map_cons, List.cons.injEq] at h
    have := shpT_tot (a := a) (b := b) h.2
    simp only [totX, this, shpT_wx h.1]
/-- Tablets marked, from 'a' on. -/
def MarkedT (a : Int) (ts : List Tx) : Prop := ∀ i t, ts[i]? = some t → t.lo = mText (a + totX (ts.take i)).toNat ∧ MarkedR (a + totX (ts.take i) + 1) t.rs
end Go.Proofs.Ytlgeffinhbodeae
