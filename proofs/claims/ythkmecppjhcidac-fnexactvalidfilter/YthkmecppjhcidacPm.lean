/-
  Patterns in memory.
-/
import Derived.Test.YthkmecppjhcidacPe
import Derived.Test.YthkmecppjhcidacRxG
namespace Go.Proofs.Ythkmecppjhcidac
open Go.ChangeShapes Go.WideShapes Go.ChangeAt Go.RowKit Go.Deep
set_option linter.unusedVariables false
set_option linter.unusedSimpArgs false
set_option maxRecDepth 100000

abbrev byteV (b : UInt8) : Value := .iface 200 (.agg #[.int .u8 (b.toNat : Int)])
/-- The blocks from a up to b. -/
def Bet (a b : Nat) : Nat → Prop := fun k => a ≤ k ∧ k < b
/-- Values one behind another, in a block out of 'R'. -/
structure ValsAt (w : World) (R : Nat → Prop) (g : Nat) (vs : List Value) : Prop where
  blk : R g
  lt : g < w.heap.size
  val : ∀ (i : Nat) v, vs[i]? = some v → w.cell? ⟨g, i, none⟩ = some v
theorem ValsAt.chg {S : Nat → Prop} {w w' : World} {R : Nat → Prop} {g : Nat} {vs : List Value} (h : ValsAt w R g vs) (hc : Chg S w w') (hS : ∀ k, S k → ¬ R k) : ValsAt w' R g vs :=
  ⟨h.blk, Nat.lt_of_lt_of_le h.lt hc.size, fun i v hv => by rw [hc.cell (p := ⟨g, i, none⟩) h.lt (fun q => hS g q h.blk)]; exact h.val i v hv⟩
/-- A seq in memory, its nodes being such as 'N' says. -/
def SeqIs (N : Pat → Value → Prop) (w : World) (lo : Nat → Prop) (ts : List Pat) (u : Value) : Prop :=
  (ts = [] ∧ u = .slice none 0 0) ∨ ∃ (g cp : Nat) (us : List Value), u = .slice (some ⟨g, 0, none⟩) ts.length cp ∧ us.length = ts.length ∧ ValsAt w lo g us ∧ ∀ (i : Nat) x t, us[i]? = some x → ts[i]? = some t → N t x
def AltIs (N : Pat → Value → Prop) (w : World) (lo : Nat → Prop) (os : List (List Pat)) (u : Value) : Prop :=
  ∃ (g cp : Nat) (us : List Value), u = .slice (some ⟨g, 0, none⟩) os.length cp ∧ us.length = os.length ∧ ValsAt w lo g us ∧ ∀ (i : Nat) x ts, us[i]? = some x → os[i]? = some ts → SeqIs N w lo ts x
/-- A node in memory. -/
def NodeIs : Nat → World → (Nat → Prop) → Pat → Value → Prop
  | 0, _, _, _, _ => False
  | n + 1, w, lo, .byte b, v => v = byteV b
  | n + 1, w, lo, .cls f, v => v = clsV f
  | n + 1, w, lo, .rep t o r, v => ∃ u, v = .iface 192 (.agg #[u, .bool o, .bool r]) ∧ NodeIs n w lo t u
  | n + 1, w, lo, .alt os, v => ∃ u, v = .iface 162 (.agg #[u]) ∧ AltIs (NodeIs n w lo) w lo os u
theorem SeqIs.mono {N M : Pat → Value → Prop} {w w' : World} {lo lo' : Nat → Prop} (hN : ∀ t v, N t v → M t v) (hV : ∀ g vs, ValsAt w lo g vs → ValsAt w' lo' g vs) {ts : List Pat} {u : Value} : SeqIs N w lo ts u → SeqIs M w' lo' ts u
  | .inl h => .inl h
  | .inr ⟨g, cp, us, h1, h2, h3, h4⟩ => .inr ⟨g, cp, us, h1, h2, hV _ _ h3, fun i x t hx ht => hN _ _ (h4 i x t hx ht)⟩
theorem AltIs.mono {N M : Pat → Value → Prop} {w w' : World} {lo lo' : Nat → Prop} (hN : ∀ t v, N t v → M t v) (hV : ∀ g vs, ValsAt w lo g vs → ValsAt w' lo' g vs) {os : List (List Pat)} {u : Value} : AltIs N w lo os u → AltIs M w' lo' os u
  | ⟨g, cp, us, h1, h2, h3, h4⟩ => ⟨g, cp, us, h1, h2, hV _ _ h3, fun i x t hx ht => (h4 i x t hx ht).mono hN hV⟩
theorem NodeIs.mono : ∀ {n m : Nat} {w w' : World} {lo lo' : Nat → Prop} (hV : ∀ g vs, ValsAt w lo g vs → ValsAt w' lo' g vs) {t : Pat} {v : Value}, n ≤ m → NodeIs n w lo t v → NodeIs m w' lo' t v
  | 0, _, _, _, _, _, _, _, _, _, h => h.elim
  | n + 1, 0, _, _, _, _, _, _, _, hm, _ => by omega
  | n + 1, m + 1, w, w', lo, lo', hV, .byte b, v, _, h => h
  | n + 1, m + 1, w, w', lo, lo', hV, .cls f, v, _, h => h
  | n + 1, m + 1, w, w', lo, lo', hV, .rep t o r, v, hm, ⟨u, h1, h2⟩ => ⟨u, h1, NodeIs.mono hV (by omega) h2⟩
  | n + 1, m + 1, w, w', lo, lo', hV, .alt os, v, hm, ⟨u, h1, h2⟩ => ⟨u, h1, h2.mono (fun t v q => NodeIs.mono hV (by omega) q) hV⟩
/-- A node, whatever its depth. -/
def NodeOk (w : World) (lo : Nat → Prop) (t : Pat) (v : Value) : Prop := ∃ n, NodeIs n w lo t v
def SeqAt (w : World) (lo : Nat → Prop) (ts : List Pat) (u : Value) : Prop := ∃ n, SeqIs (NodeIs n w lo) w lo ts u
def AltAt (w : World) (lo : Nat → Prop) (os : List (List Pat)) (u : Value) : Prop := ∃ n, AltIs (NodeIs n w lo) w lo os u
theorem vals_move {S : Nat → Prop} {w w' : World} {lo lo' : Nat → Prop} (hc : Chg S w w') (hS : ∀ k, S k → ¬ lo k) (hl : ∀ k, k < w.heap.size → lo k → lo' k) : ∀ g vs, ValsAt w lo g vs → ValsAt w' lo' g vs := fun g vs h => by
  have h1 := h.chg hc hS
  exact ⟨hl g h.lt h1.blk, h1.lt, h1.val⟩
theorem NodeOk.move {S : Nat → Prop} {w w' : World} {lo lo' : Nat → Prop} {t : Pat} {v : Value} (h : NodeOk w lo t v) (hc : Chg S w w') (hS : ∀ k, S k → ¬ lo k) (hl : ∀ k, k < w.heap.size → lo k → lo' k) : NodeOk w' lo' t v := by
  obtain ⟨n, hn⟩ := h
  exact ⟨n, hn.mono (vals_move hc hS hl) (Nat.le_refl _)⟩
theorem SeqAt.move {S : Nat → Prop} {w w' : World} {lo lo' : Nat → Prop} {ts : List Pat} {u : Value} (h : SeqAt w lo ts u) (hc : Chg S w w') (hS : ∀ k, S k → ¬ lo k) (hl : ∀ k, k < w.heap.size → lo k → lo' k) : SeqAt w' lo' ts u := by
  obtain ⟨n, hn⟩ := h
  exact ⟨n, hn.mono (fun t v q => q.mono (vals_move hc hS hl) (Nat.le_refl _)) (vals_move hc hS hl)⟩
theorem AltAt.move {S : Nat → Prop} {w w' : World} {lo lo' : Nat → Prop} {os : List (List Pat)} {u : Value} (h : AltAt w lo os u) (hc : Chg S w w') (hS : ∀ k, S k → ¬ lo k) (hl : ∀ k, k < w.heap.size → lo k → lo' k) : AltAt w' lo' os u := by
  obtain ⟨n, hn⟩ := h
  exact ⟨n, hn.mono (fun t v q => q.mono (vals_move hc hS hl) (Nat.le_refl _)) (vals_move hc hS hl)⟩
theorem nodeOk_byte (w : World) (lo : Nat → Prop) (b : UInt8) : NodeOk w lo (.byte b) (byteV b) := ⟨1, rfl⟩
theorem nodeOk_cls (w : World) (lo : Nat → Prop) (f : UInt8 → Bool) : NodeOk w lo (.cls f) (clsV f) := ⟨1, rfl⟩
theorem nodeOk_rep {w : World} {lo : Nat → Prop} {t : Pat} {v : Value} (h : NodeOk w lo t v) (o r : Bool) : NodeOk w lo (.rep t o r) (.iface 192 (.agg #[v, .bool o, .bool r])) := by
  obtain ⟨n, hn⟩ := h
  exact ⟨n + 1, v, rfl, hn⟩
theorem nodeOk_alt {w : World} {lo : Nat → Prop} {os : List (List Pat)} {u : Value} (h : AltAt w lo os u) : NodeOk w lo (.alt os) (.iface 162 (.agg #[u])) := by
  obtain ⟨n, hn⟩ := h
  exact ⟨n + 1, u, rfl, hn⟩
/-- Nodes of one list, each of its own depth: one depth for all. -/
theorem nodes_one {w : World} {lo : Nat → Prop} : ∀ {ts : List Pat} {us : List Value}, us.length = ts.length → (∀ (i : Nat) x t, us[i]? = some x → ts[i]? = some t → NodeOk w lo t x) → ∃ n, ∀ (i : Nat) x t, us[i]? = some x → ts[i]? = some t → NodeIs n w lo t x
  | [], [], _, _ => ⟨0, fun i x t hx => by simp at hx⟩
  | t :: ts, u :: us, hl, h => by
    obtain ⟨n, hn⟩ := nodes_one (ts := ts) (us := us) (by simpa using hl) (fun i x t hx ht => h (i + 1) x t (by simpa using hx) (by simpa using ht))
    obtain ⟨m, hm⟩ := h 0 u t rfl rfl
    refine ⟨max n m, fun i x t' hx ht => ?_⟩
    cases i with
    | zero => simp at hx ht; subst hx ht; exact hm.mono (fun _ _ q => q) (Nat.le_max_right _ _)
    | succ i => exact (hn i x t' (by simpa using hx) (by simpa using ht)).mono (fun _ _ q => q) (Nat.le_max_left _ _)
theorem seqs_one {w : World} {lo : Nat → Prop} : ∀ {os : List (List Pat)} {us : List Value}, us.length = os.length → (∀ (i : Nat) x ts, us[i]? = some x → os[i]? = some ts → SeqAt w lo ts x) → ∃ n, ∀ (i : Nat) x ts, us[i]? = some x → os[i]? = some ts → SeqIs (NodeIs n w lo) w lo ts x
  | [], [], _, _ => ⟨0, fun i x t hx => by simp at hx⟩
  | t :: ts, u :: us, hl, h => by
    obtain ⟨n, hn⟩ := seqs_one (os := ts) (us := us) (by simpa using hl) (fun i x t hx ht => h (i + 1) x t (by simpa using hx) (by simpa using ht))
    obtain ⟨m, hm⟩ := h 0 u t rfl rfl
    refine ⟨max n m, fun i x t' hx ht => ?_⟩
    cases i with
    | zero => simp at hx ht; subst hx ht; exact hm.mono (fun _ _ q => q.mono (fun _ _ q => q) (Nat.le_max_right _ _)) (fun _ _ q => q)
    | succ i => exact (hn i x t' (by simpa using hx) (by simpa using ht)).mono (fun _ _ q => q.mono (fun _ _ q => q) (Nat.le_max_left _ _)) (fun _ _ q => q)
/-- What a node is as a value. -/
theorem NodeOk.iface {w : World} {lo : Nat → Prop} {t : Pat} {v : Value} (h : NodeOk w lo t v) : ∃ T c, v = .iface T (.agg c) := by
  obtain ⟨n, hn⟩ := h
  cases n with
  | zero => exact hn.elim
  | succ n =>
    cases t with
    | byte b => exact ⟨_, _, hn⟩
    | cls f => exact ⟨_, _, hn⟩
    | rep t o r => obtain ⟨u, h1, _⟩ := hn; exact ⟨_, _, h1⟩
    | alt os => obtain ⟨u, h1, _⟩ := hn; exact ⟨_, _, h1⟩
/-- A list of nodes being made: a row of the call's own. -/
def OwnN (w : World) (base : Nat) (v : Value) (us : List Value) : Prop := w.ownsRow base 188 1 v us.length us
def OwnQ (w : World) (base g cp : Nat) (us : List Value) : Prop := w.ownsRow base 184 1 (.slice (some ⟨g, 0, none⟩) us.length cp) us.length us
theorem OwnQ.lt {w : World} {base g cp : Nat} {us : List Value} (h : OwnQ w base g cp us) : base ≤ g ∧ g < w.heap.size := World.ownsRow.lt h g rfl
theorem OwnQ.vals {w : World} {base g cp : Nat} {us : List Value} {R : Nat → Prop} (h : OwnQ w base g cp us) (hR : R g) : ValsAt w R g us := by
  refine ⟨hR, h.lt.2, fun i v hv => ?_⟩
  have hi := (List.getElem?_eq_some_iff.1 hv).1
  rw [World.ownsRow.cellAt h i (by omega), hv]
theorem OwnN.seq {w : World} {base : Nat} {R : Nat → Prop} {v : Value} {us : List Value} {ts : List Pat} (h : OwnN w base v us) (hl : us.length = ts.length) (hN : ∀ (i : Nat) x t, us[i]? = some x → ts[i]? = some t → NodeOk w R t x) (hb : ∀ k, v.ownBlock = some k → R k) : SeqAt w R ts v := by
  obtain ⟨n, hn⟩ := nodes_one hl hN
  refine ⟨n, ?_⟩
  have h' := h
  rcases h.2 with ⟨rfl, h0⟩ | ⟨g, cap, cur, rfl, h1, h2, h3⟩
  · left
    refine ⟨List.length_eq_zero_iff.1 (by omega), rfl⟩
  · right
    have hlt := World.ownsRow.lt h' g rfl
    refine ⟨g, cap, us, by rw [hl], hl, ⟨hb g rfl, hlt.2, fun i v hv => ?_⟩, hn⟩
    have hi := (List.getElem?_eq_some_iff.1 hv).1
    rw [World.ownsRow.cellAt h' i (by omega), hv]
theorem Try.infoNode : (Try.prog.info? 188).map (fun i => (i.zero, i.size, i.bytes)) = some (some .nilIface, 1, 16) := by kernel_rfl
theorem Try.infoSeq : (Try.prog.info? 184).map (fun i => (i.zero, i.size, i.bytes)) = some (some (.agg #[.slice none 0 0]), 1, 24) := by kernel_rfl
end Go.Proofs.Ythkmecppjhcidac
