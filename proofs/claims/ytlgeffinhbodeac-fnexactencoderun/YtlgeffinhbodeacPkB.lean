import Derived.Test.YtlgeffinhbodeacPkA
import Derived.Test.YtlgeffinhbodeacQVRun2
/-
  The body of a block, the file of a run (mathematics).
-/
namespace Go.Proofs.Ytlgeffinhbodeac
set_option linter.unusedVariables false
set_option linter.unusedSimpArgs false

/-- The bytes of a string. -/
abbrev bl (s : ByteArray) : List UInt8 := s.data.toList
theorem bl_len (s : ByteArray) : (bl s).length = s.size := by simp [bl]
theorem wf_u64 {t : Int} (h : (Lit.int .u64 t).wf = true) : 0 ≤ t ∧ t < 2 ^ 64 := by
  simp only [Lit.wf, Bool.and_eq_true, decide_eq_true_eq] at h
  have h1 : IntKind.u64.min = 0 := rfl
  have h2 : IntKind.u64.max = 18446744073709551615 := rfl
  omega
/-- One entry behind a row. -/
def entB (before : List UInt8) (e : Ent) : List UInt8 :=
  num (shared before (bl e.row)) ++ strB ((bl e.row).drop (shared before (bl e.row))) ++ strB (bl e.fam) ++ strB (bl e.qual) ++ num e.ts.toNat ++ num e.kind.toNat ++ strB (bl e.val)
def body : List UInt8 → List Ent → List UInt8
  | _, [] => []
  | b, e :: es => entB b e ++ body (bl e.row) es
/-- The row ahead. -/
def lastRow : List UInt8 → List Ent → List UInt8
  | b, [] => b
  | _, e :: es => lastRow (bl e.row) es
theorem body_snoc : ∀ (b : List UInt8) (es : List Ent) (e : Ent), body b (es ++ [e]) = body b es ++ entB (lastRow b es) e
  | b, [], e => by simp [body, lastRow]
  | b, x :: es, e => by rw [List.cons_append, body, body, body_snoc (bl x.row) es e, List.append_assoc]; rfl
theorem lastRow_snoc : ∀ (b : List UInt8) (es : List Ent) (e : Ent), lastRow b (es ++ [e]) = bl e.row
  | _, [], _ => rfl
  | _, x :: es, e => lastRow_snoc (bl x.row) es e
theorem vld_parts {e : Ent} (h : e.vld = true) : 1 ≤ e.row.size ∧ e.row.size ≤ 64 ∧ 1 ≤ e.fam.size ∧ e.fam.size ≤ 16 ∧ e.qual.size ≤ 64 ∧ e.val.size ≤ 200 ∧ 0 ≤ e.kind ∧ e.kind ≤ 2 := by
  unfold Ent.vld vE at h
  simp only [Bool.and_eq_true, decide_eq_true_eq] at h
  omega
theorem strB_len {s : List UInt8} (h : s.length < 2 ^ 64) : (strB s).length ≤ 10 + s.length := by
  unfold strB
  have := num_len64 h
  simp; omega
theorem num_kind {k : Nat} (h : k ≤ 2) : (num k).length = 1 := by rw [num_small (by omega)]; rfl
theorem entB_len {b : List UInt8} {e : Ent} (h : e.vld = true) (ht : e.ts.toNat < 2 ^ 64) : (entB b e).length ≤ 500 := by
  obtain ⟨h1, h2, h3, h4, h5, h6, h7, h8⟩ := vld_parts h
  have l0 := (shared_le b (bl e.row)).2
  rw [bl_len] at l0
  have l1 := num_len64 (n := shared b (bl e.row)) (by omega)
  have l2 := strB_len (s := (bl e.row).drop (shared b (bl e.row))) (by simp only [List.length_drop, bl_len]; omega)
  have l3 := strB_len (s := bl e.fam) (by rw [bl_len]; omega)
  have l4 := strB_len (s := bl e.qual) (by rw [bl_len]; omega)
  have l5 := num_len64 (n := e.ts.toNat) ht
  have l6 := num_len64 (n := e.kind.toNat) (by omega)
  have l7 := strB_len (s := bl e.val) (by rw [bl_len]; omega)
  simp only [List.length_drop, bl_len] at l2 l3 l4 l7
  unfold entB
  simp only [List.length_append]
  omega
theorem body_len : ∀ (es : List Ent) (b : List UInt8), (∀ e ∈ es, e.vld = true) → (∀ e ∈ es, e.ts.toNat < 2 ^ 64) → (body b es).length ≤ 500 * es.length
  | [], b, _, _ => by simp [body]
  | e :: es, b, h, k => by
    have h1 := entB_len (b := b) (h e (by simp)) (k e (by simp))
    have h2 := body_len es (bl e.row) (fun x hx => h x (by simp [hx])) (fun x hx => k x (by simp [hx]))
    simp only [body, List.length_append, List.length_cons]
    omega
theorem body_pos {b : List UInt8} {es : List Ent} (h : 0 < es.length) : 0 < (body b es).length := by
  cases es with
  | nil => simp at h
  | cons e es =>
    have := num_pos (shared b (bl e.row))
    simp only [body, entB, List.length_append]
    omega
end Go.Proofs.Ytlgeffinhbodeac

/-
  The file of blocks (mathematics).
-/
namespace Go.Proofs.Ytlgeffinhbodeac
set_option linter.unusedVariables false
set_option linter.unusedSimpArgs false

/-- The first row of a block. -/
def row0 : List Ent → List UInt8
  | [] => []
  | e :: _ => bl e.row
def sumOf (xs : List UInt8) : List UInt8 := fixed (crc xs).toNat
theorem sumOf_len (xs : List UInt8) : (sumOf xs).length = 4 := rfl
def fblock (es : List Ent) : List UInt8 := body [] es ++ sumOf (body [] es)
def fblocks (bs : List (List Ent)) : List UInt8 := bs.flatMap fblock
def fone (es : List Ent) : List UInt8 := num (body [] es).length ++ num es.length ++ strB (row0 es)
def fones (bs : List (List Ent)) : List UInt8 := bs.flatMap fone
def findex (bs : List (List Ent)) : List UInt8 := num bs.length ++ fones bs
def headB : List UInt8 := [82, 85, 78, 49]
def fileM (bs : List (List Ent)) : List UInt8 := headB ++ fblocks bs ++ findex bs ++ sumOf (findex bs) ++ fixed (findex bs).length
theorem fblocks_snoc (bs : List (List Ent)) (es : List Ent) : fblocks (bs ++ [es]) = fblocks bs ++ body [] es ++ sumOf (body [] es) := by
  simp [fblocks, fblock]
theorem fones_snoc (bs : List (List Ent)) (es : List Ent) : fones (bs ++ [es]) = fones bs ++ num (body [] es).length ++ num es.length ++ strB (row0 es) := by
  simp [fones, fone]
/-- What a block may be. -/
structure OkB (es : List Ent) : Prop where
  vld : ∀ e ∈ es, e.vld = true
  ok : ∀ e ∈ es, e.ok
  ne : 0 < es.length
theorem OkB.ts {es : List Ent} (h : OkB es) : ∀ e ∈ es, e.ts.toNat < 2 ^ 64 := fun e he => by have := wf_u64 (h.ok e he).ts; omega
theorem row0_len {es : List Ent} (h : OkB es) : (row0 es).length ≤ 64 := by
  cases es with
  | nil => simp [row0]
  | cons e es => have := vld_parts (h.vld e (by simp)); simp only [row0, bl_len]; omega
theorem fblocks_len : ∀ (bs : List (List Ent)), (∀ es ∈ bs, OkB es) → (fblocks bs).length ≤ 500 * bs.flatten.length + 4 * bs.length
  | [], _ => by simp [fblocks]
  | es :: bs, h => by
    have h1 := body_len es [] (h es (by simp)).vld (h es (by simp)).ts
    have h2 := fblocks_len bs (fun x hx => h x (by simp [hx]))
    simp only [fblocks, List.flatMap_cons, List.length_append, fblock, sumOf_len, List.flatten_cons, List.length_cons] at h2 ⊢
    omega
theorem fone_len {es : List Ent} (h : OkB es) (hl : es.length ≤ 10000) : (fone es).length ≤ 100 := by
  have h1 := body_len es [] h.vld h.ts
  have l1 := num_len64 (n := (body [] es).length) (by omega)
  have l2 := num_len64 (n := es.length) (by omega)
  have l3 := row0_len h
  have l4 := strB_len (s := row0 es) (by omega)
  simp only [fone, List.length_append]
  omega
theorem fones_len : ∀ (bs : List (List Ent)), (∀ es ∈ bs, OkB es) → bs.flatten.length ≤ 10000 → (fones bs).length ≤ 100 * bs.length
  | [], _, _ => by simp [fones]
  | es :: bs, h, hl => by
    simp only [List.flatten_cons, List.length_append] at hl
    have h1 := fone_len (h es (by simp)) (by omega)
    have h2 := fones_len bs (fun x hx => h x (by simp [hx])) (by omega)
    simp only [fones, List.flatMap_cons, List.length_append, List.length_cons] at h2 ⊢
    omega
theorem flatten_take (bs : List (List Ent)) (k : Nat) : (bs.take k).flatten.length ≤ bs.flatten.length := by
  have : bs.flatten = (bs.take k).flatten ++ (bs.drop k).flatten := by rw [← List.flatten_append, List.take_append_drop]
  rw [this, List.length_append]
  omega
theorem flatten_mem {bs : List (List Ent)} {es : List Ent} (h : es ∈ bs) : es.length ≤ bs.flatten.length := by
  obtain ⟨s, t, rfl⟩ := List.append_of_mem h
  simp
  omega
theorem blocks_many : ∀ (bs : List (List Ent)), (∀ es ∈ bs, OkB es) → bs.length ≤ bs.flatten.length
  | [], _ => by simp
  | es :: bs, h => by
    have h1 := (h es (by simp)).ne
    have h2 := blocks_many bs (fun x hx => h x (by simp [hx]))
    simp only [List.flatten_cons, List.length_append, List.length_cons]
    omega
end Go.Proofs.Ytlgeffinhbodeac

/-
  A run cut into blocks (mathematics).
-/
namespace Go.Proofs.Ytlgeffinhbodeac
set_option linter.unusedVariables false
set_option linter.unusedSimpArgs false

def chunks (p : Nat) (es : List Ent) : List (List Ent) :=
  if h : p < es.length ∧ 0 < p then es.take p :: chunks p (es.drop p) else if es.length = 0 then [] else [es]
termination_by es.length
decreasing_by simp; omega
theorem chunks_more {p : Nat} {es : List Ent} (h : p < es.length) (hp : 0 < p) : chunks p es = es.take p :: chunks p (es.drop p) := by
  rw [chunks, dif_pos ⟨h, hp⟩]
theorem chunks_nil (p : Nat) : chunks p [] = [] := by
  rw [chunks, dif_neg (by simp)]; rfl
theorem chunks_last {p : Nat} {es : List Ent} (h : ¬ p < es.length) (h0 : 0 < es.length) : chunks p es = [es] := by
  rw [chunks, dif_neg (by omega), if_neg (by omega)]
theorem chunks_flatten (p : Nat) : ∀ (n : Nat) (es : List Ent), es.length ≤ n → (chunks p es).flatten = es
  | 0, es, h => by rw [List.length_eq_zero_iff.1 (Nat.le_zero.1 h), chunks_nil]; rfl
  | n + 1, es, h => by
    by_cases h1 : p < es.length ∧ 0 < p
    · rw [chunks_more h1.1 h1.2, List.flatten_cons, chunks_flatten p n (es.drop p) (by simp; omega), List.take_append_drop]
    · by_cases h0 : es.length = 0
      · rw [List.length_eq_zero_iff.1 h0, chunks_nil]; rfl
      · rw [chunks, dif_neg h1, if_neg h0]; simp
theorem chunks_mem (p : Nat) : ∀ (n : Nat) (es : List Ent), es.length ≤ n → ∀ c ∈ chunks p es, 0 < c.length ∧ (0 < p → c.length ≤ p) ∧ ∀ e ∈ c, e ∈ es
  | 0, es, h, c, hc => by rw [List.length_eq_zero_iff.1 (Nat.le_zero.1 h), chunks_nil] at hc; simp at hc
  | n + 1, es, h, c, hc => by
    by_cases h1 : p < es.length ∧ 0 < p
    · rw [chunks_more h1.1 h1.2] at hc
      rcases List.mem_cons.1 hc with rfl | hc
      · exact ⟨by simp; omega, fun _ => by simp; omega, fun e he => List.mem_of_mem_take he⟩
      · obtain ⟨q1, q2, q3⟩ := chunks_mem p n (es.drop p) (by simp; omega) c hc
        exact ⟨q1, q2, fun e he => List.mem_of_mem_drop (q3 e he)⟩
    · by_cases h0 : es.length = 0
      · rw [List.length_eq_zero_iff.1 h0, chunks_nil] at hc; simp at hc
      · rw [chunks, dif_neg h1, if_neg h0] at hc
        simp at hc
        subst hc
        exact ⟨by omega, fun hp => by omega, fun e he => he⟩
theorem chunks_ok {p : Nat} {es : List Ent} (hv : ∀ e ∈ es, e.vld = true) (hk : ∀ e ∈ es, e.ok) : ∀ c ∈ chunks p es, OkB c := by
  intro c hc
  obtain ⟨h1, _, h3⟩ := chunks_mem p _ es (Nat.le_refl _) c hc
  exact ⟨fun e he => hv e (h3 e he), fun e he => hk e (h3 e he), h1⟩
/-- What spec.EncodeRun answers. -/
def EncOf (es : List Ent) (per : Int) (xs : List UInt8) : Prop := (GoodR es ∧ 1 ≤ per ∧ per ≤ 1000 → xs = fileM (chunks per.toNat es)) ∧ (¬ (GoodR es ∧ 1 ≤ per ∧ per ≤ 1000) → xs = [])
theorem encOf_uniq {es : List Ent} {per : Int} {xs ys : List UInt8} (h : EncOf es per xs) (k : EncOf es per ys) : xs = ys := by
  by_cases g : GoodR es ∧ 1 ≤ per ∧ per ≤ 1000
  · rw [h.1 g, k.1 g]
  · rw [h.2 g, k.2 g]
end Go.Proofs.Ytlgeffinhbodeac

