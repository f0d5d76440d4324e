/-
  What a round of impl.EncodeRun's loop begins and ends with.
-/
import Derived.Test.YtlgeffinhbodeacQEnK
namespace Go.Proofs.Ytlgeffinhbodeac
open Go.ChangeShapes Go.WideShapes Go.ChangeAt Go.RowKit Go.Deep Go.Shelf
set_option linter.unusedVariables false
set_option linter.unusedSimpArgs false
set_option maxRecDepth 100000

/-- The rows lie apart from the iterator's boxes. -/
def ApartB (B gf gm : Nat) : Prop := ¬ gf = B ∧ ¬ gf = B + 1 ∧ ¬ gm = B ∧ ¬ gm = B + 1
theorem en_end {w W W9 : World} {T B6 B7 B8 : Nat} {F M F' M' : List UInt8} {c c' mf gf cpf mm gm cpm mf' gf' cpf' mm' gm' cpm' BB X : Nat}
    (h0 : EnS w W (fun j => j = B6 ∨ j = B7 ∨ j = B8 ∨ j = gf ∨ j = gm) T B6 B7 B8 F M c mf gf cpf mm gm cpm W) (h9 : EnS w W (fun j => j = B6 ∨ j = B7 ∨ j = B8 ∨ j = gf ∨ j = gm) T B6 B7 B8 F' M' c' mf' gf' cpf' mm' gm' cpm' W9)
    (hF : 0 < F.length) (hap : ApartB BB gf gm) (h6 : B6 < BB) (h7 : B7 < BB) (h8 : B8 < BB) (hlt : BB + 1 < W.heap.size) :
    KeepsFrom X W W9 ∧ Kc BB (BB + 1) W W9 ∧ ApartB BB gf' gm' ∧ W.heap.size ≤ W9.heap.size := by
  obtain ⟨a1, a2, a3, a4⟩ := hap
  have n1 : ¬ (BB = B6 ∨ BB = B7 ∨ BB = B8 ∨ BB = gf ∨ BB = gm) := by
    rintro (q | q | q | q | q)
    · omega
    · omega
    · omega
    · exact a1 q.symm
    · exact a3 q.symm
  have n2 : ¬ (BB + 1 = B6 ∨ BB + 1 = B7 ∨ BB + 1 = B8 ∨ BB + 1 = gf ∨ BB + 1 = gm) := by
    rintro (q | q | q | q | q)
    · omega
    · omega
    · omega
    · exact a2 q.symm
    · exact a4 q.symm
  refine ⟨keeps_of h9.ch (h0.cells hF), ⟨h9.ch.cell (p := ⟨BB, 0, none⟩) (by show BB < _; omega) n1, h9.ch.cell (p := ⟨BB + 1, 0, none⟩) hlt n2⟩, ⟨?_, ?_, ?_, ?_⟩, h9.ch.size⟩
  · rcases h9.ss.2.2.2.1 with q | q
    · exact fun e => n1 (by rw [← e]; exact q)
    · omega
  · rcases h9.ss.2.2.2.1 with q | q
    · exact fun e => n2 (by rw [← e]; exact q)
    · omega
  · rcases h9.ss.2.2.2.2 with q | q
    · exact fun e => n1 (by rw [← e]; exact q)
    · omega
  · rcases h9.ss.2.2.2.2 with q | q
    · exact fun e => n2 (by rw [← e]; exact q)
    · omega
theorem ck_ok {es : List Ent} {n p k : Nat} (hn : n = es.length) (hp : 1 ≤ p) (hk : k * p < n) (hok : ∀ e ∈ es, e.ok) (hv : ∀ e ∈ es, e.vld = true) : OkB (ckE es p k) := by
  have hm : ∀ e ∈ ckE es p k, e ∈ es := fun e he => List.mem_of_mem_drop (List.mem_of_mem_take he)
  exact ⟨fun e he => hv e (hm e he), fun e he => hok e (hm e he), by rw [ckE_len]; omega⟩
theorem ck_at {w : World} {b off : Nat} {es : List Ent} (hE : EntsAt w b off es) (p k : Nat) : EntsAt w b (off + k * p * 6) (ckE es p k) := by
  intro i e he
  have h1 : es[k * p + i]? = some e := by
    unfold ckE at he
    rw [List.getElem?_take] at he
    split at he
    · rw [List.getElem?_drop] at he; exact he
    · cases he
  have := hE (k * p + i) e h1
  rw [Nat.add_mul, ← Nat.add_assoc] at this
  exact this
theorem ck_flat {es : List Ent} {n p : Nat} : ∀ (pre : List (Ck n p)), (pre.map (fun k => ckE es p k.1)).flatten.length ≤ pre.length * p
  | [] => by simp
  | x :: pre => by
    have h1 := ck_flat (es := es) pre
    have h2 := ckE_len es p x.1
    simp only [List.map_cons, List.flatten_cons, List.length_append, List.length_cons]
    rw [Nat.add_mul, Nat.one_mul]
    omega
theorem ck_bound {es : List Ent} {n p : Nat} (hn : n = es.length) (hn2 : n ≤ 10000) (hp1 : 1 ≤ p) (hp2 : p ≤ 1000) (hok : ∀ e ∈ es, e.ok) (hv : ∀ e ∈ es, e.vld = true) (pre : List (Ck n p)) (hpre : pre.length ≤ (n + p - 1) / p) :
    (headB ++ fblocks (pre.map (fun k => ckE es p k.1))).length ≤ 10000000 ∧ (fones (pre.map (fun k => ckE es p k.1))).length ≤ 10000000 ∧ 0 < (headB ++ fblocks (pre.map (fun k => ckE es p k.1))).length ∧ pre.length ≤ 20000 := by
  have hokb : ∀ c ∈ pre.map (fun k => ckE es p k.1), OkB c := by
    intro c hc
    obtain ⟨x, _, rfl⟩ := List.mem_map.1 hc
    exact ck_ok hn hp1 x.2 hok hv
  have h1 : pre.length * p ≤ n + p - 1 := (Nat.le_div_iff_mul_le hp1).1 hpre
  have h2 := ck_flat (es := es) pre
  have h3 : pre.length ≤ pre.length * p := Nat.le_mul_of_pos_right _ hp1
  have h4 := fblocks_len _ hokb
  rw [List.length_map] at h4
  have h5 : (fones (pre.map (fun k => ckE es p k.1))).length ≤ 100 * pre.length := by
    have h6 : ∀ (l : List (List Ent)), (∀ c ∈ l, OkB c) → (∀ c ∈ l, c.length ≤ 10000) → (fones l).length ≤ 100 * l.length := by
      intro l
      induction l with
      | nil => intro _ _; simp [fones]
      | cons c l ih =>
        intro h k
        have q1 := fone_len (h c (by simp)) (k c (by simp))
        have q2 := ih (fun x hx => h x (by simp [hx])) (fun x hx => k x (by simp [hx]))
        simp only [fones, List.flatMap_cons, List.length_append, List.length_cons] at q2 ⊢
        omega
    have h7 := h6 _ hokb (by
      intro c hc
      obtain ⟨x, _, rfl⟩ := List.mem_map.1 hc
      rw [ckE_len]; omega)
    rw [List.length_map] at h7
    exact h7
  have h8 : headB.length = 4 := rfl
  rw [List.length_append, h8]
  refine ⟨by omega, by omega, by omega, by omega⟩
theorem en_init {w W3 : World} {T : Nat} (hb : Below w.heap.size w W3) (hT : TabAt W3 T 0) (hwT : w.heap.size ≤ T) (hz : W3.heap.size = T + 1) :
    EnS w w (fun _ => True) T (T + 1 + 1) (T + 1 + 1 + 1 + 1) (T + 1 + 1 + 1 + 1 + 1) (headB ++ fblocks []) (fones []) 0 4 (T + 1) 4 0 (T + 1 + 1 + 1) 0 (((((W3.alloc (Obj.cells #[.int .u8 82, .int .u8 85, .int .u8 78, .int .u8 49] 5 (4, 5))).alloc (Obj.cells #[.slice (some ⟨T + 1, 0, none⟩) 4 4] 47)).alloc (Obj.cells #[] 5)).alloc (Obj.cells #[.slice (some ⟨T + 1 + 1 + 1, 0, none⟩) 0 0] 47)).alloc (Obj.cells #[.int .u64 0] 69)) := by
  obtain ⟨A1, hA1⟩ : ∃ A : World, A = W3.alloc (Obj.cells #[.int .u8 82, .int .u8 85, .int .u8 78, .int .u8 49] 5 (4, 5)) := ⟨_, rfl⟩
  have z1 : A1.heap.size = T + 1 + 1 := by rw [hA1]; simp; omega
  have b1 : Below W3.heap.size W3 A1 := by rw [hA1]; exact (Below.refl _ _).alloc (Nat.le_refl _) _
  rw [← hA1]
  obtain ⟨A2, hA2⟩ : ∃ A : World, A = A1.alloc (Obj.cells #[.slice (some ⟨T + 1, 0, none⟩) 4 4] 47) := ⟨_, rfl⟩
  have z2 : A2.heap.size = T + 1 + 1 + 1 := by rw [hA2]; simp; omega
  have b2 : Below A1.heap.size A1 A2 := by rw [hA2]; exact (Below.refl _ _).alloc (Nat.le_refl _) _
  rw [← hA2]
  obtain ⟨A3, hA3⟩ : ∃ A : World, A = A2.alloc (Obj.cells #[] 5) := ⟨_, rfl⟩
  have z3 : A3.heap.size = T + 1 + 1 + 1 + 1 := by rw [hA3]; simp; omega
  have b3 : Below A2.heap.size A2 A3 := by rw [hA3]; exact (Below.refl _ _).alloc (Nat.le_refl _) _
  rw [← hA3]
  obtain ⟨A4, hA4⟩ : ∃ A : World, A = A3.alloc (Obj.cells #[.slice (some ⟨T + 1 + 1 + 1, 0, none⟩) 0 0] 47) := ⟨_, rfl⟩
  have z4 : A4.heap.size = T + 1 + 1 + 1 + 1 + 1 := by rw [hA4]; simp; omega
  have b4 : Below A3.heap.size A3 A4 := by rw [hA4]; exact (Below.refl _ _).alloc (Nat.le_refl _) _
  rw [← hA4]
  obtain ⟨A5, hA5⟩ : ∃ A : World, A = A4.alloc (Obj.cells #[.int .u64 0] 69) := ⟨_, rfl⟩
  have b5 : Below A4.heap.size A4 A5 := by rw [hA5]; exact (Below.refl _ _).alloc (Nat.le_refl _) _
  have z5 : A5.heap.size = T + 1 + 1 + 1 + 1 + 1 + 1 := by rw [hA5]; simp; omega
  rw [← hA5]
  have hrow : BysAt A1 (T + 1) 0 headB := by
    intro i x hx
    rw [hA1]
    unfold headB at hx
    have ht : T + 1 = W3.heap.size := hz.symm
    rw [ht]
    rcases i with _ | _ | _ | _ | i
    · simp at hx; subst hx; simp [World.cell?_alloc_mark]
    · simp at hx; subst hx; simp [World.cell?_alloc_mark]
    · simp at hx; subst hx; simp [World.cell?_alloc_mark]
    · simp at hx; subst hx; simp [World.cell?_alloc_mark]
    · simp at hx
  have hbox6 : BoxAt A2 w.heap.size 47 1 (T + 1 + 1) [.slice (some ⟨T + 1, 0, none⟩) 4 4] := by rw [hA2, ← z1]; exact boxAt_new A1 _ (by omega) rfl
  have hmr : OwnY A3 w.heap.size (T + 1 + 1 + 1) 0 [] := by rw [hA3, ← z2]; exact ownY_new A2 (by omega)
  have hbox7 : BoxAt A4 w.heap.size 47 1 (T + 1 + 1 + 1 + 1) [.slice (some ⟨T + 1 + 1 + 1, 0, none⟩) 0 0] := by rw [hA4, ← z3]; exact boxAt_new A3 _ (by omega) rfl
  have hbox8 : BoxAt A5 w.heap.size 69 1 (T + 1 + 1 + 1 + 1 + 1) [.int .u64 0] := by rw [hA5, ← z4]; exact boxAt_new A4 _ (by omega) rfl
  have b15 : Below A1.heap.size A1 A5 := ((b2.trans (b3.mono (by omega))).trans (b4.mono (by omega))).trans (b5.mono (by omega))
  have b35 : Below W3.heap.size W3 A5 := b1.trans (b15.mono (by omega))
  have hB5 : Below w.heap.size w A5 := hb.trans (b35.mono (by omega))
  have e1 : headB ++ fblocks [] = headB := by simp [fblocks]
  have e2 : fones [] = [] := by simp [fones]
  rw [e1, e2]
  refine ⟨((hbox6.below b3).below b4).below b5, rfl, .inr ⟨by omega, by omega, ?_, rfl⟩, hbox7.below b5, rfl, (hmr.below b4).below b5, hbox8, hT.below b35 (by omega), ⟨hwT, by omega⟩, ⟨by omega, by omega, by omega, by omega, by omega, by omega⟩, ⟨by omega, by omega, by omega, by omega, by omega⟩, ⟨by omega, by omega, by omega, by omega⟩, hB5, chg_true hB5, ⟨trivial, trivial, trivial, .inl trivial, .inl trivial⟩⟩
  exact hrow.chg (Chg.of_below b15) (S := fun _ => False) (by omega) (fun q => q)
end Go.Proofs.Ytlgeffinhbodeac
