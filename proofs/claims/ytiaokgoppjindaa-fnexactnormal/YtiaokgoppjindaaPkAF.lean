import Derived.Deep.RegionHeld3
import Derived.Test.YtiaokgoppjindaaPkAE
import Derived.Test.YtiaokgoppjindaaPkAA
/-
  spec.l5Norm.
-/
namespace Go.Proofs.Ytiaokgoppjindaa
open Go.ChangeShapes Go.WideShapes Go.ChangeAt Go.RowKit Go.Deep
set_option linter.unusedVariables false
set_option linter.unusedSimpArgs false
set_option maxRecDepth 100000

theorem NdsAt.chg {S : Nat → Prop} {w w' : World} {b off : Nat} {es : List Nd} (h : NdsAt w b off es) (hb : Chg S w w') (hlt : b < w.heap.size) (hn : ¬ S b) : NdsAt w' b off es := by
  intro i e he
  have := h i e he
  refine ⟨?_, ?_, ?_, ?_, ?_, ?_, ?_⟩
  all_goals rw [hb.cell (by exact hlt) (by exact hn)]
  · exact this.1
  · exact this.2.1
  · exact this.2.2.1
  · exact this.2.2.2.1
  · exact this.2.2.2.2.1
  · exact this.2.2.2.2.2.1
  · exact this.2.2.2.2.2.2
theorem InNds.chg {S : Nat → Prop} {w w' : World} {v : Value} {l : List Nd} (h : InNds w v l) (hc : Chg S w w') (hv : ∀ g n c, v = .slice (some g) n c → l ≠ [] → ¬ S g.block) : InNds w' v l := by
  rcases h with h | ⟨b, off, cap, hq, hE, hlt, h1, h2⟩
  · exact .inl h
  · by_cases hn : l = []
    · subst hn
      exact .inl ⟨_, _, hq, rfl⟩
    · exact .inr ⟨b, off, cap, hq, hE.chg hc hlt (hv ⟨b, off, none⟩ _ _ hq hn), by have := hc.size; omega, h1, h2⟩
/-- What l5Norm hands back. -/
def NormP (b : Nat) (y : List Nd) (w : World) (r : Ending) (w' : World) : Prop := ∃ v, r = .returned v ∧ InNds w' v y ∧ (∀ a n c, v = .slice (some a) n c → a.block = b ∨ w.heap.size ≤ a.block) ∧ Below w.heap.size w w'
def NormC (n : Nat) : Prop := ∀ (w : World) (b o cap : Nat) (xs y : List Nd), xs.length ≤ n → xs.length ≤ 1000 → Win w b o cap xs → NormF xs y → Calls Try.prog 13 #[.slice (some ⟨b, o, none⟩) xs.length cap] w (NormP b y w)
/-- The operands so far. -/
structure NoJ (w : World) (b o cap : Nat) (ks os : List (List Nd)) (i g cp : Nat) (us : List Value) (wr : World) : Prop where
  own : OwnV wr w.heap.size g cp us
  len : us.length = ks.length
  done : ∀ (j : Nat) (u : Value) (x : List Nd), j < i → us[j]? = some u → os[j]? = some x → InNds wr u x ∧ ∀ a n c, u = .slice (some a) n c → (a.block = b ∨ w.heap.size ≤ a.block) ∧ a.block ≠ g
  rest : ∀ (j : Nat), i ≤ j → us[j]? = (kidVs b o cap ks)[j]?
  below : Below w.heap.size w wr
theorem NoJ.move {w : World} {b o cap : Nat} {ks os : List (List Nd)} {i g cp : Nat} {us : List Value} {wr w' : World} (h : NoJ w b o cap ks os i g cp us wr) (hb : Below wr.heap.size wr w') : NoJ w b o cap ks os i g cp us w' :=
  ⟨h.own.below hb, h.len, fun j u x hj hu hx => ⟨(h.done j u x hj hu hx).1.below hb (Nat.le_refl _), (h.done j u x hj hu hx).2⟩, h.rest, h.below.trans (hb.mono h.below.size)⟩
theorem NoJ.next {w : World} {b o cap : Nat} {ks os : List (List Nd)} {i g cp : Nat} {us : List Value} {wr w2 : World} {v : Value} {x : List Nd} (h : NoJ w b o cap ks os i g cp us wr) (hb : Below wr.heap.size wr w2) (hx : os[i]? = some x) (hv : InNds w2 v x) (hvb : ∀ a n c, v = .slice (some a) n c → a.block = b ∨ wr.heap.size ≤ a.block) (hbw : b < w.heap.size) (hi : i < ks.length) : NoJ w b o cap ks os (i + 1) g cp (us.set i v) (w2.setCell ⟨g, i, none⟩ v) := by
  have h2 := h.move hb
  have hg := h.own.lt
  have hs := h.below.size
  have hc : Chg (fun q => q = g) w2 (w2.setCell ⟨g, i, none⟩ v) := Chg.of_set w2 g i v (S := fun q => q = g) rfl
  refine ⟨?_, by rw [List.length_set]; exact h.len, fun j u y hj hu hy => ?_, fun j hj => ?_, h2.below.setCell hg.1 _⟩
  · have := (World.ownsRow.stored h2.own i v).1
    unfold OwnV
    rw [List.length_set]
    exact this
  · rw [List.getElem?_set] at hu
    by_cases e : i = j
    · subst e
      rw [if_pos rfl, if_pos (by have := h.len; omega)] at hu
      obtain rfl := Option.some.inj hu
      rw [hx] at hy
      obtain rfl := Option.some.inj hy
      have hne : ∀ a n c, v = .slice (some a) n c → a.block ≠ g := fun a n c hq => by
        rcases hvb a n c hq with q | q <;> omega
      exact ⟨hv.chg hc (fun a n c hq _ => hne a n c hq), fun a n c hq => ⟨by rcases hvb a n c hq with q | q; exact .inl q; exact .inr (by omega), hne a n c hq⟩⟩
    · rw [if_neg e] at hu
      obtain ⟨h3, h4⟩ := h2.done j u y (by omega) hu hy
      exact ⟨h3.chg hc (fun a n c hq _ => (h4 a n c hq).2), h4⟩
  · rw [List.getElem?_set, if_neg (by omega)]
    exact h.rest j (by omega)
theorem kidVs_take (b : Nat) : ∀ (ks : List (List Nd)) (o cap j : Nat), j < ks.length → ∃ v, (kidVs b o cap ks)[j]? = some v := fun ks o cap j hj => ⟨_, List.getElem?_eq_getElem (by rw [kidVs_len]; exact hj)⟩
theorem trv_ne {y xs : List Nd} (h : NormF xs y) : y ≠ [] := by
  have gen : ∀ (n : Nat) {y xs : List Nd}, xs.length ≤ n → NormF xs y → y ≠ [] := by
    intro n
    induction n with
    | zero =>
      intro y xs hn h
      obtain ⟨ys, e, os, rfl, _⟩ := TrV.inv _ h
      simp at hn
    | succ n ih =>
      intro y xs hn h
      obtain ⟨ys, e, os, rfl, _, h2, rfl⟩ := TrV.inv _ h
      obtain ⟨ks, rfl, hK⟩ := TrV.kids _ h2
      simp only [List.length_append, List.length_singleton] at hn
      have hne : ∀ x ∈ os, x ≠ [] := fun x hx => by
        obtain ⟨j, hj⟩ := List.getElem?_of_mem hx
        have hjl := (List.getElem?_eq_some_iff.1 hj).1
        obtain ⟨k, hk⟩ : ∃ k, ks[j]? = some k := ⟨_, List.getElem?_eq_getElem (by have := KidV.length _ hK; omega)⟩
        obtain ⟨x', hx', ht⟩ := KidV.nth _ hK hk
        rw [hj] at hx'
        cases hx'
        have := len_flat (List.mem_of_getElem? hk)
        exact ih (by omega) ht
      unfold normOf
      split
      · rename_i a b
        repeat' split
        all_goals first | (simp; done) | exact hne _ (by simp)
      · rename_i p a b
        repeat' split
        all_goals first | (simp; done) | exact hne _ (by simp)
      · simp
  exact gen _ (Nat.le_refl _) h
theorem NoJ.get {w : World} {b o cap : Nat} {ks os : List (List Nd)} {i g cp : Nat} {us : List Value} {wr : World} (h : NoJ w b o cap ks os i g cp us wr) {j : Nat} {x : List Nd} (hj : j < i) (hi : i ≤ ks.length) (hx : os[j]? = some x) (hne : x ≠ []) : ∃ b' o' c', us[j]? = some (.slice (some ⟨b', o', none⟩) x.length c') ∧ wr.cell? ⟨g, j, none⟩ = some (.slice (some ⟨b', o', none⟩) x.length c') ∧ InNds wr (.slice (some ⟨b', o', none⟩) x.length c') x ∧ (b' = b ∨ w.heap.size ≤ b') ∧ b' ≠ g := by
  obtain ⟨u, hu⟩ : ∃ u, us[j]? = some u := ⟨_, List.getElem?_eq_getElem (by have := h.len; omega)⟩
  obtain ⟨h1, h2⟩ := h.done j u x hj hu hx
  obtain ⟨a, c, rfl, hf⟩ := h1.form
  obtain ⟨b', o', rfl, _⟩ := hf hne
  obtain ⟨h3, h4⟩ := h2 _ _ _ rfl
  exact ⟨b', o', c, hu, h.own.cell hu, h1, h3, h4⟩
theorem join_core {w : World} {b o cap m : Nat} {ks os : List (List Nd)} {e : Nd} {g cp g' cp' : Nat} {us : List Value} {W W2 w' : World} (hJ : NoJ w b o cap ks os ks.length g cp us W) (hWin : Win w b o cap (ks.flatten ++ [e])) (hne : ∀ x ∈ os, x ≠ []) (hlo : os.length = ks.length) (hb2 : Below W.heap.size W W2) (hm : m = ks.flatten.length) (htot : os.flatten.length ≤ 1000) (hk : ks.length ≤ 3) (hO' : OwnV w' w.heap.size g' cp' (us ++ [.slice (some ⟨b, o + m * 7, none⟩) 1 (cap - m)])) (hgr : W2.grownBy w' (some g)) :
    Calls Try.prog 29 #[.slice (some ⟨g', 0, none⟩) (ks.length + 1) cp'] w' (NormP b (os.flatten ++ [e]) w) := by
  have hJ2 := hJ.move hb2
  have hc : Chg (fun q => q = g) W2 w' := Chg.of_grown hgr (fun k hk => (Option.some.inj hk).symm)
  have hbw' : Below w.heap.size w w' := hJ2.below.grown hgr hJ2.below.size (fun j hj => by have := hJ.own.lt.1; cases hj; omega)
  have hgl := hJ.own.lt
  have hwl := hWin.lt
  have hlw := hWin.len
  have hcw := hWin.cap
  simp only [List.length_append, List.length_singleton] at hlw
  have hpt := (hWin.at_.part).2
  have hopv : InNds w' (.slice (some ⟨b, o + m * 7, none⟩) 1 (cap - m)) [e] := by
    rw [← hm] at hpt
    refine .inr ⟨b, o + m * 7, cap - m, rfl, hpt.below hbw' hwl, by have := hbw'.size; omega, ?_, ?_⟩
    · show 1 ≤ cap - m
      omega
    · unfold maxLen
      omega
  have hj := l5Join_core g' cp' (us ++ [.slice (some ⟨b, o + m * 7, none⟩) 1 (cap - m)]) (os ++ [[e]]) w' (fun j u hu => hO'.cell hu) hO'.lt.2 (by simp [hJ.len, hlo]) (fun j u y hu hy => by
    by_cases hjl : j < ks.length
    · rw [List.getElem?_append_left (by have := hJ.len; omega)] at hu
      rw [List.getElem?_append_left (by omega)] at hy
      obtain ⟨h1, h2⟩ := hJ2.done j u y hjl hu hy
      exact ⟨h1.chg hc (fun a n c hq _ => (h2 a n c hq).2), hne y (List.mem_of_getElem? hy)⟩
    · have hjl2 := (List.getElem?_eq_some_iff.1 hy).1
      simp at hjl2
      have hje : j = ks.length := by omega
      subst hje
      rw [List.getElem?_append_right (by have := hJ.len; omega)] at hu
      rw [List.getElem?_append_right (by omega)] at hy
      rw [show ks.length - us.length = 0 by have := hJ.len; omega] at hu
      rw [show ks.length - os.length = 0 by omega] at hy
      obtain rfl := Option.some.inj hu
      obtain rfl := Option.some.inj hy
      exact ⟨hopv, by simp⟩) (by simp only [List.flatten_append, List.length_append]; simp; rw [List.length_flatten] at htot; omega) (by simp; omega)
  rw [show (os ++ [[e]]).length = ks.length + 1 by simp [hlo]] at hj
  refine hj.mono ?_
  rintro r w2 ⟨g2, cp2, rfl, hO2, hb3⟩
  have hfl : (os ++ [[e]]).flatten = os.flatten ++ [e] := by simp
  rw [hfl] at hO2 ⊢
  refine ⟨_, rfl, InNds.own hO2 rfl, fun a n c hq => ?_, hbw'.trans (hb3.mono hbw'.size)⟩
  cases hq
  have := hO2.lt.1
  have := hbw'.size
  exact .inr (by show w.heap.size ≤ g2; omega)
theorem norm_leaf {e : Nd} : normOf e [] = [e] := rfl
set_option maxHeartbeats 16000000 in
theorem norm_of {n : Nat} (H : NormC n) : NormC (n + 1) := by
  intro w b o cap xs y hn hn2 hW hS
  obtain ⟨ys, e, os, rfl, hal, hS2, hs⟩ := TrV.inv _ hS
  obtain ⟨ks, rfl, hK⟩ := TrV.kids _ hS2
  have hlen := KidV.length _ hK
  have hk3 := arity_le e.kind
  obtain ⟨a3, ha3⟩ : ∃ a3, a3 = ks.length := ⟨_, rfl⟩
  obtain ⟨m, hm⟩ : ∃ m, m = ks.flatten.length := ⟨_, rfl⟩
  have hmn : m ≤ n ∧ m < 1000 := by
    rw [hm]
    simp only [List.length_append, List.length_singleton] at hn hn2
    omega
  have HF : Hid (Win w b o cap (ks.flatten ++ [e]) ∧ KidV normOf os ks ∧ y = normOf e os ∧ os.length = ks.length ∧ a3 = ks.length ∧ m = ks.flatten.length ∧ NormC n ∧ arity e.kind = a3 ∧ NormF (ks.flatten ++ [e]) y) := ⟨hW, hK, hs, hlen, ha3, hm, H, by omega, hS⟩
  have hle : a3 ≤ 3 := by omega
  have hcap := hW.cap
  have hbw := hW.lt
  have hbig : m + 1 ≤ cap := by have := hW.len; rw [List.length_append, List.length_singleton] at this; omega
  have HT : Hid (∀ wx, Below w.heap.size w wx → Calls Try.prog 26 #[.slice (some ⟨b, o, none⟩) (m + 1) cap] wx fun r w' => r = .returned (.int .i64 e.kind) ∧ w' = wx) := fun wx hx => by
    rw [hm]; exact l5Top_core (hW.below hx)
  have HKs : Hid (Calls Try.prog 25 #[.slice (some ⟨b, o, none⟩) (m + 1) cap] w fun r w' => ∃ g cp, r = .returned (.slice (some ⟨g, 0, none⟩) a3 cp) ∧ OwnV w' w.heap.size g cp (kidVs b o cap ks) ∧ Below w.heap.size w w') := by
    rw [ha3, hm]; exact l5Kids_core hW (by omega) (KidV.tree _ hK)
  rw [List.length_append, List.length_singleton, ← hm]
  have z1 : (0 : Int) ≤ (m : Int) := by omega
  have z2 : (m : Int) ≤ (m : Int) + 1 := by omega
  have z3 : (m : Int) + 1 ≤ (cap : Int) := by omega
  have z4 : (m : Int) ≤ (cap : Int) := by omega
  clear hW hS hS2 hK hs hal hlen H ha3 hm hn hn2 hk3
  go_enter Try.func13, Try.ntmps13
  go_wp2_with fail
  refine HKs.out.mono ?_
  rintro r w1 ⟨g, cp, rfl, hO, hb1⟩
  have HJ0 : Hid (NoJ w b o cap ks os 0 g cp (kidVs b o cap ks) w1) := ⟨hO, kidVs_len _ _ _ _, fun j u x hj => by omega, fun j _ => rfl, hb1⟩
  clear hO hb1 HKs
  go_wp2_with fail
  go_loopw [5] (fun iv wr => ∃ (i : Nat) (us : List Value), i ≤ a3 ∧ iv = .int .i64 i ∧ Hid (NoJ w b o cap ks os i g cp us wr)) (fun iv _ => a3 - (intOf iv).toNat)
  case atStart => exact ⟨0, _, Nat.zero_le _, rfl, HJ0⟩
  case round =>
    obtain ⟨i, us, hi, rfl, HJ⟩ := hrel
    by_cases hlt : i < a3
    · have zi : (i : Int) < (a3 : Int) := by omega
      obtain ⟨k, hk⟩ : ∃ k, ks[i]? = some k := ⟨_, List.getElem?_eq_getElem (by have := HF.out.2.2.2.2.1; omega)⟩
      obtain ⟨x, hx, hT⟩ := KidV.nth _ HF.out.2.1 hk
      obtain ⟨o', cap', hv, hWk⟩ := kidVs_nth HF.out.1 hk
      have hc := HJ.out.own.cell (j := i) (by rw [HJ.out.rest i (Nat.le_refl _)]; exact hv)
      have hfz : wr.frozen? ⟨g, i, none⟩ = false := World.ownsRow.frozenAt HJ.out.own i
      have hkl := len_flat (List.mem_of_getElem? hk)
      have HX : Hid (os[i]? = some x ∧ i < ks.length) := ⟨hx, (List.getElem?_eq_some_iff.1 hk).1⟩
      have HC : Hid (Calls Try.prog 13 #[.slice (some ⟨b, o', none⟩) k.length cap'] wr (NormP b x wr)) := HF.out.2.2.2.2.2.2.1 wr b o' cap' k x (by have := HF.out.2.2.2.2.2.1; omega) (by have := HF.out.2.2.2.2.2.1; omega) (hWk.below HJ.out.below) hT
      clear hk hx hT hv hWk hkl
      go_wp2_with fail
      refine HC.out.mono ?_
      rintro r w2 ⟨v, rfl, hv, hvb, hb2⟩
      obtain ⟨va, vc, rfl, _⟩ := hv.form
      have HN : Hid (NoJ w b o cap ks os (i + 1) g cp (us.set i (.slice va x.length vc)) (w2.setCell ⟨g, i, none⟩ (.slice va x.length vc))) := HJ.out.next hb2 HX.out.1 hv hvb hbw HX.out.2
      have hgl := HJ.out.own.lt.2
      have hc2 : w2.cell? ⟨g, i, none⟩ = some (.slice (some ⟨b, o', none⟩) k.length cap') := by rw [hb2.cell (p := ⟨g, i, none⟩) hgl]; exact hc
      have hf2 : w2.frozen? ⟨g, i, none⟩ = false := by rw [hb2.frozen (p := ⟨g, i, none⟩) hgl]; exact hfz
      clear hv hvb hc hfz
      go_wp2_with fail
      go_roundw
      case rel => exact ⟨i + 1, _, by omega, by go_num, HN⟩
      case measure => simp [intOf]; omega
    · have zi : ¬ (i : Int) < (a3 : Int) := by omega
      have hia : i = a3 := by omega
      subst hia
      have HT2 := HT.out wr HJ.out.below
      have HTT : Hid (Calls Try.prog 26 #[.slice (some ⟨b, o, none⟩) (m + 1) cap] wr fun r w' => r = .returned (.int .i64 e.kind) ∧ w' = wr) := HT2
      clear HT2 HT HJ0
      go_wp2_with fail
      refine HTT.out.mono ?_
      rintro r w1' ⟨rfl, hw1⟩
      rw [hw1]
      clear hw1 HTT
      have hka := HF.out.2.2.2.2.2.2.2.1
      have HKl0 : Hid (ks.length = i) := HF.out.2.2.2.2.1.symm
      have HNe : Hid (∀ x ∈ os, x ≠ []) := by
        intro x hx
        obtain ⟨j, hj⟩ := List.getElem?_of_mem hx
        have hjl := (List.getElem?_eq_some_iff.1 hj).1
        obtain ⟨k, hk⟩ : ∃ k, ks[j]? = some k := ⟨_, List.getElem?_eq_getElem (by have := HF.out.2.2.2.1; omega)⟩
        obtain ⟨x', hx', ht⟩ := KidV.nth _ HF.out.2.1 hk
        rw [hj] at hx'
        cases hx'
        exact trv_ne ht
      have HLx : Hid (∀ x ∈ os, x.length ≤ 1000) := by
        intro x hx
        obtain ⟨j, hj⟩ := List.getElem?_of_mem hx
        have hjl := (List.getElem?_eq_some_iff.1 hj).1
        obtain ⟨k, hk⟩ : ∃ k, ks[j]? = some k := ⟨_, List.getElem?_eq_getElem (by have := HF.out.2.2.2.1; omega)⟩
        obtain ⟨x', hx', ht⟩ := KidV.nth _ HF.out.2.1 hk
        rw [hj] at hx'
        cases hx'
        have h1 := (trv_mem _ (Nat.le_refl _) ht).2
        have h2 := len_flat (List.mem_of_getElem? hk)
        have h3 := HF.out.2.2.2.2.2.1
        omega
      have HTot : Hid (os.flatten.length ≤ 1000) := by
        have h4 : ∀ {os : List (List Nd)} {ks : List (List Nd)}, KidV normOf os ks → os.flatten.length ≤ ks.flatten.length := by
          intro os ks h
          induction h with
          | nil => simp
          | cons h1 t ih =>
            have h5 := (trv_mem _ (Nat.le_refl _) h1).2
            simp only [List.flatten_cons, List.length_append]
            omega
        have h5 := h4 HF.out.2.1
        have h6 := HF.out.2.2.2.2.2.1
        show _ ≤ _
        omega
      have HJk : Hid (NoJ w b o cap ks os ks.length g cp us wr) := by rw [HKl0.out]; exact HJ.out
      by_cases hkd : e.kind = 14
      case pos =>
        obtain rfl : i = 2 := by rw [← hka, hkd]; rfl
        have HKl : Hid (ks.length = 2) := HKl0.out
        have HUl : Hid (us.length = 2) := by show _ = _; rw [HJ.out.len]; exact HKl.out
        obtain ⟨x0, x1, hos⟩ : ∃ x0 x1, os = [x0, x1] := by
          have hl : os.length = 2 := by rw [HF.out.2.2.2.1]; exact HKl.out
          match os, hl with
          | [x0, x1], _ => exact ⟨x0, x1, rfl⟩
        obtain ⟨b0, o0, c0, hu0, k0, hI0, hbl0, _⟩ := HJ.out.get (j := 0) (x := x0) (by omega) (by rw [HKl.out]; exact Nat.le_refl _) (by rw [hos]; rfl) (HNe.out x0 (by rw [hos]; simp))
        have HI0 : Hid (InNds wr (.slice (some ⟨b0, o0, none⟩) x0.length c0) x0 ∧ x0.length ≤ 1000) := ⟨hI0, HLx.out x0 (by rw [hos]; simp)⟩
        have HIs0 : Hid (∀ (k : Int) (B : Bool) (wx : World), B = isKB x0 k → Below wr.heap.size wr wx → Calls Try.prog 27 #[.slice (some ⟨b0, o0, none⟩) x0.length c0, .int .i64 k] wx fun r w' => r = .returned (.bool B) ∧ w' = wx) := fun k B wx hB hx => by rw [hB]; exact l5Is_core _ x0 k wx (HI0.out.1.below hx (Nat.le_refl _)) (by have := HI0.out.2; omega)
        have HRt0 : Hid (∀ wx, Below wr.heap.size wr wx → NormP b x0 w (.returned (.slice (some ⟨b0, o0, none⟩) x0.length c0)) wx) := fun wx hx => ⟨_, rfl, HI0.out.1.below hx (Nat.le_refl _), fun a n c hq => by cases hq; exact hbl0, HJ.out.below.trans (hx.mono HJ.out.below.size)⟩
        clear hI0 hu0
        obtain ⟨b1, o1, c1, hu1, k1, hI1, hbl1, _⟩ := HJ.out.get (j := 1) (x := x1) (by omega) (by rw [HKl.out]; exact Nat.le_refl _) (by rw [hos]; rfl) (HNe.out x1 (by rw [hos]; simp))
        have HI1 : Hid (InNds wr (.slice (some ⟨b1, o1, none⟩) x1.length c1) x1 ∧ x1.length ≤ 1000) := ⟨hI1, HLx.out x1 (by rw [hos]; simp)⟩
        have HIs1 : Hid (∀ (k : Int) (B : Bool) (wx : World), B = isKB x1 k → Below wr.heap.size wr wx → Calls Try.prog 27 #[.slice (some ⟨b1, o1, none⟩) x1.length c1, .int .i64 k] wx fun r w' => r = .returned (.bool B) ∧ w' = wx) := fun k B wx hB hx => by rw [hB]; exact l5Is_core _ x1 k wx (HI1.out.1.below hx (Nat.le_refl _)) (by have := HI1.out.2; omega)
        have HRt1 : Hid (∀ wx, Below wr.heap.size wr wx → NormP b x1 w (.returned (.slice (some ⟨b1, o1, none⟩) x1.length c1)) wx) := fun wx hx => ⟨_, rfl, HI1.out.1.below hx (Nat.le_refl _), fun a n c hq => by cases hq; exact hbl1, HJ.out.below.trans (hx.mono HJ.out.below.size)⟩
        clear hI1 hu1
        have HY0 : Hid (y = normOf e os) := HF.out.2.2.1
        rw [hos] at HY0
        have HOs : Hid (os = [x0, x1]) := hos
        clear hos
        rw [hkd]
        by_cases q01 : isK x0 1
        case pos =>
          have hB01 : Hid (true = isKB x0 1) := ((isKB_iff _ _).2 q01).symm
          go_wp2_with fail
          refine (HIs0.out 1 true wr hB01.out (Below.refl _ _)).mono ?_
          rintro r w2' ⟨rfl, hw2⟩
          rw [hw2]
          clear hw2
          have HR : Hid (NormP b y w (.returned (.slice (some ⟨b1, o1, none⟩) x1.length c1)) wr) := by
            rw [show y = x1 by rw [HY0.out]; simp only [normOf]; rw [if_pos hkd, if_pos (.inl q01)]]
            exact HRt1.out wr (Below.refl _ _)
          go_wp2_with fail
          go_ret
          exact HR.out
        have hB01 : Hid (false = isKB x0 1) := (isKB_no q01).symm
        go_wp2_with fail
        refine (HIs0.out 1 false wr hB01.out (Below.refl _ _)).mono ?_
        rintro r w2' ⟨rfl, hw2⟩
        rw [hw2]
        clear hw2
        by_cases q12 : isK x1 2
        case pos =>
          have hB12 : Hid (true = isKB x1 2) := ((isKB_iff _ _).2 q12).symm
          go_wp2_with fail
          refine (HIs1.out 2 true wr hB12.out (Below.refl _ _)).mono ?_
          rintro r w2' ⟨rfl, hw2⟩
          rw [hw2]
          clear hw2
          have HR : Hid (NormP b y w (.returned (.slice (some ⟨b1, o1, none⟩) x1.length c1)) wr) := by
            rw [show y = x1 by rw [HY0.out]; simp only [normOf]; rw [if_pos hkd, if_pos (.inr q12)]]
            exact HRt1.out wr (Below.refl _ _)
          go_wp2_with fail
          go_ret
          exact HR.out
        have hB12 : Hid (false = isKB x1 2) := (isKB_no q12).symm
        go_wp2_with fail
        refine (HIs1.out 2 false wr hB12.out (Below.refl _ _)).mono ?_
        rintro r w2' ⟨rfl, hw2⟩
        rw [hw2]
        clear hw2
        by_cases q11 : isK x1 1
        case pos =>
          have hB11 : Hid (true = isKB x1 1) := ((isKB_iff _ _).2 q11).symm
          go_wp2_with fail
          refine (HIs1.out 1 true wr hB11.out (Below.refl _ _)).mono ?_
          rintro r w2' ⟨rfl, hw2⟩
          rw [hw2]
          clear hw2
          have HR : Hid (NormP b y w (.returned (.slice (some ⟨b0, o0, none⟩) x0.length c0)) wr) := by
            rw [show y = x0 by rw [HY0.out]; simp only [normOf]; rw [if_pos hkd, if_neg (fun z => z.elim q01 q12), if_pos (.inl q11)]]
            exact HRt0.out wr (Below.refl _ _)
          go_wp2_with fail
          go_ret
          exact HR.out
        have hB11 : Hid (false = isKB x1 1) := (isKB_no q11).symm
        go_wp2_with fail
        refine (HIs1.out 1 false wr hB11.out (Below.refl _ _)).mono ?_
        rintro r w2' ⟨rfl, hw2⟩
        rw [hw2]
        clear hw2
        by_cases q02 : isK x0 2
        case pos =>
          have hB02 : Hid (true = isKB x0 2) := ((isKB_iff _ _).2 q02).symm
          go_wp2_with fail
          refine (HIs0.out 2 true wr hB02.out (Below.refl _ _)).mono ?_
          rintro r w2' ⟨rfl, hw2⟩
          rw [hw2]
          clear hw2
          have HR : Hid (NormP b y w (.returned (.slice (some ⟨b0, o0, none⟩) x0.length c0)) wr) := by
            rw [show y = x0 by rw [HY0.out]; simp only [normOf]; rw [if_pos hkd, if_neg (fun z => z.elim q01 q12), if_pos (.inr (.inl q02))]]
            exact HRt0.out wr (Below.refl _ _)
          go_wp2_with fail
          go_ret
          exact HR.out
        have hB02 : Hid (false = isKB x0 2) := (isKB_no q02).symm
        go_wp2_with fail
        refine (HIs0.out 2 false wr hB02.out (Below.refl _ _)).mono ?_
        rintro r w2' ⟨rfl, hw2⟩
        rw [hw2]
        clear hw2
        by_cases q03 : isK x0 3
        case pos =>
          have hB03 : Hid (true = isKB x0 3) := ((isKB_iff _ _).2 q03).symm
          go_wp2_with fail
          refine (HIs0.out 3 true wr hB03.out (Below.refl _ _)).mono ?_
          rintro r w2' ⟨rfl, hw2⟩
          rw [hw2]
          clear hw2
          by_cases q13 : isK x1 3
          case pos =>
            have hB13 : Hid (true = isKB x1 3) := ((isKB_iff _ _).2 q13).symm
            go_wp2_with fail
            refine (HIs1.out 3 true wr hB13.out (Below.refl _ _)).mono ?_
            rintro r w2' ⟨rfl, hw2⟩
            rw [hw2]
            clear hw2
            have HR : Hid (NormP b y w (.returned (.slice (some ⟨b0, o0, none⟩) x0.length c0)) wr) := by
              rw [show y = x0 by rw [HY0.out]; simp only [normOf]; rw [if_pos hkd, if_neg (fun z => z.elim q01 q12), if_pos (.inr (.inr ⟨q03, q13⟩))]]
              exact HRt0.out wr (Below.refl _ _)
            go_wp2_with fail
            go_ret
            exact HR.out
          have hB13 : Hid (false = isKB x1 3) := (isKB_no q13).symm
          go_wp2_with fail
          refine (HIs1.out 3 false wr hB13.out (Below.refl _ _)).mono ?_
          rintro r w2' ⟨rfl, hw2⟩
          rw [hw2]
          clear hw2
          have HY : Hid (y = os.flatten ++ [e]) := by
            show y = _
            rw [HY0.out, HOs.out]; simp only [normOf]; rw [if_pos hkd, if_neg (fun z => z.elim q01 q12), if_neg (fun z => z.elim q11 (fun z => z.elim q02 (fun z => q13 z.2)))]; simp
          obtain ⟨Wj, hWj⟩ : ∃ Wj : World, Wj = wr := ⟨_, rfl⟩
          have hbj : Below wr.heap.size wr Wj := by rw [hWj]; exact (Below.refl _ _)
          rw [← hWj]
          obtain ⟨Wk, hWk⟩ : ∃ Wk : World, Wk = Wj.alloc (Obj.cells #[.slice (some ⟨b, o + m * 7, none⟩) 1 (cap - m)] 26) := ⟨_, rfl⟩
          have hbk : Below Wj.heap.size Wj Wk := by rw [hWk]; exact (Below.refl _ _).alloc (Nat.le_refl _) _
          have hbjk : Below wr.heap.size wr Wk := hbj.trans (hbk.mono hbj.size)
          have HOk : Hid (OwnV Wk w.heap.size g cp us ∧ OwnV Wk w.heap.size Wj.heap.size 1 [.slice (some ⟨b, o + m * 7, none⟩) 1 (cap - m)]) := by
            have hs := HJ.out.below.size
            have hs2 := hbj.size
            refine ⟨HJ.out.own.below hbjk, ?_⟩
            rw [hWk]; exact ownV_one Wj (by omega) _
          clear hWj
          go_wp2_with (at_builtin; rw [← hWk]; refine wpList_append_nds _ rfl _ _ rfl w.heap.size g cp 2 Wj.heap.size 1 1 us [.slice (some ⟨b, o + m * 7, none⟩) 1 (cap - m)] rfl rfl ?hn rfl HOk.out.1 ?hc ?hy ?hl ?hb ?_)
          case hn => exact HUl.out.symm
          case hc => exact fun j v hv => HOk.out.2.cell hv
          case hy => (intro v hv; simp at hv; subst hv; rfl)
          case hl => (rw [HUl.out]; simp)
          case hb => (have hs := HJ.out.below.size; have hs2 := hbjk.size; omega)
          intro g' cp' w' hO' hgr hat
          try rw [← hWk] at hgr
          have HCj : Hid (Calls Try.prog 29 #[.slice (some ⟨g', 0, none⟩) 3 cp'] w' (NormP b y w)) := by
            have hj := join_core HJk.out HF.out.1 HNe.out HF.out.2.2.2.1 hbjk HF.out.2.2.2.2.2.1 HTot.out (by have := HF.out.2.2.2.2.1; omega) hO' hgr
            rw [HKl.out] at hj
            rw [HY.out]
            exact hj
          clear hO' hgr hat hWk
          go_wp2_with fail
          refine HCj.out.mono ?_
          rintro r w3 hr3
          have HR3 : Hid (NormP b y w r w3) := hr3
          obtain ⟨v3, rfl, _⟩ := hr3
          go_wp2_with fail
          go_ret
          exact HR3.out
        have hB03 : Hid (false = isKB x0 3) := (isKB_no q03).symm
        go_wp2_with fail
        refine (HIs0.out 3 false wr hB03.out (Below.refl _ _)).mono ?_
        rintro r w2' ⟨rfl, hw2⟩
        rw [hw2]
        clear hw2
        have HY : Hid (y = os.flatten ++ [e]) := by
          show y = _
          rw [HY0.out, HOs.out]; simp only [normOf]; rw [if_pos hkd, if_neg (fun z => z.elim q01 q12), if_neg (fun z => z.elim q11 (fun z => z.elim q02 (fun z => q03 z.1)))]; simp
        obtain ⟨Wj, hWj⟩ : ∃ Wj : World, Wj = wr := ⟨_, rfl⟩
        have hbj : Below wr.heap.size wr Wj := by rw [hWj]; exact (Below.refl _ _)
        rw [← hWj]
        obtain ⟨Wk, hWk⟩ : ∃ Wk : World, Wk = Wj.alloc (Obj.cells #[.slice (some ⟨b, o + m * 7, none⟩) 1 (cap - m)] 26) := ⟨_, rfl⟩
        have hbk : Below Wj.heap.size Wj Wk := by rw [hWk]; exact (Below.refl _ _).alloc (Nat.le_refl _) _
        have hbjk : Below wr.heap.size wr Wk := hbj.trans (hbk.mono hbj.size)
        have HOk : Hid (OwnV Wk w.heap.size g cp us ∧ OwnV Wk w.heap.size Wj.heap.size 1 [.slice (some ⟨b, o + m * 7, none⟩) 1 (cap - m)]) := by
          have hs := HJ.out.below.size
          have hs2 := hbj.size
          refine ⟨HJ.out.own.below hbjk, ?_⟩
          rw [hWk]; exact ownV_one Wj (by omega) _
        clear hWj
        go_wp2_with (at_builtin; rw [← hWk]; refine wpList_append_nds _ rfl _ _ rfl w.heap.size g cp 2 Wj.heap.size 1 1 us [.slice (some ⟨b, o + m * 7, none⟩) 1 (cap - m)] rfl rfl ?hn rfl HOk.out.1 ?hc ?hy ?hl ?hb ?_)
        case hn => exact HUl.out.symm
        case hc => exact fun j v hv => HOk.out.2.cell hv
        case hy => (intro v hv; simp at hv; subst hv; rfl)
        case hl => (rw [HUl.out]; simp)
        case hb => (have hs := HJ.out.below.size; have hs2 := hbjk.size; omega)
        intro g' cp' w' hO' hgr hat
        try rw [← hWk] at hgr
        have HCj : Hid (Calls Try.prog 29 #[.slice (some ⟨g', 0, none⟩) 3 cp'] w' (NormP b y w)) := by
          have hj := join_core HJk.out HF.out.1 HNe.out HF.out.2.2.2.1 hbjk HF.out.2.2.2.2.2.1 HTot.out (by have := HF.out.2.2.2.2.1; omega) hO' hgr
          rw [HKl.out] at hj
          rw [HY.out]
          exact hj
        clear hO' hgr hat hWk
        go_wp2_with fail
        refine HCj.out.mono ?_
        rintro r w3 hr3
        have HR3 : Hid (NormP b y w r w3) := hr3
        obtain ⟨v3, rfl, _⟩ := hr3
        go_wp2_with fail
        go_ret
        exact HR3.out
      have hn14 := hkd
      clear hkd
      by_cases hkd : e.kind = 15
      case pos =>
        obtain rfl : i = 2 := by rw [← hka, hkd]; rfl
        have HKl : Hid (ks.length = 2) := HKl0.out
        have HUl : Hid (us.length = 2) := by show _ = _; rw [HJ.out.len]; exact HKl.out
        obtain ⟨x0, x1, hos⟩ : ∃ x0 x1, os = [x0, x1] := by
          have hl : os.length = 2 := by rw [HF.out.2.2.2.1]; exact HKl.out
          match os, hl with
          | [x0, x1], _ => exact ⟨x0, x1, rfl⟩
        obtain ⟨b0, o0, c0, hu0, k0, hI0, hbl0, _⟩ := HJ.out.get (j := 0) (x := x0) (by omega) (by rw [HKl.out]; exact Nat.le_refl _) (by rw [hos]; rfl) (HNe.out x0 (by rw [hos]; simp))
        have HI0 : Hid (InNds wr (.slice (some ⟨b0, o0, none⟩) x0.length c0) x0 ∧ x0.length ≤ 1000) := ⟨hI0, HLx.out x0 (by rw [hos]; simp)⟩
        have HIs0 : Hid (∀ (k : Int) (B : Bool) (wx : World), B = isKB x0 k → Below wr.heap.size wr wx → Calls Try.prog 27 #[.slice (some ⟨b0, o0, none⟩) x0.length c0, .int .i64 k] wx fun r w' => r = .returned (.bool B) ∧ w' = wx) := fun k B wx hB hx => by rw [hB]; exact l5Is_core _ x0 k wx (HI0.out.1.below hx (Nat.le_refl _)) (by have := HI0.out.2; omega)
        have HRt0 : Hid (∀ wx, Below wr.heap.size wr wx → NormP b x0 w (.returned (.slice (some ⟨b0, o0, none⟩) x0.length c0)) wx) := fun wx hx => ⟨_, rfl, HI0.out.1.below hx (Nat.le_refl _), fun a n c hq => by cases hq; exact hbl0, HJ.out.below.trans (hx.mono HJ.out.below.size)⟩
        clear hI0 hu0
        obtain ⟨b1, o1, c1, hu1, k1, hI1, hbl1, _⟩ := HJ.out.get (j := 1) (x := x1) (by omega) (by rw [HKl.out]; exact Nat.le_refl _) (by rw [hos]; rfl) (HNe.out x1 (by rw [hos]; simp))
        have HI1 : Hid (InNds wr (.slice (some ⟨b1, o1, none⟩) x1.length c1) x1 ∧ x1.length ≤ 1000) := ⟨hI1, HLx.out x1 (by rw [hos]; simp)⟩
        have HIs1 : Hid (∀ (k : Int) (B : Bool) (wx : World), B = isKB x1 k → Below wr.heap.size wr wx → Calls Try.prog 27 #[.slice (some ⟨b1, o1, none⟩) x1.length c1, .int .i64 k] wx fun r w' => r = .returned (.bool B) ∧ w' = wx) := fun k B wx hB hx => by rw [hB]; exact l5Is_core _ x1 k wx (HI1.out.1.below hx (Nat.le_refl _)) (by have := HI1.out.2; omega)
        have HRt1 : Hid (∀ wx, Below wr.heap.size wr wx → NormP b x1 w (.returned (.slice (some ⟨b1, o1, none⟩) x1.length c1)) wx) := fun wx hx => ⟨_, rfl, HI1.out.1.below hx (Nat.le_refl _), fun a n c hq => by cases hq; exact hbl1, HJ.out.below.trans (hx.mono HJ.out.below.size)⟩
        clear hI1 hu1
        have HY0 : Hid (y = normOf e os) := HF.out.2.2.1
        rw [hos] at HY0
        have HOs : Hid (os = [x0, x1]) := hos
        clear hos
        rw [hkd]
        have HSm : Hid (∀ (B : Bool) (wx : World), B = sameB x0 x1 → Below wr.heap.size wr wx → Calls Try.prog 28 #[.slice (some ⟨b0, o0, none⟩) x0.length c0, .slice (some ⟨b1, o1, none⟩) x1.length c1] wx fun r w' => r = .returned (.bool B) ∧ ∃ m, w' = wx.drewN m) := fun B wx hB hx => by rw [hB]; exact l5Same_core _ _ x0 x1 wx (HI0.out.1.below hx (Nat.le_refl _)) (HI1.out.1.below hx (Nat.le_refl _)) (by have := HI0.out.2; omega) (by have := HI1.out.2; omega)
        by_cases q02 : isK x0 2
        case pos =>
          have hB02 : Hid (true = isKB x0 2) := ((isKB_iff _ _).2 q02).symm
          go_wp2_with fail
          refine (HIs0.out 2 true wr hB02.out (Below.refl _ _)).mono ?_
          rintro r w2' ⟨rfl, hw2⟩
          rw [hw2]
          clear hw2
          have HR : Hid (NormP b y w (.returned (.slice (some ⟨b1, o1, none⟩) x1.length c1)) wr) := by
            rw [show y = x1 by rw [HY0.out]; simp only [normOf]; rw [if_neg (by omega), if_pos q02]]
            exact HRt1.out wr (Below.refl _ _)
          go_wp2_with fail
          go_ret
          exact HR.out
        have hB02 : Hid (false = isKB x0 2) := (isKB_no q02).symm
        go_wp2_with fail
        refine (HIs0.out 2 false wr hB02.out (Below.refl _ _)).mono ?_
        rintro r w2' ⟨rfl, hw2⟩
        rw [hw2]
        clear hw2
        by_cases q12 : isK x1 2
        case pos =>
          have hB12 : Hid (true = isKB x1 2) := ((isKB_iff _ _).2 q12).symm
          go_wp2_with fail
          go_quiet (first | (go_at_call_of 27 (Value.slice (some ⟨b1, o1, none⟩) x1.length c1); exact Calls.quiet_of_same (HIs1.out 2 true _ hB12.out (below_drewN (Below.refl _ _) _))))
          have HR : Hid (∀ wx, Below wr.heap.size wr wx → NormP b y w (.returned (.slice (some ⟨b0, o0, none⟩) x0.length c0)) wx) := fun wx hx => by
            rw [show y = x0 by rw [HY0.out]; simp only [normOf]; rw [if_neg (by omega), if_neg q02, if_pos (.inl q12)]]
            exact HRt0.out wx hx
          go_wp2_with fail
          go_ret
          exact HR.out _ (below_drewN (Below.refl _ _) _)
        have hB12 : Hid (false = isKB x1 2) := (isKB_no q12).symm
        by_cases q01 : isK x0 1
        case pos =>
          have hB01 : Hid (true = isKB x0 1) := ((isKB_iff _ _).2 q01).symm
          go_wp2_with fail
          go_quiet (first | (go_at_call_of 27 (Value.slice (some ⟨b1, o1, none⟩) x1.length c1); exact Calls.quiet_of_same (HIs1.out 2 false _ hB12.out (below_drewN (Below.refl _ _) _))) | (go_at_call_of 27 (Value.slice (some ⟨b0, o0, none⟩) x0.length c0); exact Calls.quiet_of_same (HIs0.out 1 true _ hB01.out (below_drewN (Below.refl _ _) _))))
          have HR : Hid (∀ wx, Below wr.heap.size wr wx → NormP b y w (.returned (.slice (some ⟨b0, o0, none⟩) x0.length c0)) wx) := fun wx hx => by
            rw [show y = x0 by rw [HY0.out]; simp only [normOf]; rw [if_neg (by omega), if_neg q02, if_pos (.inr (.inl q01))]]
            exact HRt0.out wx hx
          go_wp2_with fail
          go_ret
          exact HR.out _ (below_drewN (Below.refl _ _) _)
        have hB01 : Hid (false = isKB x0 1) := (isKB_no q01).symm
        by_cases qs : x0 = x1
        case pos =>
          have hBs : Hid (true = sameB x0 x1) := ((sameB_iff _ _).2 qs).symm
          have HQs : Hid (x0 = x1) := qs
          clear qs
          go_wp2_with fail
          go_quiet (first | (go_at_call_of 27 (Value.slice (some ⟨b1, o1, none⟩) x1.length c1); exact Calls.quiet_of_same (HIs1.out 2 false _ hB12.out (below_drewN (Below.refl _ _) _))) | (go_at_call_of 27 (Value.slice (some ⟨b0, o0, none⟩) x0.length c0); exact Calls.quiet_of_same (HIs0.out 1 false _ hB01.out (below_drewN (Below.refl _ _) _))) | (go_at_call 28; exact Calls.quiet_of (HSm.out true _ hBs.out (below_drewN (Below.refl _ _) _))))
          have HR : Hid (∀ wx, Below wr.heap.size wr wx → NormP b y w (.returned (.slice (some ⟨b0, o0, none⟩) x0.length c0)) wx) := fun wx hx => by
            rw [show y = x0 by rw [HY0.out]; simp only [normOf]; rw [if_neg (by omega), if_neg q02, if_pos (.inr (.inr HQs.out))]]
            exact HRt0.out wx hx
          go_wp2_with fail
          go_ret
          exact HR.out _ (below_drewN (Below.refl _ _) _)
        have hBs : Hid (false = sameB x0 x1) := (sameB_no qs).symm
        go_wp2_with fail
        go_quiet (first | (go_at_call_of 27 (Value.slice (some ⟨b1, o1, none⟩) x1.length c1); exact Calls.quiet_of_same (HIs1.out 2 false _ hB12.out (below_drewN (Below.refl _ _) _))) | (go_at_call_of 27 (Value.slice (some ⟨b0, o0, none⟩) x0.length c0); exact Calls.quiet_of_same (HIs0.out 1 false _ hB01.out (below_drewN (Below.refl _ _) _))) | (go_at_call 28; exact Calls.quiet_of (HSm.out false _ hBs.out (below_drewN (Below.refl _ _) _))))
        go_upto_region 25 with fail
        have HY : Hid (y = os.flatten ++ [e]) := by
          show y = _
          rw [HY0.out, HOs.out]; simp only [normOf]; rw [if_neg (by omega), if_neg q02, if_neg (fun z => z.elim q12 (fun z => z.elim q01 qs))]; simp
        obtain ⟨Wj, hWj⟩ : ∃ Wj : World, Wj = wr.drewN nq := ⟨_, rfl⟩
        have hbj : Below wr.heap.size wr Wj := by rw [hWj]; exact below_drewN (Below.refl _ _) _
        rw [← hWj]
        obtain ⟨Wk, hWk⟩ : ∃ Wk : World, Wk = Wj.alloc (Obj.cells #[.slice (some ⟨b, o + m * 7, none⟩) 1 (cap - m)] 26) := ⟨_, rfl⟩
        have hbk : Below Wj.heap.size Wj Wk := by rw [hWk]; exact (Below.refl _ _).alloc (Nat.le_refl _) _
        have hbjk : Below wr.heap.size wr Wk := hbj.trans (hbk.mono hbj.size)
        have HOk : Hid (OwnV Wk w.heap.size g cp us ∧ OwnV Wk w.heap.size Wj.heap.size 1 [.slice (some ⟨b, o + m * 7, none⟩) 1 (cap - m)]) := by
          have hs := HJ.out.below.size
          have hs2 := hbj.size
          refine ⟨HJ.out.own.below hbjk, ?_⟩
          rw [hWk]; exact ownV_one Wj (by omega) _
        clear hWj
        go_wp2_with (at_builtin; rw [← hWk]; refine wpList_append_nds _ rfl _ _ rfl w.heap.size g cp 2 Wj.heap.size 1 1 us [.slice (some ⟨b, o + m * 7, none⟩) 1 (cap - m)] rfl rfl ?hn rfl HOk.out.1 ?hc ?hy ?hl ?hb ?_)
        case hn => exact HUl.out.symm
        case hc => exact fun j v hv => HOk.out.2.cell hv
        case hy => (intro v hv; simp at hv; subst hv; rfl)
        case hl => (rw [HUl.out]; simp)
        case hb => (have hs := HJ.out.below.size; have hs2 := hbjk.size; omega)
        intro g' cp' w' hO' hgr hat
        try rw [← hWk] at hgr
        have HCj : Hid (Calls Try.prog 29 #[.slice (some ⟨g', 0, none⟩) 3 cp'] w' (NormP b y w)) := by
          have hj := join_core HJk.out HF.out.1 HNe.out HF.out.2.2.2.1 hbjk HF.out.2.2.2.2.2.1 HTot.out (by have := HF.out.2.2.2.2.1; omega) hO' hgr
          rw [HKl.out] at hj
          rw [HY.out]
          exact hj
        clear hO' hgr hat hWk
        go_wp2_with fail
        refine HCj.out.mono ?_
        rintro r w3 hr3
        have HR3 : Hid (NormP b y w r w3) := hr3
        obtain ⟨v3, rfl, _⟩ := hr3
        go_wp2_with fail
        go_ret
        exact HR3.out
      have hn15 := hkd
      clear hkd
      by_cases hkd : e.kind = 16
      case pos =>
        obtain rfl : i = 3 := by rw [← hka, hkd]; rfl
        have HKl : Hid (ks.length = 3) := HKl0.out
        have HUl : Hid (us.length = 3) := by show _ = _; rw [HJ.out.len]; exact HKl.out
        obtain ⟨x0, x1, x2, hos⟩ : ∃ x0 x1 x2, os = [x0, x1, x2] := by
          have hl : os.length = 3 := by rw [HF.out.2.2.2.1]; exact HKl.out
          match os, hl with
          | [x0, x1, x2], _ => exact ⟨x0, x1, x2, rfl⟩
        obtain ⟨b0, o0, c0, hu0, k0, hI0, hbl0, _⟩ := HJ.out.get (j := 0) (x := x0) (by omega) (by rw [HKl.out]; exact Nat.le_refl _) (by rw [hos]; rfl) (HNe.out x0 (by rw [hos]; simp))
        have HI0 : Hid (InNds wr (.slice (some ⟨b0, o0, none⟩) x0.length c0) x0 ∧ x0.length ≤ 1000) := ⟨hI0, HLx.out x0 (by rw [hos]; simp)⟩
        have HIs0 : Hid (∀ (k : Int) (B : Bool) (wx : World), B = isKB x0 k → Below wr.heap.size wr wx → Calls Try.prog 27 #[.slice (some ⟨b0, o0, none⟩) x0.length c0, .int .i64 k] wx fun r w' => r = .returned (.bool B) ∧ w' = wx) := fun k B wx hB hx => by rw [hB]; exact l5Is_core _ x0 k wx (HI0.out.1.below hx (Nat.le_refl _)) (by have := HI0.out.2; omega)
        have HRt0 : Hid (∀ wx, Below wr.heap.size wr wx → NormP b x0 w (.returned (.slice (some ⟨b0, o0, none⟩) x0.length c0)) wx) := fun wx hx => ⟨_, rfl, HI0.out.1.below hx (Nat.le_refl _), fun a n c hq => by cases hq; exact hbl0, HJ.out.below.trans (hx.mono HJ.out.below.size)⟩
        clear hI0 hu0
        obtain ⟨b1, o1, c1, hu1, k1, hI1, hbl1, _⟩ := HJ.out.get (j := 1) (x := x1) (by omega) (by rw [HKl.out]; exact Nat.le_refl _) (by rw [hos]; rfl) (HNe.out x1 (by rw [hos]; simp))
        have HI1 : Hid (InNds wr (.slice (some ⟨b1, o1, none⟩) x1.length c1) x1 ∧ x1.length ≤ 1000) := ⟨hI1, HLx.out x1 (by rw [hos]; simp)⟩
        have HIs1 : Hid (∀ (k : Int) (B : Bool) (wx : World), B = isKB x1 k → Below wr.heap.size wr wx → Calls Try.prog 27 #[.slice (some ⟨b1, o1, none⟩) x1.length c1, .int .i64 k] wx fun r w' => r = .returned (.bool B) ∧ w' = wx) := fun k B wx hB hx => by rw [hB]; exact l5Is_core _ x1 k wx (HI1.out.1.below hx (Nat.le_refl _)) (by have := HI1.out.2; omega)
        have HRt1 : Hid (∀ wx, Below wr.heap.size wr wx → NormP b x1 w (.returned (.slice (some ⟨b1, o1, none⟩) x1.length c1)) wx) := fun wx hx => ⟨_, rfl, HI1.out.1.below hx (Nat.le_refl _), fun a n c hq => by cases hq; exact hbl1, HJ.out.below.trans (hx.mono HJ.out.below.size)⟩
        clear hI1 hu1
        obtain ⟨b2, o2, c2, hu2, k2, hI2, hbl2, _⟩ := HJ.out.get (j := 2) (x := x2) (by omega) (by rw [HKl.out]; exact Nat.le_refl _) (by rw [hos]; rfl) (HNe.out x2 (by rw [hos]; simp))
        have HI2 : Hid (InNds wr (.slice (some ⟨b2, o2, none⟩) x2.length c2) x2 ∧ x2.length ≤ 1000) := ⟨hI2, HLx.out x2 (by rw [hos]; simp)⟩
        have HIs2 : Hid (∀ (k : Int) (B : Bool) (wx : World), B = isKB x2 k → Below wr.heap.size wr wx → Calls Try.prog 27 #[.slice (some ⟨b2, o2, none⟩) x2.length c2, .int .i64 k] wx fun r w' => r = .returned (.bool B) ∧ w' = wx) := fun k B wx hB hx => by rw [hB]; exact l5Is_core _ x2 k wx (HI2.out.1.below hx (Nat.le_refl _)) (by have := HI2.out.2; omega)
        have HRt2 : Hid (∀ wx, Below wr.heap.size wr wx → NormP b x2 w (.returned (.slice (some ⟨b2, o2, none⟩) x2.length c2)) wx) := fun wx hx => ⟨_, rfl, HI2.out.1.below hx (Nat.le_refl _), fun a n c hq => by cases hq; exact hbl2, HJ.out.below.trans (hx.mono HJ.out.below.size)⟩
        clear hI2 hu2
        have HY0 : Hid (y = normOf e os) := HF.out.2.2.1
        rw [hos] at HY0
        have HOs : Hid (os = [x0, x1, x2]) := hos
        clear hos
        rw [hkd]
        have HSm : Hid (∀ (B : Bool) (wx : World), B = sameB x1 x2 → Below wr.heap.size wr wx → Calls Try.prog 28 #[.slice (some ⟨b1, o1, none⟩) x1.length c1, .slice (some ⟨b2, o2, none⟩) x2.length c2] wx fun r w' => r = .returned (.bool B) ∧ ∃ m, w' = wx.drewN m) := fun B wx hB hx => by rw [hB]; exact l5Same_core _ _ x1 x2 wx (HI1.out.1.below hx (Nat.le_refl _)) (HI2.out.1.below hx (Nat.le_refl _)) (by have := HI1.out.2; omega) (by have := HI2.out.2; omega)
        by_cases q01 : isK x0 1
        case pos =>
          have hB01 : Hid (true = isKB x0 1) := ((isKB_iff _ _).2 q01).symm
          go_wp2_with fail
          refine (HIs0.out 1 true wr hB01.out (Below.refl _ _)).mono ?_
          rintro r w2' ⟨rfl, hw2⟩
          rw [hw2]
          clear hw2
          have HR : Hid (NormP b y w (.returned (.slice (some ⟨b1, o1, none⟩) x1.length c1)) wr) := by
            rw [show y = x1 by rw [HY0.out]; simp only [normOf]; rw [if_pos q01]]
            exact HRt1.out wr (Below.refl _ _)
          go_wp2_with fail
          go_ret
          exact HR.out
        have hB01 : Hid (false = isKB x0 1) := (isKB_no q01).symm
        go_wp2_with fail
        refine (HIs0.out 1 false wr hB01.out (Below.refl _ _)).mono ?_
        rintro r w2' ⟨rfl, hw2⟩
        rw [hw2]
        clear hw2
        by_cases q02 : isK x0 2
        case pos =>
          have hB02 : Hid (true = isKB x0 2) := ((isKB_iff _ _).2 q02).symm
          go_wp2_with fail
          refine (HIs0.out 2 true wr hB02.out (Below.refl _ _)).mono ?_
          rintro r w2' ⟨rfl, hw2⟩
          rw [hw2]
          clear hw2
          have HR : Hid (NormP b y w (.returned (.slice (some ⟨b2, o2, none⟩) x2.length c2)) wr) := by
            rw [show y = x2 by rw [HY0.out]; simp only [normOf]; rw [if_neg q01, if_pos q02]]
            exact HRt2.out wr (Below.refl _ _)
          go_wp2_with fail
          go_ret
          exact HR.out
        have hB02 : Hid (false = isKB x0 2) := (isKB_no q02).symm
        go_wp2_with fail
        refine (HIs0.out 2 false wr hB02.out (Below.refl _ _)).mono ?_
        rintro r w2' ⟨rfl, hw2⟩
        rw [hw2]
        clear hw2
        by_cases qs : x1 = x2
        case pos =>
          have hBs : Hid (true = sameB x1 x2) := ((sameB_iff _ _).2 qs).symm
          have HQs : Hid (x1 = x2) := qs
          clear qs
          go_wp2_with fail
          go_quiet (first | (go_at_call 28; exact Calls.quiet_of (HSm.out true _ hBs.out (below_drewN (Below.refl _ _) _))))
          have HR : Hid (∀ wx, Below wr.heap.size wr wx → NormP b y w (.returned (.slice (some ⟨b1, o1, none⟩) x1.length c1)) wx) := fun wx hx => by
            rw [show y = x1 by rw [HY0.out]; simp only [normOf]; rw [if_neg q01, if_neg q02, if_pos HQs.out]]
            exact HRt1.out wx hx
          go_wp2_with fail
          go_ret
          exact HR.out _ (below_drewN (Below.refl _ _) _)
        have hBs : Hid (false = sameB x1 x2) := (sameB_no qs).symm
        go_wp2_with fail
        go_quiet (first | (go_at_call 28; exact Calls.quiet_of (HSm.out false _ hBs.out (below_drewN (Below.refl _ _) _))))
        go_upto_region 25 with fail
        have HY : Hid (y = os.flatten ++ [e]) := by
          show y = _
          rw [HY0.out, HOs.out]; simp only [normOf]; rw [if_neg q01, if_neg q02, if_neg qs]; simp
        obtain ⟨Wj, hWj⟩ : ∃ Wj : World, Wj = wr.drewN nq := ⟨_, rfl⟩
        have hbj : Below wr.heap.size wr Wj := by rw [hWj]; exact below_drewN (Below.refl _ _) _
        rw [← hWj]
        obtain ⟨Wk, hWk⟩ : ∃ Wk : World, Wk = Wj.alloc (Obj.cells #[.slice (some ⟨b, o + m * 7, none⟩) 1 (cap - m)] 26) := ⟨_, rfl⟩
        have hbk : Below Wj.heap.size Wj Wk := by rw [hWk]; exact (Below.refl _ _).alloc (Nat.le_refl _) _
        have hbjk : Below wr.heap.size wr Wk := hbj.trans (hbk.mono hbj.size)
        have HOk : Hid (OwnV Wk w.heap.size g cp us ∧ OwnV Wk w.heap.size Wj.heap.size 1 [.slice (some ⟨b, o + m * 7, none⟩) 1 (cap - m)]) := by
          have hs := HJ.out.below.size
          have hs2 := hbj.size
          refine ⟨HJ.out.own.below hbjk, ?_⟩
          rw [hWk]; exact ownV_one Wj (by omega) _
        clear hWj
        go_wp2_with (at_builtin; rw [← hWk]; refine wpList_append_nds _ rfl _ _ rfl w.heap.size g cp 3 Wj.heap.size 1 1 us [.slice (some ⟨b, o + m * 7, none⟩) 1 (cap - m)] rfl rfl ?hn rfl HOk.out.1 ?hc ?hy ?hl ?hb ?_)
        case hn => exact HUl.out.symm
        case hc => exact fun j v hv => HOk.out.2.cell hv
        case hy => (intro v hv; simp at hv; subst hv; rfl)
        case hl => (rw [HUl.out]; simp)
        case hb => (have hs := HJ.out.below.size; have hs2 := hbjk.size; omega)
        intro g' cp' w' hO' hgr hat
        try rw [← hWk] at hgr
        have HCj : Hid (Calls Try.prog 29 #[.slice (some ⟨g', 0, none⟩) 4 cp'] w' (NormP b y w)) := by
          have hj := join_core HJk.out HF.out.1 HNe.out HF.out.2.2.2.1 hbjk HF.out.2.2.2.2.2.1 HTot.out (by have := HF.out.2.2.2.2.1; omega) hO' hgr
          rw [HKl.out] at hj
          rw [HY.out]
          exact hj
        clear hO' hgr hat hWk
        go_wp2_with fail
        refine HCj.out.mono ?_
        rintro r w3 hr3
        have HR3 : Hid (NormP b y w r w3) := hr3
        obtain ⟨v3, rfl, _⟩ := hr3
        go_wp2_with fail
        go_ret
        exact HR3.out
      have z14 : (e.kind == 14) = false := by rw [beq_eq_false_iff_ne]; exact hn14
      have z15 : (e.kind == 15) = false := by rw [beq_eq_false_iff_ne]; exact hn15
      have z16 : (e.kind == 16) = false := by rw [beq_eq_false_iff_ne]; exact hkd
      obtain rfl : i = 0 := by rw [← hka]; unfold arity; rw [if_neg (by omega), if_neg hkd]
      have HKl : Hid (ks.length = 0) := HKl0.out
      have HUl : Hid (us.length = 0) := by show _ = _; rw [HJ.out.len]; exact HKl.out
      have hos : os = [] := List.length_eq_zero_iff.1 (by rw [HF.out.2.2.2.1]; exact HKl.out)
      have HOs : Hid (os = []) := hos
      clear hos hkd hn14 hn15
      have HY : Hid (y = os.flatten ++ [e]) := by
        show y = _
        rw [HF.out.2.2.1, HOs.out]; rfl
      obtain ⟨Wj, hWj⟩ : ∃ Wj : World, Wj = wr := ⟨_, rfl⟩
      have hbj : Below wr.heap.size wr Wj := by rw [hWj]; exact (Below.refl _ _)
      rw [← hWj]
      obtain ⟨Wk, hWk⟩ : ∃ Wk : World, Wk = Wj.alloc (Obj.cells #[.slice (some ⟨b, o + m * 7, none⟩) 1 (cap - m)] 26) := ⟨_, rfl⟩
      have hbk : Below Wj.heap.size Wj Wk := by rw [hWk]; exact (Below.refl _ _).alloc (Nat.le_refl _) _
      have hbjk : Below wr.heap.size wr Wk := hbj.trans (hbk.mono hbj.size)
      have HOk : Hid (OwnV Wk w.heap.size g cp us ∧ OwnV Wk w.heap.size Wj.heap.size 1 [.slice (some ⟨b, o + m * 7, none⟩) 1 (cap - m)]) := by
        have hs := HJ.out.below.size
        have hs2 := hbj.size
        refine ⟨HJ.out.own.below hbjk, ?_⟩
        rw [hWk]; exact ownV_one Wj (by omega) _
      clear hWj
      go_wp2_with (at_builtin; rw [← hWk]; refine wpList_append_nds _ rfl _ _ rfl w.heap.size g cp 0 Wj.heap.size 1 1 us [.slice (some ⟨b, o + m * 7, none⟩) 1 (cap - m)] rfl rfl ?hn rfl HOk.out.1 ?hc ?hy ?hl ?hb ?_)
      case hn => exact HUl.out.symm
      case hc => exact fun j v hv => HOk.out.2.cell hv
      case hy => (intro v hv; simp at hv; subst hv; rfl)
      case hl => (rw [HUl.out]; simp)
      case hb => (have hs := HJ.out.below.size; have hs2 := hbjk.size; omega)
      intro g' cp' w' hO' hgr hat
      try rw [← hWk] at hgr
      have HCj : Hid (Calls Try.prog 29 #[.slice (some ⟨g', 0, none⟩) 1 cp'] w' (NormP b y w)) := by
        have hj := join_core HJk.out HF.out.1 HNe.out HF.out.2.2.2.1 hbjk HF.out.2.2.2.2.2.1 HTot.out (by have := HF.out.2.2.2.2.1; omega) hO' hgr
        rw [HKl.out] at hj
        rw [HY.out]
        exact hj
      clear hO' hgr hat hWk
      go_wp2_with fail
      refine HCj.out.mono ?_
      rintro r w3 hr3
      have HR3 : Hid (NormP b y w r w3) := hr3
      obtain ⟨v3, rfl, _⟩ := hr3
      go_wp2_with fail
      go_ret
      exact HR3.out
end Go.Proofs.Ytiaokgoppjindaa

/-
  impl's normalChain, normalInter, normalIf.
-/
namespace Go.Proofs.Ytiaokgoppjindaa
open Go.ChangeShapes Go.WideShapes Go.ChangeAt Go.RowKit Go.Deep
set_option linter.unusedVariables false
set_option linter.unusedSimpArgs false
set_option maxRecDepth 100000

/-- A slice that is a row of nodes of its own. -/
def OwnS (w : World) (v : Value) (y : List Nd) : Prop := ∃ g cp, v = .slice (some ⟨g, 0, none⟩) y.length cp ∧ OwnNd w 0 g cp y
theorem OwnS.ins {w : World} {v : Value} {y : List Nd} (h : OwnS w v y) : InNds w v y := by
  obtain ⟨g, cp, rfl, h⟩ := h
  exact InNds.own h rfl
theorem OwnS.below {w w' : World} {v : Value} {y : List Nd} (h : OwnS w v y) (hb : Below w.heap.size w w') : OwnS w' v y := by
  obtain ⟨g, cp, rfl, h⟩ := h
  exact ⟨g, cp, rfl, h.below hb h.lt.2⟩
/-- What a visit hands back: nodes in a block of 'S', or in a new one. -/
def NmI (S : Nat → Prop) (y : List Nd) (w : World) (r : Ending) (w' : World) : Prop := ∃ v, r = .returned v ∧ OwnS w' v y ∧ (∀ a n c, v = .slice (some a) n c → S a.block ∨ w.heap.size ≤ a.block) ∧ Below w.heap.size w w'
/-- An operand. -/
structure Opd (S : Nat → Prop) (w : World) (u : Value) (x : List Nd) : Prop where
  own : OwnS w u x
  ne : x ≠ []
  blk : ∀ a n c, u = .slice (some a) n c → S a.block
  good : ∀ e ∈ x, GoodN e
  len : x.length ≤ 1000
theorem Opd.ins {S : Nat → Prop} {w : World} {u : Value} {x : List Nd} (h : Opd S w u x) : InNds w u x := h.own.ins
theorem Opd.form {S : Nat → Prop} {w : World} {u : Value} {x : List Nd} (h : Opd S w u x) : ∃ b o c, u = .slice (some ⟨b, o, none⟩) x.length c ∧ NdsAt w b o x ∧ b < w.heap.size := by
  obtain ⟨a, c, rfl, hf⟩ := h.ins.form
  obtain ⟨b, o, rfl, hE, hlt, _⟩ := hf h.ne
  exact ⟨b, o, c, rfl, hE, hlt⟩
theorem Opd.ret {S : Nat → Prop} {w : World} {u : Value} {x : List Nd} (h : Opd S w u x) : NmI S x w (.returned u) w := ⟨u, rfl, h.own, fun a n c hq => .inl (h.blk a n c hq), Below.refl _ _⟩
theorem isK_one {x : List Nd} {k l : Int} (h : isK x k) (g : isK x l) : k = l := by
  obtain ⟨n, rfl, rfl⟩ := h
  obtain ⟨m, hm, rfl⟩ := g
  cases hm
  rfl
/-- The concatenation of operands and a node of its own. -/
theorem cat_post {S : Nat → Prop} {w W : World} {y : List Nd} {r : Ending} {w' : World} (hb : Below w.heap.size w W) (hne : y ≠ []) (h : CatN W y r w') : NmI S y w r w' := by
  obtain ⟨v, rfl, hO, hb2⟩ := h
  have hb3 := hb.trans (hb2.mono hb.size)
  rcases hO.2 with ⟨_, q⟩ | ⟨g, cap, cur, rfl, h1, _⟩
  · exact absurd (List.length_eq_zero_iff.1 q) hne
  · refine ⟨_, rfl, ⟨g, cap, rfl, OwnNd.mono (show OwnNd w' W.heap.size g cap y from hO) (Nat.zero_le _)⟩, fun a n c hq => ?_, hb3⟩
    cases hq
    exact .inr (by have := hb.size; show w.heap.size ≤ g; omega)
theorem opd_nil : ([] : List (List Nd)).flatten = [] := rfl
theorem ownNd_two (w : World) (e : Nd) : OwnNd (w.alloc (Obj.cells #[.int .i64 e.kind, .string e.s, .bool e.hi, .string e.t, .int .u64 e.lo, .int .u64 e.up, .int .i64 e.n] 48)) w.heap.size w.heap.size 1 [e] :=
  World.ownsRow_lit w #[.int .i64 e.kind, .string e.s, .bool e.hi, .string e.t, .int .u64 e.lo, .int .u64 e.up, .int .i64 e.n] 1 (Nat.le_refl _) (by decide) rfl
set_option maxHeartbeats 4000000 in
theorem normalChain_core (S : Nat → Prop) (u0 u1 : Value) (x0 x1 : List Nd) (w : World) (h0 : Opd S w u0 x0) (h1 : Opd S w u1 x1) : Calls Try.prog 34 #[u0, u1] w (NmI S (normOf (bareNd 14) [x0, x1]) w) := by
  obtain ⟨y, hy⟩ : ∃ y, y = normOf (bareNd 14) [x0, x1] := ⟨_, rfl⟩
  rw [← hy]
  have HY0 : Hid (y = normOf (bareNd 14) [x0, x1]) := hy
  clear hy
  obtain ⟨b0, o0, c0, rfl, hE0, hl0⟩ := h0.form
  have HO0 : Hid (Opd S w (.slice (some ⟨b0, o0, none⟩) x0.length c0) x0 ∧ NdsAt w b0 o0 x0 ∧ b0 < w.heap.size) := ⟨h0, hE0, hl0⟩
  have HIs0 : Hid (∀ (k : Int) (B : Bool), B = isKB x0 k → Calls Try.prog 46 #[.slice (some ⟨b0, o0, none⟩) x0.length c0, .int .i64 k] w fun r w' => r = .returned (.bool B) ∧ w' = w) := fun k B hB => by rw [hB]; exact isSingle_core _ x0 k w HO0.out.1.ins (by have := HO0.out.1.len; omega)
  clear h0 hE0
  obtain ⟨b1, o1, c1, rfl, hE1, hl1⟩ := h1.form
  have HO1 : Hid (Opd S w (.slice (some ⟨b1, o1, none⟩) x1.length c1) x1 ∧ NdsAt w b1 o1 x1 ∧ b1 < w.heap.size) := ⟨h1, hE1, hl1⟩
  have HIs1 : Hid (∀ (k : Int) (B : Bool), B = isKB x1 k → Calls Try.prog 46 #[.slice (some ⟨b1, o1, none⟩) x1.length c1, .int .i64 k] w fun r w' => r = .returned (.bool B) ∧ w' = w) := fun k B hB => by rw [hB]; exact isSingle_core _ x1 k w HO1.out.1.ins (by have := HO1.out.1.len; omega)
  clear h1 hE1
  go_enter Try.func34, Try.ntmps34
  by_cases q01 : isK x0 1
  case pos =>
    have hB01 : Hid (true = isKB x0 1) := ((isKB_iff _ _).2 q01).symm
    go_wp2_with fail
    refine (HIs0.out 1 true hB01.out).mono ?_
    rintro r w2 ⟨rfl, hw2⟩
    rw [hw2]
    clear hw2
    have HR : Hid (NmI S y w (.returned (.slice (some ⟨b1, o1, none⟩) x1.length c1)) w) := by
      rw [show y = x1 by rw [HY0.out]; simp only [normOf, bareNd]; rw [if_pos trivial, if_pos (.inl q01)]]
      exact HO1.out.1.ret
    go_wp2_with fail
    go_ret
    exact HR.out
  have hB01 : Hid (false = isKB x0 1) := (isKB_no q01).symm
  go_wp2_with fail
  refine (HIs0.out 1 false hB01.out).mono ?_
  rintro r w2 ⟨rfl, hw2⟩
  rw [hw2]
  clear hw2
  by_cases q11 : isK x1 1
  case pos =>
    have hB11 : Hid (true = isKB x1 1) := ((isKB_iff _ _).2 q11).symm
    go_wp2_with fail
    refine (HIs1.out 1 true hB11.out).mono ?_
    rintro r w2 ⟨rfl, hw2⟩
    rw [hw2]
    clear hw2
    have HR : Hid (NmI S y w (.returned (.slice (some ⟨b0, o0, none⟩) x0.length c0)) w) := by
      rw [show y = x0 by rw [HY0.out]; simp only [normOf, bareNd]; rw [if_pos trivial, if_neg (fun z => z.elim q01 (fun z => by have := isK_one q11 z; omega)), if_pos (.inl q11)]]
      exact HO0.out.1.ret
    go_wp2_with fail
    go_ret
    exact HR.out
  have hB11 : Hid (false = isKB x1 1) := (isKB_no q11).symm
  go_wp2_with fail
  refine (HIs1.out 1 false hB11.out).mono ?_
  rintro r w2 ⟨rfl, hw2⟩
  rw [hw2]
  clear hw2
  by_cases q02 : isK x0 2
  case pos =>
    have hB02 : Hid (true = isKB x0 2) := ((isKB_iff _ _).2 q02).symm
    go_wp2_with fail
    refine (HIs0.out 2 true hB02.out).mono ?_
    rintro r w2 ⟨rfl, hw2⟩
    rw [hw2]
    clear hw2
    have HE : Hid (y = x0) := by
      show y = x0
      rw [HY0.out]
      simp only [normOf, bareNd]
      rw [if_pos trivial]
      by_cases q12 : isK x1 2
      · rw [if_pos (.inr q12), isK_good q12 HO1.out.1.good (by omega), isK_good q02 HO0.out.1.good (by omega)]
      · rw [if_neg (fun z => z.elim q01 q12), if_pos (.inr (.inl q02))]
    have HR : Hid (NmI S y w (.returned (.slice (some ⟨b0, o0, none⟩) x0.length c0)) w) := by
      rw [show y = x0 by exact HE.out]
      exact HO0.out.1.ret
    go_wp2_with fail
    go_ret
    exact HR.out
  have hB02 : Hid (false = isKB x0 2) := (isKB_no q02).symm
  go_wp2_with fail
  refine (HIs0.out 2 false hB02.out).mono ?_
  rintro r w2 ⟨rfl, hw2⟩
  rw [hw2]
  clear hw2
  by_cases q12 : isK x1 2
  case pos =>
    have hB12 : Hid (true = isKB x1 2) := ((isKB_iff _ _).2 q12).symm
    go_wp2_with fail
    refine (HIs1.out 2 true hB12.out).mono ?_
    rintro r w2 ⟨rfl, hw2⟩
    rw [hw2]
    clear hw2
    have HR : Hid (NmI S y w (.returned (.slice (some ⟨b1, o1, none⟩) x1.length c1)) w) := by
      rw [show y = x1 by rw [HY0.out]; simp only [normOf, bareNd]; rw [if_pos trivial, if_pos (.inr q12)]]
      exact HO1.out.1.ret
    go_wp2_with fail
    go_ret
    exact HR.out
  have hB12 : Hid (false = isKB x1 2) := (isKB_no q12).symm
  go_wp2_with fail
  refine (HIs1.out 2 false hB12.out).mono ?_
  rintro r w2 ⟨rfl, hw2⟩
  rw [hw2]
  clear hw2
  by_cases q03 : isK x0 3
  case pos =>
    have hB03 : Hid (true = isKB x0 3) := ((isKB_iff _ _).2 q03).symm
    go_wp2_with fail
    refine (HIs0.out 3 true hB03.out).mono ?_
    rintro r w2 ⟨rfl, hw2⟩
    rw [hw2]
    clear hw2
    by_cases q13 : isK x1 3
    case pos =>
      have hB13 : Hid (true = isKB x1 3) := ((isKB_iff _ _).2 q13).symm
      go_wp2_with fail
      refine (HIs1.out 3 true hB13.out).mono ?_
      rintro r w2 ⟨rfl, hw2⟩
      rw [hw2]
      clear hw2
      have HR : Hid (NmI S y w (.returned (.slice (some ⟨b0, o0, none⟩) x0.length c0)) w) := by
        rw [show y = x0 by rw [HY0.out]; simp only [normOf, bareNd]; rw [if_pos trivial, if_neg (fun z => z.elim q01 q12), if_pos (.inr (.inr ⟨q03, q13⟩))]]
        exact HO0.out.1.ret
      go_wp2_with fail
      go_ret
      exact HR.out
    have hB13 : Hid (false = isKB x1 3) := (isKB_no q13).symm
    go_wp2_with fail
    refine (HIs1.out 3 false hB13.out).mono ?_
    rintro r w2 ⟨rfl, hw2⟩
    rw [hw2]
    clear hw2
    have HY : Hid (y =  x0 ++ x1 ++ [bareNd 14]) := by
      show y = _
      rw [HY0.out]; simp only [normOf, bareNd]; rw [if_pos trivial, if_neg (fun z => z.elim q01 q12), if_neg (fun z => z.elim q11 (fun z => z.elim q02 (fun z => q13 z.2)))]
    have hbV : Below w.heap.size w w := Below.refl _ _
    obtain ⟨V1, hV1⟩ : ∃ V1 : World, V1 = w.alloc (Obj.cells #[.int .i64 14, .string ⟨#[]⟩, .bool false, .string ⟨#[]⟩, .int .u64 0, .int .u64 0, .int .i64 0] 48) := ⟨_, rfl⟩
    obtain ⟨V2, hV2⟩ : ∃ V2 : World, V2 = V1.alloc (Obj.cells #[.slice (some ⟨b0, o0, none⟩) x0.length c0, .slice (some ⟨b1, o1, none⟩) x1.length c1, .slice (some ⟨w.heap.size, 0, none⟩) 1 1] 26) := ⟨_, rfl⟩
    have hb1 : Below w.heap.size w V1 := by rw [hV1]; exact (Below.refl _ _).alloc (Nat.le_refl _) _
    have hb2 : Below V1.heap.size V1 V2 := by rw [hV2]; exact (Below.refl _ _).alloc (Nat.le_refl _) _
    have hz1 : V1.heap.size = w.heap.size + 1 := by rw [hV1]; simp
    have hz2 : V2.heap.size = w.heap.size + 1 + 1 := by rw [hV2]; simp [hz1]
    have kb : Below w.heap.size w V2 := (hbV.trans (hb1.mono hbV.size)).trans (hb2.mono (by have := hbV.size; omega))
    have HCt : Hid (Calls Try.prog 47 #[.slice (some ⟨w.heap.size + 1, 0, none⟩) 3 3] V2 (NmI S y w)) := by
      have hN : NdsAt V2 w.heap.size 0 [bareNd 14] := by
        have h9 : NdsAt V1 w.heap.size 0 [bareNd 14] := by rw [hV1]; exact (ownNd_two w (bareNd 14)).at
        exact h9.below hb2 (by omega)
      have hP : Parts V2 (w.heap.size + 1) [x0, x1, [bareNd 14]] := by
        refine ⟨by omega, fun j y hy => ?_⟩
        match j, hy with
        | 0, hy =>
          obtain rfl := Option.some.inj hy
          exact ⟨b0, o0, c0, by rw [hV2, ← hz1]; simp, HO0.out.2.1.below kb HO0.out.2.2, by have := kb.size; have := HO0.out.2.2; omega⟩
        | 1, hy =>
          obtain rfl := Option.some.inj hy
          exact ⟨b1, o1, c1, by rw [hV2, ← hz1]; simp, HO1.out.2.1.below kb HO1.out.2.2, by have := kb.size; have := HO1.out.2.2; omega⟩
        | 2, hy =>
          obtain rfl := Option.some.inj hy
          exact ⟨w.heap.size, 0, 1, by rw [hV2, ← hz1]; simp, hN, by omega⟩
        | m + 3, hy => simp at hy
      have hc := concatN_core (w.heap.size + 1) 3 _ V2 hP (by simp; have := HO0.out.1.len; have := HO1.out.1.len; omega) rfl (by omega)
      refine hc.mono ?_
      intro r w' hr
      rw [show [x0, x1, [bareNd 14]].flatten = y by rw [HY.out]; simp] at hr
      exact cat_post kb (by rw [HY.out]; simp) hr
    rw [← hz1] at HCt
    go_wp2_with fail
    rw [← hV1, ← hV2]
    clear hV1 hV2
    rw [hz1] at HCt
    refine HCt.out.mono ?_
    rintro r w3 hr3
    have HR3 : Hid (NmI S y w r w3) := hr3
    obtain ⟨v3, rfl, _⟩ := hr3
    go_wp2_with fail
    go_ret
    exact HR3.out
  have hB03 : Hid (false = isKB x0 3) := (isKB_no q03).symm
  go_wp2_with fail
  refine (HIs0.out 3 false hB03.out).mono ?_
  rintro r w2 ⟨rfl, hw2⟩
  rw [hw2]
  clear hw2
  have HY : Hid (y =  x0 ++ x1 ++ [bareNd 14]) := by
    show y = _
    rw [HY0.out]; simp only [normOf, bareNd]; rw [if_pos trivial, if_neg (fun z => z.elim q01 q12), if_neg (fun z => z.elim q11 (fun z => z.elim q02 (fun z => q03 z.1)))]
  have hbV : Below w.heap.size w w := Below.refl _ _
  obtain ⟨V1, hV1⟩ : ∃ V1 : World, V1 = w.alloc (Obj.cells #[.int .i64 14, .string ⟨#[]⟩, .bool false, .string ⟨#[]⟩, .int .u64 0, .int .u64 0, .int .i64 0] 48) := ⟨_, rfl⟩
  obtain ⟨V2, hV2⟩ : ∃ V2 : World, V2 = V1.alloc (Obj.cells #[.slice (some ⟨b0, o0, none⟩) x0.length c0, .slice (some ⟨b1, o1, none⟩) x1.length c1, .slice (some ⟨w.heap.size, 0, none⟩) 1 1] 26) := ⟨_, rfl⟩
  have hb1 : Below w.heap.size w V1 := by rw [hV1]; exact (Below.refl _ _).alloc (Nat.le_refl _) _
  have hb2 : Below V1.heap.size V1 V2 := by rw [hV2]; exact (Below.refl _ _).alloc (Nat.le_refl _) _
  have hz1 : V1.heap.size = w.heap.size + 1 := by rw [hV1]; simp
  have hz2 : V2.heap.size = w.heap.size + 1 + 1 := by rw [hV2]; simp [hz1]
  have kb : Below w.heap.size w V2 := (hbV.trans (hb1.mono hbV.size)).trans (hb2.mono (by have := hbV.size; omega))
  have HCt : Hid (Calls Try.prog 47 #[.slice (some ⟨w.heap.size + 1, 0, none⟩) 3 3] V2 (NmI S y w)) := by
    have hN : NdsAt V2 w.heap.size 0 [bareNd 14] := by
      have h9 : NdsAt V1 w.heap.size 0 [bareNd 14] := by rw [hV1]; exact (ownNd_two w (bareNd 14)).at
      exact h9.below hb2 (by omega)
    have hP : Parts V2 (w.heap.size + 1) [x0, x1, [bareNd 14]] := by
      refine ⟨by omega, fun j y hy => ?_⟩
      match j, hy with
      | 0, hy =>
        obtain rfl := Option.some.inj hy
        exact ⟨b0, o0, c0, by rw [hV2, ← hz1]; simp, HO0.out.2.1.below kb HO0.out.2.2, by have := kb.size; have := HO0.out.2.2; omega⟩
      | 1, hy =>
        obtain rfl := Option.some.inj hy
        exact ⟨b1, o1, c1, by rw [hV2, ← hz1]; simp, HO1.out.2.1.below kb HO1.out.2.2, by have := kb.size; have := HO1.out.2.2; omega⟩
      | 2, hy =>
        obtain rfl := Option.some.inj hy
        exact ⟨w.heap.size, 0, 1, by rw [hV2, ← hz1]; simp, hN, by omega⟩
      | m + 3, hy => simp at hy
    have hc := concatN_core (w.heap.size + 1) 3 _ V2 hP (by simp; have := HO0.out.1.len; have := HO1.out.1.len; omega) rfl (by omega)
    refine hc.mono ?_
    intro r w' hr
    rw [show [x0, x1, [bareNd 14]].flatten = y by rw [HY.out]; simp] at hr
    exact cat_post kb (by rw [HY.out]; simp) hr
  rw [← hz1] at HCt
  go_wp2_with fail
  rw [← hV1, ← hV2]
  clear hV1 hV2
  rw [hz1] at HCt
  refine HCt.out.mono ?_
  rintro r w3 hr3
  have HR3 : Hid (NmI S y w r w3) := hr3
  obtain ⟨v3, rfl, _⟩ := hr3
  go_wp2_with fail
  go_ret
  exact HR3.out
set_option maxHeartbeats 4000000 in
theorem normalInter_core (S : Nat → Prop) (u0 u1 : Value) (x0 x1 : List Nd) (w : World) (h0 : Opd S w u0 x0) (h1 : Opd S w u1 x1) : Calls Try.prog 35 #[u0, u1] w (NmI S (normOf (bareNd 15) [x0, x1]) w) := by
  obtain ⟨y, hy⟩ : ∃ y, y = normOf (bareNd 15) [x0, x1] := ⟨_, rfl⟩
  rw [← hy]
  have HY0 : Hid (y = normOf (bareNd 15) [x0, x1]) := hy
  clear hy
  obtain ⟨b0, o0, c0, rfl, hE0, hl0⟩ := h0.form
  have HO0 : Hid (Opd S w (.slice (some ⟨b0, o0, none⟩) x0.length c0) x0 ∧ NdsAt w b0 o0 x0 ∧ b0 < w.heap.size) := ⟨h0, hE0, hl0⟩
  have HIs0 : Hid (∀ (k : Int) (B : Bool), B = isKB x0 k → Calls Try.prog 46 #[.slice (some ⟨b0, o0, none⟩) x0.length c0, .int .i64 k] w fun r w' => r = .returned (.bool B) ∧ w' = w) := fun k B hB => by rw [hB]; exact isSingle_core _ x0 k w HO0.out.1.ins (by have := HO0.out.1.len; omega)
  clear h0 hE0
  obtain ⟨b1, o1, c1, rfl, hE1, hl1⟩ := h1.form
  have HO1 : Hid (Opd S w (.slice (some ⟨b1, o1, none⟩) x1.length c1) x1 ∧ NdsAt w b1 o1 x1 ∧ b1 < w.heap.size) := ⟨h1, hE1, hl1⟩
  have HIs1 : Hid (∀ (k : Int) (B : Bool), B = isKB x1 k → Calls Try.prog 46 #[.slice (some ⟨b1, o1, none⟩) x1.length c1, .int .i64 k] w fun r w' => r = .returned (.bool B) ∧ w' = w) := fun k B hB => by rw [hB]; exact isSingle_core _ x1 k w HO1.out.1.ins (by have := HO1.out.1.len; omega)
  clear h1 hE1
  have HSm : Hid (∀ (B : Bool), B = sameB x0 x1 → Calls Try.prog 48 #[.slice (some ⟨b0, o0, none⟩) x0.length c0, .slice (some ⟨b1, o1, none⟩) x1.length c1] w fun r w' => r = .returned (.bool B) ∧ ∃ m, w' = w.drewN m) := fun B hB => by rw [hB]; exact equalN_core _ _ x0 x1 w HO0.out.1.ins HO1.out.1.ins (by have := HO0.out.1.len; omega) (by have := HO1.out.1.len; omega)
  go_enter Try.func35, Try.ntmps35
  by_cases q02 : isK x0 2
  case pos =>
    have hB02 : Hid (true = isKB x0 2) := ((isKB_iff _ _).2 q02).symm
    go_wp2_with fail
    refine (HIs0.out 2 true hB02.out).mono ?_
    rintro r w2 ⟨rfl, hw2⟩
    rw [hw2]
    clear hw2
    have HR : Hid (NmI S y w (.returned (.slice (some ⟨b1, o1, none⟩) x1.length c1)) w) := by
      rw [show y = x1 by rw [HY0.out]; simp only [normOf]; rw [if_neg (show ¬ (bareNd 15).kind = 14 from (by show ¬ (15 : Int) = 14; omega)), if_pos q02]]
      exact HO1.out.1.ret
    go_wp2_with fail
    go_ret
    exact HR.out
  have hB02 : Hid (false = isKB x0 2) := (isKB_no q02).symm
  go_wp2_with fail
  refine (HIs0.out 2 false hB02.out).mono ?_
  rintro r w2 ⟨rfl, hw2⟩
  rw [hw2]
  clear hw2
  by_cases q12 : isK x1 2
  case pos =>
    have hB12 : Hid (true = isKB x1 2) := ((isKB_iff _ _).2 q12).symm
    go_wp2_with fail
    refine (HIs1.out 2 true hB12.out).mono ?_
    rintro r w2 ⟨rfl, hw2⟩
    rw [hw2]
    clear hw2
    have HR : Hid (NmI S y w (.returned (.slice (some ⟨b0, o0, none⟩) x0.length c0)) w) := by
      rw [show y = x0 by rw [HY0.out]; simp only [normOf]; rw [if_neg (show ¬ (bareNd 15).kind = 14 from (by show ¬ (15 : Int) = 14; omega)), if_neg q02, if_pos (.inl q12)]]
      exact HO0.out.1.ret
    go_wp2_with fail
    go_ret
    exact HR.out
  have hB12 : Hid (false = isKB x1 2) := (isKB_no q12).symm
  go_wp2_with fail
  refine (HIs1.out 2 false hB12.out).mono ?_
  rintro r w2 ⟨rfl, hw2⟩
  rw [hw2]
  clear hw2
  by_cases q01 : isK x0 1
  case pos =>
    have hB01 : Hid (true = isKB x0 1) := ((isKB_iff _ _).2 q01).symm
    go_wp2_with fail
    refine (HIs0.out 1 true hB01.out).mono ?_
    rintro r w2 ⟨rfl, hw2⟩
    rw [hw2]
    clear hw2
    have HR : Hid (NmI S y w (.returned (.slice (some ⟨b0, o0, none⟩) x0.length c0)) w) := by
      rw [show y = x0 by rw [HY0.out]; simp only [normOf]; rw [if_neg (show ¬ (bareNd 15).kind = 14 from (by show ¬ (15 : Int) = 14; omega)), if_neg q02, if_pos (.inr (.inl q01))]]
      exact HO0.out.1.ret
    go_wp2_with fail
    go_ret
    exact HR.out
  have hB01 : Hid (false = isKB x0 1) := (isKB_no q01).symm
  go_wp2_with fail
  refine (HIs0.out 1 false hB01.out).mono ?_
  rintro r w2 ⟨rfl, hw2⟩
  rw [hw2]
  clear hw2
  by_cases qs : x0 = x1
  case pos =>
    have hBs : Hid (true = sameB x0 x1) := ((sameB_iff _ _).2 qs).symm
    have HQs : Hid (x0 = x1) := qs
    clear qs
    go_wp2_with fail
    refine (HSm.out true hBs.out).mono ?_
    rintro r w2 ⟨rfl, m2, hw2⟩
    rw [hw2]
    clear hw2
    have HR : Hid (∀ m, NmI S y w (.returned (.slice (some ⟨b0, o0, none⟩) x0.length c0)) (w.drewN m)) := fun m => by
      rw [show y = x0 by rw [HY0.out]; simp only [normOf]; rw [if_neg (show ¬ (bareNd 15).kind = 14 from (by show ¬ (15 : Int) = 14; omega)), if_neg q02, if_pos (.inr (.inr HQs.out))]]
      obtain ⟨v, hv, h1, h2, h3⟩ := HO0.out.1.ret
      exact ⟨v, hv, h1.below (below_drewN (Below.refl _ _) m), h2, below_drewN h3 m⟩
    go_wp2_with fail
    go_ret
    exact HR.out _
  have hBs : Hid (false = sameB x0 x1) := (sameB_no qs).symm
  go_wp2_with fail
  refine (HSm.out false hBs.out).mono ?_
  rintro r w2 ⟨rfl, m2, hw2⟩
  rw [hw2]
  clear hw2
  have HNq : Hid (¬ x0 = x1) := qs
  clear qs
  have HY : Hid (y =  x0 ++ x1 ++ [bareNd 15]) := by
    show y = _
    rw [HY0.out]; simp only [normOf]; rw [if_neg (show ¬ (bareNd 15).kind = 14 from (by show ¬ (15 : Int) = 14; omega)), if_neg q02, if_neg (fun z => z.elim q12 (fun z => z.elim q01 HNq.out))]
  obtain ⟨V, hV⟩ : ∃ V : World, V = w.drewN m2 := ⟨_, rfl⟩
  have hbV : Below w.heap.size w V := by rw [hV]; exact below_drewN (Below.refl _ _) _
  rw [← hV]
  clear hV
  obtain ⟨V1, hV1⟩ : ∃ V1 : World, V1 = V.alloc (Obj.cells #[.int .i64 15, .string ⟨#[]⟩, .bool false, .string ⟨#[]⟩, .int .u64 0, .int .u64 0, .int .i64 0] 48) := ⟨_, rfl⟩
  obtain ⟨V2, hV2⟩ : ∃ V2 : World, V2 = V1.alloc (Obj.cells #[.slice (some ⟨b0, o0, none⟩) x0.length c0, .slice (some ⟨b1, o1, none⟩) x1.length c1, .slice (some ⟨V.heap.size, 0, none⟩) 1 1] 26) := ⟨_, rfl⟩
  have hb1 : Below V.heap.size V V1 := by rw [hV1]; exact (Below.refl _ _).alloc (Nat.le_refl _) _
  have hb2 : Below V1.heap.size V1 V2 := by rw [hV2]; exact (Below.refl _ _).alloc (Nat.le_refl _) _
  have hz1 : V1.heap.size = V.heap.size + 1 := by rw [hV1]; simp
  have hz2 : V2.heap.size = V.heap.size + 1 + 1 := by rw [hV2]; simp [hz1]
  have kb : Below w.heap.size w V2 := (hbV.trans (hb1.mono hbV.size)).trans (hb2.mono (by have := hbV.size; omega))
  have HCt : Hid (Calls Try.prog 47 #[.slice (some ⟨V.heap.size + 1, 0, none⟩) 3 3] V2 (NmI S y w)) := by
    have hN : NdsAt V2 V.heap.size 0 [bareNd 15] := by
      have h9 : NdsAt V1 V.heap.size 0 [bareNd 15] := by rw [hV1]; exact (ownNd_two V (bareNd 15)).at
      exact h9.below hb2 (by omega)
    have hP : Parts V2 (V.heap.size + 1) [x0, x1, [bareNd 15]] := by
      refine ⟨by omega, fun j y hy => ?_⟩
      match j, hy with
      | 0, hy =>
        obtain rfl := Option.some.inj hy
        exact ⟨b0, o0, c0, by rw [hV2, ← hz1]; simp, HO0.out.2.1.below kb HO0.out.2.2, by have := kb.size; have := HO0.out.2.2; omega⟩
      | 1, hy =>
        obtain rfl := Option.some.inj hy
        exact ⟨b1, o1, c1, by rw [hV2, ← hz1]; simp, HO1.out.2.1.below kb HO1.out.2.2, by have := kb.size; have := HO1.out.2.2; omega⟩
      | 2, hy =>
        obtain rfl := Option.some.inj hy
        exact ⟨V.heap.size, 0, 1, by rw [hV2, ← hz1]; simp, hN, by omega⟩
      | m + 3, hy => simp at hy
    have hc := concatN_core (V.heap.size + 1) 3 _ V2 hP (by simp; have := HO0.out.1.len; have := HO1.out.1.len; omega) rfl (by omega)
    refine hc.mono ?_
    intro r w' hr
    rw [show [x0, x1, [bareNd 15]].flatten = y by rw [HY.out]; simp] at hr
    exact cat_post kb (by rw [HY.out]; simp) hr
  rw [← hz1] at HCt
  go_wp2_with fail
  rw [← hV1, ← hV2]
  clear hV1 hV2
  rw [hz1] at HCt
  refine HCt.out.mono ?_
  rintro r w3 hr3
  have HR3 : Hid (NmI S y w r w3) := hr3
  obtain ⟨v3, rfl, _⟩ := hr3
  go_wp2_with fail
  go_ret
  exact HR3.out
set_option maxHeartbeats 4000000 in
theorem normalIf_core (S : Nat → Prop) (u0 u1 u2 : Value) (x0 x1 x2 : List Nd) (w : World) (h0 : Opd S w u0 x0) (h1 : Opd S w u1 x1) (h2 : Opd S w u2 x2) : Calls Try.prog 36 #[u0, u1, u2] w (NmI S (normOf (bareNd 16) [x0, x1, x2]) w) := by
  obtain ⟨y, hy⟩ : ∃ y, y = normOf (bareNd 16) [x0, x1, x2] := ⟨_, rfl⟩
  rw [← hy]
  have HY0 : Hid (y = normOf (bareNd 16) [x0, x1, x2]) := hy
  clear hy
  obtain ⟨b0, o0, c0, rfl, hE0, hl0⟩ := h0.form
  have HO0 : Hid (Opd S w (.slice (some ⟨b0, o0, none⟩) x0.length c0) x0 ∧ NdsAt w b0 o0 x0 ∧ b0 < w.heap.size) := ⟨h0, hE0, hl0⟩
  have HIs0 : Hid (∀ (k : Int) (B : Bool), B = isKB x0 k → Calls Try.prog 46 #[.slice (some ⟨b0, o0, none⟩) x0.length c0, .int .i64 k] w fun r w' => r = .returned (.bool B) ∧ w' = w) := fun k B hB => by rw [hB]; exact isSingle_core _ x0 k w HO0.out.1.ins (by have := HO0.out.1.len; omega)
  clear h0 hE0
  obtain ⟨b1, o1, c1, rfl, hE1, hl1⟩ := h1.form
  have HO1 : Hid (Opd S w (.slice (some ⟨b1, o1, none⟩) x1.length c1) x1 ∧ NdsAt w b1 o1 x1 ∧ b1 < w.heap.size) := ⟨h1, hE1, hl1⟩
  have HIs1 : Hid (∀ (k : Int) (B : Bool), B = isKB x1 k → Calls Try.prog 46 #[.slice (some ⟨b1, o1, none⟩) x1.length c1, .int .i64 k] w fun r w' => r = .returned (.bool B) ∧ w' = w) := fun k B hB => by rw [hB]; exact isSingle_core _ x1 k w HO1.out.1.ins (by have := HO1.out.1.len; omega)
  clear h1 hE1
  obtain ⟨b2, o2, c2, rfl, hE2, hl2⟩ := h2.form
  have HO2 : Hid (Opd S w (.slice (some ⟨b2, o2, none⟩) x2.length c2) x2 ∧ NdsAt w b2 o2 x2 ∧ b2 < w.heap.size) := ⟨h2, hE2, hl2⟩
  have HIs2 : Hid (∀ (k : Int) (B : Bool), B = isKB x2 k → Calls Try.prog 46 #[.slice (some ⟨b2, o2, none⟩) x2.length c2, .int .i64 k] w fun r w' => r = .returned (.bool B) ∧ w' = w) := fun k B hB => by rw [hB]; exact isSingle_core _ x2 k w HO2.out.1.ins (by have := HO2.out.1.len; omega)
  clear h2 hE2
  have HSm : Hid (∀ (B : Bool), B = sameB x1 x2 → Calls Try.prog 48 #[.slice (some ⟨b1, o1, none⟩) x1.length c1, .slice (some ⟨b2, o2, none⟩) x2.length c2] w fun r w' => r = .returned (.bool B) ∧ ∃ m, w' = w.drewN m) := fun B hB => by rw [hB]; exact equalN_core _ _ x1 x2 w HO1.out.1.ins HO2.out.1.ins (by have := HO1.out.1.len; omega) (by have := HO2.out.1.len; omega)
  go_enter Try.func36, Try.ntmps36
  by_cases q01 : isK x0 1
  case pos =>
    have hB01 : Hid (true = isKB x0 1) := ((isKB_iff _ _).2 q01).symm
    go_wp2_with fail
    refine (HIs0.out 1 true hB01.out).mono ?_
    rintro r w2 ⟨rfl, hw2⟩
    rw [hw2]
    clear hw2
    have HR : Hid (NmI S y w (.returned (.slice (some ⟨b1, o1, none⟩) x1.length c1)) w) := by
      rw [show y = x1 by rw [HY0.out]; simp only [normOf, bareNd]; rw [if_pos q01]]
      exact HO1.out.1.ret
    go_wp2_with fail
    go_ret
    exact HR.out
  have hB01 : Hid (false = isKB x0 1) := (isKB_no q01).symm
  go_wp2_with fail
  refine (HIs0.out 1 false hB01.out).mono ?_
  rintro r w2 ⟨rfl, hw2⟩
  rw [hw2]
  clear hw2
  by_cases q02 : isK x0 2
  case pos =>
    have hB02 : Hid (true = isKB x0 2) := ((isKB_iff _ _).2 q02).symm
    go_wp2_with fail
    refine (HIs0.out 2 true hB02.out).mono ?_
    rintro r w2 ⟨rfl, hw2⟩
    rw [hw2]
    clear hw2
    have HR : Hid (NmI S y w (.returned (.slice (some ⟨b2, o2, none⟩) x2.length c2)) w) := by
      rw [show y = x2 by rw [HY0.out]; simp only [normOf, bareNd]; rw [if_neg q01, if_pos q02]]
      exact HO2.out.1.ret
    go_wp2_with fail
    go_ret
    exact HR.out
  have hB02 : Hid (false = isKB x0 2) := (isKB_no q02).symm
  go_wp2_with fail
  refine (HIs0.out 2 false hB02.out).mono ?_
  rintro r w2 ⟨rfl, hw2⟩
  rw [hw2]
  clear hw2
  by_cases qs : x1 = x2
  case pos =>
    have hBs : Hid (true = sameB x1 x2) := ((sameB_iff _ _).2 qs).symm
    have HQs : Hid (x1 = x2) := qs
    clear qs
    go_wp2_with fail
    refine (HSm.out true hBs.out).mono ?_
    rintro r w2 ⟨rfl, m2, hw2⟩
    rw [hw2]
    clear hw2
    have HR : Hid (∀ m, NmI S y w (.returned (.slice (some ⟨b1, o1, none⟩) x1.length c1)) (w.drewN m)) := fun m => by
      rw [show y = x1 by rw [HY0.out]; simp only [normOf, bareNd]; rw [if_neg q01, if_neg q02, if_pos HQs.out]]
      obtain ⟨v, hv, h1, h2, h3⟩ := HO1.out.1.ret
      exact ⟨v, hv, h1.below (below_drewN (Below.refl _ _) m), h2, below_drewN h3 m⟩
    go_wp2_with fail
    go_ret
    exact HR.out _
  have hBs : Hid (false = sameB x1 x2) := (sameB_no qs).symm
  go_wp2_with fail
  refine (HSm.out false hBs.out).mono ?_
  rintro r w2 ⟨rfl, m2, hw2⟩
  rw [hw2]
  clear hw2
  have HNq : Hid (¬ x1 = x2) := qs
  clear qs
  have HY : Hid (y =  x0 ++ x1 ++ x2 ++ [bareNd 16]) := by
    show y = _
    rw [HY0.out]; simp only [normOf, bareNd]; rw [if_neg q01, if_neg q02, if_neg HNq.out]
  obtain ⟨V, hV⟩ : ∃ V : World, V = w.drewN m2 := ⟨_, rfl⟩
  have hbV : Below w.heap.size w V := by rw [hV]; exact below_drewN (Below.refl _ _) _
  rw [← hV]
  clear hV
  obtain ⟨V1, hV1⟩ : ∃ V1 : World, V1 = V.alloc (Obj.cells #[.int .i64 16, .string ⟨#[]⟩, .bool false, .string ⟨#[]⟩, .int .u64 0, .int .u64 0, .int .i64 0] 48) := ⟨_, rfl⟩
  obtain ⟨V2, hV2⟩ : ∃ V2 : World, V2 = V1.alloc (Obj.cells #[.slice (some ⟨b0, o0, none⟩) x0.length c0, .slice (some ⟨b1, o1, none⟩) x1.length c1, .slice (some ⟨b2, o2, none⟩) x2.length c2, .slice (some ⟨V.heap.size, 0, none⟩) 1 1] 26) := ⟨_, rfl⟩
  have hb1 : Below V.heap.size V V1 := by rw [hV1]; exact (Below.refl _ _).alloc (Nat.le_refl _) _
  have hb2 : Below V1.heap.size V1 V2 := by rw [hV2]; exact (Below.refl _ _).alloc (Nat.le_refl _) _
  have hz1 : V1.heap.size = V.heap.size + 1 := by rw [hV1]; simp
  have hz2 : V2.heap.size = V.heap.size + 1 + 1 := by rw [hV2]; simp [hz1]
  have kb : Below w.heap.size w V2 := (hbV.trans (hb1.mono hbV.size)).trans (hb2.mono (by have := hbV.size; omega))
  have HCt : Hid (Calls Try.prog 47 #[.slice (some ⟨V.heap.size + 1, 0, none⟩) 4 4] V2 (NmI S y w)) := by
    have hN : NdsAt V2 V.heap.size 0 [bareNd 16] := by
      have h9 : NdsAt V1 V.heap.size 0 [bareNd 16] := by rw [hV1]; exact (ownNd_two V (bareNd 16)).at
      exact h9.below hb2 (by omega)
    have hP : Parts V2 (V.heap.size + 1) [x0, x1, x2, [bareNd 16]] := by
      refine ⟨by omega, fun j y hy => ?_⟩
      match j, hy with
      | 0, hy =>
        obtain rfl := Option.some.inj hy
        exact ⟨b0, o0, c0, by rw [hV2, ← hz1]; simp, HO0.out.2.1.below kb HO0.out.2.2, by have := kb.size; have := HO0.out.2.2; omega⟩
      | 1, hy =>
        obtain rfl := Option.some.inj hy
        exact ⟨b1, o1, c1, by rw [hV2, ← hz1]; simp, HO1.out.2.1.below kb HO1.out.2.2, by have := kb.size; have := HO1.out.2.2; omega⟩
      | 2, hy =>
        obtain rfl := Option.some.inj hy
        exact ⟨b2, o2, c2, by rw [hV2, ← hz1]; simp, HO2.out.2.1.below kb HO2.out.2.2, by have := kb.size; have := HO2.out.2.2; omega⟩
      | 3, hy =>
        obtain rfl := Option.some.inj hy
        exact ⟨V.heap.size, 0, 1, by rw [hV2, ← hz1]; simp, hN, by omega⟩
      | m + 4, hy => simp at hy
    have hc := concatN_core (V.heap.size + 1) 4 _ V2 hP (by simp; have := HO0.out.1.len; have := HO1.out.1.len; have := HO2.out.1.len; omega) rfl (by omega)
    refine hc.mono ?_
    intro r w' hr
    rw [show [x0, x1, x2, [bareNd 16]].flatten = y by rw [HY.out]; simp] at hr
    exact cat_post kb (by rw [HY.out]; simp) hr
  rw [← hz1] at HCt
  go_wp2_with fail
  rw [← hV1, ← hV2]
  clear hV1 hV2
  rw [hz1] at HCt
  refine HCt.out.mono ?_
  rintro r w3 hr3
  have HR3 : Hid (NmI S y w r w3) := hr3
  obtain ⟨v3, rfl, _⟩ := hr3
  go_wp2_with fail
  go_ret
  exact HR3.out
end Go.Proofs.Ytiaokgoppjindaa

/-
  A region that draws its order and whose last operation stores: what is read ahead of it is taken first.
-/
namespace Go.Proofs.Ytiaokgoppjindaa
open Go.ChangeShapes Go.WideShapes Go.ChangeAt Go.RowKit Go.Deep
set_option linter.unusedVariables false

section
variable {P : Program} {ops : Array Oper} {Q : Exit → Act → World → Prop} {md : Region.Mode} {S : World → Prop} {L : Nat}

/-- Whatever order is picked: 'S' holds behind every operation but number 'L'. -/
def AnyT (P : Program) (md : Region.Mode) (ops : Array Oper) (Q : Exit → Act → World → Prop) (S : World → Prop) (L : Nat) : Nat → Array Bool → Act → World → Prop
  | 0, listed, a, w => Region.ready md ops listed = [] ∧ Q .normal a w
  | fuel + 1, listed, a, w =>
    (Region.ready md ops listed = [] → Q .normal a w) ∧
    ∀ i ∈ Region.ready md ops listed, wpOp P ops Q i (fun a' w' => (i = L ∨ S w') ∧ AnyT P md ops Q S L fuel (listed.setIfInBounds i true) a' w') a w
theorem any_of_T : ∀ (fuel : Nat) (listed : Array Bool) (a : Act) (w : World), AnyT P md ops Q S L fuel listed a w → wpAny P md ops Q fuel listed a w
  | 0, _, _, _, h => h
  | fuel + 1, _, _, _, h => ⟨h.1, fun i hi => wpOp_mono (fun a' w' h' => any_of_T fuel _ a' w' h'.2) (h.2 i hi)⟩
/-- Operation 'L' waits for number 'i'. -/
def waitsT (md : Region.Mode) (ops : Array Oper) (L i : Nat) : Bool := ((ops[L]?).map (fun o => o.after.any fun e => Region.binds md e && e.on == i)).getD false
theorem anyT_first {i : Nat} {oi : Oper} {v : Value} (hi : ops[i]? = some oi) (hsel : ∀ (j : Nat) (o : Oper) cs b, ops[j]? = some o → o.op ≠ .select cs b)
    (hQ : ∀ c a w, Q (.panic c) (a.put oi.dst v) w → Q (.panic c) a w) (hL : waitsT md ops L i = true) (hne : i ≠ L) :
    ∀ (fuel : Nat) (listed : Array Bool) (a : Act) (w : World),
      (∀ j oj, ops[j]? = some oj → j ≠ i → listed.getD j true = false → (∀ e ∈ oj.after, Region.binds md e = true → e.on ≠ i) → oi.apart ops oj = true) →
      i ∈ Region.ready md ops listed → YieldsIf P ops S oi v a → S w →
      AnyT P md ops Q S L fuel (listed.setIfInBounds i true) (a.put oi.dst v) w → AnyT P md ops Q S L (fuel + 1) listed a w := by
  intro fuel
  induction fuel with
  | zero =>
    intro listed a w _ hr hy hS H
    refine ⟨fun h => (by rw [h] at hr; cases hr), fun j hj => ?_⟩
    by_cases hji : j = i
    · subst hji; exact hy.wpOp hi hS ⟨.inr hS, H⟩
    · have := ready_mono hj hji
      rw [H.1] at this
      cases this
  | succ fuel ih =>
    intro listed a w hfree hr hy hS H
    refine ⟨fun h => (by rw [h] at hr; cases hr), fun j hj => ?_⟩
    by_cases hji : j = i
    · subst hji; exact hy.wpOp hi hS ⟨.inr hS, H⟩
    · have h1 := H.2 j (ready_mono hj hji)
      obtain ⟨hjun, oj, hoj, hall⟩ := mem_ready.1 hj
      have hnot : ∀ e ∈ oj.after, Region.binds md e = true → e.on ≠ i := fun e he hb heq => by
        have h1 := hall e he hb
        have h0 := (mem_ready.1 hr).1
        rw [heq] at h1
        rcases Nat.lt_or_ge i listed.size with h' | h'
        · simp [h'] at h0 h1; rw [h0] at h1; cases h1
        · simp [Array.getElem?_eq_none h'] at h1
      have hjL : j ≠ L := fun q => by
        subst q
        unfold waitsT at hL
        rw [hoj] at hL
        simp only [Option.map_some, Option.getD_some, Array.any_eq_true] at hL
        obtain ⟨k, hk, hb⟩ := hL
        rw [Bool.and_eq_true, beq_iff_eq] at hb
        exact hnot _ (Array.getElem_mem hk) hb.1 hb.2
      have h2 := wpOp_putIf hoj (hfree j oj hoj hji hjun hnot) (fun cs b => hsel i oi cs b hi) (fun cs b => hsel j oj cs b hoj) hQ hy h1
      have hfree' : ∀ k ok, ops[k]? = some ok → k ≠ i → (listed.setIfInBounds j true).getD k true = false →
          (∀ e ∈ ok.after, Region.binds md e = true → e.on ≠ i) → oi.apart ops ok = true := fun k ok hk hki hun hno => by
        refine hfree k ok hk hki ?_ hno
        by_cases hjk : j = k
        · subst hjk; exact hjun
        · rw [getD_set_ne true hjk] at hun; exact hun
      refine wpOp_mono (fun a' w' h3 => ⟨h3.2.1, ih (listed.setIfInBounds j true) a' w' hfree' (ready_mono hr (Ne.symm hji)) h3.1 (h3.2.1.resolve_left hjL) ?_⟩) h2
      rw [Array.setIfInBounds_comm _ _ hji]
      exact h3.2.2
theorem anyT_take {i : Nat} {oi : Oper} {v : Value} {fuel : Nat} {listed : Array Bool} {a : Act} {w : World} (hi : ops[i]? = some oi)
    (hs : Region.noSelect ops = true) (hf : Region.free md ops listed i = true) (hr : (Region.ready md ops listed).contains i = true) (hL : waitsT md ops L i = true) (hne : i ≠ L)
    (hQ : ∀ c a w, Q (.panic c) (a.put oi.dst v) w → Q (.panic c) a w) (hy : YieldsIf P ops S oi v a) (hS : S w)
    (h : AnyT P md ops Q S L fuel (listed.setIfInBounds i true) (a.put oi.dst v) w) : AnyT P md ops Q S L (fuel + 1) listed a w :=
  anyT_first hi (Region.noSelect_spec hs) hQ hL hne fuel listed a w (Region.free_spec hi hf) (by simpa using hr) hy hS h
/-- One operation alone may come up. -/
theorem anyT_one {i : Nat} {o : Oper} {fuel : Nat} {listed : Array Bool} {a : Act} {w : World} (hr : Region.ready md ops listed = [i]) (ho : ops[i]? = some o)
    (h : ∀ K' : Act → World → Prop, Shut (∀ a w, (i = L ∨ S w) → AnyT P md ops Q S L fuel (listed.setIfInBounds i true) a w → K' a w) → if Region.wanted o (yielded ops a.tmps) = true then Oper.wp P o a w K' Q else K' (a.put o.dst undef) w) :
    AnyT P md ops Q S L (fuel + 1) listed a w := by
  refine ⟨fun h0 => (by rw [hr] at h0; cases h0), fun j hj => ?_⟩
  rw [hr] at hj
  simp at hj
  subst hj
  exact wpOp_step ho (fun K' hK => h K' (fun a w hS hW => hK a w ⟨hS, hW⟩))
/-- Either of two may come up. -/
theorem anyT_two {i j : Nat} {o q : Oper} {fuel : Nat} {listed : Array Bool} {a : Act} {w : World} (hr : Region.ready md ops listed = [i, j]) (ho : ops[i]? = some o) (hq : ops[j]? = some q)
    (h : ∀ K' : Act → World → Prop, Shut (∀ a w, (i = L ∨ S w) → AnyT P md ops Q S L fuel (listed.setIfInBounds i true) a w → K' a w) → if Region.wanted o (yielded ops a.tmps) = true then Oper.wp P o a w K' Q else K' (a.put o.dst undef) w)
    (h' : ∀ K' : Act → World → Prop, Shut (∀ a w, (j = L ∨ S w) → AnyT P md ops Q S L fuel (listed.setIfInBounds j true) a w → K' a w) → if Region.wanted q (yielded ops a.tmps) = true then Oper.wp P q a w K' Q else K' (a.put q.dst undef) w) :
    AnyT P md ops Q S L (fuel + 1) listed a w := by
  refine ⟨fun h0 => (by rw [hr] at h0; cases h0), fun k hk => ?_⟩
  rw [hr] at hk
  simp at hk
  rcases hk with rfl | rfl
  · exact wpOp_step ho (fun K' hK => h K' (fun a w hS hW => hK a w ⟨hS, hW⟩))
  · exact wpOp_step hq (fun K' hK => h' K' (fun a w hS hW => hK a w ⟨hS, hW⟩))
theorem anyT_done {fuel : Nat} {listed : Array Bool} {a : Act} {w : World} (hr : Region.ready md ops listed = []) (h : Q .normal a w) : AnyT P md ops Q S L fuel listed a w := by
  cases fuel with
  | zero => exact ⟨hr, h⟩
  | succ n => exact ⟨fun _ => h, by rw [hr]; simp⟩
theorem wp_region_T {id : Nat} {a : Act} {w : World} (L : Nat) (S : World → Prop) (hm : P.follows .mixedOrders = true)
    (h : AnyT P .any ops Q S L ops.size (Array.replicate ops.size false) a w.drew) : (Code.region id ops true).wp P Q a w :=
  wp_region_any hm (any_of_T _ _ _ _ h)
end
end Go.Proofs.Ytiaokgoppjindaa

