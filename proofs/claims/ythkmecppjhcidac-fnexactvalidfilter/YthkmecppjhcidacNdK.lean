/-
  spec.l5Kids, l5Nest.
-/
import Derived.Test.YthkmecppjhcidacNdT
import Derived.Maps.AppendAt
namespace Go.Proofs.Ythkmecppjhcidac
open Go.ChangeShapes Go.WideShapes Go.ChangeAt Go.RowKit Go.Deep
set_option linter.unusedVariables false
set_option linter.unusedSimpArgs false
set_option maxRecDepth 100000

/-- A list of lists of nodes of the call's own. -/
def OwnV (w : World) (base g cp : Nat) (us : List Value) : Prop := w.ownsRow base 38 1 (.slice (some ⟨g, 0, none⟩) us.length cp) us.length us
theorem OwnV.lt {w : World} {base g cp : Nat} {us : List Value} (h : OwnV w base g cp us) : base ≤ g ∧ g < w.heap.size := World.ownsRow.lt h g rfl
theorem OwnV.below {w w' : World} {base g cp : Nat} {us : List Value} (h : OwnV w base g cp us) (hb : Below w.heap.size w w') : OwnV w' base g cp us := own_chg h (Chg.of_below hb) (S := fun _ => False) (fun k q z => z)
theorem OwnV.cell {w : World} {base g cp : Nat} {us : List Value} (h : OwnV w base g cp us) {j : Nat} {v : Value} (hv : us[j]? = some v) : w.cell? ⟨g, j, none⟩ = some v := by
  have hj := (List.getElem?_eq_some_iff.1 hv).1
  rw [World.ownsRow.cellAt h j (by omega), hv]
theorem OwnV.caps {w : World} {base g cp : Nat} {us : List Value} (h : OwnV w base g cp us) : us.length ≤ cp ∧ cp ≤ maxLen := by
  rcases h.2 with ⟨h0, _⟩ | ⟨g', cap', cur, hv, _, _, hn, hcap, _, _⟩
  · cases h0
  · simp only [Value.slice.injEq, Option.some.injEq, Addr.mk.injEq, and_true, true_and] at hv
    obtain ⟨rfl, rfl⟩ := hv
    exact ⟨hn, hcap⟩
theorem ownV_new (w : World) {base : Nat} (hb : base ≤ w.heap.size) : OwnV (w.alloc (Obj.cells #[] 38)) base w.heap.size 0 [] :=
  World.ownsRow_made w #[] 0 hb (Nat.zero_le _) (by simp)
theorem ownV_one (w : World) {base : Nat} (hb : base ≤ w.heap.size) (v : Value) : OwnV (w.alloc (Obj.cells #[v] 38)) base w.heap.size 1 [v] :=
  World.ownsRow_lit w #[v] 1 hb (by decide) rfl
theorem Try.infoNds : (Try.prog.info? 38).map (fun i => (i.zero, i.size, i.bytes)) = some (some (.slice none 0 0), 1, 24) := by kernel_rfl
theorem wpList_append_nds {ops : Array Oper} {rest : List Oper} {oo : Oper} {a : Act} {Q : Exit → Act → World → Prop} (w : World) (hgd : oo.guard = none) (s x : Operand)
    (ho : oo.op = .call { callee := .builtin .append, args := #[s, x], argTypes := #[121, 121] })
    (base gq cp n b m cx : Nat) (us vs : List Value) (hs : a.eval s = .slice (some ⟨gq, 0, none⟩) n cp) (hx : a.eval x = .slice (some ⟨b, 0, none⟩) m cx) (hn : n = us.length) (hm : m = vs.length) (hO : OwnV w base gq cp us)
    (hc : ∀ (j : Nat) v, vs[j]? = some v → w.cell? ⟨b, j, none⟩ = some v) (hy : ∀ v ∈ vs, v.oneCell' = true) (hlen : us.length + vs.length ≤ 1000) (hbase : base ≤ w.heap.size)
    (h : ∀ g' cp' w', OwnV w' base g' cp' (us ++ vs) → w.grownBy w' (some gq) → (g' = gq ∨ g' = w.heap.size) → wpList Try.prog ops Q rest (a.put oo.dst (.slice (some ⟨g', 0, none⟩) (n + m) cp')) w') : wpList Try.prog ops Q (oo :: rest) a w := by
  subst hn hm
  obtain ⟨i, hi, hz0, hz1, hz2⟩ := info_parts Try.infoNds
  refine wpList_append_own_at w hgd s x 121 ho base 38 i _ 1 24 Try.underlying121 hi hz0 hz1 hz2 rfl (by decide) (.slice (some ⟨gq, 0, none⟩) us.length cp) us.length us hs hO ⟨b, 0, none⟩ vs.length cx vs hx (by simp) ?_ hy ?_ ?_ hbase ?_
  · intro j u hu
    rw [Addr.add_mid, Nat.zero_add]; exact hc j u hu
  · unfold maxLen; omega
  · omega
  · intro v' w' hO' hgr hnil hat
    rcases hO'.2 with ⟨h0, _⟩ | ⟨g', cap', cur, hv, _, _, hn, hcap, _, _⟩
    · have := (hnil.1 h0).1
      cases this
    · subst hv
      refine h g' cap' w' ?_ hgr ?_
      · unfold OwnV
        rw [List.length_append]
        exact hO'
      · simp [Value.ownBlock] at hat
        exact hat
/-- The windows of operands, one behind another. -/
def kidVs (b : Nat) : Nat → Nat → List (List Nd) → List Value
  | _, _, [] => []
  | o, cap, k :: ks => .slice (some ⟨b, o, none⟩) k.length cap :: kidVs b (o + k.length * 7) (cap - k.length) ks
theorem kidVs_len (b : Nat) : ∀ (o cap : Nat) (ks : List (List Nd)), (kidVs b o cap ks).length = ks.length
  | _, _, [] => rfl
  | o, cap, k :: ks => by simp [kidVs, kidVs_len]
theorem kidVs_one (b : Nat) : ∀ (o cap : Nat) (ks : List (List Nd)), ∀ v ∈ kidVs b o cap ks, v.oneCell' = true
  | _, _, [], v, h => by cases h
  | o, cap, k :: ks, v, h => by
    rcases List.mem_cons.1 h with rfl | h
    · rfl
    · exact kidVs_one b _ _ ks v h
theorem NdsAt.part {w : World} {b o : Nat} {xs ys : List Nd} (h : NdsAt w b o (xs ++ ys)) : NdsAt w b o xs ∧ NdsAt w b (o + xs.length * 7) ys := by
  refine ⟨fun i e he => h i e (by rw [List.getElem?_append_left (List.getElem?_eq_some_iff.1 he).1]; exact he), fun i e he => ?_⟩
  have := h (xs.length + i) e (by rw [List.getElem?_append_right (by omega), Nat.add_sub_cancel_left]; exact he)
  rw [Nat.add_mul, ← Nat.add_assoc] at this
  exact this
/-- Each window holds its operand. -/
theorem kidVs_nth {w : World} {b : Nat} : ∀ {ks : List (List Nd)} {o cap : Nat} {rest : List Nd}, Win w b o cap (ks.flatten ++ rest) → ∀ {j : Nat} {k : List Nd}, ks[j]? = some k → ∃ o' cap', (kidVs b o cap ks)[j]? = some (.slice (some ⟨b, o', none⟩) k.length cap') ∧ Win w b o' cap' k
  | [], _, _, _, _, j, k, h => by simp at h
  | a :: ks, o, cap, rest, hW, j, k, h => by
    simp only [List.flatten_cons, List.append_assoc] at hW
    have hp := hW.at_.part
    have hl := hW.len
    have hc := hW.cap
    simp only [List.length_append] at hl
    cases j with
    | zero =>
      simp at h
      subst h
      exact ⟨o, cap, rfl, hp.1, hW.lt, by omega, hc⟩
    | succ j =>
      simp at h
      exact kidVs_nth (ks := ks) (o := o + a.length * 7) (cap := cap - a.length) (rest := rest) ⟨hp.2, hW.lt, by simp only [List.length_append]; omega, by omega⟩ h
structure KiJ (w : World) (b o cap : Nat) (pre suf : List (List Nd)) (g cp : Nat) (wr : World) : Prop where
  own : OwnV wr w.heap.size g cp (kidVs b (o + pre.flatten.length * 7) (cap - pre.flatten.length) suf)
  below : Below w.heap.size w wr
set_option maxHeartbeats 4000000 in
theorem l5Kids_core {w : World} {b o cap : Nat} {ks : List (List Nd)} {e : Nd} (h : Win w b o cap (ks.flatten ++ [e])) (hk : ks.length = arity e.kind) (hT : ∀ k ∈ ks, IsT 1 k) :
    Calls Try.prog 70 #[.slice (some ⟨b, o, none⟩) (ks.flatten.length + 1) cap] w fun r w' => ∃ g cp, r = .returned (.slice (some ⟨g, 0, none⟩) ks.length cp) ∧ OwnV w' w.heap.size g cp (kidVs b o cap ks) ∧ Below w.heap.size w w' := by
  have HW : Hid (Win w b o cap (ks.flatten ++ [e]) ∧ ∀ k ∈ ks, IsT 1 k) := ⟨h, hT⟩
  have hkind := h.kind (i := ks.flatten.length) (e := e) (by simp)
  have h1 := h.len
  have h2 := h.cap
  obtain ⟨n, hn⟩ : ∃ n, n = ks.flatten.length := ⟨_, rfl⟩
  have HN : Hid (n = ks.flatten.length) := hn
  rw [List.length_append, List.length_singleton] at h1
  rw [← hn] at hkind h1 ⊢
  have ha := arity_le e.kind
  have HA : Hid (ks.length = arity e.kind) := hk
  obtain ⟨W0, hW0⟩ : ∃ W0 : World, W0 = w.alloc (Obj.cells #[] 38) := ⟨_, rfl⟩
  have HW0 : Hid (KiJ w b o cap ks [] w.heap.size 0 W0) := by
    rw [hW0]; exact ⟨ownV_new w (Nat.le_refl _), (Below.refl _ _).alloc (Nat.le_refl _) _⟩
  have hkind0 : W0.cell? ⟨b, o + n * 7, none⟩ = some (.int .i64 e.kind) := by
    rw [(Chg.of_below HW0.out.below (S := fun _ => False)).cell (p := ⟨b, o + n * 7, none⟩) h.lt (fun q => q)]; exact hkind
  obtain ⟨a, hak⟩ : ∃ a, a = arity e.kind := ⟨_, rfl⟩
  have HAr : Hid (Calls Try.prog 96 #[.int .i64 e.kind] W0 fun r w' => r = .returned (.int .i64 (a : Int)) ∧ w' = W0) := by
    rw [hak]; exact l5Arity_core e.kind W0
  have HAk : Hid (ks.length = a) := by rw [hak]; exact hk
  rw [hk, ← hak]
  rw [← hak] at ha
  clear h hn hT hk hkind HA hak
  go_enter Try.func70, Try.ntmps70
  go_upto_region 3 with fail
  rw [← hW0]
  clear hW0
  go_wp2_with fail
  refine HAr.out.mono ?_
  rintro r w1 ⟨rfl, hw1⟩
  rw [hw1]
  clear hw1 hkind0 HAr
  go_wp2_with fail
  go_loopw [3, 4, 5] (fun rv ov kv wr => ∃ (c m g cp : Nat) (pre suf : List (List Nd)), ks = pre ++ suf ∧ pre.length = c ∧ suf.length + c = a ∧ m = pre.flatten.length ∧ m ≤ n ∧ kv = .int .i64 (c : Int) ∧ rv = .slice (some ⟨b, o, none⟩) m cap ∧ ov = .slice (some ⟨g, 0, none⟩) suf.length cp ∧ KiJ w b o cap pre suf g cp wr) (fun _ _ kv _ => (intOf kv).toNat)
  case atStart => exact ⟨a, n, _, 0, ks, [], by simp, HAk.out, by simp, HN.out, Nat.le_refl _, rfl, rfl, rfl, HW0.out⟩
  case round =>
    obtain ⟨c, m, g, cp, pre, suf, hks, hpl, hsl, hm, hmn, rfl, rfl, rfl, hJ⟩ := hrel
    have HJ : Hid (KiJ w b o cap pre suf g cp wr ∧ ks = pre ++ suf ∧ m = pre.flatten.length ∧ pre.length = c) := ⟨hJ, hks, hm, hpl⟩
    have hgl := hJ.own.lt
    have hsz := hJ.below.size
    clear hJ hks hm hpl HW0
    obtain ⟨q, hq⟩ : ∃ q, q = suf.length := ⟨_, rfl⟩
    have HQ : Hid (q = suf.length) := hq
    rw [← hq] at hsl ⊢
    clear hq
    by_cases hc0 : c = 0
    · subst hc0
      have HF : Hid (pre = [] ∧ q = a) := ⟨List.length_eq_zero_iff.1 HJ.out.2.2.2, by omega⟩
      go_wp2_with fail
      go_ret
      have hp := HF.out.1
      have hj := HJ.out.1.own
      have hs := HJ.out.2.1
      rw [hp] at hj hs
      simp at hj hs
      refine ⟨g, cp, by rw [← HF.out.2]; rfl, by rw [hs]; exact hj, HJ.out.1.below⟩
    · obtain ⟨c', rfl⟩ : ∃ c', c = c' + 1 := ⟨c - 1, by omega⟩
      have zc : (0 : Int) < (c' : Int) + 1 := by omega
      obtain ⟨pre', k, hpre⟩ : ∃ pre' k, pre = pre' ++ [k] := by
        rcases List.eq_nil_or_concat pre with h | ⟨p', k, h⟩
        · have := HJ.out.2.2.2; rw [h] at this; simp at this
        · exact ⟨p', k, by rw [h, List.concat_eq_append]⟩
      obtain ⟨m', hm'⟩ : ∃ m', m' = pre'.flatten.length := ⟨_, rfl⟩
      have hmm : m = m' + k.length := by rw [HJ.out.2.2.1, hpre, hm']; simp
      have hkT : IsT 1 k := HW.out.2 k (by rw [HJ.out.2.1, hpre]; simp)
      have hk1 := hkT.len
      have hwin : Win wr b o cap pre.flatten := by
        have hw := HW.out.1
        rw [HJ.out.2.1] at hw
        simp only [List.flatten_append, List.append_assoc] at hw
        refine Win.below ⟨hw.at_.part.1, hw.lt, ?_, hw.cap⟩ HJ.out.1.below
        have := hw.len
        simp only [List.length_append] at this ⊢
        omega
      have HC : Hid (Calls Try.prog 68 #[.slice (some ⟨b, o, none⟩) m cap] wr fun r w' => r = .returned (.int .i64 (m' : Int)) ∧ w' = wr) := by
        have hf := l5From_core hwin
        rw [← HJ.out.2.2.1] at hf
        refine hf.mono ?_
        have hdrop : pre.flatten.drop m' = k := by rw [hpre, hm']; simp
        rintro r w2 ⟨hw2, (⟨i, rfl, hi, hTi⟩ | ⟨rfl, hTi⟩)⟩
        · refine ⟨?_, hw2⟩
          have hml : m' ≤ pre.flatten.length := by rw [hpre, hm']; simp
          have : i = m' := by
            rcases Nat.le_total i m' with hle | hle
            · exact tree_one hTi (by rw [hdrop]; exact hkT) hle hml
            · exact (tree_one (by rw [hdrop]; exact hkT) hTi hle hi).symm
          rw [this]
        · exact absurd (by rw [hdrop]; exact hkT) (hTi m' (by rw [hpre, hm']; simp))
      have HP : Hid (pre = pre' ++ [k] ∧ m' = pre'.flatten.length ∧ IsT 1 k ∧ m = m' + k.length) := ⟨hpre, hm', hkT, hmm⟩
      have hmle : m' ≤ m := by omega
      have z1 : (m' : Int) ≤ (m : Int) := by omega
      have z2 : (m : Int) ≤ (cap : Int) := by omega
      have z3 : (m' : Int) ≤ (cap : Int) := by omega
      clear hwin hkT hpre hm' hmm hk1
      go_wp2_with fail
      refine HC.out.mono ?_
      rintro r w2 ⟨rfl, hw2⟩
      rw [hw2]
      clear hw2 HC
      obtain ⟨W5, hW5⟩ : ∃ W5 : World, W5 = wr.alloc (Obj.cells #[.slice (some ⟨b, o + m' * 7, none⟩) (m - m') (cap - m')] 38) := ⟨_, rfl⟩
      have hb5 : Below wr.heap.size wr W5 := by rw [hW5]; exact (Below.refl _ _).alloc (Nat.le_refl _) _
      have hz5 : W5.heap.size = wr.heap.size + 1 := by rw [hW5]; simp
      have HW5 : Hid (OwnV W5 w.heap.size wr.heap.size 1 [.slice (some ⟨b, o + m' * 7, none⟩) (m - m') (cap - m')] ∧ OwnV W5 w.heap.size g cp (kidVs b (o + pre.flatten.length * 7) (cap - pre.flatten.length) suf) ∧ Below w.heap.size w W5) := by
        refine ⟨?_, HJ.out.1.own.below hb5, HJ.out.1.below.trans (hb5.mono hsz)⟩
        rw [hW5]; exact ownV_one wr hsz _
      go_wp2_with (at_builtin; rw [← hW5]; refine wpList_append_nds _ rfl _ _ rfl w.heap.size wr.heap.size 1 1 g q cp [.slice (some ⟨b, o + m' * 7, none⟩) (m - m') (cap - m')] (kidVs b (o + pre.flatten.length * 7) (cap - pre.flatten.length) suf) rfl rfl rfl ?hm ?hO ?hc ?hy ?hl ?hb ?_)
      case hm => rw [kidVs_len]; exact HQ.out
      case hO => exact HW5.out.1
      case hc => exact fun j v hv => HW5.out.2.1.cell hv
      case hy => exact kidVs_one _ _ _ _
      case hl => rw [kidVs_len, ← HQ.out]; simp; omega
      case hb => omega
      intro g' cp' w' hO' hgr hat
      rw [← hW5] at hgr
      have HJ6 : Hid (KiJ w b o cap pre' (k :: suf) g' cp' w' ∧ ks = pre' ++ (k :: suf) ∧ pre'.length = c' ∧ (k :: suf).length = q + 1) := by
        have hP := HP.out
        refine ⟨⟨?_, HW5.out.2.2.grown hgr (by omega) (fun j hj => by cases hj; omega)⟩, by rw [HJ.out.2.1, hP.1]; simp, ?_, by rw [HQ.out]; rfl⟩
        · have e1 : (List.map List.length pre).sum = m' + k.length := by rw [← List.length_flatten, ← HJ.out.2.2.1]; exact hP.2.2.2
          rw [e1] at hO'
          have e2 : m - m' = k.length := by omega
          rw [e2] at hO'
          have e3 : o + (m' + k.length) * 7 = o + m' * 7 + k.length * 7 := by omega
          have e4 : cap - (m' + k.length) = cap - m' - k.length := by omega
          rw [e3, e4] at hO'
          rw [← hP.2.1]
          exact hO'
        · have := HJ.out.2.2.2
          rw [hP.1] at this
          simpa using this
      clear hO' hgr hat hW5 hb5
      go_wp2_with fail
      go_roundw
      case rel => exact ⟨c', m', g', cp', pre', k :: suf, HJ6.out.2.1, HJ6.out.2.2.1, by have := HJ6.out.2.2.2; omega, HP.out.2.1, by omega, by go_num, rfl, by rw [HJ6.out.2.2.2]; go_num, HJ6.out.1⟩
      case measure => simp [intOf] <;> omega
end Go.Proofs.Ythkmecppjhcidac
