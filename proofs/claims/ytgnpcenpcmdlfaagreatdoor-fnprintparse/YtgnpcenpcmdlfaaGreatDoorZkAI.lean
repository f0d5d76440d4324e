import Derived.WalkLawsBesides
import Derived.Deep.WholeRow
import Derived.Test.YtgnpcenpcmdlfaaGreatDoorRPrT
import Derived.Test.YtgnpcenpcmdlfaaGreatDoorZkAE
import Derived.Test.YtgnpcenpcmdlfaaGreatDoorZkAH
import Derived.Test.YtgnpcenpcmdlfaaGreatDoorZkAA
/-
  spec.l5Text.
-/
namespace Go.Proofs.YtgnpcenpcmdlfaaGreatDoor
open Go.ChangeShapes Go.WideShapes Go.ChangeAt Go.RowKit Go.Deep
set_option linter.unusedVariables false
set_option linter.unusedSimpArgs false
set_option maxRecDepth 100000

/-- Bytes handed back: where, and how long they are. -/
def TxP (X : List UInt8) (w : World) (r : Ending) (w' : World) : Prop := ∃ g cp, r = .returned (.slice (some ⟨g, 0, none⟩) X.length cp) ∧ WrB w' w.heap.size g cp X ∧ Below w.heap.size w w'
def TxC (n : Nat) : Prop := ∀ (w : World) (b o cap : Nat) (xs : List Nd) (y : PT), xs.length ≤ n → xs.length ≤ 200 → Win w b o cap xs → TextF xs y → (∀ e ∈ xs, GoodN e ∧ NumN e) → Calls Tryz.prog 41 #[.slice (some ⟨b, o, none⟩) xs.length cap] w (TxP y.2 w)
/-- A list of slices of bytes of the call's own. -/
def OwnVy (w : World) (base g cp : Nat) (us : List Value) : Prop := w.ownsRow base 22 1 (.slice (some ⟨g, 0, none⟩) us.length cp) us.length us
theorem OwnVy.lt {w : World} {base g cp : Nat} {us : List Value} (h : OwnVy w base g cp us) : base ≤ g ∧ g < w.heap.size := World.ownsRow.lt h g rfl
theorem OwnVy.chg {S : Nat → Prop} {w w' : World} {base g cp : Nat} {us : List Value} (h : OwnVy w base g cp us) (hc : Chg S w w') (hn : ¬ S g) : OwnVy w' base g cp us := own_chg h hc (fun k q => by simp [Value.ownBlock] at q; subst q; exact hn)
theorem OwnVy.below {w w' : World} {base g cp : Nat} {us : List Value} (h : OwnVy w base g cp us) (hb : Below w.heap.size w w') : OwnVy w' base g cp us := h.chg (Chg.of_below hb) (S := fun _ => False) (fun z => z)
theorem OwnVy.cell {w : World} {base g cp : Nat} {us : List Value} (h : OwnVy w base g cp us) {j : Nat} {v : Value} (hv : us[j]? = some v) : w.cell? ⟨g, j, none⟩ = some v := by
  have hj := (List.getElem?_eq_some_iff.1 hv).1
  rw [World.ownsRow.cellAt h j (by omega), hv]
theorem ownVy_new (w : World) {base : Nat} (hb : base ≤ w.heap.size) : OwnVy (w.alloc (Obj.cells #[] 22)) base w.heap.size 0 [] :=
  World.ownsRow_made w #[] 0 hb (Nat.zero_le _) (by simp)
theorem Tryz.infoBs : (Tryz.prog.info? 22).map (fun i => (i.zero, i.size, i.bytes)) = some (some (.slice none 0 0), 1, 24) := by kernel_rfl
theorem wpList_append_vy {ops : Array Oper} {rest : List Oper} {oo : Oper} {a : Act} {Q : Exit → Act → World → Prop} (w : World) (hgd : oo.guard = none) (s x : Operand)
    (ho : oo.op = .call { callee := .builtin .append, args := #[s, x], argTypes := #[120, 120] })
    (base gq cp n b : Nat) (us : List Value) (v : Value) (hs : a.eval s = .slice (some ⟨gq, 0, none⟩) n cp) (hx : a.eval x = .slice (some ⟨b, 0, none⟩) 1 1) (hn : n = us.length) (hO : OwnVy w base gq cp us)
    (hc : w.cell? ⟨b, 0, none⟩ = some v) (hy : v.oneCell' = true) (hlen : us.length + 1 ≤ 1000) (hbase : base ≤ w.heap.size)
    (h : ∀ g' cp' w', OwnVy w' base g' cp' (us ++ [v]) → w.grownBy w' (some gq) → (g' = gq ∨ g' = w.heap.size) → wpList Tryz.prog ops Q rest (a.put oo.dst (.slice (some ⟨g', 0, none⟩) (n + 1) cp')) w') : wpList Tryz.prog ops Q (oo :: rest) a w := by
  subst hn
  obtain ⟨i, hi, hz0, hz1, hz2⟩ := info_parts Tryz.infoBs
  refine wpList_append_own_at w hgd s x 120 ho base 22 i _ 1 24 Tryz.underlying120 hi hz0 hz1 hz2 rfl (by decide) (.slice (some ⟨gq, 0, none⟩) us.length cp) us.length us hs hO ⟨b, 0, none⟩ 1 1 [v] hx (by simp) ?_ (by intro u hu; simp at hu; subst hu; exact hy) ?_ ?_ hbase ?_
  · intro j u hu
    have hj : j = 0 := by have := (List.getElem?_eq_some_iff.1 hu).1; simpa using this
    subst hj
    simp at hu
    subst hu
    rw [Addr.add_mid]; exact hc
  · unfold maxLen; omega
  · omega
  · intro v' w' hO' hgr hnil hat
    rcases hO'.2 with ⟨h0, _⟩ | ⟨g', cap', cur, hv, _, _, hn, hcap, _, _⟩
    · have := (hnil.1 h0).1
      cases this
    · subst hv
      refine h g' cap' w' ?_ hgr ?_
      · unfold OwnVy
        rw [List.length_append]
        exact hO'
      · simp [Value.ownBlock] at hat
        exact hat
/-- The texts of the operands so far. -/
structure TxJ (w : World) (k : Int) (os : List PT) (kg kc : Nat) (kv : List Value) (i g cp : Nat) (us : List Value) (wr : World) : Prop where
  kids : OwnV wr w.heap.size kg kc kv
  own : OwnVy wr w.heap.size g cp us
  ne : ¬ kg = g
  len : us.length = i
  txt : ∀ (j : Nat) (x : PT), j < i → os[j]? = some x → ∃ b c, us[j]? = some (.slice (some ⟨b, 0, none⟩) (wrapT k j x).length c) ∧ BysAt wr b 0 (wrapT k j x) ∧ w.heap.size ≤ b ∧ b < wr.heap.size ∧ ¬ b = g
  below : Below w.heap.size w wr
theorem TxJ.move {w : World} {k : Int} {os : List PT} {kg kc : Nat} {kv : List Value} {i g cp : Nat} {us : List Value} {wr w' : World} (h : TxJ w k os kg kc kv i g cp us wr) (hb : Below wr.heap.size wr w') : TxJ w k os kg kc kv i g cp us w' := by
  have hs := hb.size
  refine ⟨h.kids.below hb, h.own.below hb, h.ne, h.len, fun j x hj hx => ?_, h.below.trans (hb.mono h.below.size)⟩
  obtain ⟨b, c, h1, h2, h3, h4, h5⟩ := h.txt j x hj hx
  exact ⟨b, c, h1, h2.below hb h4, h3, by omega, h5⟩
theorem TxJ.push {w : World} {k : Int} {os : List PT} {kg kc : Nat} {kv : List Value} {i g cp g' cp' : Nat} {us : List Value} {wr w' : World} {b c : Nat} {x : PT} (h : TxJ w k os kg kc kv i g cp us wr) (hO : OwnVy w' w.heap.size g' cp' (us ++ [.slice (some ⟨b, 0, none⟩) (wrapT k i x).length c])) (hgr : wr.grownBy w' (some g)) (hat : g' = g ∨ g' = wr.heap.size) (hx : os[i]? = some x) (hE : BysAt wr b 0 (wrapT k i x)) (hb1 : w.heap.size ≤ b) (hb2 : b < wr.heap.size) (hb3 : ¬ b = g) : TxJ w k os kg kc kv (i + 1) g' cp' (us ++ [.slice (some ⟨b, 0, none⟩) (wrapT k i x).length c]) w' := by
  have hC : Chg (fun q => q = g) wr w' := Chg.of_grown hgr (fun q hq => by cases hq; rfl)
  have hs := hgr.size
  have hgl := h.own.lt
  have hkl := h.kids.lt
  refine ⟨own_chg h.kids hC (fun q hq => by simp [Value.ownBlock] at hq; subst hq; exact h.ne), hO, by rcases hat with q | q; rw [q]; exact h.ne; omega, by rw [List.length_append, h.len]; rfl, fun j y hj hy => ?_, Chg.below h.below hC h.below.size (fun q e => by omega)⟩
  by_cases e : j = i
  · subst e
    rw [hx] at hy
    cases hy
    refine ⟨b, c, by rw [List.getElem?_append_right (by rw [h.len]; exact Nat.le_refl _), h.len]; simp, fun q z hz => by rw [hC.cell (p := ⟨b, 0 + q, none⟩) hb2 hb3]; exact hE q z hz, hb1, by omega, ?_⟩
    rcases hat with q | q
    · rw [q]; exact hb3
    · omega
  · obtain ⟨b', c', h1, h2, h3, h4, h5⟩ := h.txt j y (by omega) hy
    refine ⟨b', c', by rw [List.getElem?_append_left (by rw [h.len]; omega)]; exact h1, fun q z hz => by rw [hC.cell (p := ⟨b', 0 + q, none⟩) h4 h5]; exact h2 q z hz, h3, by omega, ?_⟩
    rcases hat with q | q
    · rw [q]; exact h5
    · omega
set_option maxHeartbeats 1000000 in
theorem l5WrapB_core (op : Int) (i : Nat) (kid : Int) (w : World) : Calls Tryz.prog 82 #[.int .i64 op, .int .i64 (i : Int), .int .i64 kid] w fun e w' => e = .returned (.bool (wrapB op i kid)) ∧ w' = w := by
  by_cases h16 : op = 16
  · subst h16
    have H : Hid (wrapB 16 i kid = false) := by show _ = _; unfold wrapB; rw [if_pos rfl]
    go_enter Tryz.func82, Tryz.ntmps82
    go_wp2_with fail
    go_ret
    exact ⟨by rw [H.out]; rfl, rfl⟩
  · have := l5Wrapped_core op i kid w h16
    rw [show wrapB op i kid = level op i kid by unfold wrapB; rw [if_neg h16]]
    exact this
theorem kid_top {x : PT} {k : List Nd} (h : TrV printV [x] k) : ∃ ys n, k = ys ++ [n] ∧ x.1 = n.kind := by
  obtain ⟨ys, n, os, rfl, _, _, hx⟩ := TrV.inv _ h
  exact ⟨ys, n, rfl, by rw [hx]; rfl⟩
theorem kidP_len {os : List PT} {ks : List (List Nd)} (h : KidV printV os ks) (hg : ∀ e ∈ ks.flatten, GoodN e ∧ NumN e) : sizeP os ≤ 2000 * ks.flatten.length := by
  induction h with
  | nil => simp [sizeP]
  | @cons o os k ks h1 t ih =>
    have h2 := print_len h1 (fun e he => hg e (by simp [he]))
    have h3 := ih (fun e he => hg e (by simp only [List.flatten_cons, List.mem_append]; exact .inr he))
    have h4 : sizeP (o :: os) = sizeP [o] + sizeP os := sizeP_append [o] os
    simp only [List.flatten_cons, List.length_append]
    omega
theorem size_get {os : List PT} {x : PT} {j : Nat} (h : os[j]? = some x) : x.2.length ≤ sizeP os := by
  obtain ⟨a, b, rfl⟩ := List.append_of_mem (List.mem_of_getElem? h)
  rw [sizeP_append]
  simp [sizeP]
  omega
theorem joinM_take (k : Int) {os : List PT} {j : Nat} {x : PT} (h : os[j]? = some x) : joinM k 0 (os.take (j + 1)) = joinM k 0 (os.take j) ++ ((if j = 0 then [] else sepM k) ++ wrapT k j x) := by
  have hj := (List.getElem?_eq_some_iff.1 h).1
  rw [List.take_add_one, h]
  simp only [Option.toList]
  rw [joinM_snoc, List.length_take, Nat.min_eq_left (by omega), Nat.zero_add]
theorem sizeP_take (os : List PT) (j : Nat) : sizeP (os.take j) ≤ sizeP os := by
  conv => rhs; rw [← List.take_append_drop j os, sizeP_append]
  omega
set_option maxHeartbeats 16000000 in
theorem text_of {n : Nat} (H : TxC n) : TxC (n + 1) := by
  intro w b o cap xs y hn hn2 hW hS hG
  obtain ⟨ys, e, os, rfl, hal, hS2, hs⟩ := TrV.inv _ hS
  obtain ⟨ks, rfl, hK⟩ := TrV.kids _ hS2
  have hlen := KidV.length _ hK
  obtain ⟨m, hm⟩ : ∃ m, m = ks.flatten.length := ⟨_, rfl⟩
  obtain ⟨a3, ha3⟩ : ∃ a3, a3 = ks.length := ⟨_, rfl⟩
  have hk3 : a3 ≤ 3 := by rw [ha3, ← hlen, hal]; exact arity_le _
  simp only [List.length_append, List.length_singleton] at hn hn2
  have hGe := hG e (by simp)
  have hGk : ∀ q ∈ ks.flatten, GoodN q ∧ NumN q := fun q hq => hG q (by simp [hq])
  have hsz := kidP_len hK hGk
  obtain ⟨Y, hY⟩ : ∃ Y, Y = y.2 := ⟨_, rfl⟩
  have HF : Hid (Win w b o cap (ks.flatten ++ [e]) ∧ KidV printV os ks ∧ os.length = arity e.kind ∧ os.length = ks.length ∧ a3 = ks.length ∧ ks.flatten.length + 1 ≤ 200 ∧ TxC n ∧ ks.flatten.length ≤ n ∧ (∀ q ∈ ks.flatten, GoodN q ∧ NumN q) ∧ GoodN e ∧ NumN e ∧ sizeP os ≤ 400000 ∧ Y = (printV e os).2) := ⟨hW, hK, hal, hlen, ha3, hn2, H, by omega, hGk, hGe.1, hGe.2, by omega, by rw [hY, hs]⟩
  have hcap := hW.cap
  have hbw := hW.lt
  have hbig : m + 1 ≤ cap := by have := hW.len; rw [List.length_append, List.length_singleton] at this; omega
  have HT : Hid (∀ wx, Below w.heap.size w wx → Calls Tryz.prog 80 #[.slice (some ⟨b, o, none⟩) (m + 1) cap] wx fun r w' => r = .returned (.int .i64 e.kind) ∧ w' = wx) := fun wx hx => by
    rw [hm]; exact l5Top_core (hW.below hx)
  have HKs : Hid (Calls Tryz.prog 81 #[.slice (some ⟨b, o, none⟩) (m + 1) cap] w fun r w' => ∃ g cp, r = .returned (.slice (some ⟨g, 0, none⟩) a3 cp) ∧ OwnV w' w.heap.size g cp (kidVs b o cap ks) ∧ Below w.heap.size w w') := by
    rw [ha3, hm]; exact l5Kids_core hW (by omega) (KidV.tree _ hK)
  rw [List.length_append, List.length_singleton, ← hm, ← hY]
  have z1 : (0 : Int) ≤ (m : Int) := by omega
  have z3 : (m : Int) + 1 ≤ (cap : Int) := by omega
  have hza : a3 = arity e.kind := by rw [ha3, ← hlen, hal]
  have HA : Hid (a3 = arity e.kind ∧ m = ks.flatten.length) := ⟨hza, hm⟩
  clear hW hS hS2 hK hs hal hlen H hm hn hn2 hGe hGk hsz hY hG ha3 hza
  go_enter Tryz.func41, Tryz.ntmps41
  go_wp2_with fail
  refine (HT.out w (Below.refl _ _)).mono ?_
  rintro r w1' ⟨rfl, hw1⟩
  rw [hw1]
  clear hw1
  go_wp2_with fail
  refine HKs.out.mono ?_
  rintro r w1 ⟨kg, kc, rfl, hO, hb1⟩
  have s1 := hb1.size
  by_cases hz : a3 = 0
  · subst hz
    obtain ⟨rfl, rfl⟩ : ks = [] ∧ os = [] := by
      have h1 := HF.out.2.2.2.2.1
      have h2 := HF.out.2.2.2.1
      have h3 : ks = [] := List.length_eq_zero_iff.1 h1.symm
      rw [h3] at h2
      exact ⟨h3, List.length_eq_zero_iff.1 h2⟩
    have hm0 : m = 0 := HA.out.2
    subst hm0
    obtain ⟨d0, d1, d2, d3, d4, d5, d6⟩ := (HF.out.1.at_.below hb1 hbw) 0 e rfl
    simp only [Nat.zero_mul, Nat.add_zero] at d0 d1 d2 d3 d4 d5 d6
    have HL : Hid (Calls Tryz.prog 83 #[.agg #[.int .i64 e.kind, .string e.s, .bool e.hi, .string e.t, .int .u64 e.lo, .int .u64 e.up, .int .i64 e.n]] w1 (LtP Y w1)) := by
      have h9 := l5LeafText_core e w1 HF.out.2.2.2.2.2.2.2.2.2.1 HF.out.2.2.2.2.2.2.2.2.2.2.1 HA.out.1.symm
      rw [show Y = leafM e by rw [HF.out.2.2.2.2.2.2.2.2.2.2.2.2]; simp [printV]]
      exact h9
    go_wp2_with fail
    refine HL.out.mono ?_
    rintro r w2 ⟨g2, c2, rfl, hW2, hb2⟩
    have HR : Hid (TxP Y w (.returned (.slice (some ⟨g2, 0, none⟩) Y.length c2)) w2) := ⟨g2, c2, rfl, hW2.mono s1, hb1.trans (hb2.mono s1)⟩
    clear hW2 hb2
    go_wp2_with fail
    go_ret
    exact HR.out
  · have za : ((a3 : Int) == 0) = false := by rw [beq_eq_false_iff_ne]; omega
    obtain ⟨W2, hW2⟩ : ∃ W2 : World, W2 = w1.alloc (Obj.cells #[] 22) := ⟨_, rfl⟩
    have hb2 : Below w1.heap.size w1 W2 := by rw [hW2]; exact (Below.refl _ _).alloc (Nat.le_refl _) _
    have HJ0 : Hid (TxJ w e.kind os kg kc (kidVs b o cap ks) 0 w1.heap.size 0 [] W2) := by
      refine ⟨hO.below hb2, ?_, by have := hO.lt.2; omega, rfl, fun j x hj => by omega, hb1.trans (hb2.mono s1)⟩
      rw [hW2]; exact ownVy_new w1 s1
    clear hO hb1 HKs hb2 hz
    go_upto_region 6 with fail
    rw [← hW2]
    clear hW2
    go_wp2_with fail
    go_loopw [5, 6] (fun pv iv wr => ∃ (i g cp : Nat) (us : List Value), i ≤ a3 ∧ iv = .int .i64 i ∧ pv = .slice (some ⟨g, 0, none⟩) i cp ∧ Hid (TxJ w e.kind os kg kc (kidVs b o cap ks) i g cp us wr)) (fun _ iv _ => a3 - (intOf iv).toNat)
    case atStart => exact ⟨0, _, 0, [], Nat.zero_le _, rfl, rfl, HJ0⟩
    case round =>
      obtain ⟨i, g, cp, us, hi, rfl, rfl, HJ⟩ := hrel
      clear HJ0
      have sr := HJ.out.below.size
      by_cases hlt : i < a3
      · have zi : (i : Int) < (a3 : Int) := by omega
        obtain ⟨k, hk⟩ : ∃ k, ks[i]? = some k := ⟨_, List.getElem?_eq_getElem (by have := HF.out.2.2.2.2.1; omega)⟩
        obtain ⟨x, hx, hT⟩ := KidV.nth _ HF.out.2.1 hk
        obtain ⟨o', cap', hv, hWk⟩ := kidVs_nth HF.out.1 hk
        have hc := HJ.out.kids.cell hv
        have hkl := len_flat (List.mem_of_getElem? hk)
        obtain ⟨kl, hkl2⟩ : ∃ kl, kl = k.length := ⟨_, rfl⟩
        rw [← hkl2] at hc
        have hxl := size_get hx
        have HX : Hid (os[i]? = some x ∧ x.2.length ≤ 400000) := ⟨hx, by have := HF.out.2.2.2.2.2.2.2.2.2.2.2.1; omega⟩
        have HC : Hid (Calls Tryz.prog 41 #[.slice (some ⟨b, o', none⟩) kl cap'] wr (TxP x.2 wr)) := by
          rw [hkl2]
          exact HF.out.2.2.2.2.2.2.1 wr b o' cap' k x (by have := HF.out.2.2.2.2.2.2.2.1; omega) (by have := HF.out.2.2.2.2.2.1; omega) (hWk.below HJ.out.below) hT (fun q hq => HF.out.2.2.2.2.2.2.2.2.1 q (List.mem_flatten.2 ⟨k, List.mem_of_getElem? hk, hq⟩))
        have HTk : Hid (∀ wx, Below wr.heap.size wr wx → Calls Tryz.prog 80 #[.slice (some ⟨b, o', none⟩) kl cap'] wx fun r w' => r = .returned (.int .i64 x.1) ∧ w' = wx) := fun wx hxx => by
          obtain ⟨ys', n', hk', hx1⟩ := kid_top hT
          rw [hkl2, hx1]
          have hbx := HJ.out.below.trans (hxx.mono HJ.out.below.size)
          subst hk'
          rw [List.length_append, List.length_singleton]
          exact l5Top_core (hWk.below hbx)
        clear hk hx hT hv hWk hkl hkl2 hxl
        go_wp2_with fail
        refine HC.out.mono ?_
        rintro r w2 ⟨xg, xc, rfl, hxW, hb2⟩
        obtain ⟨xk, xt⟩ := x
        obtain ⟨xl, hxl⟩ : ∃ xl, xl = xt.length := ⟨_, rfl⟩
        simp only at hxW HX HTk ⊢
        rw [← hxl]
        have s2 := hb2.size
        have hc2 : w2.cell? ⟨kg, i, none⟩ = some (.slice (some ⟨b, o', none⟩) kl cap') := by rw [hb2.cell (p := ⟨kg, i, none⟩) HJ.out.kids.lt.2]; exact hc
        have HJ2 : Hid (TxJ w e.kind os kg kc (kidVs b o cap ks) i g cp us w2 ∧ WrB w2 wr.heap.size xg xc xt ∧ xl = xt.length) := ⟨HJ.out.move hb2, hxW, hxl⟩
        have hxlb : xl ≤ 400000 := by rw [hxl]; exact HX.out.2
        have hTc := HTk.out w2 hb2
        have HTc : Hid (Calls Tryz.prog 80 #[.slice (some ⟨b, o', none⟩) kl cap'] w2 fun r w' => r = .returned (.int .i64 xk) ∧ w' = w2) := hTc
        have hxg := hxW.lt
        have hxg2 := hxW.le
        have hgg := HJ.out.own.lt.2
        clear hxW hc hb2 hxl hTc HTk
        obtain ⟨WB, hWB⟩ : ∃ WB : Bool, WB = wrapB e.kind i xk := ⟨_, rfl⟩
        have HWr : Hid (Calls Tryz.prog 82 #[.int .i64 e.kind, .int .i64 (i : Int), .int .i64 xk] w2 fun e w' => e = .returned (.bool WB) ∧ w' = w2) := by rw [hWB]; exact l5WrapB_core e.kind i xk w2
        have HWT : Hid (wrapT e.kind i (xk, xt) = if WB = true then [40] ++ xt ++ [41] else xt) := by show _ = _; unfold wrapT; rw [hWB]
        clear hWB
        go_wp2_with fail
        refine HTc.out.mono ?_
        rintro r w3 ⟨rfl, hw3⟩
        rw [hw3]
        clear hw3
        go_wp2_with fail
        refine HWr.out.mono ?_
        rintro r w3 ⟨rfl, hw3⟩
        rw [hw3]
        clear hw3 HTc HWr HC
        cases WB
        case false =>
          have HWt : Hid (wrapT e.kind i (xk, xt) = xt) := by show _ = _; rw [HWT.out]; rfl
          obtain ⟨Vf, hVf⟩ : ∃ Vf : World, Vf = w2.alloc (Obj.cells #[.slice (some ⟨xg, 0, none⟩) xl xc] 22) := ⟨_, rfl⟩
          have hbf : Below w2.heap.size w2 Vf := by rw [hVf]; exact (Below.refl _ _).alloc (Nat.le_refl _) _
          have sVf := hbf.size
          have HVf : Hid (TxJ w e.kind os kg kc (kidVs b o cap ks) i g cp us Vf ∧ Vf.cell? ⟨w2.heap.size, 0, none⟩ = some (.slice (some ⟨xg, 0, none⟩) xl xc) ∧ BysAt Vf xg 0 (wrapT e.kind i (xk, xt)) ∧ xl = (wrapT e.kind i (xk, xt)).length) := by
            refine ⟨HJ2.out.1.move hbf, by rw [hVf]; simp, ?_, ?_⟩
            · rw [HWt.out]; exact (HJ2.out.2.1.below hbf).at_
            · rw [HWt.out]; exact HJ2.out.2.2
          clear hbf
          go_wp2_with (at_builtin; (try rw [← hVf]); refine wpList_append_vy _ rfl _ _ rfl w.heap.size g cp i w2.heap.size us (.slice (some ⟨xg, 0, none⟩) xl xc) rfl rfl HVf.out.1.len.symm HVf.out.1.own HVf.out.2.1 rfl ?hlf ?hbf ?_)
          case hlf => rw [HVf.out.1.len]; omega
          case hbf => have := HVf.out.1.below.size; omega
          intro g5 c5 w5 hO5 hgr5' hat5'
          have hgr5 : Vf.grownBy w5 (some g) := by first | exact hgr5' | (rw [hVf]; exact hgr5')
          have hat5 : g5 = g ∨ g5 = Vf.heap.size := by first | exact hat5' | (rw [hVf]; simpa using hat5')
          have HJ5 : Hid (TxJ w e.kind os kg kc (kidVs b o cap ks) (i + 1) g5 c5 (us ++ [.slice (some ⟨xg, 0, none⟩) xl xc]) w5) := by
            have hE := HVf.out.2.2.2
            have h9 := HVf.out.1.push (b := xg) (c := xc) (x := (xk, xt)) (g' := g5) (cp' := c5) (w' := w5) (by rw [← hE]; exact hO5) hgr5 hat5 HX.out.1 HVf.out.2.2.1 (by omega) (by omega) (by omega)
            rw [← hE] at h9
            exact h9
          clear hO5 hgr5 hat5
          try clear hgr5'
          try clear hat5'
          try clear hVf
          go_wp2_with fail
          go_roundw
          case rel => exact ⟨i + 1, g5, c5, _, by omega, by go_num, by first | rfl | simp, HJ5⟩
          case measure => simp [intOf]; omega
        case true =>
          have HWt : Hid (wrapT e.kind i (xk, xt) = [40] ++ xt ++ [41]) := by show _ = _; rw [HWT.out]; rfl
          obtain ⟨W3, hW3⟩ : ∃ W3 : World, W3 = w2.alloc (Obj.cells #[.int .u8 40] 5 (1, 2)) := ⟨_, rfl⟩
          have kd : Sem.run Tryz.prog (convert 22 22 (.slice (some ⟨w2.heap.size, 0, none⟩) 1 1)) (w2.alloc (Obj.cells #[.int .u8 40] 5)) = .ok (.slice (some ⟨w2.heap.size, 0, none⟩) 1 1) W3 := by
            rw [hW3]
            exact Lib.run_convert_bytes_const (P := Tryz.prog) w2 22 5 #[.int .u8 40] 1 1 Tryz.underlying22 Tryz.underlying5
          have hb3 : Below w2.heap.size w2 W3 := by rw [hW3]; exact (Below.refl _ _).alloc (Nat.le_refl _) _
          have HJ3 : Hid (TxJ w e.kind os kg kc (kidVs b o cap ks) i g cp us W3 ∧ WrB W3 wr.heap.size xg xc xt ∧ WrB W3 wr.heap.size w2.heap.size 1 [40]) := by
            refine ⟨HJ2.out.1.move hb3, HJ2.out.2.1.below hb3, WrB.full (xs := [40]) (by omega) (by rw [hW3]; simp) ?_ (by simp)⟩
            rw [hW3]; exact bys_mark w2 _ [40] _ rfl
          have s3 := hb3.size
          have HB3 : Hid (Below w2.heap.size w2 W3) := hb3
          clear hW3 hb3
          go_wp2_with (at_builtin; refine wpList_append_wr _ rfl _ _ rfl wr.heap.size w2.heap.size 1 1 xg 0 xl xc [40] xt rfl rfl rfl HJ2.out.2.2 HJ3.out.2.2 HJ3.out.2.1.at_ ?hla ?hba ?_)
          case hla => rw [← HJ2.out.2.2]; show 1 + xl ≤ _; omega
          case hba => omega
          intro g4 c4 W4 hW4 hgr4 hat4
          have s4 := hgr4.size
          have b24 : Below w2.heap.size w2 W4 := HB3.out.grown hgr4 s3 (fun q hq => by cases hq; exact Nat.le_refl _)
          have hg4 : w2.heap.size ≤ g4 := by omega
          obtain ⟨X4, hX4⟩ : ∃ X4 : List UInt8, X4 = [40] ++ xt := ⟨_, rfl⟩
          have HX4 : Hid (X4 = [40] ++ xt) := hX4
          obtain ⟨n4, hn4⟩ : ∃ n4, n4 = 1 + xl := ⟨_, rfl⟩
          have HN4 : Hid (n4 = X4.length) := by show n4 = _; rw [hn4, hX4, List.length_append, ← HJ2.out.2.2]; rfl
          have hn4b : n4 ≤ 400001 := by omega
          have x4b : X4.length ≤ 400001 := by rw [← HN4.out]; exact hn4b
          try rw [← hn4]
          obtain ⟨V4, hV4⟩ : ∃ V4 : World, V4 = W4.alloc (Obj.cells #[.int .u8 41] 5) := ⟨_, rfl⟩
          have hb4 : Below W4.heap.size W4 V4 := by rw [hV4]; exact (Below.refl _ _).alloc (Nat.le_refl _) _
          have sv4 := hb4.size
          have HJ4 : Hid (WrB V4 wr.heap.size g4 c4 X4 ∧ BysAt V4 W4.heap.size 0 [41] ∧ Below w2.heap.size w2 V4) := by
            refine ⟨by rw [hX4]; exact hW4.below hb4, ?_, b24.trans (hb4.mono (by omega))⟩
            rw [hV4]; exact bys_new W4 _ [41] rfl
          clear hW4 hgr4 hat4 hX4 hb4 b24 kd hn4
          go_wp2_with (at_builtin; (try rw [← hV4]); refine wpList_append_wr _ rfl _ _ rfl wr.heap.size g4 c4 n4 W4.heap.size 0 1 1 X4 [41] rfl rfl HN4.out rfl HJ4.out.1 HJ4.out.2.1 ?hld ?hbd ?_)
          case hld => first | omega | (show X4.length + 1 ≤ _; omega)
          case hbd => omega
          intro g6 c6 W6 hW6 hgr6' hat6
          have hgr6 : V4.grownBy W6 (some g4) := by first | exact hgr6' | (rw [hV4]; exact hgr6')
          have s6 := hgr6.size
          have b26 : Below w2.heap.size w2 W6 := HJ4.out.2.2.grown hgr6 (by omega) (fun q hq => by cases hq; exact hg4)
          obtain ⟨X6, hX6⟩ : ∃ X6 : List UInt8, X6 = X4 ++ [41] := ⟨_, rfl⟩
          obtain ⟨n6, hn6⟩ : ∃ n6, n6 = n4 + 1 := ⟨_, rfl⟩
          have HJ6 : Hid (TxJ w e.kind os kg kc (kidVs b o cap ks) i g cp us W6 ∧ WrB W6 wr.heap.size g6 c6 X6 ∧ n6 = X6.length ∧ [40] ++ xt ++ [41] = X6) := ⟨HJ2.out.1.move b26, by rw [hX6]; exact hW6, by rw [hn6, hX6, List.length_append, ← HN4.out]; rfl, by rw [hX6, HX4.out]⟩
          have hg6 : g6 < W6.heap.size := hW6.lt
          have hg6b : wr.heap.size ≤ g6 := hW6.le
          try rw [← hn6]
          clear hW6 hgr6 hat6 hX6 b26 hn6
          try clear hgr6'
          try clear hV4
          obtain ⟨Vt, hVt⟩ : ∃ Vt : World, Vt = W6.alloc (Obj.cells #[.slice (some ⟨g6, 0, none⟩) n6 c6] 22) := ⟨_, rfl⟩
          have hbt : Below W6.heap.size W6 Vt := by rw [hVt]; exact (Below.refl _ _).alloc (Nat.le_refl _) _
          have sVt := hbt.size
          have HVt : Hid (TxJ w e.kind os kg kc (kidVs b o cap ks) i g cp us Vt ∧ Vt.cell? ⟨W6.heap.size, 0, none⟩ = some (.slice (some ⟨g6, 0, none⟩) n6 c6) ∧ BysAt Vt g6 0 (wrapT e.kind i (xk, xt)) ∧ n6 = (wrapT e.kind i (xk, xt)).length) := by
            refine ⟨HJ6.out.1.move hbt, by rw [hVt]; simp, ?_, ?_⟩
            · rw [HWt.out]; exact ((show WrB W6 wr.heap.size g6 c6 ([40] ++ xt ++ [41]) by rw [HJ6.out.2.2.2]; exact HJ6.out.2.1).below hbt).at_
            · rw [HWt.out]; rw [HJ6.out.2.2.2]; exact HJ6.out.2.2.1
          clear hbt
          go_wp2_with (at_builtin; (try rw [← hVt]); refine wpList_append_vy _ rfl _ _ rfl w.heap.size g cp i W6.heap.size us (.slice (some ⟨g6, 0, none⟩) n6 c6) rfl rfl HVt.out.1.len.symm HVt.out.1.own HVt.out.2.1 rfl ?hlt ?hbt ?_)
          case hlt => rw [HVt.out.1.len]; omega
          case hbt => have := HVt.out.1.below.size; omega
          intro g5 c5 w5 hO5 hgr5' hat5'
          have hgr5 : Vt.grownBy w5 (some g) := by first | exact hgr5' | (rw [hVt]; exact hgr5')
          have hat5 : g5 = g ∨ g5 = Vt.heap.size := by first | exact hat5' | (rw [hVt]; simpa using hat5')
          have HJ5 : Hid (TxJ w e.kind os kg kc (kidVs b o cap ks) (i + 1) g5 c5 (us ++ [.slice (some ⟨g6, 0, none⟩) n6 c6]) w5) := by
            have hE := HVt.out.2.2.2
            have h9 := HVt.out.1.push (b := g6) (c := c6) (x := (xk, xt)) (g' := g5) (cp' := c5) (w' := w5) (by rw [← hE]; exact hO5) hgr5 hat5 HX.out.1 HVt.out.2.2.1 (by omega) (by omega) (by omega)
            rw [← hE] at h9
            exact h9
          clear hO5 hgr5 hat5
          try clear hgr5'
          try clear hat5'
          try clear hVt
          go_wp2_with fail
          go_roundw
          case rel => exact ⟨i + 1, g5, c5, _, by omega, by go_num, by first | rfl | simp, HJ5⟩
          case measure => simp [intOf]; omega
      · have zi : ¬ (i : Int) < (a3 : Int) := by omega
        have hia : a3 = i := by omega
        subst hia
        have hk3 : e.kind = 14 ∨ e.kind = 15 ∨ e.kind = 16 := by
          have h1 := HA.out.1
          unfold arity at h1
          by_cases q : e.kind = 14 ∨ e.kind = 15
          · omega
          · by_cases q2 : e.kind = 16
            · exact .inr (.inr q2)
            · rw [if_neg q, if_neg q2] at h1
              exfalso
              have : ((a3 : Int) == 0) = true := by rw [h1]; rfl
              rw [za] at this
              cases this
        obtain ⟨W5, rfl⟩ : ∃ W5 : World, W5 = wr := ⟨_, rfl⟩
        rcases hk3 with hkk | hkk | hkk
        · have z15 : (e.kind == 15) = false := by rw [hkk]; decide
          have z16 : (e.kind == 16) = false := by rw [hkk]; decide
          have HKK : Hid (e.kind = 14) := hkk
          have HYY : Hid (Y = ([] : List UInt8) ++ joinM e.kind 0 os ++ ([] : List UInt8)) := by
            show Y = _
            rw [HF.out.2.2.2.2.2.2.2.2.2.2.2.2]
            have hne : os ≠ [] := fun q => by have h1 := HF.out.2.2.2.1; have h2 := HF.out.2.2.2.2.1; rw [q] at h1; simp at h1; have h9 := beq_eq_false_iff_ne.1 za; omega
            simp only [printV]
            rw [if_neg hne, hkk]
            simp
          clear hkk
          obtain ⟨V0, hV0⟩ : ∃ V0 : World, V0 = W5.alloc (Obj.cells #[] 5) := ⟨_, rfl⟩
          have hb0 : Below W5.heap.size W5 V0 := by rw [hV0]; exact (Below.refl _ _).alloc (Nat.le_refl _) _
          have t0 := hb0.size
          have HS : Hid (WrB V0 W5.heap.size W5.heap.size 0 [] ∧ Below W5.heap.size W5 V0) := by
            refine ⟨?_, hb0⟩
            rw [hV0]; exact (ownY_new W5 (Nat.le_refl _)).wr
          clear hb0
          go_upto_region 15 with fail
          rw [← hV0]
          clear hV0
          go_wp2_with fail
          go_loopw [9, 10] (fun ov iv wr => ∃ (j og oc nn : Nat) (X : List UInt8), j ≤ a3 ∧ iv = .int .i64 j ∧ ov = .slice (some ⟨og, 0, none⟩) nn oc ∧ nn = X.length ∧ Hid (X = ([] : List UInt8) ++ joinM e.kind 0 (os.take j)) ∧ Hid (WrB wr W5.heap.size og oc X ∧ Below W5.heap.size W5 wr)) (fun _ iv _ => a3 - (intOf iv).toNat)
          case atStart => exact ⟨0, _, 0, 0, [], Nat.zero_le _, rfl, rfl, rfl, by show _ = _; simp [joinM], HS⟩
          case round =>
            clear HS
            obtain ⟨j, og, oc, nn, X, hj, rfl, rfl, hnn, HX, HW⟩ := hrel
            have HNN : Hid (nn = X.length) := hnn
            have hxl : X.length ≤ 400020 := by
              rw [HX.out, List.length_append]
              have h1 := joinM_len e.kind 0 (os.take j)
              have h2 := sizeP_take os j
              have h3 := HF.out.2.2.2.2.2.2.2.2.2.2.2.1
              have h4 : (os.take j).length ≤ 3 := by rw [List.length_take]; omega
              have h5 : (([] : List UInt8)).length ≤ 3 := by simp
              omega
            have hnl : nn ≤ 400020 := by omega
            have sq := HW.out.2.size
            have oql := HW.out.1.lt
            have oqe := HW.out.1.le
            clear hnn
            by_cases hjl : j < a3
            · have zj : (j : Int) < (a3 : Int) := by omega
              obtain ⟨x, hx⟩ : ∃ x, os[j]? = some x := ⟨_, List.getElem?_eq_getElem (by have := HF.out.2.2.2.1; have := HF.out.2.2.2.2.1; omega)⟩
              obtain ⟨tb, tc, hu, hE, htb1, htb2, _⟩ := HJ.out.txt j x hjl hx
              obtain ⟨tl, htl⟩ : ∃ tl, tl = (wrapT e.kind j x).length := ⟨_, rfl⟩
              have hcell : wr.cell? ⟨g, j, none⟩ = some (.slice (some ⟨tb, 0, none⟩) tl tc) := by rw [HW.out.2.cell (p := ⟨g, j, none⟩) HJ.out.own.lt.2, HJ.out.own.cell hu, htl]
              have htlb : tl ≤ 400002 := by
                rw [htl]
                have h1 := wrapT_len e.kind j x
                have h2 := size_get hx
                have h3 := HF.out.2.2.2.2.2.2.2.2.2.2.2.1
                omega
              have HX2 : Hid (([] : List UInt8) ++ joinM e.kind 0 (os.take (j + 1)) = X ++ ((if j = 0 then [] else sepM e.kind) ++ wrapT e.kind j x)) := by
                show _ = _
                rw [joinM_take e.kind hx, HX.out]
                simp only [List.append_assoc]
              obtain ⟨T, hT⟩ : ∃ T : List UInt8, T = wrapT e.kind j x := ⟨_, rfl⟩
              rw [← hT] at hE htl HX2
              have HT2 : Hid (BysAt W5 tb 0 T ∧ tl = T.length) := ⟨hE, htl⟩
              clear hx hu hE htl hT
              by_cases hj0 : j = 0
              · have z0 : ¬ (0 : Int) < (j : Int) := by omega
                have HX3 : Hid (([] : List UInt8) ++ joinM e.kind 0 (os.take (j + 1)) = X ++ T) := by show _ = _; rw [HX2.out, if_pos hj0]; rfl
                clear hj0
                go_wp2_with (at_builtin; refine wpList_append_wr _ rfl _ _ rfl W5.heap.size og oc nn tb 0 tl tc X T rfl rfl HNN.out HT2.out.2 HW.out.1 (HT2.out.1.below HW.out.2 htb2) ?hlA14 (by omega) ?_)
                case hlA14 => rw [← HT2.out.2]; omega
                intro og3 oc3 W8 hW8 hgr8 hat8
                obtain ⟨n8, hn8⟩ : ∃ n8, n8 = nn + tl := ⟨_, rfl⟩
                have HR8 : Hid (WrB W8 W5.heap.size og3 oc3 (X ++ T) ∧ Below W5.heap.size W5 W8) := ⟨hW8, WrB.next HW.out.2 (by omega) (by omega) hgr8⟩
                have HN8 : Hid (n8 = (X ++ T).length) := by show _ = _; rw [hn8, List.length_append, ← HNN.out, ← HT2.out.2]
                obtain ⟨X8, hX8⟩ : ∃ X8 : List UInt8, X8 = X ++ T := ⟨_, rfl⟩
                rw [← hX8] at HR8 HN8
                have HX8 : Hid (X8 = ([] : List UInt8) ++ joinM e.kind 0 (os.take (j + 1))) := by show _ = _; rw [hX8, HX3.out]
                try rw [← hn8]
                clear hW8 hgr8 hat8 hX8 hn8
                go_wp2_with fail
                go_roundw
                case rel => exact ⟨j + 1, og3, oc3, n8, X8, by omega, by go_num, by first | rfl | (rw [hn8]), HN8.out, HX8, HR8⟩
                case measure => simp [intOf]; omega
              · have z0 : (0 : Int) < (j : Int) := by omega
                have HX3 : Hid (([] : List UInt8) ++ joinM e.kind 0 (os.take (j + 1)) = X ++ [32, 62, 32] ++ T) := by show _ = _; rw [HX2.out, if_neg hj0, HKK.out]; simp [sepM]
                obtain ⟨VS, hVS⟩ : ∃ VS, VS = Lib.bytesWorld wr 5 ⟨#[32, 62, 32]⟩ := ⟨_, rfl⟩
                obtain ⟨cs, hcs⟩ : ∃ cs, cs = grownCap wr 3 0 5 := ⟨_, rfl⟩
                have hcv : Sem.run Tryz.prog (convert 9 22 (.string ⟨#[32, 62, 32]⟩)) wr = .ok (.slice (some ⟨wr.heap.size, 0, none⟩) 3 cs) VS := by
                  rw [hVS, hcs]
                  exact Lib.run_convert_string_bytes (P := Tryz.prog) wr 9 22 5 ⟨#[32, 62, 32]⟩ Tryz.underlying9 Tryz.underlying22 Tryz.underlying5
                have hbs := below_bytes wr ⟨#[32, 62, 32]⟩
                rw [← hVS] at hbs
                have svs := hbs.size
                have HVS : Hid (WrB VS W5.heap.size og oc X ∧ Below W5.heap.size W5 VS ∧ BysAt VS wr.heap.size 0 [32, 62, 32]) := by
                  refine ⟨HW.out.1.below hbs, HW.out.2.trans (hbs.mono sq), ?_⟩
                  rw [hVS]; exact bys_bytes wr ⟨#[32, 62, 32]⟩
                clear hVS hcs hbs
                go_wp2_with (at_builtin; refine wpList_append_wr _ rfl _ _ rfl W5.heap.size og oc nn wr.heap.size 0 3 cs X [32, 62, 32] rfl rfl HNN.out rfl HVS.out.1 HVS.out.2.2 ?hlS14 ?hbS14 ?_)
                case hlS14 => first | omega | (show X.length + 3 ≤ _; omega)
                case hbS14 => omega
                intro og2 oc2 W7 hW7 hgr7 hat7
                have s7 := hgr7.size
                obtain ⟨X7, hX7⟩ : ∃ X7 : List UInt8, X7 = X ++ [32, 62, 32] := ⟨_, rfl⟩
                obtain ⟨n7, hn7⟩ : ∃ n7, n7 = nn + 3 := ⟨_, rfl⟩
                have HW7 : Hid (WrB W7 W5.heap.size og2 oc2 X7 ∧ Below W5.heap.size W5 W7) := ⟨by rw [hX7]; exact hW7, WrB.next HVS.out.2.1 (by omega) oqe hgr7⟩
                have HN7 : Hid (n7 = X7.length) := by show _ = _; rw [hn7, hX7, List.length_append, ← HNN.out]; rfl
                have HX7 : Hid (([] : List UInt8) ++ joinM e.kind 0 (os.take (j + 1)) = X7 ++ T) := by show _ = _; rw [HX3.out, hX7]
                have x7 : X7.length ≤ 400023 := by rw [hX7, List.length_append]; show X.length + 3 ≤ _; omega
                have o7 := HW7.out.1.lt
                have o7e := HW7.out.1.le
                have hcell7 : W7.cell? ⟨g, j, none⟩ = some (.slice (some ⟨tb, 0, none⟩) tl tc) := by
                  have h8 := HW7.out.2.cell (p := ⟨g, j, none⟩) HJ.out.own.lt.2
                  rw [h8, ← HW.out.2.cell (p := ⟨g, j, none⟩) HJ.out.own.lt.2]; exact hcell
                try rw [← hn7]
                clear hW7 hgr7 hat7 hX7 hn7 hcv hcell
                go_wp2_with (at_builtin; refine wpList_append_wr _ rfl _ _ rfl W5.heap.size og2 oc2 n7 tb 0 tl tc X7 T rfl rfl HN7.out HT2.out.2 HW7.out.1 (HT2.out.1.below HW7.out.2 htb2) ?hlB14 (by omega) ?_)
                case hlB14 => rw [← HT2.out.2]; omega
                intro og3 oc3 W8 hW8 hgr8 hat8
                obtain ⟨n8, hn8⟩ : ∃ n8, n8 = n7 + tl := ⟨_, rfl⟩
                have HR8 : Hid (WrB W8 W5.heap.size og3 oc3 (X7 ++ T) ∧ Below W5.heap.size W5 W8) := ⟨hW8, WrB.next HW7.out.2 (by omega) (by omega) hgr8⟩
                have HN8 : Hid (n8 = (X7 ++ T).length) := by show _ = _; rw [hn8, List.length_append, ← HN7.out, ← HT2.out.2]
                obtain ⟨X8, hX8⟩ : ∃ X8 : List UInt8, X8 = X7 ++ T := ⟨_, rfl⟩
                rw [← hX8] at HR8 HN8
                have HX8 : Hid (X8 = ([] : List UInt8) ++ joinM e.kind 0 (os.take (j + 1))) := by show _ = _; rw [hX8, HX7.out]
                try rw [← hn8]
                clear hW8 hgr8 hat8 hX8 hn8
                go_wp2_with fail
                go_roundw
                case rel => exact ⟨j + 1, og3, oc3, n8, X8, by omega, by go_num, by first | rfl | (rw [hn8]), HN8.out, HX8, HR8⟩
                case measure => simp [intOf]; omega
            · have zj : ¬ (j : Int) < (a3 : Int) := by omega
              have HXE : Hid (Y = X ++ ([] : List UInt8)) := by
                show _ = _
                have h1 := HX.out
                rw [List.take_of_length_le (by have := HF.out.2.2.2.1; have := HF.out.2.2.2.2.1; omega)] at h1
                rw [HYY.out, h1]
              have HRE : Hid (TxP Y w (.returned (.slice (some ⟨og, 0, none⟩) nn oc)) wr) := by
                refine ⟨og, oc, by rw [HXE.out, List.append_nil, ← HNN.out], ?_, HJ.out.below.trans (HW.out.2.mono sr)⟩
                rw [HXE.out, List.append_nil]; exact HW.out.1.mono sr
              go_wp2_with fail
              go_ret
              exact HRE.out
        · have z15 : (e.kind == 15) = true := by rw [hkk]; decide
          have z16 : (e.kind == 16) = false := by rw [hkk]; decide
          have HKK : Hid (e.kind = 15) := hkk
          have HYY : Hid (Y = ([] : List UInt8) ++ joinM e.kind 0 os ++ ([] : List UInt8)) := by
            show Y = _
            rw [HF.out.2.2.2.2.2.2.2.2.2.2.2.2]
            have hne : os ≠ [] := fun q => by have h1 := HF.out.2.2.2.1; have h2 := HF.out.2.2.2.2.1; rw [q] at h1; simp at h1; have h9 := beq_eq_false_iff_ne.1 za; omega
            simp only [printV]
            rw [if_neg hne, hkk]
            simp
          clear hkk
          obtain ⟨V0, hV0⟩ : ∃ V0 : World, V0 = W5.alloc (Obj.cells #[] 5) := ⟨_, rfl⟩
          have hb0 : Below W5.heap.size W5 V0 := by rw [hV0]; exact (Below.refl _ _).alloc (Nat.le_refl _) _
          have t0 := hb0.size
          have HS : Hid (WrB V0 W5.heap.size W5.heap.size 0 [] ∧ Below W5.heap.size W5 V0) := by
            refine ⟨?_, hb0⟩
            rw [hV0]; exact (ownY_new W5 (Nat.le_refl _)).wr
          clear hb0
          go_upto_region 15 with fail
          rw [← hV0]
          clear hV0
          go_wp2_with fail
          go_loopw [9, 10] (fun ov iv wr => ∃ (j og oc nn : Nat) (X : List UInt8), j ≤ a3 ∧ iv = .int .i64 j ∧ ov = .slice (some ⟨og, 0, none⟩) nn oc ∧ nn = X.length ∧ Hid (X = ([] : List UInt8) ++ joinM e.kind 0 (os.take j)) ∧ Hid (WrB wr W5.heap.size og oc X ∧ Below W5.heap.size W5 wr)) (fun _ iv _ => a3 - (intOf iv).toNat)
          case atStart => exact ⟨0, _, 0, 0, [], Nat.zero_le _, rfl, rfl, rfl, by show _ = _; simp [joinM], HS⟩
          case round =>
            clear HS
            obtain ⟨j, og, oc, nn, X, hj, rfl, rfl, hnn, HX, HW⟩ := hrel
            have HNN : Hid (nn = X.length) := hnn
            have hxl : X.length ≤ 400020 := by
              rw [HX.out, List.length_append]
              have h1 := joinM_len e.kind 0 (os.take j)
              have h2 := sizeP_take os j
              have h3 := HF.out.2.2.2.2.2.2.2.2.2.2.2.1
              have h4 : (os.take j).length ≤ 3 := by rw [List.length_take]; omega
              have h5 : (([] : List UInt8)).length ≤ 3 := by simp
              omega
            have hnl : nn ≤ 400020 := by omega
            have sq := HW.out.2.size
            have oql := HW.out.1.lt
            have oqe := HW.out.1.le
            clear hnn
            by_cases hjl : j < a3
            · have zj : (j : Int) < (a3 : Int) := by omega
              obtain ⟨x, hx⟩ : ∃ x, os[j]? = some x := ⟨_, List.getElem?_eq_getElem (by have := HF.out.2.2.2.1; have := HF.out.2.2.2.2.1; omega)⟩
              obtain ⟨tb, tc, hu, hE, htb1, htb2, _⟩ := HJ.out.txt j x hjl hx
              obtain ⟨tl, htl⟩ : ∃ tl, tl = (wrapT e.kind j x).length := ⟨_, rfl⟩
              have hcell : wr.cell? ⟨g, j, none⟩ = some (.slice (some ⟨tb, 0, none⟩) tl tc) := by rw [HW.out.2.cell (p := ⟨g, j, none⟩) HJ.out.own.lt.2, HJ.out.own.cell hu, htl]
              have htlb : tl ≤ 400002 := by
                rw [htl]
                have h1 := wrapT_len e.kind j x
                have h2 := size_get hx
                have h3 := HF.out.2.2.2.2.2.2.2.2.2.2.2.1
                omega
              have HX2 : Hid (([] : List UInt8) ++ joinM e.kind 0 (os.take (j + 1)) = X ++ ((if j = 0 then [] else sepM e.kind) ++ wrapT e.kind j x)) := by
                show _ = _
                rw [joinM_take e.kind hx, HX.out]
                simp only [List.append_assoc]
              obtain ⟨T, hT⟩ : ∃ T : List UInt8, T = wrapT e.kind j x := ⟨_, rfl⟩
              rw [← hT] at hE htl HX2
              have HT2 : Hid (BysAt W5 tb 0 T ∧ tl = T.length) := ⟨hE, htl⟩
              clear hx hu hE htl hT
              by_cases hj0 : j = 0
              · have z0 : ¬ (0 : Int) < (j : Int) := by omega
                have HX3 : Hid (([] : List UInt8) ++ joinM e.kind 0 (os.take (j + 1)) = X ++ T) := by show _ = _; rw [HX2.out, if_pos hj0]; rfl
                clear hj0
                go_wp2_with (at_builtin; refine wpList_append_wr _ rfl _ _ rfl W5.heap.size og oc nn tb 0 tl tc X T rfl rfl HNN.out HT2.out.2 HW.out.1 (HT2.out.1.below HW.out.2 htb2) ?hlA15 (by omega) ?_)
                case hlA15 => rw [← HT2.out.2]; omega
                intro og3 oc3 W8 hW8 hgr8 hat8
                obtain ⟨n8, hn8⟩ : ∃ n8, n8 = nn + tl := ⟨_, rfl⟩
                have HR8 : Hid (WrB W8 W5.heap.size og3 oc3 (X ++ T) ∧ Below W5.heap.size W5 W8) := ⟨hW8, WrB.next HW.out.2 (by omega) (by omega) hgr8⟩
                have HN8 : Hid (n8 = (X ++ T).length) := by show _ = _; rw [hn8, List.length_append, ← HNN.out, ← HT2.out.2]
                obtain ⟨X8, hX8⟩ : ∃ X8 : List UInt8, X8 = X ++ T := ⟨_, rfl⟩
                rw [← hX8] at HR8 HN8
                have HX8 : Hid (X8 = ([] : List UInt8) ++ joinM e.kind 0 (os.take (j + 1))) := by show _ = _; rw [hX8, HX3.out]
                try rw [← hn8]
                clear hW8 hgr8 hat8 hX8 hn8
                go_wp2_with fail
                go_roundw
                case rel => exact ⟨j + 1, og3, oc3, n8, X8, by omega, by go_num, by first | rfl | (rw [hn8]), HN8.out, HX8, HR8⟩
                case measure => simp [intOf]; omega
              · have z0 : (0 : Int) < (j : Int) := by omega
                have HX3 : Hid (([] : List UInt8) ++ joinM e.kind 0 (os.take (j + 1)) = X ++ [32, 124, 32] ++ T) := by show _ = _; rw [HX2.out, if_neg hj0, HKK.out]; simp [sepM]
                obtain ⟨VS, hVS⟩ : ∃ VS, VS = Lib.bytesWorld wr 5 ⟨#[32, 124, 32]⟩ := ⟨_, rfl⟩
                obtain ⟨cs, hcs⟩ : ∃ cs, cs = grownCap wr 3 0 5 := ⟨_, rfl⟩
                have hcv : Sem.run Tryz.prog (convert 9 22 (.string ⟨#[32, 124, 32]⟩)) wr = .ok (.slice (some ⟨wr.heap.size, 0, none⟩) 3 cs) VS := by
                  rw [hVS, hcs]
                  exact Lib.run_convert_string_bytes (P := Tryz.prog) wr 9 22 5 ⟨#[32, 124, 32]⟩ Tryz.underlying9 Tryz.underlying22 Tryz.underlying5
                have hbs := below_bytes wr ⟨#[32, 124, 32]⟩
                rw [← hVS] at hbs
                have svs := hbs.size
                have HVS : Hid (WrB VS W5.heap.size og oc X ∧ Below W5.heap.size W5 VS ∧ BysAt VS wr.heap.size 0 [32, 124, 32]) := by
                  refine ⟨HW.out.1.below hbs, HW.out.2.trans (hbs.mono sq), ?_⟩
                  rw [hVS]; exact bys_bytes wr ⟨#[32, 124, 32]⟩
                clear hVS hcs hbs
                go_wp2_with (at_builtin; refine wpList_append_wr _ rfl _ _ rfl W5.heap.size og oc nn wr.heap.size 0 3 cs X [32, 124, 32] rfl rfl HNN.out rfl HVS.out.1 HVS.out.2.2 ?hlS15 ?hbS15 ?_)
                case hlS15 => first | omega | (show X.length + 3 ≤ _; omega)
                case hbS15 => omega
                intro og2 oc2 W7 hW7 hgr7 hat7
                have s7 := hgr7.size
                obtain ⟨X7, hX7⟩ : ∃ X7 : List UInt8, X7 = X ++ [32, 124, 32] := ⟨_, rfl⟩
                obtain ⟨n7, hn7⟩ : ∃ n7, n7 = nn + 3 := ⟨_, rfl⟩
                have HW7 : Hid (WrB W7 W5.heap.size og2 oc2 X7 ∧ Below W5.heap.size W5 W7) := ⟨by rw [hX7]; exact hW7, WrB.next HVS.out.2.1 (by omega) oqe hgr7⟩
                have HN7 : Hid (n7 = X7.length) := by show _ = _; rw [hn7, hX7, List.length_append, ← HNN.out]; rfl
                have HX7 : Hid (([] : List UInt8) ++ joinM e.kind 0 (os.take (j + 1)) = X7 ++ T) := by show _ = _; rw [HX3.out, hX7]
                have x7 : X7.length ≤ 400023 := by rw [hX7, List.length_append]; show X.length + 3 ≤ _; omega
                have o7 := HW7.out.1.lt
                have o7e := HW7.out.1.le
                have hcell7 : W7.cell? ⟨g, j, none⟩ = some (.slice (some ⟨tb, 0, none⟩) tl tc) := by
                  have h8 := HW7.out.2.cell (p := ⟨g, j, none⟩) HJ.out.own.lt.2
                  rw [h8, ← HW.out.2.cell (p := ⟨g, j, none⟩) HJ.out.own.lt.2]; exact hcell
                try rw [← hn7]
                clear hW7 hgr7 hat7 hX7 hn7 hcv hcell
                go_wp2_with (at_builtin; refine wpList_append_wr _ rfl _ _ rfl W5.heap.size og2 oc2 n7 tb 0 tl tc X7 T rfl rfl HN7.out HT2.out.2 HW7.out.1 (HT2.out.1.below HW7.out.2 htb2) ?hlB15 (by omega) ?_)
                case hlB15 => rw [← HT2.out.2]; omega
                intro og3 oc3 W8 hW8 hgr8 hat8
                obtain ⟨n8, hn8⟩ : ∃ n8, n8 = n7 + tl := ⟨_, rfl⟩
                have HR8 : Hid (WrB W8 W5.heap.size og3 oc3 (X7 ++ T) ∧ Below W5.heap.size W5 W8) := ⟨hW8, WrB.next HW7.out.2 (by omega) (by omega) hgr8⟩
                have HN8 : Hid (n8 = (X7 ++ T).length) := by show _ = _; rw [hn8, List.length_append, ← HN7.out, ← HT2.out.2]
                obtain ⟨X8, hX8⟩ : ∃ X8 : List UInt8, X8 = X7 ++ T := ⟨_, rfl⟩
                rw [← hX8] at HR8 HN8
                have HX8 : Hid (X8 = ([] : List UInt8) ++ joinM e.kind 0 (os.take (j + 1))) := by show _ = _; rw [hX8, HX7.out]
                try rw [← hn8]
                clear hW8 hgr8 hat8 hX8 hn8
                go_wp2_with fail
                go_roundw
                case rel => exact ⟨j + 1, og3, oc3, n8, X8, by omega, by go_num, by first | rfl | (rw [hn8]), HN8.out, HX8, HR8⟩
                case measure => simp [intOf]; omega
            · have zj : ¬ (j : Int) < (a3 : Int) := by omega
              have HXE : Hid (Y = X ++ ([] : List UInt8)) := by
                show _ = _
                have h1 := HX.out
                rw [List.take_of_length_le (by have := HF.out.2.2.2.1; have := HF.out.2.2.2.2.1; omega)] at h1
                rw [HYY.out, h1]
              have HRE : Hid (TxP Y w (.returned (.slice (some ⟨og, 0, none⟩) nn oc)) wr) := by
                refine ⟨og, oc, by rw [HXE.out, List.append_nil, ← HNN.out], ?_, HJ.out.below.trans (HW.out.2.mono sr)⟩
                rw [HXE.out, List.append_nil]; exact HW.out.1.mono sr
              go_wp2_with fail
              go_ret
              exact HRE.out
        · have z15 : (e.kind == 15) = false := by rw [hkk]; decide
          have z16 : (e.kind == 16) = true := by rw [hkk]; decide
          have HKK : Hid (e.kind = 16) := hkk
          have HYY : Hid (Y = [105, 102, 40] ++ joinM e.kind 0 os ++ [41]) := by
            show Y = _
            rw [HF.out.2.2.2.2.2.2.2.2.2.2.2.2]
            have hne : os ≠ [] := fun q => by have h1 := HF.out.2.2.2.1; have h2 := HF.out.2.2.2.2.1; rw [q] at h1; simp at h1; have h9 := beq_eq_false_iff_ne.1 za; omega
            simp only [printV]
            rw [if_neg hne, hkk]
            simp
          clear hkk
          obtain ⟨V0, hV0⟩ : ∃ V0 : World, V0 = W5.alloc (Obj.cells #[] 5) := ⟨_, rfl⟩
          have hb0 : Below W5.heap.size W5 V0 := by rw [hV0]; exact (Below.refl _ _).alloc (Nat.le_refl _) _
          have t0 := hb0.size
          obtain ⟨V1, hV1⟩ : ∃ V1 : World, V1 = V0.alloc (Obj.cells #[.int .u8 105, .int .u8 102, .int .u8 40] 5 (3, 4)) := ⟨_, rfl⟩
          have kd : Sem.run Tryz.prog (convert 22 22 (.slice (some ⟨V0.heap.size, 0, none⟩) 3 3)) (V0.alloc (Obj.cells #[.int .u8 105, .int .u8 102, .int .u8 40] 5)) = .ok (.slice (some ⟨V0.heap.size, 0, none⟩) 3 3) V1 := by
            rw [hV1]
            exact Lib.run_convert_bytes_const (P := Tryz.prog) V0 22 5 #[.int .u8 105, .int .u8 102, .int .u8 40] 3 3 Tryz.underlying22 Tryz.underlying5
          have hb1' : Below V0.heap.size V0 V1 := by rw [hV1]; exact (Below.refl _ _).alloc (Nat.le_refl _) _
          have HS : Hid (WrB V1 W5.heap.size V0.heap.size 3 [105, 102, 40] ∧ Below W5.heap.size W5 V1) := by
            refine ⟨WrB.full (xs := [105, 102, 40]) t0 (by rw [hV1]; simp) ?_ (by simp), hb0.trans (hb1'.mono t0)⟩
            rw [hV1]; exact bys_mark V0 _ [105, 102, 40] _ rfl
          clear hV1 hb1' hb0
          go_upto_region 15 with fail
          rw [← hV0]
          clear hV0
          go_wp2_with fail
          clear kd
          go_loopw [9, 10] (fun ov iv wr => ∃ (j og oc nn : Nat) (X : List UInt8), j ≤ a3 ∧ iv = .int .i64 j ∧ ov = .slice (some ⟨og, 0, none⟩) nn oc ∧ nn = X.length ∧ Hid (X = [105, 102, 40] ++ joinM e.kind 0 (os.take j)) ∧ Hid (WrB wr W5.heap.size og oc X ∧ Below W5.heap.size W5 wr)) (fun _ iv _ => a3 - (intOf iv).toNat)
          case atStart => exact ⟨0, _, 3, 3, [105, 102, 40], Nat.zero_le _, rfl, rfl, rfl, by show _ = _; simp [joinM], HS⟩
          case round =>
            clear HS
            obtain ⟨j, og, oc, nn, X, hj, rfl, rfl, hnn, HX, HW⟩ := hrel
            have HNN : Hid (nn = X.length) := hnn
            have hxl : X.length ≤ 400020 := by
              rw [HX.out, List.length_append]
              have h1 := joinM_len e.kind 0 (os.take j)
              have h2 := sizeP_take os j
              have h3 := HF.out.2.2.2.2.2.2.2.2.2.2.2.1
              have h4 : (os.take j).length ≤ 3 := by rw [List.length_take]; omega
              have h5 : ([105, 102, 40]).length ≤ 3 := by simp
              omega
            have hnl : nn ≤ 400020 := by omega
            have sq := HW.out.2.size
            have oql := HW.out.1.lt
            have oqe := HW.out.1.le
            clear hnn
            by_cases hjl : j < a3
            · have zj : (j : Int) < (a3 : Int) := by omega
              obtain ⟨x, hx⟩ : ∃ x, os[j]? = some x := ⟨_, List.getElem?_eq_getElem (by have := HF.out.2.2.2.1; have := HF.out.2.2.2.2.1; omega)⟩
              obtain ⟨tb, tc, hu, hE, htb1, htb2, _⟩ := HJ.out.txt j x hjl hx
              obtain ⟨tl, htl⟩ : ∃ tl, tl = (wrapT e.kind j x).length := ⟨_, rfl⟩
              have hcell : wr.cell? ⟨g, j, none⟩ = some (.slice (some ⟨tb, 0, none⟩) tl tc) := by rw [HW.out.2.cell (p := ⟨g, j, none⟩) HJ.out.own.lt.2, HJ.out.own.cell hu, htl]
              have htlb : tl ≤ 400002 := by
                rw [htl]
                have h1 := wrapT_len e.kind j x
                have h2 := size_get hx
                have h3 := HF.out.2.2.2.2.2.2.2.2.2.2.2.1
                omega
              have HX2 : Hid ([105, 102, 40] ++ joinM e.kind 0 (os.take (j + 1)) = X ++ ((if j = 0 then [] else sepM e.kind) ++ wrapT e.kind j x)) := by
                show _ = _
                rw [joinM_take e.kind hx, HX.out]
                simp only [List.append_assoc]
              obtain ⟨T, hT⟩ : ∃ T : List UInt8, T = wrapT e.kind j x := ⟨_, rfl⟩
              rw [← hT] at hE htl HX2
              have HT2 : Hid (BysAt W5 tb 0 T ∧ tl = T.length) := ⟨hE, htl⟩
              clear hx hu hE htl hT
              by_cases hj0 : j = 0
              · have z0 : ¬ (0 : Int) < (j : Int) := by omega
                have HX3 : Hid ([105, 102, 40] ++ joinM e.kind 0 (os.take (j + 1)) = X ++ T) := by show _ = _; rw [HX2.out, if_pos hj0]; rfl
                clear hj0
                go_wp2_with (at_builtin; refine wpList_append_wr _ rfl _ _ rfl W5.heap.size og oc nn tb 0 tl tc X T rfl rfl HNN.out HT2.out.2 HW.out.1 (HT2.out.1.below HW.out.2 htb2) ?hlA16 (by omega) ?_)
                case hlA16 => rw [← HT2.out.2]; omega
                intro og3 oc3 W8 hW8 hgr8 hat8
                obtain ⟨n8, hn8⟩ : ∃ n8, n8 = nn + tl := ⟨_, rfl⟩
                have HR8 : Hid (WrB W8 W5.heap.size og3 oc3 (X ++ T) ∧ Below W5.heap.size W5 W8) := ⟨hW8, WrB.next HW.out.2 (by omega) (by omega) hgr8⟩
                have HN8 : Hid (n8 = (X ++ T).length) := by show _ = _; rw [hn8, List.length_append, ← HNN.out, ← HT2.out.2]
                obtain ⟨X8, hX8⟩ : ∃ X8 : List UInt8, X8 = X ++ T := ⟨_, rfl⟩
                rw [← hX8] at HR8 HN8
                have HX8 : Hid (X8 = [105, 102, 40] ++ joinM e.kind 0 (os.take (j + 1))) := by show _ = _; rw [hX8, HX3.out]
                try rw [← hn8]
                clear hW8 hgr8 hat8 hX8 hn8
                go_wp2_with fail
                go_roundw
                case rel => exact ⟨j + 1, og3, oc3, n8, X8, by omega, by go_num, by first | rfl | (rw [hn8]), HN8.out, HX8, HR8⟩
                case measure => simp [intOf]; omega
              · have z0 : (0 : Int) < (j : Int) := by omega
                have HX3 : Hid ([105, 102, 40] ++ joinM e.kind 0 (os.take (j + 1)) = X ++ [44, 32] ++ T) := by show _ = _; rw [HX2.out, if_neg hj0, HKK.out]; simp [sepM]
                obtain ⟨VS, hVS⟩ : ∃ VS, VS = Lib.bytesWorld wr 5 ⟨#[44, 32]⟩ := ⟨_, rfl⟩
                obtain ⟨cs, hcs⟩ : ∃ cs, cs = grownCap wr 2 0 5 := ⟨_, rfl⟩
                have hcv : Sem.run Tryz.prog (convert 9 22 (.string ⟨#[44, 32]⟩)) wr = .ok (.slice (some ⟨wr.heap.size, 0, none⟩) 2 cs) VS := by
                  rw [hVS, hcs]
                  exact Lib.run_convert_string_bytes (P := Tryz.prog) wr 9 22 5 ⟨#[44, 32]⟩ Tryz.underlying9 Tryz.underlying22 Tryz.underlying5
                have hbs := below_bytes wr ⟨#[44, 32]⟩
                rw [← hVS] at hbs
                have svs := hbs.size
                have HVS : Hid (WrB VS W5.heap.size og oc X ∧ Below W5.heap.size W5 VS ∧ BysAt VS wr.heap.size 0 [44, 32]) := by
                  refine ⟨HW.out.1.below hbs, HW.out.2.trans (hbs.mono sq), ?_⟩
                  rw [hVS]; exact bys_bytes wr ⟨#[44, 32]⟩
                clear hVS hcs hbs
                go_wp2_with (at_builtin; refine wpList_append_wr _ rfl _ _ rfl W5.heap.size og oc nn wr.heap.size 0 2 cs X [44, 32] rfl rfl HNN.out rfl HVS.out.1 HVS.out.2.2 ?hlS16 ?hbS16 ?_)
                case hlS16 => first | omega | (show X.length + 2 ≤ _; omega)
                case hbS16 => omega
                intro og2 oc2 W7 hW7 hgr7 hat7
                have s7 := hgr7.size
                obtain ⟨X7, hX7⟩ : ∃ X7 : List UInt8, X7 = X ++ [44, 32] := ⟨_, rfl⟩
                obtain ⟨n7, hn7⟩ : ∃ n7, n7 = nn + 2 := ⟨_, rfl⟩
                have HW7 : Hid (WrB W7 W5.heap.size og2 oc2 X7 ∧ Below W5.heap.size W5 W7) := ⟨by rw [hX7]; exact hW7, WrB.next HVS.out.2.1 (by omega) oqe hgr7⟩
                have HN7 : Hid (n7 = X7.length) := by show _ = _; rw [hn7, hX7, List.length_append, ← HNN.out]; rfl
                have HX7 : Hid ([105, 102, 40] ++ joinM e.kind 0 (os.take (j + 1)) = X7 ++ T) := by show _ = _; rw [HX3.out, hX7]
                have x7 : X7.length ≤ 400023 := by rw [hX7, List.length_append]; show X.length + 2 ≤ _; omega
                have o7 := HW7.out.1.lt
                have o7e := HW7.out.1.le
                have hcell7 : W7.cell? ⟨g, j, none⟩ = some (.slice (some ⟨tb, 0, none⟩) tl tc) := by
                  have h8 := HW7.out.2.cell (p := ⟨g, j, none⟩) HJ.out.own.lt.2
                  rw [h8, ← HW.out.2.cell (p := ⟨g, j, none⟩) HJ.out.own.lt.2]; exact hcell
                try rw [← hn7]
                clear hW7 hgr7 hat7 hX7 hn7 hcv hcell
                go_wp2_with (at_builtin; refine wpList_append_wr _ rfl _ _ rfl W5.heap.size og2 oc2 n7 tb 0 tl tc X7 T rfl rfl HN7.out HT2.out.2 HW7.out.1 (HT2.out.1.below HW7.out.2 htb2) ?hlB16 (by omega) ?_)
                case hlB16 => rw [← HT2.out.2]; omega
                intro og3 oc3 W8 hW8 hgr8 hat8
                obtain ⟨n8, hn8⟩ : ∃ n8, n8 = n7 + tl := ⟨_, rfl⟩
                have HR8 : Hid (WrB W8 W5.heap.size og3 oc3 (X7 ++ T) ∧ Below W5.heap.size W5 W8) := ⟨hW8, WrB.next HW7.out.2 (by omega) (by omega) hgr8⟩
                have HN8 : Hid (n8 = (X7 ++ T).length) := by show _ = _; rw [hn8, List.length_append, ← HN7.out, ← HT2.out.2]
                obtain ⟨X8, hX8⟩ : ∃ X8 : List UInt8, X8 = X7 ++ T := ⟨_, rfl⟩
                rw [← hX8] at HR8 HN8
                have HX8 : Hid (X8 = [105, 102, 40] ++ joinM e.kind 0 (os.take (j + 1))) := by show _ = _; rw [hX8, HX7.out]
                try rw [← hn8]
                clear hW8 hgr8 hat8 hX8 hn8
                go_wp2_with fail
                go_roundw
                case rel => exact ⟨j + 1, og3, oc3, n8, X8, by omega, by go_num, by first | rfl | (rw [hn8]), HN8.out, HX8, HR8⟩
                case measure => simp [intOf]; omega
            · have zj : ¬ (j : Int) < (a3 : Int) := by omega
              have HXE : Hid (Y = X ++ [41]) := by
                show _ = _
                have h1 := HX.out
                rw [List.take_of_length_le (by have := HF.out.2.2.2.1; have := HF.out.2.2.2.2.1; omega)] at h1
                rw [HYY.out, h1]
              obtain ⟨VE, hVE⟩ : ∃ VE : World, VE = wr.alloc (Obj.cells #[.int .u8 41] 5) := ⟨_, rfl⟩
              have hbE : Below wr.heap.size wr VE := by rw [hVE]; exact (Below.refl _ _).alloc (Nat.le_refl _) _
              have sE := hbE.size
              have HVE : Hid (WrB VE W5.heap.size og oc X ∧ Below W5.heap.size W5 VE ∧ BysAt VE wr.heap.size 0 [41]) := by
                refine ⟨HW.out.1.below hbE, HW.out.2.trans (hbE.mono sq), ?_⟩
                rw [hVE]; exact bys_new wr _ [41] rfl
              clear hbE
              go_wp2_with (at_builtin; (try rw [← hVE]); refine wpList_append_wr _ rfl _ _ rfl W5.heap.size og oc nn wr.heap.size 0 1 1 X [41] rfl rfl HNN.out rfl HVE.out.1 HVE.out.2.2 ?hlE ?hbE ?_)
              case hlE => first | omega | (show X.length + 1 ≤ _; omega)
              case hbE => omega
              intro og9 oc9 W9 hW9 hgr9' hat9
              have hgr9 : VE.grownBy W9 (some og) := by first | exact hgr9' | (rw [hVE]; exact hgr9')
              have HRE : Hid (TxP Y w (.returned (.slice (some ⟨og9, 0, none⟩) (nn + 1) oc9)) W9) := by
                refine ⟨og9, oc9, by rw [HXE.out, List.length_append, ← HNN.out]; rfl, ?_, HJ.out.below.trans ((WrB.next HVE.out.2.1 (by omega) oqe hgr9).mono sr)⟩
                rw [HXE.out]; exact hW9.mono sr
              clear hW9 hgr9 hat9
              try clear hgr9'
              try clear hVE
              go_wp2_with fail
              go_ret
              exact HRE.out
theorem text_all : ∀ n, TxC n
  | 0 => fun w b o cap xs y hn _ _ hS _ => by
    obtain ⟨ys, e, os, rfl, _⟩ := TrV.inv _ hS
    simp at hn
  | n + 1 => text_of (text_all n)
end Go.Proofs.YtgnpcenpcmdlfaaGreatDoor

/-
  Reading a number byte by byte (mathematics).
-/
namespace Go.Proofs.YtgnpcenpcmdlfaaGreatDoor
set_option linter.unusedVariables false
set_option linter.unusedSimpArgs false

/-- What 'k' bytes read, of the value 'acc', make of the number that follows. -/
def cont (k acc : Nat) (o : Option (Nat × List UInt8)) : Option (Nat × List UInt8) :=
  match o with
  | none => none
  | some (m, t) => if 0 < k ∧ m = 0 then none else some (acc + 128 ^ k * m, t)
theorem cont_zero (o : Option (Nat × List UInt8)) : cont 0 0 o = o := by
  cases o with
  | none => rfl
  | some p => obtain ⟨m, t⟩ := p; simp [cont]
theorem cont_more {k acc : Nat} {x : UInt8} {t : List UInt8} (hx : ¬ x.toNat < 128) : cont k acc (getAny (x :: t)) = cont (k + 1) (acc + x.toNat % 128 * 128 ^ k) (getAny t) := by
  rw [getAny, if_neg hx]
  cases hg : getAny t with
  | none => rfl
  | some p =>
    obtain ⟨m, u⟩ := p
    have h2 := u8lt x
    by_cases hm : m = 0
    · subst hm
      simp [cont]
    · simp only [cont]
      rw [if_neg hm]
      simp only []
      rw [if_neg (by omega), if_neg (by omega)]
      have h1 : x.toNat % 128 = x.toNat - 128 := by omega
      rw [h1, Nat.mul_add, Nat.pow_succ, Nat.mul_comm (x.toNat - 128), Nat.mul_assoc]
      simp [Nat.add_assoc]
/-- The number read so far and what follows. -/
structure NumTo (ys : List UInt8) (k acc : Nat) : Prop where
  eq : getAny ys = cont k acc (getAny (ys.drop k))
  lt : acc < 128 ^ k
  len : k ≤ ys.length
theorem numTo_zero (ys : List UInt8) : NumTo ys 0 0 := ⟨by rw [cont_zero]; rfl, by simp, Nat.zero_le _⟩
theorem NumTo.more {ys : List UInt8} {k acc : Nat} {x : UInt8} (h : NumTo ys k acc) (hx : ys[k]? = some x) (h8 : ¬ x.toNat < 128) : NumTo ys (k + 1) (acc + x.toNat % 128 * 128 ^ k) := by
  have hk := (List.getElem?_eq_some_iff.1 hx).1
  have hd : ys.drop k = x :: ys.drop (k + 1) := by rw [List.drop_eq_getElem_cons hk, (List.getElem?_eq_some_iff.1 hx).2]
  have h1 := h.lt
  refine ⟨?_, ?_, hk⟩
  · rw [h.eq, hd, cont_more h8]
  · have h2 : x.toNat % 128 ≤ 127 := by omega
    have h3 : x.toNat % 128 * 128 ^ k ≤ 127 * 128 ^ k := Nat.mul_le_mul_right _ h2
    rw [Nat.pow_succ]
    omega
theorem pow9 {k : Nat} (h : k ≤ 9) : 128 ^ k ≤ 9223372036854775808 := by
  have := Nat.pow_le_pow_right (n := 128) (by omega) h
  exact Nat.le_trans this (by decide)
theorem pow8 {k : Nat} (h : k ≤ 8) : 128 ^ k ≤ 72057594037927936 := by
  have := Nat.pow_le_pow_right (n := 128) (by omega) h
  exact Nat.le_trans this (by decide)
/-- Nothing follows. -/
theorem NumTo.none {ys : List UInt8} {k acc : Nat} (h : NumTo ys k acc) (hk : ys.length ≤ k) : getNum ys = Option.none := by
  unfold getNum
  rw [h.eq, List.drop_of_length_le hk]
  rfl
/-- The tenth byte is too great. -/
theorem NumTo.great {ys : List UInt8} {acc : Nat} {x : UInt8} (h : NumTo ys 9 acc) (hx : ys[9]? = some x) (h1 : 1 < x.toNat) : getNum ys = Option.none := by
  have hk := (List.getElem?_eq_some_iff.1 hx).1
  have hd : ys.drop 9 = x :: ys.drop (9 + 1) := by rw [List.drop_eq_getElem_cons hk, (List.getElem?_eq_some_iff.1 hx).2]
  unfold getNum
  rw [h.eq, hd]
  by_cases h8 : x.toNat < 128
  · rw [getAny, if_pos h8]
    simp only [cont]
    rw [if_neg (by omega)]
    simp only []
    rw [if_neg (by omega)]
  · rw [cont_more h8]
    cases hg : getAny (ys.drop (9 + 1)) with
    | none => rfl
    | some p =>
      obtain ⟨m, u⟩ := p
      simp only [cont]
      by_cases hm : m = 0
      · rw [if_pos ⟨by omega, hm⟩]
      · rw [if_neg (by omega)]
        simp only []
        rw [if_neg (by omega)]
theorem NumTo.bound {ys : List UInt8} {k acc y : Nat} (h : NumTo ys k acc) (hk9 : k ≤ 9) (h9 : k = 9 → y ≤ 1) : acc + y % 128 * 128 ^ k < 2 ^ 64 := by
  have hlt := h.lt
  by_cases q : k = 9
  · subst q
    have := h9 rfl
    have : y % 128 * 128 ^ 9 ≤ 1 * 128 ^ 9 := Nat.mul_le_mul_right _ (by omega)
    omega
  · have h1 := pow8 (k := k) (by omega)
    have h2 : y % 128 * 128 ^ k ≤ 127 * 72057594037927936 := Nat.mul_le_mul (by omega) h1
    omega
/-- The last byte. -/
theorem NumTo.last {ys : List UInt8} {k acc : Nat} {x : UInt8} (h : NumTo ys k acc) (hx : ys[k]? = some x) (h8 : x.toNat < 128) (hk9 : k ≤ 9) (h9 : k = 9 → x.toNat ≤ 1) :
    (0 < k ∧ x.toNat = 0 → getNum ys = Option.none) ∧ (¬ (0 < k ∧ x.toNat = 0) → getNum ys = some (acc + x.toNat % 128 * 128 ^ k, ys.drop (k + 1)) ∧ acc + x.toNat % 128 * 128 ^ k < 2 ^ 64) := by
  have hk := (List.getElem?_eq_some_iff.1 hx).1
  have hd : ys.drop k = x :: ys.drop (k + 1) := by rw [List.drop_eq_getElem_cons hk, (List.getElem?_eq_some_iff.1 hx).2]
  have he : getAny ys = cont k acc (some (x.toNat, ys.drop (k + 1))) := by rw [h.eq, hd, getAny, if_pos h8]
  have hlt := h.lt
  have hb : acc + x.toNat % 128 * 128 ^ k < 2 ^ 64 := by
    by_cases q : k = 9
    · subst q
      have := h9 rfl
      have : x.toNat % 128 * 128 ^ 9 ≤ 1 * 128 ^ 9 := Nat.mul_le_mul_right _ (by omega)
      omega
    · have h1 := pow8 (k := k) (by omega)
      have h2 : x.toNat % 128 * 128 ^ k ≤ 127 * 72057594037927936 := Nat.mul_le_mul (by omega) h1
      omega
  unfold getNum
  rw [he]
  simp only [cont]
  constructor
  · intro q
    rw [if_pos q]
  · intro q
    rw [if_neg q]
    simp only []
    rw [Nat.mod_eq_of_lt h8, Nat.mul_comm] at hb
    rw [if_pos hb, Nat.mod_eq_of_lt h8, Nat.mul_comm x.toNat]
    exact ⟨rfl, hb⟩
end Go.Proofs.YtgnpcenpcmdlfaaGreatDoor

/-
  impl.demand, (*impl.byteReader).take, end.
-/
namespace Go.Proofs.YtgnpcenpcmdlfaaGreatDoor
open Go.ChangeShapes Go.WideShapes Go.ChangeAt Go.RowKit Go.Deep
set_option linter.unusedVariables false
set_option linter.unusedSimpArgs false
set_option maxRecDepth 100000

theorem slots1 {a' : Act} {s : Tmp} {x : Value} (h : a'.tmps.getD s undef = x) : ∀ p ∈ [(s, x)], a'.tmps.getD p.1 undef = p.2 := by
  intro p hp
  rcases List.mem_cons.1 hp with rfl | hp
  · exact h
  · cases hp
theorem slots2 {a' : Act} {s t : Tmp} {x y : Value} (h : a'.tmps.getD s undef = x) (h2 : a'.tmps.getD t undef = y) : ∀ p ∈ [(s, x), (t, y)], a'.tmps.getD p.1 undef = p.2 := by
  intro p hp
  rcases List.mem_cons.1 hp with rfl | hp
  · exact h
  · exact slots1 h2 p hp

theorem BysAt.chgR {S : Nat → Prop} {w w' : World} {b off : Nat} {xs : List UInt8} (h : BysAt w b off xs) (hc : Chg S w w') (hlt : b < w.heap.size) (hn : ¬ S b) : BysAt w' b off xs := by
  intro i x hx
  rw [hc.cell (p := ⟨b, off + i, none⟩) hlt hn]
  exact h i x hx
theorem BysAt.drop {w : World} {b off : Nat} {xs : List UInt8} (h : BysAt w b off xs) (n : Nat) : BysAt w b (off + n) (xs.drop n) := by
  intro i x hx
  rw [List.getElem?_drop] at hx
  have := h (n + i) x hx
  rw [Nat.add_assoc]; exact this
theorem BysAt.take {w : World} {b off : Nat} {xs : List UInt8} (h : BysAt w b off xs) (n : Nat) : BysAt w b off (xs.take n) := by
  intro i x hx
  have hi := (List.getElem?_eq_some_iff.1 hx).1
  rw [List.length_take] at hi
  rw [List.getElem?_take_of_lt (by omega)] at hx
  exact h i x hx
theorem Chg.drew {S : Nat → Prop} {a w : World} (h : Chg S a w) : Chg S a w.drew := h.trans ⟨rfl, rfl, rfl, Nat.le_refl _, fun _ _ _ => rfl⟩

theorem wrap_u64 {n : Nat} (h : n < 2 ^ 64) : IntKind.u64.wrap (n : Int) = (n : Int) := by
  simp only [IntKind.wrap, IntKind.bits, IntKind.signed, Bool.false_and, Bool.false_eq_true, if_false]
  omega
end Go.Proofs.YtgnpcenpcmdlfaaGreatDoor

/-
  impl.appendNumber, appendFixed.
-/
namespace Go.Proofs.YtgnpcenpcmdlfaaGreatDoor
open Go.ChangeShapes Go.WideShapes Go.ChangeAt Go.RowKit Go.Deep
set_option linter.unusedVariables false
set_option linter.unusedSimpArgs false
set_option maxRecDepth 100000

/-- Bytes of the call's own, nil among them. -/
def OwnS (w : World) (base : Nat) (v : Value) (l : List UInt8) : Prop := w.ownsRow base 5 1 v l.length (l.map ub)
theorem OwnS.slice {w : World} {base : Nat} {v : Value} {l : List UInt8} (h : OwnS w base v l) : ∃ a cp, v = .slice a l.length cp := by
  rcases h.2 with ⟨rfl, h0⟩ | ⟨g, cap, cur, rfl, _⟩
  · exact ⟨none, 0, by rw [h0]⟩
  · exact ⟨_, _, rfl⟩
theorem OwnS.of {w : World} {base g cp : Nat} {l : List UInt8} (h : OwnY w base g cp l) : OwnS w base (.slice (some ⟨g, 0, none⟩) l.length cp) l := h
theorem OwnS.row {w : World} {base : Nat} {v : Value} {l : List UInt8} (h : OwnS w base v l) : ∀ k, v.ownBlock = some k → base ≤ k ∧ k < w.heap.size := fun k hk => World.ownsRow.lt h k hk
theorem OwnS.chg {S : Nat → Prop} {w w' : World} {base : Nat} {v : Value} {l : List UInt8} (h : OwnS w base v l) (hc : Chg S w w') (hn : ∀ k, v.ownBlock = some k → ¬ S k) : OwnS w' base v l := own_chg h hc hn
/-- Bytes appended to a row of the call's own, nil or not. -/
theorem wpList_append_bysV {ops : Array Oper} {rest : List Oper} {o : Oper} {a : Act} {Q : Exit → Act → World → Prop} (w : World) (hgd : o.guard = none) (s x : Operand)
    (ho : o.op = .call { callee := .builtin .append, args := #[s, x], argTypes := #[22, 22] })
    (base b off m cx : Nat) (v : Value) (l k : List UInt8) (hs : a.eval s = v) (hx : a.eval x = .slice (some ⟨b, off, none⟩) m cx) (hm : m = k.length) (hk : 0 < k.length) (hO : OwnS w base v l)
    (hc : BysAt w b off k) (hlen : l.length + k.length ≤ 2 ^ 30) (hbase : base ≤ w.heap.size)
    (h : ∀ g' cp' w', OwnY w' base g' cp' (l ++ k) → w.grownBy w' v.ownBlock → (v.ownBlock = some g' ∨ g' = w.heap.size) → wpList Tryz.prog ops Q rest (a.put o.dst (.slice (some ⟨g', 0, none⟩) (l ++ k).length cp')) w') : wpList Tryz.prog ops Q (o :: rest) a w := by
  subst hm
  obtain ⟨i, hi, hz0, hz1, hz2⟩ := info_parts Tryz.infoByte
  refine wpList_append_own_at w hgd s x 22 ho base 5 i _ 1 1 Tryz.underlying22 hi hz0 hz1 hz2 rfl (by decide) v l.length (l.map ub) hs hO ⟨b, off, none⟩ k.length cx (k.map ub) hx (by simp) ?_ (ub_one k) ?_ ?_ hbase ?_
  · intro j u hu
    rw [List.getElem?_map] at hu
    cases hkk : k[j]? with
    | none => rw [hkk] at hu; cases hu
    | some r =>
      rw [hkk] at hu
      simp at hu
      rw [Addr.add_mid, hc j r hkk, ← hu]
  · unfold maxLen; omega
  · omega
  · intro v' w' hO' hgr hnil hat
    rcases hO'.2 with ⟨h0, h00⟩ | ⟨g', cap', cur, hv, _, _, hn, hcap, _, _⟩
    · omega
    · subst hv
      have hl : (l ++ k).length = l.length + k.length := List.length_append
      have h1 := h g' cap' w' ?_ hgr ?_
      · rw [hl] at h1; exact h1
      · unfold OwnY
        rw [List.length_append, List.map_append]
        exact hO'
      · simp only [Value.ownBlock] at hat ⊢
        rcases hat with q | q
        · exact .inl q.symm
        · exact .inr (Option.some.inj q)
/-- What has turned, new blocks aside. -/
theorem Chg.fresh {w w' : World} {r : Option Nat} (h : Chg (fun k => r = some k ∨ w.heap.size ≤ k) w w') : Chg (fun k => r = some k) w w' :=
  ⟨h.os, h.tape, h.output, h.size, fun k hk hn => h.block k hk (fun q => by rcases q with q | q; exact hn q; omega)⟩
theorem or128 (n : Nat) : bits .or .u8 (IntKind.u8.wrap (n : Int)) 128 = ((128 + n % 128 : Nat) : Int) := by
  have h0 : IntKind.u8.wrap (n : Int) = ((n % 256 : Nat) : Int) := by
    simp only [IntKind.wrap, IntKind.bits, IntKind.signed, Bool.false_and, Bool.false_eq_true, if_false]
    omega
  rw [h0]
  have hb : ∀ x : Fin 256, bits .or .u8 ((x.val : Nat) : Int) 128 = ((128 + x.val % 128 : Nat) : Int) := by decide
  have := hb ⟨n % 256, by omega⟩
  rw [this]
  congr 1
  show 128 + n % 256 % 128 = 128 + n % 128
  omega

end Go.Proofs.YtgnpcenpcmdlfaaGreatDoor

