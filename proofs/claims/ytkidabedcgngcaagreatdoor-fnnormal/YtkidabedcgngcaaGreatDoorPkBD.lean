import Derived.Deep.DeepCutAuto
import Derived.Deep.RegionWith
import Derived.Test.YtkidabedcgngcaaGreatDoorPkBC
import Derived.Test.YtkidabedcgngcaaGreatDoorPkAI
import Derived.Test.YtkidabedcgngcaaGreatDoorPkAC
import Derived.Test.YtkidabedcgngcaaGreatDoorPkBA
import Derived.Test.YtkidabedcgngcaaGreatDoorPkAA
import Derived.Test.YtkidabedcgngcaaGreatDoorPkAF
/-
  impl's normalChain, normalInter, normalIf.
-/
namespace Go.Proofs.YtkidabedcgngcaaGreatDoor
open Go.ChangeShapes Go.WideShapes Go.ChangeAt Go.RowKit Go.Deep
set_option linter.unusedVariables false
set_option linter.unusedSimpArgs false
set_option maxRecDepth 100000

/-- A slice that is a row of nodes of its own. -/
def OwnNs (w : World) (v : Value) (y : List Nd) : Prop := ∃ g cp, v = .slice (some ⟨g, 0, none⟩) y.length cp ∧ OwnNd w 0 g cp y
theorem OwnNs.ins {w : World} {v : Value} {y : List Nd} (h : OwnNs w v y) : InNds w v y := by
  obtain ⟨g, cp, rfl, h⟩ := h
  exact InNds.own h rfl
theorem OwnNs.below {w w' : World} {v : Value} {y : List Nd} (h : OwnNs w v y) (hb : Below w.heap.size w w') : OwnNs w' v y := by
  obtain ⟨g, cp, rfl, h⟩ := h
  exact ⟨g, cp, rfl, h.below hb h.lt.2⟩
/-- What a visit hands back: nodes in a block of 'S', or in a new one. -/
def NmI (S : Nat → Prop) (y : List Nd) (w : World) (r : Ending) (w' : World) : Prop := ∃ v, r = .returned v ∧ OwnNs w' v y ∧ (∀ a n c, v = .slice (some a) n c → S a.block ∨ w.heap.size ≤ a.block) ∧ Below w.heap.size w w'
/-- An operand. -/
structure Opd (S : Nat → Prop) (w : World) (u : Value) (x : List Nd) : Prop where
  own : OwnNs w u x
  ne : x ≠ []
  blk : ∀ a n c, u = .slice (some a) n c → S a.block
  good : ∀ e ∈ x, GoodN e
  len : x.length ≤ 1000
theorem Opd.ins {S : Nat → Prop} {w : World} {u : Value} {x : List Nd} (h : Opd S w u x) : InNds w u x := h.own.ins
theorem Opd.form {S : Nat → Prop} {w : World} {u : Value} {x : List Nd} (h : Opd S w u x) : ∃ b o c, u = .slice (some ⟨b, o, none⟩) x.length c ∧ NdsAt w b o x ∧ b < w.heap.size := by
  obtain ⟨a, c, rfl, hf⟩ := h.ins.form
  obtain ⟨b, o, rfl, hE, hlt, _⟩ := hf h.ne
  exact ⟨b, o, c, rfl, hE, hlt⟩
theorem Opd.ret {S : Nat → Prop} {w : World} {u : Value} {x : List Nd} (h : Opd S w u x) : NmI S x w (.returned u) w := ⟨u, rfl, h.own, fun a n c hq => .inl (h.blk a n c hq), Below.refl _ _⟩
theorem isK_one {x : List Nd} {k l : Int} (h : isK x k) (g : isK x l) : k = l := by
  obtain ⟨n, rfl, rfl⟩ := h
  obtain ⟨m, hm, rfl⟩ := g
  cases hm
  rfl
/-- The concatenation of operands and a node of its own. -/
theorem cat_post {S : Nat → Prop} {w W : World} {y : List Nd} {r : Ending} {w' : World} (hb : Below w.heap.size w W) (hne : y ≠ []) (h : CatN W y r w') : NmI S y w r w' := by
  obtain ⟨v, rfl, hO, hb2⟩ := h
  have hb3 := hb.trans (hb2.mono hb.size)
  rcases hO.2 with ⟨_, q⟩ | ⟨g, cap, cur, rfl, h1, _⟩
  · exact absurd (List.length_eq_zero_iff.1 q) hne
  · refine ⟨_, rfl, ⟨g, cap, rfl, OwnNd.mono (show OwnNd w' W.heap.size g cap y from hO) (Nat.zero_le _)⟩, fun a n c hq => ?_, hb3⟩
    cases hq
    exact .inr (by have := hb.size; show w.heap.size ≤ g; omega)
theorem opd_nil : ([] : List (List Nd)).flatten = [] := rfl
theorem ownNd_two (w : World) (e : Nd) : OwnNd (w.alloc (Obj.cells #[.int .i64 e.kind, .string e.s, .bool e.hi, .string e.t, .int .u64 e.lo, .int .u64 e.up, .int .i64 e.n] 75)) w.heap.size w.heap.size 1 [e] :=
  World.ownsRow_lit w #[.int .i64 e.kind, .string e.s, .bool e.hi, .string e.t, .int .u64 e.lo, .int .u64 e.up, .int .i64 e.n] 1 (Nat.le_refl _) (by decide) rfl
set_option maxHeartbeats 4000000 in
theorem normalChain_core (S : Nat → Prop) (u0 u1 : Value) (x0 x1 : List Nd) (w : World) (h0 : Opd S w u0 x0) (h1 : Opd S w u1 x1) : Calls Tryz.prog 84 #[u0, u1] w (NmI S (normOf (bareNd 14) [x0, x1]) w) := by
  obtain ⟨y, hy⟩ : ∃ y, y = normOf (bareNd 14) [x0, x1] := ⟨_, rfl⟩
  rw [← hy]
  have HY0 : Hid (y = normOf (bareNd 14) [x0, x1]) := hy
  clear hy
  obtain ⟨b0, o0, c0, rfl, hE0, hl0⟩ := h0.form
  have HO0 : Hid (Opd S w (.slice (some ⟨b0, o0, none⟩) x0.length c0) x0 ∧ NdsAt w b0 o0 x0 ∧ b0 < w.heap.size) := ⟨h0, hE0, hl0⟩
  have HIs0 : Hid (∀ (k : Int) (B : Bool), B = isKB x0 k → Calls Tryz.prog 116 #[.slice (some ⟨b0, o0, none⟩) x0.length c0, .int .i64 k] w fun r w' => r = .returned (.bool B) ∧ w' = w) := fun k B hB => by rw [hB]; exact isSingle_core _ x0 k w HO0.out.1.ins (by have := HO0.out.1.len; omega)
  clear h0 hE0
  obtain ⟨b1, o1, c1, rfl, hE1, hl1⟩ := h1.form
  have HO1 : Hid (Opd S w (.slice (some ⟨b1, o1, none⟩) x1.length c1) x1 ∧ NdsAt w b1 o1 x1 ∧ b1 < w.heap.size) := ⟨h1, hE1, hl1⟩
  have HIs1 : Hid (∀ (k : Int) (B : Bool), B = isKB x1 k → Calls Tryz.prog 116 #[.slice (some ⟨b1, o1, none⟩) x1.length c1, .int .i64 k] w fun r w' => r = .returned (.bool B) ∧ w' = w) := fun k B hB => by rw [hB]; exact isSingle_core _ x1 k w HO1.out.1.ins (by have := HO1.out.1.len; omega)
  clear h1 hE1
  go_enter Tryz.func84, Tryz.ntmps84
  by_cases q01 : isK x0 1
  case pos =>
    have hB01 : Hid (true = isKB x0 1) := ((isKB_iff _ _).2 q01).symm
    go_wp2_with fail
    refine (HIs0.out 1 true hB01.out).mono ?_
    rintro r w2 ⟨rfl, hw2⟩
    rw [hw2]
    clear hw2
    have HR : Hid (NmI S y w (.returned (.slice (some ⟨b1, o1, none⟩) x1.length c1)) w) := by
      rw [show y = x1 by rw [HY0.out]; simp only [normOf, bareNd]; rw [if_pos trivial, if_pos (.inl q01)]]
      exact HO1.out.1.ret
    go_wp2_with fail
    go_ret
    exact HR.out
  have hB01 : Hid (false = isKB x0 1) := (isKB_no q01).symm
  go_wp2_with fail
  refine (HIs0.out 1 false hB01.out).mono ?_
  rintro r w2 ⟨rfl, hw2⟩
  rw [hw2]
  clear hw2
  by_cases q11 : isK x1 1
  case pos =>
    have hB11 : Hid (true = isKB x1 1) := ((isKB_iff _ _).2 q11).symm
    go_wp2_with fail
    refine (HIs1.out 1 true hB11.out).mono ?_
    rintro r w2 ⟨rfl, hw2⟩
    rw [hw2]
    clear hw2
    have HR : Hid (NmI S y w (.returned (.slice (some ⟨b0, o0, none⟩) x0.length c0)) w) := by
      rw [show y = x0 by rw [HY0.out]; simp only [normOf, bareNd]; rw [if_pos trivial, if_neg (fun z => z.elim q01 (fun z => by have := isK_one q11 z; omega)), if_pos (.inl q11)]]
      exact HO0.out.1.ret
    go_wp2_with fail
    go_ret
    exact HR.out
  have hB11 : Hid (false = isKB x1 1) := (isKB_no q11).symm
  go_wp2_with fail
  refine (HIs1.out 1 false hB11.out).mono ?_
  rintro r w2 ⟨rfl, hw2⟩
  rw [hw2]
  clear hw2
  by_cases q02 : isK x0 2
  case pos =>
    have hB02 : Hid (true = isKB x0 2) := ((isKB_iff _ _).2 q02).symm
    go_wp2_with fail
    refine (HIs0.out 2 true hB02.out).mono ?_
    rintro r w2 ⟨rfl, hw2⟩
    rw [hw2]
    clear hw2
    have HE : Hid (y = x0) := by
      show y = x0
      rw [HY0.out]
      simp only [normOf, bareNd]
      rw [if_pos trivial]
      by_cases q12 : isK x1 2
      · rw [if_pos (.inr q12), isK_good q12 HO1.out.1.good (by omega), isK_good q02 HO0.out.1.good (by omega)]
      · rw [if_neg (fun z => z.elim q01 q12), if_pos (.inr (.inl q02))]
    have HR : Hid (NmI S y w (.returned (.slice (some ⟨b0, o0, none⟩) x0.length c0)) w) := by
      rw [show y = x0 by exact HE.out]
      exact HO0.out.1.ret
    go_wp2_with fail
    go_ret
    exact HR.out
  have hB02 : Hid (false = isKB x0 2) := (isKB_no q02).symm
  go_wp2_with fail
  refine (HIs0.out 2 false hB02.out).mono ?_
  rintro r w2 ⟨rfl, hw2⟩
  rw [hw2]
  clear hw2
  by_cases q12 : isK x1 2
  case pos =>
    have hB12 : Hid (true = isKB x1 2) := ((isKB_iff _ _).2 q12).symm
    go_wp2_with fail
    refine (HIs1.out 2 true hB12.out).mono ?_
    rintro r w2 ⟨rfl, hw2⟩
    rw [hw2]
    clear hw2
    have HR : Hid (NmI S y w (.returned (.slice (some ⟨b1, o1, none⟩) x1.length c1)) w) := by
      rw [show y = x1 by rw [HY0.out]; simp only [normOf, bareNd]; rw [if_pos trivial, if_pos (.inr q12)]]
      exact HO1.out.1.ret
    go_wp2_with fail
    go_ret
    exact HR.out
  have hB12 : Hid (false = isKB x1 2) := (isKB_no q12).symm
  go_wp2_with fail
  refine (HIs1.out 2 false hB12.out).mono ?_
  rintro r w2 ⟨rfl, hw2⟩
  rw [hw2]
  clear hw2
  by_cases q03 : isK x0 3
  case pos =>
    have hB03 : Hid (true = isKB x0 3) := ((isKB_iff _ _).2 q03).symm
    go_wp2_with fail
    refine (HIs0.out 3 true hB03.out).mono ?_
    rintro r w2 ⟨rfl, hw2⟩
    rw [hw2]
    clear hw2
    by_cases q13 : isK x1 3
    case pos =>
      have hB13 : Hid (true = isKB x1 3) := ((isKB_iff _ _).2 q13).symm
      go_wp2_with fail
      refine (HIs1.out 3 true hB13.out).mono ?_
      rintro r w2 ⟨rfl, hw2⟩
      rw [hw2]
      clear hw2
      have HR : Hid (NmI S y w (.returned (.slice (some ⟨b0, o0, none⟩) x0.length c0)) w) := by
        rw [show y = x0 by rw [HY0.out]; simp only [normOf, bareNd]; rw [if_pos trivial, if_neg (fun z => z.elim q01 q12), if_pos (.inr (.inr ⟨q03, q13⟩))]]
        exact HO0.out.1.ret
      go_wp2_with fail
      go_ret
      exact HR.out
    have hB13 : Hid (false = isKB x1 3) := (isKB_no q13).symm
    go_wp2_with fail
    refine (HIs1.out 3 false hB13.out).mono ?_
    rintro r w2 ⟨rfl, hw2⟩
    rw [hw2]
    clear hw2
    have HY : Hid (y =  x0 ++ x1 ++ [bareNd 14]) := by
      show y = _
      rw [HY0.out]; simp only [normOf, bareNd]; rw [if_pos trivial, if_neg (fun z => z.elim q01 q12), if_neg (fun z => z.elim q11 (fun z => z.elim q02 (fun z => q13 z.2)))]
    have hbV : Below w.heap.size w w := Below.refl _ _
    obtain ⟨V1, hV1⟩ : ∃ V1 : World, V1 = w.alloc (Obj.cells #[.int .i64 14, .string ⟨#[]⟩, .bool false, .string ⟨#[]⟩, .int .u64 0, .int .u64 0, .int .i64 0] 75) := ⟨_, rfl⟩
    obtain ⟨V2, hV2⟩ : ∃ V2 : World, V2 = V1.alloc (Obj.cells #[.slice (some ⟨b0, o0, none⟩) x0.length c0, .slice (some ⟨b1, o1, none⟩) x1.length c1, .slice (some ⟨w.heap.size, 0, none⟩) 1 1] 30) := ⟨_, rfl⟩
    have hb1 : Below w.heap.size w V1 := by rw [hV1]; exact (Below.refl _ _).alloc (Nat.le_refl _) _
    have hb2 : Below V1.heap.size V1 V2 := by rw [hV2]; exact (Below.refl _ _).alloc (Nat.le_refl _) _
    have hz1 : V1.heap.size = w.heap.size + 1 := by rw [hV1]; simp
    have hz2 : V2.heap.size = w.heap.size + 1 + 1 := by rw [hV2]; simp [hz1]
    have kb : Below w.heap.size w V2 := (hbV.trans (hb1.mono hbV.size)).trans (hb2.mono (by have := hbV.size; omega))
    have HCt : Hid (Calls Tryz.prog 117 #[.slice (some ⟨w.heap.size + 1, 0, none⟩) 3 3] V2 (NmI S y w)) := by
      have hN : NdsAt V2 w.heap.size 0 [bareNd 14] := by
        have h9 : NdsAt V1 w.heap.size 0 [bareNd 14] := by rw [hV1]; exact (ownNd_two w (bareNd 14)).at
        exact h9.below hb2 (by omega)
      have hP : Parts V2 (w.heap.size + 1) [x0, x1, [bareNd 14]] := by
        refine ⟨by omega, fun j y hy => ?_⟩
        match j, hy with
        | 0, hy =>
          obtain rfl := Option.some.inj hy
          exact ⟨b0, o0, c0, by rw [hV2, ← hz1]; simp, HO0.out.2.1.below kb HO0.out.2.2, by have := kb.size; have := HO0.out.2.2; omega⟩
        | 1, hy =>
          obtain rfl := Option.some.inj hy
          exact ⟨b1, o1, c1, by rw [hV2, ← hz1]; simp, HO1.out.2.1.below kb HO1.out.2.2, by have := kb.size; have := HO1.out.2.2; omega⟩
        | 2, hy =>
          obtain rfl := Option.some.inj hy
          exact ⟨w.heap.size, 0, 1, by rw [hV2, ← hz1]; simp, hN, by omega⟩
        | m + 3, hy => simp at hy
      have hc := concatN_core (w.heap.size + 1) 3 _ V2 hP (by simp; have := HO0.out.1.len; have := HO1.out.1.len; omega) rfl (by omega)
      refine hc.mono ?_
      intro r w' hr
      rw [show [x0, x1, [bareNd 14]].flatten = y by rw [HY.out]; simp] at hr
      exact cat_post kb (by rw [HY.out]; simp) hr
    rw [← hz1] at HCt
    go_wp2_with fail
    rw [← hV1, ← hV2]
    clear hV1 hV2
    rw [hz1] at HCt
    refine HCt.out.mono ?_
    rintro r w3 hr3
    have HR3 : Hid (NmI S y w r w3) := hr3
    obtain ⟨v3, rfl, _⟩ := hr3
    go_wp2_with fail
    go_ret
    exact HR3.out
  have hB03 : Hid (false = isKB x0 3) := (isKB_no q03).symm
  go_wp2_with fail
  refine (HIs0.out 3 false hB03.out).mono ?_
  rintro r w2 ⟨rfl, hw2⟩
  rw [hw2]
  clear hw2
  have HY : Hid (y =  x0 ++ x1 ++ [bareNd 14]) := by
    show y = _
    rw [HY0.out]; simp only [normOf, bareNd]; rw [if_pos trivial, if_neg (fun z => z.elim q01 q12), if_neg (fun z => z.elim q11 (fun z => z.elim q02 (fun z => q03 z.1)))]
  have hbV : Below w.heap.size w w := Below.refl _ _
  obtain ⟨V1, hV1⟩ : ∃ V1 : World, V1 = w.alloc (Obj.cells #[.int .i64 14, .string ⟨#[]⟩, .bool false, .string ⟨#[]⟩, .int .u64 0, .int .u64 0, .int .i64 0] 75) := ⟨_, rfl⟩
  obtain ⟨V2, hV2⟩ : ∃ V2 : World, V2 = V1.alloc (Obj.cells #[.slice (some ⟨b0, o0, none⟩) x0.length c0, .slice (some ⟨b1, o1, none⟩) x1.length c1, .slice (some ⟨w.heap.size, 0, none⟩) 1 1] 30) := ⟨_, rfl⟩
  have hb1 : Below w.heap.size w V1 := by rw [hV1]; exact (Below.refl _ _).alloc (Nat.le_refl _) _
  have hb2 : Below V1.heap.size V1 V2 := by rw [hV2]; exact (Below.refl _ _).alloc (Nat.le_refl _) _
  have hz1 : V1.heap.size = w.heap.size + 1 := by rw [hV1]; simp
  have hz2 : V2.heap.size = w.heap.size + 1 + 1 := by rw [hV2]; simp [hz1]
  have kb : Below w.heap.size w V2 := (hbV.trans (hb1.mono hbV.size)).trans (hb2.mono (by have := hbV.size; omega))
  have HCt : Hid (Calls Tryz.prog 117 #[.slice (some ⟨w.heap.size + 1, 0, none⟩) 3 3] V2 (NmI S y w)) := by
    have hN : NdsAt V2 w.heap.size 0 [bareNd 14] := by
      have h9 : NdsAt V1 w.heap.size 0 [bareNd 14] := by rw [hV1]; exact (ownNd_two w (bareNd 14)).at
      exact h9.below hb2 (by omega)
    have hP : Parts V2 (w.heap.size + 1) [x0, x1, [bareNd 14]] := by
      refine ⟨by omega, fun j y hy => ?_⟩
      match j, hy with
      | 0, hy =>
        obtain rfl := Option.some.inj hy
        exact ⟨b0, o0, c0, by rw [hV2, ← hz1]; simp, HO0.out.2.1.below kb HO0.out.2.2, by have := kb.size; have := HO0.out.2.2; omega⟩
      | 1, hy =>
        obtain rfl := Option.some.inj hy
        exact ⟨b1, o1, c1, by rw [hV2, ← hz1]; simp, HO1.out.2.1.below kb HO1.out.2.2, by have := kb.size; have := HO1.out.2.2; omega⟩
      | 2, hy =>
        obtain rfl := Option.some.inj hy
        exact ⟨w.heap.size, 0, 1, by rw [hV2, ← hz1]; simp, hN, by omega⟩
      | m + 3, hy => simp at hy
    have hc := concatN_core (w.heap.size + 1) 3 _ V2 hP (by simp; have := HO0.out.1.len; have := HO1.out.1.len; omega) rfl (by omega)
    refine hc.mono ?_
    intro r w' hr
    rw [show [x0, x1, [bareNd 14]].flatten = y by rw [HY.out]; simp] at hr
    exact cat_post kb (by rw [HY.out]; simp) hr
  rw [← hz1] at HCt
  go_wp2_with fail
  rw [← hV1, ← hV2]
  clear hV1 hV2
  rw [hz1] at HCt
  refine HCt.out.mono ?_
  rintro r w3 hr3
  have HR3 : Hid (NmI S y w r w3) := hr3
  obtain ⟨v3, rfl, _⟩ := hr3
  go_wp2_with fail
  go_ret
  exact HR3.out
set_option maxHeartbeats 4000000 in
theorem normalInter_core (S : Nat → Prop) (u0 u1 : Value) (x0 x1 : List Nd) (w : World) (h0 : Opd S w u0 x0) (h1 : Opd S w u1 x1) : Calls Tryz.prog 85 #[u0, u1] w (NmI S (normOf (bareNd 15) [x0, x1]) w) := by
  obtain ⟨y, hy⟩ : ∃ y, y = normOf (bareNd 15) [x0, x1] := ⟨_, rfl⟩
  rw [← hy]
  have HY0 : Hid (y = normOf (bareNd 15) [x0, x1]) := hy
  clear hy
  obtain ⟨b0, o0, c0, rfl, hE0, hl0⟩ := h0.form
  have HO0 : Hid (Opd S w (.slice (some ⟨b0, o0, none⟩) x0.length c0) x0 ∧ NdsAt w b0 o0 x0 ∧ b0 < w.heap.size) := ⟨h0, hE0, hl0⟩
  have HIs0 : Hid (∀ (k : Int) (B : Bool), B = isKB x0 k → Calls Tryz.prog 116 #[.slice (some ⟨b0, o0, none⟩) x0.length c0, .int .i64 k] w fun r w' => r = .returned (.bool B) ∧ w' = w) := fun k B hB => by rw [hB]; exact isSingle_core _ x0 k w HO0.out.1.ins (by have := HO0.out.1.len; omega)
  clear h0 hE0
  obtain ⟨b1, o1, c1, rfl, hE1, hl1⟩ := h1.form
  have HO1 : Hid (Opd S w (.slice (some ⟨b1, o1, none⟩) x1.length c1) x1 ∧ NdsAt w b1 o1 x1 ∧ b1 < w.heap.size) := ⟨h1, hE1, hl1⟩
  have HIs1 : Hid (∀ (k : Int) (B : Bool), B = isKB x1 k → Calls Tryz.prog 116 #[.slice (some ⟨b1, o1, none⟩) x1.length c1, .int .i64 k] w fun r w' => r = .returned (.bool B) ∧ w' = w) := fun k B hB => by rw [hB]; exact isSingle_core _ x1 k w HO1.out.1.ins (by have := HO1.out.1.len; omega)
  clear h1 hE1
  have HSm : Hid (∀ (B : Bool), B = sameB x0 x1 → Calls Tryz.prog 118 #[.slice (some ⟨b0, o0, none⟩) x0.length c0, .slice (some ⟨b1, o1, none⟩) x1.length c1] w fun r w' => r = .returned (.bool B) ∧ ∃ m, w' = w.drewN m) := fun B hB => by rw [hB]; exact equalN_core _ _ x0 x1 w HO0.out.1.ins HO1.out.1.ins (by have := HO0.out.1.len; omega) (by have := HO1.out.1.len; omega)
  go_enter Tryz.func85, Tryz.ntmps85
  by_cases q02 : isK x0 2
  case pos =>
    have hB02 : Hid (true = isKB x0 2) := ((isKB_iff _ _).2 q02).symm
    go_wp2_with fail
    refine (HIs0.out 2 true hB02.out).mono ?_
    rintro r w2 ⟨rfl, hw2⟩
    rw [hw2]
    clear hw2
    have HR : Hid (NmI S y w (.returned (.slice (some ⟨b1, o1, none⟩) x1.length c1)) w) := by
      rw [show y = x1 by rw [HY0.out]; simp only [normOf]; rw [if_neg (show ¬ (bareNd 15).kind = 14 from (by show ¬ (15 : Int) = 14; omega)), if_pos q02]]
      exact HO1.out.1.ret
    go_wp2_with fail
    go_ret
    exact HR.out
  have hB02 : Hid (false = isKB x0 2) := (isKB_no q02).symm
  go_wp2_with fail
  refine (HIs0.out 2 false hB02.out).mono ?_
  rintro r w2 ⟨rfl, hw2⟩
  rw [hw2]
  clear hw2
  by_cases q12 : isK x1 2
  case pos =>
    have hB12 : Hid (true = isKB x1 2) := ((isKB_iff _ _).2 q12).symm
    go_wp2_with fail
    refine (HIs1.out 2 true hB12.out).mono ?_
    rintro r w2 ⟨rfl, hw2⟩
    rw [hw2]
    clear hw2
    have HR : Hid (NmI S y w (.returned (.slice (some ⟨b0, o0, none⟩) x0.length c0)) w) := by
      rw [show y = x0 by rw [HY0.out]; simp only [normOf]; rw [if_neg (show ¬ (bareNd 15).kind = 14 from (by show ¬ (15 : Int) = 14; omega)), if_neg q02, if_pos (.inl q12)]]
      exact HO0.out.1.ret
    go_wp2_with fail
    go_ret
    exact HR.out
  have hB12 : Hid (false = isKB x1 2) := (isKB_no q12).symm
  go_wp2_with fail
  refine (HIs1.out 2 false hB12.out).mono ?_
  rintro r w2 ⟨rfl, hw2⟩
  rw [hw2]
  clear hw2
  by_cases q01 : isK x0 1
  case pos =>
    have hB01 : Hid (true = isKB x0 1) := ((isKB_iff _ _).2 q01).symm
    go_wp2_with fail
    refine (HIs0.out 1 true hB01.out).mono ?_
    rintro r w2 ⟨rfl, hw2⟩
    rw [hw2]
    clear hw2
    have HR : Hid (NmI S y w (.returned (.slice (some ⟨b0, o0, none⟩) x0.length c0)) w) := by
      rw [show y = x0 by rw [HY0.out]; simp only [normOf]; rw [if_neg (show ¬ (bareNd 15).kind = 14 from (by show ¬ (15 : Int) = 14; omega)), if_neg q02, if_pos (.inr (.inl q01))]]
      exact HO0.out.1.ret
    go_wp2_with fail
    go_ret
    exact HR.out
  have hB01 : Hid (false = isKB x0 1) := (isKB_no q01).symm
  go_wp2_with fail
  refine (HIs0.out 1 false hB01.out).mono ?_
  rintro r w2 ⟨rfl, hw2⟩
  rw [hw2]
  clear hw2
  by_cases qs : x0 = x1
  case pos =>
    have hBs : Hid (true = sameB x0 x1) := ((sameB_iff _ _).2 qs).symm
    have HQs : Hid (x0 = x1) := qs
    clear qs
    go_wp2_with fail
    refine (HSm.out true hBs.out).mono ?_
    rintro r w2 ⟨rfl, m2, hw2⟩
    rw [hw2]
    clear hw2
    have HR : Hid (∀ m, NmI S y w (.returned (.slice (some ⟨b0, o0, none⟩) x0.length c0)) (w.drewN m)) := fun m => by
      rw [show y = x0 by rw [HY0.out]; simp only [normOf]; rw [if_neg (show ¬ (bareNd 15).kind = 14 from (by show ¬ (15 : Int) = 14; omega)), if_neg q02, if_pos (.inr (.inr HQs.out))]]
      obtain ⟨v, hv, h1, h2, h3⟩ := HO0.out.1.ret
      exact ⟨v, hv, h1.below (below_drewN (Below.refl _ _) m), h2, below_drewN h3 m⟩
    go_wp2_with fail
    go_ret
    exact HR.out _
  have hBs : Hid (false = sameB x0 x1) := (sameB_no qs).symm
  go_wp2_with fail
  refine (HSm.out false hBs.out).mono ?_
  rintro r w2 ⟨rfl, m2, hw2⟩
  rw [hw2]
  clear hw2
  have HNq : Hid (¬ x0 = x1) := qs
  clear qs
  have HY : Hid (y =  x0 ++ x1 ++ [bareNd 15]) := by
    show y = _
    rw [HY0.out]; simp only [normOf]; rw [if_neg (show ¬ (bareNd 15).kind = 14 from (by show ¬ (15 : Int) = 14; omega)), if_neg q02, if_neg (fun z => z.elim q12 (fun z => z.elim q01 HNq.out))]
  obtain ⟨V, hV⟩ : ∃ V : World, V = w.drewN m2 := ⟨_, rfl⟩
  have hbV : Below w.heap.size w V := by rw [hV]; exact below_drewN (Below.refl _ _) _
  rw [← hV]
  clear hV
  obtain ⟨V1, hV1⟩ : ∃ V1 : World, V1 = V.alloc (Obj.cells #[.int .i64 15, .string ⟨#[]⟩, .bool false, .string ⟨#[]⟩, .int .u64 0, .int .u64 0, .int .i64 0] 75) := ⟨_, rfl⟩
  obtain ⟨V2, hV2⟩ : ∃ V2 : World, V2 = V1.alloc (Obj.cells #[.slice (some ⟨b0, o0, none⟩) x0.length c0, .slice (some ⟨b1, o1, none⟩) x1.length c1, .slice (some ⟨V.heap.size, 0, none⟩) 1 1] 30) := ⟨_, rfl⟩
  have hb1 : Below V.heap.size V V1 := by rw [hV1]; exact (Below.refl _ _).alloc (Nat.le_refl _) _
  have hb2 : Below V1.heap.size V1 V2 := by rw [hV2]; exact (Below.refl _ _).alloc (Nat.le_refl _) _
  have hz1 : V1.heap.size = V.heap.size + 1 := by rw [hV1]; simp
  have hz2 : V2.heap.size = V.heap.size + 1 + 1 := by rw [hV2]; simp [hz1]
  have kb : Below w.heap.size w V2 := (hbV.trans (hb1.mono hbV.size)).trans (hb2.mono (by have := hbV.size; omega))
  have HCt : Hid (Calls Tryz.prog 117 #[.slice (some ⟨V.heap.size + 1, 0, none⟩) 3 3] V2 (NmI S y w)) := by
    have hN : NdsAt V2 V.heap.size 0 [bareNd 15] := by
      have h9 : NdsAt V1 V.heap.size 0 [bareNd 15] := by rw [hV1]; exact (ownNd_two V (bareNd 15)).at
      exact h9.below hb2 (by omega)
    have hP : Parts V2 (V.heap.size + 1) [x0, x1, [bareNd 15]] := by
      refine ⟨by omega, fun j y hy => ?_⟩
      match j, hy with
      | 0, hy =>
        obtain rfl := Option.some.inj hy
        exact ⟨b0, o0, c0, by rw [hV2, ← hz1]; simp, HO0.out.2.1.below kb HO0.out.2.2, by have := kb.size; have := HO0.out.2.2; omega⟩
      | 1, hy =>
        obtain rfl := Option.some.inj hy
        exact ⟨b1, o1, c1, by rw [hV2, ← hz1]; simp, HO1.out.2.1.below kb HO1.out.2.2, by have := kb.size; have := HO1.out.2.2; omega⟩
      | 2, hy =>
        obtain rfl := Option.some.inj hy
        exact ⟨V.heap.size, 0, 1, by rw [hV2, ← hz1]; simp, hN, by omega⟩
      | m + 3, hy => simp at hy
    have hc := concatN_core (V.heap.size + 1) 3 _ V2 hP (by simp; have := HO0.out.1.len; have := HO1.out.1.len; omega) rfl (by omega)
    refine hc.mono ?_
    intro r w' hr
    rw [show [x0, x1, [bareNd 15]].flatten = y by rw [HY.out]; simp] at hr
    exact cat_post kb (by rw [HY.out]; simp) hr
  rw [← hz1] at HCt
  go_wp2_with fail
  rw [← hV1, ← hV2]
  clear hV1 hV2
  rw [hz1] at HCt
  refine HCt.out.mono ?_
  rintro r w3 hr3
  have HR3 : Hid (NmI S y w r w3) := hr3
  obtain ⟨v3, rfl, _⟩ := hr3
  go_wp2_with fail
  go_ret
  exact HR3.out
set_option maxHeartbeats 4000000 in
theorem normalIf_core (S : Nat → Prop) (u0 u1 u2 : Value) (x0 x1 x2 : List Nd) (w : World) (h0 : Opd S w u0 x0) (h1 : Opd S w u1 x1) (h2 : Opd S w u2 x2) : Calls Tryz.prog 86 #[u0, u1, u2] w (NmI S (normOf (bareNd 16) [x0, x1, x2]) w) := by
  obtain ⟨y, hy⟩ : ∃ y, y = normOf (bareNd 16) [x0, x1, x2] := ⟨_, rfl⟩
  rw [← hy]
  have HY0 : Hid (y = normOf (bareNd 16) [x0, x1, x2]) := hy
  clear hy
  obtain ⟨b0, o0, c0, rfl, hE0, hl0⟩ := h0.form
  have HO0 : Hid (Opd S w (.slice (some ⟨b0, o0, none⟩) x0.length c0) x0 ∧ NdsAt w b0 o0 x0 ∧ b0 < w.heap.size) := ⟨h0, hE0, hl0⟩
  have HIs0 : Hid (∀ (k : Int) (B : Bool), B = isKB x0 k → Calls Tryz.prog 116 #[.slice (some ⟨b0, o0, none⟩) x0.length c0, .int .i64 k] w fun r w' => r = .returned (.bool B) ∧ w' = w) := fun k B hB => by rw [hB]; exact isSingle_core _ x0 k w HO0.out.1.ins (by have := HO0.out.1.len; omega)
  clear h0 hE0
  obtain ⟨b1, o1, c1, rfl, hE1, hl1⟩ := h1.form
  have HO1 : Hid (Opd S w (.slice (some ⟨b1, o1, none⟩) x1.length c1) x1 ∧ NdsAt w b1 o1 x1 ∧ b1 < w.heap.size) := ⟨h1, hE1, hl1⟩
  have HIs1 : Hid (∀ (k : Int) (B : Bool), B = isKB x1 k → Calls Tryz.prog 116 #[.slice (some ⟨b1, o1, none⟩) x1.length c1, .int .i64 k] w fun r w' => r = .returned (.bool B) ∧ w' = w) := fun k B hB => by rw [hB]; exact isSingle_core _ x1 k w HO1.out.1.ins (by have := HO1.out.1.len; omega)
  clear h1 hE1
  obtain ⟨b2, o2, c2, rfl, hE2, hl2⟩ := h2.form
  have HO2 : Hid (Opd S w (.slice (some ⟨b2, o2, none⟩) x2.length c2) x2 ∧ NdsAt w b2 o2 x2 ∧ b2 < w.heap.size) := ⟨h2, hE2, hl2⟩
  have HIs2 : Hid (∀ (k : Int) (B : Bool), B = isKB x2 k → Calls Tryz.prog 116 #[.slice (some ⟨b2, o2, none⟩) x2.length c2, .int .i64 k] w fun r w' => r = .returned (.bool B) ∧ w' = w) := fun k B hB => by rw [hB]; exact isSingle_core _ x2 k w HO2.out.1.ins (by have := HO2.out.1.len; omega)
  clear h2 hE2
  have HSm : Hid (∀ (B : Bool), B = sameB x1 x2 → Calls Tryz.prog 118 #[.slice (some ⟨b1, o1, none⟩) x1.length c1, .slice (some ⟨b2, o2, none⟩) x2.length c2] w fun r w' => r = .returned (.bool B) ∧ ∃ m, w' = w.drewN m) := fun B hB => by rw [hB]; exact equalN_core _ _ x1 x2 w HO1.out.1.ins HO2.out.1.ins (by have := HO1.out.1.len; omega) (by have := HO2.out.1.len; omega)
  go_enter Tryz.func86, Tryz.ntmps86
  by_cases q01 : isK x0 1
  case pos =>
    have hB01 : Hid (true = isKB x0 1) := ((isKB_iff _ _).2 q01).symm
    go_wp2_with fail
    refine (HIs0.out 1 true hB01.out).mono ?_
    rintro r w2 ⟨rfl, hw2⟩
    rw [hw2]
    clear hw2
    have HR : Hid (NmI S y w (.returned (.slice (some ⟨b1, o1, none⟩) x1.length c1)) w) := by
      rw [show y = x1 by rw [HY0.out]; simp only [normOf, bareNd]; rw [if_pos q01]]
      exact HO1.out.1.ret
    go_wp2_with fail
    go_ret
    exact HR.out
  have hB01 : Hid (false = isKB x0 1) := (isKB_no q01).symm
  go_wp2_with fail
  refine (HIs0.out 1 false hB01.out).mono ?_
  rintro r w2 ⟨rfl, hw2⟩
  rw [hw2]
  clear hw2
  by_cases q02 : isK x0 2
  case pos =>
    have hB02 : Hid (true = isKB x0 2) := ((isKB_iff _ _).2 q02).symm
    go_wp2_with fail
    refine (HIs0.out 2 true hB02.out).mono ?_
    rintro r w2 ⟨rfl, hw2⟩
    rw [hw2]
    clear hw2
    have HR : Hid (NmI S y w (.returned (.slice (some ⟨b2, o2, none⟩) x2.length c2)) w) := by
      rw [show y = x2 by rw [HY0.out]; simp only [normOf, bareNd]; rw [if_neg q01, if_pos q02]]
      exact HO2.out.1.ret
    go_wp2_with fail
    go_ret
    exact HR.out
  have hB02 : Hid (false = isKB x0 2) := (isKB_no q02).symm
  go_wp2_with fail
  refine (HIs0.out 2 false hB02.out).mono ?_
  rintro r w2 ⟨rfl, hw2⟩
  rw [hw2]
  clear hw2
  by_cases qs : x1 = x2
  case pos =>
    have hBs : Hid (true = sameB x1 x2) := ((sameB_iff _ _).2 qs).symm
    have HQs : Hid (x1 = x2) := qs
    clear qs
    go_wp2_with fail
    refine (HSm.out true hBs.out).mono ?_
    rintro r w2 ⟨rfl, m2, hw2⟩
    rw [hw2]
    clear hw2
    have HR : Hid (∀ m, NmI S y w (.returned (.slice (some ⟨b1, o1, none⟩) x1.length c1)) (w.drewN m)) := fun m => by
      rw [show y = x1 by rw [HY0.out]; simp only [normOf, bareNd]; rw [if_neg q01, if_neg q02, if_pos HQs.out]]
      obtain ⟨v, hv, h1, h2, h3⟩ := HO1.out.1.ret
      exact ⟨v, hv, h1.below (below_drewN (Below.refl _ _) m), h2, below_drewN h3 m⟩
    go_wp2_with fail
    go_ret
    exact HR.out _
  have hBs : Hid (false = sameB x1 x2) := (sameB_no qs).symm
  go_wp2_with fail
  refine (HSm.out false hBs.out).mono ?_
  rintro r w2 ⟨rfl, m2, hw2⟩
  rw [hw2]
  clear hw2
  have HNq : Hid (¬ x1 = x2) := qs
  clear qs
  have HY : Hid (y =  x0 ++ x1 ++ x2 ++ [bareNd 16]) := by
    show y = _
    rw [HY0.out]; simp only [normOf, bareNd]; rw [if_neg q01, if_neg q02, if_neg HNq.out]
  obtain ⟨V, hV⟩ : ∃ V : World, V = w.drewN m2 := ⟨_, rfl⟩
  have hbV : Below w.heap.size w V := by rw [hV]; exact below_drewN (Below.refl _ _) _
  rw [← hV]
  clear hV
  obtain ⟨V1, hV1⟩ : ∃ V1 : World, V1 = V.alloc (Obj.cells #[.int .i64 16, .string ⟨#[]⟩, .bool false, .string ⟨#[]⟩, .int .u64 0, .int .u64 0, .int .i64 0] 75) := ⟨_, rfl⟩
  obtain ⟨V2, hV2⟩ : ∃ V2 : World, V2 = V1.alloc (Obj.cells #[.slice (some ⟨b0, o0, none⟩) x0.length c0, .slice (some ⟨b1, o1, none⟩) x1.length c1, .slice (some ⟨b2, o2, none⟩) x2.length c2, .slice (some ⟨V.heap.size, 0, none⟩) 1 1] 30) := ⟨_, rfl⟩
  have hb1 : Below V.heap.size V V1 := by rw [hV1]; exact (Below.refl _ _).alloc (Nat.le_refl _) _
  have hb2 : Below V1.heap.size V1 V2 := by rw [hV2]; exact (Below.refl _ _).alloc (Nat.le_refl _) _
  have hz1 : V1.heap.size = V.heap.size + 1 := by rw [hV1]; simp
  have hz2 : V2.heap.size = V.heap.size + 1 + 1 := by rw [hV2]; simp [hz1]
  have kb : Below w.heap.size w V2 := (hbV.trans (hb1.mono hbV.size)).trans (hb2.mono (by have := hbV.size; omega))
  have HCt : Hid (Calls Tryz.prog 117 #[.slice (some ⟨V.heap.size + 1, 0, none⟩) 4 4] V2 (NmI S y w)) := by
    have hN : NdsAt V2 V.heap.size 0 [bareNd 16] := by
      have h9 : NdsAt V1 V.heap.size 0 [bareNd 16] := by rw [hV1]; exact (ownNd_two V (bareNd 16)).at
      exact h9.below hb2 (by omega)
    have hP : Parts V2 (V.heap.size + 1) [x0, x1, x2, [bareNd 16]] := by
      refine ⟨by omega, fun j y hy => ?_⟩
      match j, hy with
      | 0, hy =>
        obtain rfl := Option.some.inj hy
        exact ⟨b0, o0, c0, by rw [hV2, ← hz1]; simp, HO0.out.2.1.below kb HO0.out.2.2, by have := kb.size; have := HO0.out.2.2; omega⟩
      | 1, hy =>
        obtain rfl := Option.some.inj hy
        exact ⟨b1, o1, c1, by rw [hV2, ← hz1]; simp, HO1.out.2.1.below kb HO1.out.2.2, by have := kb.size; have := HO1.out.2.2; omega⟩
      | 2, hy =>
        obtain rfl := Option.some.inj hy
        exact ⟨b2, o2, c2, by rw [hV2, ← hz1]; simp, HO2.out.2.1.below kb HO2.out.2.2, by have := kb.size; have := HO2.out.2.2; omega⟩
      | 3, hy =>
        obtain rfl := Option.some.inj hy
        exact ⟨V.heap.size, 0, 1, by rw [hV2, ← hz1]; simp, hN, by omega⟩
      | m + 4, hy => simp at hy
    have hc := concatN_core (V.heap.size + 1) 4 _ V2 hP (by simp; have := HO0.out.1.len; have := HO1.out.1.len; have := HO2.out.1.len; omega) rfl (by omega)
    refine hc.mono ?_
    intro r w' hr
    rw [show [x0, x1, x2, [bareNd 16]].flatten = y by rw [HY.out]; simp] at hr
    exact cat_post kb (by rw [HY.out]; simp) hr
  rw [← hz1] at HCt
  go_wp2_with fail
  rw [← hV1, ← hV2]
  clear hV1 hV2
  rw [hz1] at HCt
  refine HCt.out.mono ?_
  rintro r w3 hr3
  have HR3 : Hid (NmI S y w r w3) := hr3
  obtain ⟨v3, rfl, _⟩ := hr3
  go_wp2_with fail
  go_ret
  exact HR3.out
end Go.Proofs.YtkidabedcgngcaaGreatDoor

/-
  impl's normalNode.
-/
namespace Go.Proofs.YtkidabedcgngcaaGreatDoor
open Go.ChangeShapes Go.WideShapes Go.ChangeAt Go.RowKit Go.Deep
set_option linter.unusedVariables false
set_option linter.unusedSimpArgs false
set_option maxRecDepth 100000

theorem Opd.below {S : Nat → Prop} {w w' : World} {u : Value} {x : List Nd} (h : Opd S w u x) (hb : Below w.heap.size w w') : Opd S w' u x := ⟨h.own.below hb, h.ne, h.blk, h.good, h.len⟩
theorem NmI.back {S : Nat → Prop} {y : List Nd} {w w1 : World} {r : Ending} {w' : World} (hb : Below w.heap.size w w1) (h : NmI S y w1 r w') : NmI S y w r w' := by
  obtain ⟨v, hv, h1, h2, h3⟩ := h
  refine ⟨v, hv, h1, fun a n c hq => ?_, hb.trans (h3.mono hb.size)⟩
  rcases h2 a n c hq with q | q
  · exact .inl q
  · exact .inr (by have := hb.size; omega)
set_option maxHeartbeats 8000000 in
theorem normalNode_core (S : Nat → Prop) (e : Nd) (g f c : Nat) (us : List Value) (xs : List (List Nd)) (w : World) (hg : GoodN e) (hgl : g < w.heap.size) (hl : xs.length = arity e.kind) (hul : us.length = xs.length) (hc : ∀ (j : Nat) (u : Value), us[j]? = some u → w.cell? ⟨g, f + j, none⟩ = some u) (hO : ∀ (j : Nat) (u : Value) (x : List Nd), us[j]? = some u → xs[j]? = some x → Opd S w u x) :
    Calls Tryz.prog 46 #[e.v, .slice (some ⟨g, f, none⟩) xs.length c] w (NmI S (normOf e xs) w) := by
  obtain ⟨y, hy⟩ : ∃ y, y = normOf e xs := ⟨_, rfl⟩
  rw [← hy]
  have HH : Hid (y = normOf e xs ∧ GoodN e ∧ xs.length = arity e.kind ∧ us.length = xs.length ∧ (∀ (j : Nat) (u : Value), us[j]? = some u → w.cell? ⟨g, f + j, none⟩ = some u) ∧ (∀ (j : Nat) (u : Value) (x : List Nd), us[j]? = some u → xs[j]? = some x → Opd S w u x)) := ⟨hy, hg, hl, hul, hc, hO⟩
  obtain ⟨W0, hW0⟩ : ∃ W0 : World, W0 = w.alloc (Obj.cells #[.int .i64 e.kind, .string e.s, .bool e.hi, .string e.t, .int .u64 e.lo, .int .u64 e.up, .int .i64 e.n] 75) := ⟨_, rfl⟩
  have hb0 : Below w.heap.size w W0 := by rw [hW0]; exact (Below.refl _ _).alloc (Nat.le_refl _) _
  obtain ⟨d0, d1, d2, d3, d4, d5, d6⟩ : W0.cell? ⟨w.heap.size, 0, none⟩ = some (.int .i64 e.kind) ∧ W0.cell? ⟨w.heap.size, 1, none⟩ = some (.string e.s) ∧ W0.cell? ⟨w.heap.size, 2, none⟩ = some (.bool e.hi) ∧ W0.cell? ⟨w.heap.size, 3, none⟩ = some (.string e.t) ∧ W0.cell? ⟨w.heap.size, 4, none⟩ = some (.int .u64 e.lo) ∧ W0.cell? ⟨w.heap.size, 5, none⟩ = some (.int .u64 e.up) ∧ W0.cell? ⟨w.heap.size, 6, none⟩ = some (.int .i64 e.n) := by
    rw [hW0]
    refine ⟨?_, ?_, ?_, ?_, ?_, ?_, ?_⟩ <;> simp
  clear hy hg hc hO
  go_enter Tryz.func46, Tryz.ntmps46
  go_upto_region 1 with fail
  rw [← hW0]
  clear hW0
  by_cases hk14 : e.kind = 14
  case pos =>
    have hxl : xs.length = 2 := by rw [HH.out.2.2.1, hk14]; rfl
    obtain ⟨x0, x1, hxs⟩ : ∃ x0 x1, xs = [x0, x1] := by
      match xs, hxl with
      | [x0, x1], _ => exact ⟨x0, x1, rfl⟩
    have hul2 : us.length = 2 := by rw [HH.out.2.2.2.1]; exact hxl
    obtain ⟨u0, u1, hus⟩ : ∃ u0 u1, us = [u0, u1] := by
      match us, hul2 with
      | [u0, u1], _ => exact ⟨u0, u1, rfl⟩
    have hp0 : Opd S w u0 x0 := HH.out.2.2.2.2.2 0 u0 x0 (by rw [hus]; rfl) (by rw [hxs]; rfl)
    obtain ⟨b0, o0, c0, hu0, _, _⟩ := hp0.form
    have m0 : W0.cell? ⟨g, f, none⟩ = some u0 := by rw [hb0.cell (p := ⟨g, f, none⟩) hgl]; exact HH.out.2.2.2.2.1 0 u0 (by rw [hus]; rfl)
    have hp1 : Opd S w u1 x1 := HH.out.2.2.2.2.2 1 u1 x1 (by rw [hus]; rfl) (by rw [hxs]; rfl)
    obtain ⟨b1, o1, c1, hu1, _, _⟩ := hp1.form
    have m1 : W0.cell? ⟨g, f + 1, none⟩ = some u1 := by rw [hb0.cell (p := ⟨g, f + 1, none⟩) hgl]; exact HH.out.2.2.2.2.1 1 u1 (by rw [hus]; rfl)
    have HC : Hid (∀ wx, Below W0.heap.size W0 wx → Calls Tryz.prog 84 #[.slice (some ⟨b0, o0, none⟩) x0.length c0, .slice (some ⟨b1, o1, none⟩) x1.length c1] wx (NmI S y w)) := by
      intro wx hx
      have hbx := hb0.trans (hx.mono hb0.size)
      have h9 := normalChain_core S u0 u1 x0 x1 wx (hp0.below hbx) (hp1.below hbx)
      refine Calls.mono (by rw [hu0, hu1] at h9; exact h9) ?_
      intro r w' hr
      rw [show y = normOf (bareNd 14) [x0, x1] by rw [HH.out.1, hxs, good_bare HH.out.2.1 (by omega), hk14]]
      exact hr.back hbx
    rw [hu0] at m0
    rw [hu1] at m1
    rw [hxs]
    try simp only [List.length_cons, List.length_nil, Nat.zero_add, Nat.reduceAdd]
    clear hxl hul2 hus hxs hul hl d1 d2 d3 d4 d5 d6 hp0 hu0 hp1 hu1
    have hS : (fun w' : World => w'.cell? ⟨g, f, none⟩ = some (.slice (some ⟨b0, o0, none⟩) x0.length c0) ∧ w'.cell? ⟨g, f + 1, none⟩ = some (.slice (some ⟨b1, o1, none⟩) x1.length c1)) W0.drew := ⟨m0, m1⟩
    go_upto_region 3 with fail
    refine wp_region_T 7 (fun w' : World => w'.cell? ⟨g, f, none⟩ = some (.slice (some ⟨b0, o0, none⟩) x0.length c0) ∧ w'.cell? ⟨g, f + 1, none⟩ = some (.slice (some ⟨b1, o1, none⟩) x1.length c1)) (by kernel_rfl) ?_
    refine anyT_take (i := 0) (v := ?vq14x0) rfl (by kernel_rfl) (by kernel_rfl) (by kernel_rfl) (by kernel_rfl) (by decide) (fun _ _ _ h => h) (Or.inl ⟨by rfl, ?yq14x0⟩) hS ?_
    case yq14x0 => (intro wz hSw; (try dsimp only at hSw); go_simp; (try with_reducible rfl))
    try simp only [Act.put, List.setIfInBounds_toArray, List.set_cons_zero, List.set_cons_succ]
    refine anyT_take (i := 1) (v := ?vq14x1) rfl (by kernel_rfl) (by kernel_rfl) (by kernel_rfl) (by kernel_rfl) (by decide) (fun _ _ _ h => h) (Or.inl ⟨by rfl, ?yq14x1⟩) hS ?_
    case yq14x1 => (intro wz hSw; (try dsimp only at hSw); go_simp; (try with_reducible rfl))
    try simp only [Act.put, List.setIfInBounds_toArray, List.set_cons_zero, List.set_cons_succ]
    refine anyT_take (i := 2) (v := ?vq14x2) rfl (by kernel_rfl) (by kernel_rfl) (by kernel_rfl) (by kernel_rfl) (by decide) (fun _ _ _ h => h) (Or.inl ⟨by rfl, ?yq14x2⟩) hS ?_
    case yq14x2 => (intro wz hSw; (try dsimp only at hSw); go_simp; (try with_reducible rfl))
    try simp only [Act.put, List.setIfInBounds_toArray, List.set_cons_zero, List.set_cons_succ]
    refine anyT_take (i := 3) (v := ?vq14x3) rfl (by kernel_rfl) (by kernel_rfl) (by kernel_rfl) (by kernel_rfl) (by decide) (fun _ _ _ h => h) (Or.inl ⟨by rfl, ?yq14x3⟩) hS ?_
    case yq14x3 => (intro wz hSw; (try dsimp only at hSw); go_simp; (try with_reducible rfl))
    try simp only [Act.put, List.setIfInBounds_toArray, List.set_cons_zero, List.set_cons_succ]
    refine anyT_take (i := 4) (v := ?vq14x4) rfl (by kernel_rfl) (by kernel_rfl) (by kernel_rfl) (by kernel_rfl) (by decide) (fun _ _ _ h => h) (Or.inl ⟨by rfl, ?yq14x4⟩) hS ?_
    case yq14x4 => (intro wz hSw; (try dsimp only at hSw); go_simp; (try with_reducible rfl))
    try simp only [Act.put, List.setIfInBounds_toArray, List.set_cons_zero, List.set_cons_succ]
    refine anyT_take (i := 5) (v := ?vq14x5) rfl (by kernel_rfl) (by kernel_rfl) (by kernel_rfl) (by kernel_rfl) (by decide) (fun _ _ _ h => h) (Or.inl ⟨by rfl, ?yq14x5⟩) hS ?_
    case yq14x5 => (intro wz hSw; (try dsimp only at hSw); go_simp; (try with_reducible rfl))
    try simp only [Act.put, List.setIfInBounds_toArray, List.set_cons_zero, List.set_cons_succ]
    refine anyT_one (i := 6) (by kernel_rfl) rfl (fun K hK => ?_)
    go_simp
    go_at_call 84
    refine (HC.out W0.drew (Below.refl _ _).drew).mono ?_
    rintro r w3 hr3
    have HR3 : Hid (NmI S y w r w3) := hr3
    obtain ⟨v3, rfl, _, _, hb3⟩ := hr3
    obtain ⟨t0, t1⟩ : (fun w' : World => w'.cell? ⟨g, f, none⟩ = some (.slice (some ⟨b0, o0, none⟩) x0.length c0) ∧ w'.cell? ⟨g, f + 1, none⟩ = some (.slice (some ⟨b1, o1, none⟩) x1.length c1)) w3 := by
      refine ⟨?_, ?_⟩
      · rw [hb3.cell (p := ⟨g, f, none⟩) hgl, ← hb0.cell (p := ⟨g, f, none⟩) hgl]; exact m0
      · rw [hb3.cell (p := ⟨g, f + 1, none⟩) hgl, ← hb0.cell (p := ⟨g, f + 1, none⟩) hgl]; exact m1
    refine hK.out _ _ (.inr ⟨t0, t1⟩) ?_
    clear hK
    try simp only [Act.put, List.setIfInBounds_toArray, List.set_cons_zero, List.set_cons_succ]
    refine anyT_one (i := 7) (by kernel_rfl) rfl (fun K hK => ?_)
    go_simp
    refine hK.out _ _ (.inl rfl) ?_
    clear hK
    try simp only [Act.put, List.setIfInBounds_toArray, List.set_cons_zero, List.set_cons_succ]
    refine anyT_done (by kernel_rfl) ?_
    go_wp2_with fail
    go_ret
    exact HR3.out
  by_cases hk15 : e.kind = 15
  case pos =>
    have hxl : xs.length = 2 := by rw [HH.out.2.2.1, hk15]; rfl
    obtain ⟨x0, x1, hxs⟩ : ∃ x0 x1, xs = [x0, x1] := by
      match xs, hxl with
      | [x0, x1], _ => exact ⟨x0, x1, rfl⟩
    have hul2 : us.length = 2 := by rw [HH.out.2.2.2.1]; exact hxl
    obtain ⟨u0, u1, hus⟩ : ∃ u0 u1, us = [u0, u1] := by
      match us, hul2 with
      | [u0, u1], _ => exact ⟨u0, u1, rfl⟩
    have hp0 : Opd S w u0 x0 := HH.out.2.2.2.2.2 0 u0 x0 (by rw [hus]; rfl) (by rw [hxs]; rfl)
    obtain ⟨b0, o0, c0, hu0, _, _⟩ := hp0.form
    have m0 : W0.cell? ⟨g, f, none⟩ = some u0 := by rw [hb0.cell (p := ⟨g, f, none⟩) hgl]; exact HH.out.2.2.2.2.1 0 u0 (by rw [hus]; rfl)
    have hp1 : Opd S w u1 x1 := HH.out.2.2.2.2.2 1 u1 x1 (by rw [hus]; rfl) (by rw [hxs]; rfl)
    obtain ⟨b1, o1, c1, hu1, _, _⟩ := hp1.form
    have m1 : W0.cell? ⟨g, f + 1, none⟩ = some u1 := by rw [hb0.cell (p := ⟨g, f + 1, none⟩) hgl]; exact HH.out.2.2.2.2.1 1 u1 (by rw [hus]; rfl)
    have HC : Hid (∀ wx, Below W0.heap.size W0 wx → Calls Tryz.prog 85 #[.slice (some ⟨b0, o0, none⟩) x0.length c0, .slice (some ⟨b1, o1, none⟩) x1.length c1] wx (NmI S y w)) := by
      intro wx hx
      have hbx := hb0.trans (hx.mono hb0.size)
      have h9 := normalInter_core S u0 u1 x0 x1 wx (hp0.below hbx) (hp1.below hbx)
      refine Calls.mono (by rw [hu0, hu1] at h9; exact h9) ?_
      intro r w' hr
      rw [show y = normOf (bareNd 15) [x0, x1] by rw [HH.out.1, hxs, good_bare HH.out.2.1 (by omega), hk15]]
      exact hr.back hbx
    rw [hu0] at m0
    rw [hu1] at m1
    rw [hxs]
    try simp only [List.length_cons, List.length_nil, Nat.zero_add, Nat.reduceAdd]
    clear hxl hul2 hus hxs hul hl d1 d2 d3 d4 d5 d6 hp0 hu0 hp1 hu1
    have hS : (fun w' : World => w'.cell? ⟨g, f, none⟩ = some (.slice (some ⟨b0, o0, none⟩) x0.length c0) ∧ w'.cell? ⟨g, f + 1, none⟩ = some (.slice (some ⟨b1, o1, none⟩) x1.length c1)) W0.drew := ⟨m0, m1⟩
    go_upto_region 5 with fail
    refine wp_region_T 7 (fun w' : World => w'.cell? ⟨g, f, none⟩ = some (.slice (some ⟨b0, o0, none⟩) x0.length c0) ∧ w'.cell? ⟨g, f + 1, none⟩ = some (.slice (some ⟨b1, o1, none⟩) x1.length c1)) (by kernel_rfl) ?_
    refine anyT_take (i := 0) (v := ?vq15x0) rfl (by kernel_rfl) (by kernel_rfl) (by kernel_rfl) (by kernel_rfl) (by decide) (fun _ _ _ h => h) (Or.inl ⟨by rfl, ?yq15x0⟩) hS ?_
    case yq15x0 => (intro wz hSw; (try dsimp only at hSw); go_simp; (try with_reducible rfl))
    try simp only [Act.put, List.setIfInBounds_toArray, List.set_cons_zero, List.set_cons_succ]
    refine anyT_take (i := 1) (v := ?vq15x1) rfl (by kernel_rfl) (by kernel_rfl) (by kernel_rfl) (by kernel_rfl) (by decide) (fun _ _ _ h => h) (Or.inl ⟨by rfl, ?yq15x1⟩) hS ?_
    case yq15x1 => (intro wz hSw; (try dsimp only at hSw); go_simp; (try with_reducible rfl))
    try simp only [Act.put, List.setIfInBounds_toArray, List.set_cons_zero, List.set_cons_succ]
    refine anyT_take (i := 2) (v := ?vq15x2) rfl (by kernel_rfl) (by kernel_rfl) (by kernel_rfl) (by kernel_rfl) (by decide) (fun _ _ _ h => h) (Or.inl ⟨by rfl, ?yq15x2⟩) hS ?_
    case yq15x2 => (intro wz hSw; (try dsimp only at hSw); go_simp; (try with_reducible rfl))
    try simp only [Act.put, List.setIfInBounds_toArray, List.set_cons_zero, List.set_cons_succ]
    refine anyT_take (i := 3) (v := ?vq15x3) rfl (by kernel_rfl) (by kernel_rfl) (by kernel_rfl) (by kernel_rfl) (by decide) (fun _ _ _ h => h) (Or.inl ⟨by rfl, ?yq15x3⟩) hS ?_
    case yq15x3 => (intro wz hSw; (try dsimp only at hSw); go_simp; (try with_reducible rfl))
    try simp only [Act.put, List.setIfInBounds_toArray, List.set_cons_zero, List.set_cons_succ]
    refine anyT_take (i := 4) (v := ?vq15x4) rfl (by kernel_rfl) (by kernel_rfl) (by kernel_rfl) (by kernel_rfl) (by decide) (fun _ _ _ h => h) (Or.inl ⟨by rfl, ?yq15x4⟩) hS ?_
    case yq15x4 => (intro wz hSw; (try dsimp only at hSw); go_simp; (try with_reducible rfl))
    try simp only [Act.put, List.setIfInBounds_toArray, List.set_cons_zero, List.set_cons_succ]
    refine anyT_take (i := 5) (v := ?vq15x5) rfl (by kernel_rfl) (by kernel_rfl) (by kernel_rfl) (by kernel_rfl) (by decide) (fun _ _ _ h => h) (Or.inl ⟨by rfl, ?yq15x5⟩) hS ?_
    case yq15x5 => (intro wz hSw; (try dsimp only at hSw); go_simp; (try with_reducible rfl))
    try simp only [Act.put, List.setIfInBounds_toArray, List.set_cons_zero, List.set_cons_succ]
    refine anyT_one (i := 6) (by kernel_rfl) rfl (fun K hK => ?_)
    go_simp
    go_at_call 85
    refine (HC.out W0.drew (Below.refl _ _).drew).mono ?_
    rintro r w3 hr3
    have HR3 : Hid (NmI S y w r w3) := hr3
    obtain ⟨v3, rfl, _, _, hb3⟩ := hr3
    obtain ⟨t0, t1⟩ : (fun w' : World => w'.cell? ⟨g, f, none⟩ = some (.slice (some ⟨b0, o0, none⟩) x0.length c0) ∧ w'.cell? ⟨g, f + 1, none⟩ = some (.slice (some ⟨b1, o1, none⟩) x1.length c1)) w3 := by
      refine ⟨?_, ?_⟩
      · rw [hb3.cell (p := ⟨g, f, none⟩) hgl, ← hb0.cell (p := ⟨g, f, none⟩) hgl]; exact m0
      · rw [hb3.cell (p := ⟨g, f + 1, none⟩) hgl, ← hb0.cell (p := ⟨g, f + 1, none⟩) hgl]; exact m1
    refine hK.out _ _ (.inr ⟨t0, t1⟩) ?_
    clear hK
    try simp only [Act.put, List.setIfInBounds_toArray, List.set_cons_zero, List.set_cons_succ]
    refine anyT_one (i := 7) (by kernel_rfl) rfl (fun K hK => ?_)
    go_simp
    refine hK.out _ _ (.inl rfl) ?_
    clear hK
    try simp only [Act.put, List.setIfInBounds_toArray, List.set_cons_zero, List.set_cons_succ]
    refine anyT_done (by kernel_rfl) ?_
    go_wp2_with fail
    go_ret
    exact HR3.out
  by_cases hk16 : e.kind = 16
  case pos =>
    have hxl : xs.length = 3 := by rw [HH.out.2.2.1, hk16]; rfl
    obtain ⟨x0, x1, x2, hxs⟩ : ∃ x0 x1 x2, xs = [x0, x1, x2] := by
      match xs, hxl with
      | [x0, x1, x2], _ => exact ⟨x0, x1, x2, rfl⟩
    have hul2 : us.length = 3 := by rw [HH.out.2.2.2.1]; exact hxl
    obtain ⟨u0, u1, u2, hus⟩ : ∃ u0 u1 u2, us = [u0, u1, u2] := by
      match us, hul2 with
      | [u0, u1, u2], _ => exact ⟨u0, u1, u2, rfl⟩
    have hp0 : Opd S w u0 x0 := HH.out.2.2.2.2.2 0 u0 x0 (by rw [hus]; rfl) (by rw [hxs]; rfl)
    obtain ⟨b0, o0, c0, hu0, _, _⟩ := hp0.form
    have m0 : W0.cell? ⟨g, f, none⟩ = some u0 := by rw [hb0.cell (p := ⟨g, f, none⟩) hgl]; exact HH.out.2.2.2.2.1 0 u0 (by rw [hus]; rfl)
    have hp1 : Opd S w u1 x1 := HH.out.2.2.2.2.2 1 u1 x1 (by rw [hus]; rfl) (by rw [hxs]; rfl)
    obtain ⟨b1, o1, c1, hu1, _, _⟩ := hp1.form
    have m1 : W0.cell? ⟨g, f + 1, none⟩ = some u1 := by rw [hb0.cell (p := ⟨g, f + 1, none⟩) hgl]; exact HH.out.2.2.2.2.1 1 u1 (by rw [hus]; rfl)
    have hp2 : Opd S w u2 x2 := HH.out.2.2.2.2.2 2 u2 x2 (by rw [hus]; rfl) (by rw [hxs]; rfl)
    obtain ⟨b2, o2, c2, hu2, _, _⟩ := hp2.form
    have m2 : W0.cell? ⟨g, f + 2, none⟩ = some u2 := by rw [hb0.cell (p := ⟨g, f + 2, none⟩) hgl]; exact HH.out.2.2.2.2.1 2 u2 (by rw [hus]; rfl)
    have HC : Hid (∀ wx, Below W0.heap.size W0 wx → Calls Tryz.prog 86 #[.slice (some ⟨b0, o0, none⟩) x0.length c0, .slice (some ⟨b1, o1, none⟩) x1.length c1, .slice (some ⟨b2, o2, none⟩) x2.length c2] wx (NmI S y w)) := by
      intro wx hx
      have hbx := hb0.trans (hx.mono hb0.size)
      have h9 := normalIf_core S u0 u1 u2 x0 x1 x2 wx (hp0.below hbx) (hp1.below hbx) (hp2.below hbx)
      refine Calls.mono (by rw [hu0, hu1, hu2] at h9; exact h9) ?_
      intro r w' hr
      rw [show y = normOf (bareNd 16) [x0, x1, x2] by rw [HH.out.1, hxs, good_bare HH.out.2.1 (by omega), hk16]]
      exact hr.back hbx
    rw [hu0] at m0
    rw [hu1] at m1
    rw [hu2] at m2
    rw [hxs]
    try simp only [List.length_cons, List.length_nil, Nat.zero_add, Nat.reduceAdd]
    clear hxl hul2 hus hxs hul hl d1 d2 d3 d4 d5 d6 hp0 hu0 hp1 hu1 hp2 hu2
    have hS : (fun w' : World => w'.cell? ⟨g, f, none⟩ = some (.slice (some ⟨b0, o0, none⟩) x0.length c0) ∧ w'.cell? ⟨g, f + 1, none⟩ = some (.slice (some ⟨b1, o1, none⟩) x1.length c1) ∧ w'.cell? ⟨g, f + 2, none⟩ = some (.slice (some ⟨b2, o2, none⟩) x2.length c2)) W0.drew := ⟨m0, m1, m2⟩
    go_upto_region 7 with fail
    refine wp_region_T 10 (fun w' : World => w'.cell? ⟨g, f, none⟩ = some (.slice (some ⟨b0, o0, none⟩) x0.length c0) ∧ w'.cell? ⟨g, f + 1, none⟩ = some (.slice (some ⟨b1, o1, none⟩) x1.length c1) ∧ w'.cell? ⟨g, f + 2, none⟩ = some (.slice (some ⟨b2, o2, none⟩) x2.length c2)) (by kernel_rfl) ?_
    refine anyT_take (i := 0) (v := ?vq16x0) rfl (by kernel_rfl) (by kernel_rfl) (by kernel_rfl) (by kernel_rfl) (by decide) (fun _ _ _ h => h) (Or.inl ⟨by rfl, ?yq16x0⟩) hS ?_
    case yq16x0 => (intro wz hSw; (try dsimp only at hSw); go_simp; (try with_reducible rfl))
    try simp only [Act.put, List.setIfInBounds_toArray, List.set_cons_zero, List.set_cons_succ]
    refine anyT_take (i := 1) (v := ?vq16x1) rfl (by kernel_rfl) (by kernel_rfl) (by kernel_rfl) (by kernel_rfl) (by decide) (fun _ _ _ h => h) (Or.inl ⟨by rfl, ?yq16x1⟩) hS ?_
    case yq16x1 => (intro wz hSw; (try dsimp only at hSw); go_simp; (try with_reducible rfl))
    try simp only [Act.put, List.setIfInBounds_toArray, List.set_cons_zero, List.set_cons_succ]
    refine anyT_take (i := 2) (v := ?vq16x2) rfl (by kernel_rfl) (by kernel_rfl) (by kernel_rfl) (by kernel_rfl) (by decide) (fun _ _ _ h => h) (Or.inl ⟨by rfl, ?yq16x2⟩) hS ?_
    case yq16x2 => (intro wz hSw; (try dsimp only at hSw); go_simp; (try with_reducible rfl))
    try simp only [Act.put, List.setIfInBounds_toArray, List.set_cons_zero, List.set_cons_succ]
    refine anyT_take (i := 3) (v := ?vq16x3) rfl (by kernel_rfl) (by kernel_rfl) (by kernel_rfl) (by kernel_rfl) (by decide) (fun _ _ _ h => h) (Or.inl ⟨by rfl, ?yq16x3⟩) hS ?_
    case yq16x3 => (intro wz hSw; (try dsimp only at hSw); go_simp; (try with_reducible rfl))
    try simp only [Act.put, List.setIfInBounds_toArray, List.set_cons_zero, List.set_cons_succ]
    refine anyT_take (i := 4) (v := ?vq16x4) rfl (by kernel_rfl) (by kernel_rfl) (by kernel_rfl) (by kernel_rfl) (by decide) (fun _ _ _ h => h) (Or.inl ⟨by rfl, ?yq16x4⟩) hS ?_
    case yq16x4 => (intro wz hSw; (try dsimp only at hSw); go_simp; (try with_reducible rfl))
    try simp only [Act.put, List.setIfInBounds_toArray, List.set_cons_zero, List.set_cons_succ]
    refine anyT_take (i := 5) (v := ?vq16x5) rfl (by kernel_rfl) (by kernel_rfl) (by kernel_rfl) (by kernel_rfl) (by decide) (fun _ _ _ h => h) (Or.inl ⟨by rfl, ?yq16x5⟩) hS ?_
    case yq16x5 => (intro wz hSw; (try dsimp only at hSw); go_simp; (try with_reducible rfl))
    try simp only [Act.put, List.setIfInBounds_toArray, List.set_cons_zero, List.set_cons_succ]
    refine anyT_take (i := 6) (v := ?vq16x6) rfl (by kernel_rfl) (by kernel_rfl) (by kernel_rfl) (by kernel_rfl) (by decide) (fun _ _ _ h => h) (Or.inl ⟨by rfl, ?yq16x6⟩) hS ?_
    case yq16x6 => (intro wz hSw; (try dsimp only at hSw); go_simp; (try with_reducible rfl))
    try simp only [Act.put, List.setIfInBounds_toArray, List.set_cons_zero, List.set_cons_succ]
    refine anyT_take (i := 7) (v := ?vq16x7) rfl (by kernel_rfl) (by kernel_rfl) (by kernel_rfl) (by kernel_rfl) (by decide) (fun _ _ _ h => h) (Or.inl ⟨by rfl, ?yq16x7⟩) hS ?_
    case yq16x7 => (intro wz hSw; (try dsimp only at hSw); go_simp; (try with_reducible rfl))
    try simp only [Act.put, List.setIfInBounds_toArray, List.set_cons_zero, List.set_cons_succ]
    refine anyT_take (i := 8) (v := ?vq16x8) rfl (by kernel_rfl) (by kernel_rfl) (by kernel_rfl) (by kernel_rfl) (by decide) (fun _ _ _ h => h) (Or.inl ⟨by rfl, ?yq16x8⟩) hS ?_
    case yq16x8 => (intro wz hSw; (try dsimp only at hSw); go_simp; (try with_reducible rfl))
    try simp only [Act.put, List.setIfInBounds_toArray, List.set_cons_zero, List.set_cons_succ]
    refine anyT_one (i := 9) (by kernel_rfl) rfl (fun K hK => ?_)
    go_simp
    go_at_call 86
    refine (HC.out W0.drew (Below.refl _ _).drew).mono ?_
    rintro r w3 hr3
    have HR3 : Hid (NmI S y w r w3) := hr3
    obtain ⟨v3, rfl, _, _, hb3⟩ := hr3
    obtain ⟨t0, t1, t2⟩ : (fun w' : World => w'.cell? ⟨g, f, none⟩ = some (.slice (some ⟨b0, o0, none⟩) x0.length c0) ∧ w'.cell? ⟨g, f + 1, none⟩ = some (.slice (some ⟨b1, o1, none⟩) x1.length c1) ∧ w'.cell? ⟨g, f + 2, none⟩ = some (.slice (some ⟨b2, o2, none⟩) x2.length c2)) w3 := by
      refine ⟨?_, ?_, ?_⟩
      · rw [hb3.cell (p := ⟨g, f, none⟩) hgl, ← hb0.cell (p := ⟨g, f, none⟩) hgl]; exact m0
      · rw [hb3.cell (p := ⟨g, f + 1, none⟩) hgl, ← hb0.cell (p := ⟨g, f + 1, none⟩) hgl]; exact m1
      · rw [hb3.cell (p := ⟨g, f + 2, none⟩) hgl, ← hb0.cell (p := ⟨g, f + 2, none⟩) hgl]; exact m2
    refine hK.out _ _ (.inr ⟨t0, t1, t2⟩) ?_
    clear hK
    try simp only [Act.put, List.setIfInBounds_toArray, List.set_cons_zero, List.set_cons_succ]
    refine anyT_one (i := 10) (by kernel_rfl) rfl (fun K hK => ?_)
    go_simp
    refine hK.out _ _ (.inl rfl) ?_
    clear hK
    try simp only [Act.put, List.setIfInBounds_toArray, List.set_cons_zero, List.set_cons_succ]
    refine anyT_done (by kernel_rfl) ?_
    go_wp2_with fail
    go_ret
    exact HR3.out
  have hxl : xs = [] := List.length_eq_zero_iff.1 (by rw [HH.out.2.2.1]; unfold arity; rw [if_neg (by omega), if_neg hk16])
  have z14 : (e.kind == 14) = false := by rw [beq_eq_false_iff_ne]; exact hk14
  have z15 : (e.kind == 15) = false := by rw [beq_eq_false_iff_ne]; exact hk15
  have z16 : (e.kind == 16) = false := by rw [beq_eq_false_iff_ne]; exact hk16
  have HR : Hid (NmI S y w (.returned (.slice (some ⟨W0.heap.size, 0, none⟩) 1 1)) (W0.alloc (Obj.cells #[.int .i64 e.kind, .string e.s, .bool e.hi, .string e.t, .int .u64 e.lo, .int .u64 e.up, .int .i64 e.n] 75))) := by
    have hO9 := ownNd_two W0 e
    refine ⟨_, rfl, ?_, fun a n c hq => ?_, hb0.trans (((Below.refl _ _).alloc (Nat.le_refl _) _).mono hb0.size)⟩
    · rw [HH.out.1, hxl]; exact ⟨_, _, rfl, OwnNd.mono hO9 (Nat.zero_le _)⟩
    · cases hq; exact .inr (by have := hb0.size; show w.heap.size ≤ W0.heap.size; omega)
  clear hxl
  go_wp2_with fail
  go_ret
  exact HR.out
end Go.Proofs.YtkidabedcgngcaaGreatDoor

/-
  What a fold of nodes by a visit comes to.
-/
namespace Go.Proofs.YtkidabedcgngcaaGreatDoor
open Go.ChangeShapes Go.WideShapes Go.ChangeAt Go.RowKit Go.Deep
set_option linter.unusedVariables false
set_option linter.unusedSimpArgs false

theorem fold_trv {T : Type} (V : Nd → List T → T) : ∀ (k : Nat) (xs : List Nd) (ss : List T), xs.length = k → foldV V [] xs = some ss → TrV V ss xs
  | 0, xs, ss, hk, h => by
    obtain rfl := List.length_eq_zero_iff.1 hk
    simp only [foldV, Option.some.injEq] at h
    subst h
    exact .nil
  | k + 1, xs, ss, hk, h => by
    rcases List.eq_nil_or_concat xs with rfl | ⟨ys, n, rfl⟩
    · simp at hk
    · rw [List.concat_eq_append] at hk h ⊢
      rw [foldV_append] at h
      cases hy : foldV V [] ys with
      | none => rw [hy] at h; cases h
      | some st =>
        have ih := fold_trv V k ys st (by simp at hk; exact hk) hy
        rw [hy] at h
        simp only [Option.bind_some, foldV, stepV] at h
        split at h
        · cases h
        · rename_i hn
          simp only [Option.bind_some, foldV, Option.some.injEq] at h
          subst h
          refine .snoc n (by rw [List.length_drop]; omega) ?_
          rw [List.take_append_drop]; exact ih
theorem fold_opd {xs : List Nd} {ns : List (List Nd)} (h : foldV normOf [] xs = some ns) : ∀ y ∈ ns, y ≠ [] ∧ (∀ e ∈ y, e ∈ xs) ∧ y.length ≤ xs.length := by
  intro y hy
  obtain ⟨ks, hxs, hK⟩ := TrV.kids normOf (fold_trv normOf _ xs ns rfl h)
  obtain ⟨j, hj⟩ := List.getElem?_of_mem hy
  have hjl := (List.getElem?_eq_some_iff.1 hj).1
  obtain ⟨k, hk⟩ : ∃ k, ks[j]? = some k := ⟨_, List.getElem?_eq_getElem (by have := KidV.length _ hK; omega)⟩
  obtain ⟨o', ho', ht⟩ := KidV.nth _ hK hk
  rw [hj] at ho'
  cases ho'
  have hm := List.mem_of_getElem? hk
  obtain ⟨h1, h2⟩ := trv_mem _ (Nat.le_refl _) ht
  refine ⟨trv_ne ht, fun e he => ?_, ?_⟩
  · rw [hxs]; exact List.mem_flatten.2 ⟨k, hm, h1 e he⟩
  · rw [hxs]; have := len_flat hm; omega
theorem foldv_next {xs : List Nd} {j : Nat} {ns : List (List Nd)} {e : Nd} (h : foldV normOf [] (xs.take j) = some ns) (he : xs[j]? = some e) (hl : arity e.kind ≤ ns.length) : foldV normOf [] (xs.take (j + 1)) = some (ns.take (ns.length - arity e.kind) ++ [normOf e (ns.drop (ns.length - arity e.kind))]) := by
  rw [List.take_add_one, he, foldV_append, h]
  simp only [Option.toList, Option.bind_some, foldV, stepV]
  rw [if_neg (by omega)]
  rfl
theorem foldv_stop {xs : List Nd} {j : Nat} {ns : List (List Nd)} {e : Nd} (h : foldV normOf [] (xs.take j) = some ns) (he : xs[j]? = some e) (hl : ns.length < arity e.kind) : foldV normOf [] xs = none := by
  have hj := (List.getElem?_eq_some_iff.1 he).1
  have : xs = xs.take j ++ e :: xs.drop (j + 1) := by
    conv => lhs; rw [← List.take_append_drop j xs, List.drop_eq_getElem_cons hj]
    rw [show xs[j] = e from Option.some.inj ((List.getElem?_eq_getElem hj).symm.trans he)]
  rw [this, foldV_append, h]
  simp only [Option.bind_some, foldV, stepV]
  rw [if_pos hl]
  rfl
theorem OwnNs.chg {S : Nat → Prop} {w w' : World} {v : Value} {y : List Nd} (h : OwnNs w v y) (hc : Chg S w w') (hv : ∀ a n c, v = .slice (some a) n c → ¬ S a.block) : OwnNs w' v y := by
  obtain ⟨g, cp, rfl, h⟩ := h
  exact ⟨g, cp, rfl, own_chg h hc (fun k q => by simp [Value.ownBlock] at q; subst q; exact hv _ _ _ rfl)⟩
theorem Opd.move {S S' : Nat → Prop} {w w' : World} {u : Value} {x : List Nd} (h : Opd S w u x) (hb : Chg S' w w') (hd : ∀ k, S k → ¬ S' k) : Opd S w' u x := ⟨h.own.chg hb (fun a n c q => hd _ (h.blk a n c q)), h.ne, h.blk, h.good, h.len⟩
theorem Opd.weak {S S' : Nat → Prop} {w : World} {u : Value} {x : List Nd} (h : Opd S w u x) (hd : ∀ k, k < w.heap.size → S k → S' k) : Opd S' w u x := ⟨h.own, h.ne, fun a n c q => by
  refine hd _ ?_ (h.blk a n c q)
  obtain ⟨g, cp, rfl, ho⟩ := h.own
  cases q
  exact ho.lt.2, h.good, h.len⟩
theorem OwnV.take {w : World} {base g cp : Nat} {us : List Value} (h : OwnV w base g cp us) {k : Nat} (hk : k ≤ us.length) : OwnV w base g cp (us.take k) := by
  rcases h.2 with ⟨h0, _⟩ | ⟨g', cap', cur, hv, h1, h2, h3, h4, h5, h6⟩
  · cases h0
  · simp only [Value.slice.injEq, Option.some.injEq, Addr.mk.injEq, and_true, true_and] at hv
    obtain ⟨rfl, rfl⟩ := hv
    have hl : (us.take k).length = k := by rw [List.length_take]; omega
    refine ⟨by rw [Nat.mul_one], .inr ⟨g, cp, cur, rfl, h1, h2, by omega, h4, h5, ?_⟩⟩
    rw [hl, ← h6, List.take_take]
    congr 1
    omega
end Go.Proofs.YtkidabedcgngcaaGreatDoor

/-
  impl.foldTree over normalNode, walked.
-/
namespace Go.Proofs.YtkidabedcgngcaaGreatDoor
open Go.ChangeShapes Go.WideShapes Go.ChangeAt Go.RowKit Go.Deep
set_option linter.unusedVariables false
set_option linter.unusedSimpArgs false
set_option maxRecDepth 100000

/-- The blocks that the operands lie in: new ones, not the row's. -/
def NmB (B g : Nat) (k : Nat) : Prop := B ≤ k ∧ ¬ k = g
structure FnJ (w : World) (xs : List Nd) (j g cp : Nat) (us : List Value) (ns : List (List Nd)) (wr : World) : Prop where
  fold : foldV normOf [] (xs.take j) = some ns
  own : OwnV wr w.heap.size g cp us
  len : us.length = ns.length
  opd : ∀ (i : Nat) (u : Value) (x : List Nd), us[i]? = some u → ns[i]? = some x → Opd (NmB w.heap.size g) wr u x
  below : Below w.heap.size w wr
theorem FnJ.move {w : World} {xs : List Nd} {j g cp : Nat} {us : List Value} {ns : List (List Nd)} {wr w' : World} (h : FnJ w xs j g cp us ns wr) (hb : Below wr.heap.size wr w') : FnJ w xs j g cp us ns w' :=
  ⟨h.fold, h.own.below hb, h.len, fun i u x hu hx => (h.opd i u x hu hx).below hb, h.below.trans (hb.mono h.below.size)⟩
/-- What foldTree hands back. -/
def FnPost (xs : List Nd) (w : World) (r : Ending) (w' : World) : Prop := Below w.heap.size w w' ∧ ((∃ u y, foldV normOf [] xs = some [y] ∧ r = .returned (.tuple #[u, .bool true]) ∧ Opd (fun k => w.heap.size ≤ k) w' u y) ∨ ((∀ y, ¬ foldV normOf [] xs = some [y]) ∧ r = .returned (.tuple #[.slice none 0 0, .bool false])))
theorem fn_push {w X w' : World} {xs : List Nd} {j g cp g' cp' fr : Nat} {us : List Value} {ns : List (List Nd)} {u : Value} {y : List Nd} (hG : ∀ e ∈ xs, GoodN e) (hxl : xs.length ≤ 200) (h : FnJ w xs j g cp us ns X) (hU : OwnNs X u y) (hB : ∀ a n c, u = .slice (some a) n c → NmB w.heap.size g a.block) (hY : foldV normOf [] (xs.take (j + 1)) = some (ns.take fr ++ [y])) (hfr : fr ≤ us.length) (hO : OwnV w' w.heap.size g' cp' (us.take fr ++ [u])) (hgr : (X.alloc (Obj.cells #[u] 30)).grownBy w' (some g)) (hat : g' = g ∨ g' = (X.alloc (Obj.cells #[u] 30)).heap.size) : FnJ w xs (j + 1) g' cp' (us.take fr ++ [u]) (ns.take fr ++ [y]) w' := by
  have hgl := h.own.lt
  have hbX : Below X.heap.size X (X.alloc (Obj.cells #[u] 30)) := (Below.refl _ _).alloc (Nat.le_refl _) _
  have hsX : (X.alloc (Obj.cells #[u] 30)).heap.size = X.heap.size + 1 := by simp
  have hC : Chg (fun k => k = g) (X.alloc (Obj.cells #[u] 30)) w' := Chg.of_grown hgr (fun k hk => by cases hk; rfl)
  have hY2 := fold_opd hY y (by simp)
  have hyo : Opd (NmB w.heap.size g) X u y := ⟨hU, hY2.1, hB, fun e he => hG e (List.mem_of_mem_take (hY2.2.1 e he)), by have h9 := hY2.2.2; rw [List.length_take] at h9; omega⟩
  have all : ∀ (i : Nat) (u' : Value) (x : List Nd), (us.take fr ++ [u])[i]? = some u' → (ns.take fr ++ [y])[i]? = some x → Opd (NmB w.heap.size g) X u' x := by
    intro i u' x hu hx
    have hlu : (us.take fr).length = fr := by rw [List.length_take]; omega
    have hln : (ns.take fr).length = fr := by rw [List.length_take, ← h.len]; omega
    by_cases hi : i < fr
    · rw [List.getElem?_append_left (by omega)] at hu hx
      rw [List.getElem?_take_of_lt hi] at hu hx
      exact h.opd i u' x hu hx
    · have hi2 : i = fr := by
        have := (List.getElem?_eq_some_iff.1 hu).1
        simp only [List.length_append, List.length_singleton, hlu] at this
        omega
      subst hi2
      rw [List.getElem?_append_right (by omega), hlu] at hu
      rw [List.getElem?_append_right (by omega), hln] at hx
      simp at hu hx
      subst hu hx
      exact hyo
  refine ⟨hY, hO, by simp [List.length_take, h.len], fun i u' x hu hx => ?_, ?_⟩
  · have o1 : Opd (fun k => NmB w.heap.size g k ∧ ¬ k = g') X u' x := (all i u' x hu hx).weak (fun k hk q => ⟨q, by
      rcases hat with rfl | hat
      · exact q.2
      · omega⟩)
    exact ((o1.below hbX).move hC (fun k hk q => hk.1.2 q)).weak (fun k hk q => ⟨q.1.1, q.2⟩)
  · exact Chg.below (h.below.trans (hbX.mono h.below.size)) hC (by have := h.below.size; omega) (fun k q => by omega)
set_option maxHeartbeats 16000000 in
theorem foldNorm_win {w : World} {gN oN cpN : Nat} {xs : List Nd} (h : NdsAt w gN oN xs) (hg : gN < w.heap.size) (hG : ∀ e ∈ xs, GoodN e) (hl : xs.length ≤ 200) :
    Calls Tryz.prog 45 #[.slice (some ⟨gN, oN, none⟩) xs.length cpN, .func (Fn.func 46) #[] #[]] w (FnPost xs w) := by
  have HF : Hid (NdsAt w gN oN xs ∧ (∀ e ∈ xs, GoodN e) ∧ xs.length ≤ 200) := ⟨h, hG, hl⟩
  obtain ⟨n, hn⟩ : ∃ n, n = xs.length := ⟨_, rfl⟩
  have HL : Hid (n = xs.length) := hn
  rw [← hn] at hl ⊢
  clear h hG hn
  obtain ⟨W0, hW0⟩ : ∃ W0 : World, W0 = w.alloc (Obj.cells #[] 30) := ⟨_, rfl⟩
  have HW0 : Hid (FnJ w xs 0 w.heap.size 0 [] [] W0) := by
    refine ⟨rfl, ?_, rfl, fun i u x hu => by simp at hu, ?_⟩
    · rw [hW0]; exact ownV_new w (Nat.le_refl _)
    · rw [hW0]; exact (Below.refl _ _).alloc (Nat.le_refl _) _
  go_enter Tryz.func45, Tryz.ntmps45
  go_upto_region 2 with fail
  rw [← hW0]
  clear hW0
  go_wp2_with fail
  go_loopw [4, 6, 14] (fun wv sv iv wr => ∃ (j m g cp : Nat) (us : List Value) (ns : List (List Nd)), wv = .slice none 0 0 ∧ iv = .int .i64 (j : Int) ∧ j ≤ n ∧ m = us.length ∧ m ≤ j ∧ m ≤ cp ∧ sv = .slice (some ⟨g, 0, none⟩) m cp ∧ FnJ w xs j g cp us ns wr) (fun _ _ iv _ => n - (intOf iv).toNat)
  case atStart => exact ⟨0, 0, _, 0, [], [], rfl, rfl, Nat.zero_le _, rfl, Nat.le_refl _, Nat.zero_le _, rfl, HW0.out⟩
  case round =>
    obtain ⟨j, m, g, cp, us, ns, rfl, rfl, hj, hm, hmj, hmc, rfl, hJ⟩ := hrel
    have HJ : Hid (m = us.length ∧ FnJ w xs j g cp us ns wr) := ⟨hm, hJ⟩
    have hgl := hJ.own.lt
    have hcp : cp ≤ 9223372036854775807 := by have := hJ.own.caps.2; unfold maxLen at this; omega
    have hsz := hJ.below.size
    clear hm hJ HW0
    by_cases hlt : j < n
    · have zj : (j : Int) < (n : Int) := by omega
      obtain ⟨e, he⟩ : ∃ e, xs[j]? = some e := ⟨_, List.getElem?_eq_getElem (by have := HL.out; omega)⟩
      obtain ⟨d0, d1, d2, d3, d4, d5, d6⟩ := (HF.out.1.below HJ.out.2.below hg) j e he
      have HE : Hid (xs[j]? = some e ∧ GoodN e) := ⟨he, HF.out.2.1 e (List.mem_of_getElem? he)⟩
      clear he
      obtain ⟨W1, hW1⟩ : ∃ W1 : World, W1 = wr.alloc (Obj.cells #[.int .i64 e.kind, .string e.s, .bool e.hi, .string e.t, .int .u64 e.lo, .int .u64 e.up, .int .i64 e.n] 75) := ⟨_, rfl⟩
      have hb1 : Below wr.heap.size wr W1 := by rw [hW1]; exact (Below.refl _ _).alloc (Nat.le_refl _) _
      have hz1 : wr.heap.size < W1.heap.size := by rw [hW1]; simp
      have HJ1 : Hid (m = us.length ∧ FnJ w xs j g cp us ns W1 ∧ BoxAt W1 w.heap.size 75 7 wr.heap.size e.seven) := by
        refine ⟨HJ.out.1, HJ.out.2.move hb1, ?_⟩
        rw [hW1]; exact boxAt_new wr _ hsz rfl
      go_upto_region 5 with fail
      rw [← hW1]
      clear hW1 d0 d1 d2 d3 d4 d5 d6 HJ hb1
      have c0 := HJ1.out.2.2.cell (j := 0) rfl
      have c1 := HJ1.out.2.2.cell (j := 1) rfl
      have c2 := HJ1.out.2.2.cell (j := 2) rfl
      have c3 := HJ1.out.2.2.cell (j := 3) rfl
      have c4 := HJ1.out.2.2.cell (j := 4) rfl
      have c5 := HJ1.out.2.2.cell (j := 5) rfl
      have c6 := HJ1.out.2.2.cell (j := 6) rfl
      obtain ⟨a, ha⟩ : ∃ a, a = arity e.kind := ⟨_, rfl⟩
      have ha3 : a ≤ 3 := by rw [ha]; exact arity_le _
      have HAr : Hid (Calls Tryz.prog 61 #[.int .i64 e.kind] W1 fun r w' => r = .returned (.int .i64 (a : Int)) ∧ w' = W1) := by rw [ha]; exact operandCount_core e.kind W1
      have HAk : Hid (a = arity e.kind) := ha
      clear ha
      go_wp2_with fail
      refine HAr.out.mono ?_
      rintro r w9 ⟨rfl, hw9⟩
      rw [hw9]
      clear hw9 HAr
      by_cases hfr : m < a
      · have zf : (m : Int) - (a : Int) < 0 := by omega
        have HS : Hid (foldV normOf [] xs = none) := foldv_stop HJ1.out.2.1.fold HE.out.1 (by rw [← HJ1.out.2.1.len, ← HJ1.out.1, ← HAk.out]; exact hfr)
        have HB9 : Hid (Below w.heap.size w W1) := HJ1.out.2.1.below
        go_wp2_with fail
        exact bodyPost_ret (v := .tuple #[.slice none 0 0, .bool false]) (by simp [results, Tryz.results45, go_sem]) rfl ⟨HB9.out, .inr ⟨fun s q => (by rw [HS.out] at q; cases q), rfl⟩⟩
      · obtain ⟨fr, hfrm⟩ : ∃ fr : Nat, (m : Int) - (a : Int) = (fr : Int) := ⟨m - a, by omega⟩
        have hfrle : fr ≤ m := by omega
        have HFr : Hid (fr = ns.length - arity e.kind ∧ arity e.kind ≤ ns.length) := by
          have h1 := HJ1.out.1
          have h2 := HAk.out
          have h3 := HJ1.out.2.1.len
          exact ⟨by omega, by omega⟩
        have zf : ¬ (fr : Int) < 0 := by omega
        have z2 : (fr : Int) ≤ (m : Int) := by omega
        have z3 : (m : Int) ≤ (cp : Int) := by omega
        obtain ⟨y, hy⟩ : ∃ y, y = normOf e (ns.drop fr) := ⟨_, rfl⟩
        have HY : Hid (foldV normOf [] (xs.take (j + 1)) = some (ns.take fr ++ [y])) := by
          show _ = _
          rw [hy, HFr.out.1]
          exact foldv_next HJ1.out.2.1.fold HE.out.1 HFr.out.2
        obtain ⟨ad, had⟩ : ∃ ad : Option Addr, (if cp = fr then some (⟨g, 0, none⟩ : Addr) else some ⟨g, fr, none⟩) = ad := ⟨_, rfl⟩
        have HSh : Hid (∀ X, Below W1.heap.size W1 X → Calls Tryz.prog 46 #[.agg #[.int .i64 e.kind, .string e.s, .bool e.hi, .string e.t, .int .u64 e.lo, .int .u64 e.up, .int .i64 e.n], .slice ad (m - fr) (cp - fr)] X (NmI (NmB w.heap.size g) y X)) := fun X hX => by
          have hJX := HJ1.out.2.1.move hX
          have hlen : (ns.drop fr).length = m - fr := by rw [List.length_drop, ← HJ1.out.2.1.len, ← HJ1.out.1]
          have hulen : (us.drop fr).length = (ns.drop fr).length := by rw [List.length_drop, List.length_drop, HJ1.out.2.1.len]
          have hxa : (ns.drop fr).length = arity e.kind := by rw [List.length_drop]; have := HFr.out.1; have := HFr.out.2; omega
          have hO9 : ∀ (i : Nat) (u : Value) (x : List Nd), (us.drop fr)[i]? = some u → (ns.drop fr)[i]? = some x → Opd (NmB w.heap.size g) X u x := fun i u x hu hx => by
            rw [List.getElem?_drop] at hu hx
            exact hJX.opd _ u x hu hx
          rw [hy, ← had]
          by_cases hcf : cp = fr
          · rw [if_pos hcf]
            have hnil : us.drop fr = [] := List.length_eq_zero_iff.1 (by rw [hulen, hlen]; omega)
            have h9 := normalNode_core (NmB w.heap.size g) e g 0 (cp - fr) (us.drop fr) (ns.drop fr) X HE.out.2 hJX.own.lt.2 hxa hulen (by rw [hnil]; intro i u hu; simp at hu) hO9
            rw [hlen] at h9
            exact h9
          · rw [if_neg hcf]
            have h9 := normalNode_core (NmB w.heap.size g) e g fr (cp - fr) (us.drop fr) (ns.drop fr) X HE.out.2 hJX.own.lt.2 hxa hulen (by intro i u hu; rw [List.getElem?_drop] at hu; exact hJX.own.cell hu) hO9
            rw [hlen] at h9
            exact h9
        clear hy hfr
        go_upto_region 8 with fail
        go_cut [10] (fun sv wx => Below W1.heap.size W1 wx ∧ OwnNs wx sv y ∧ (∀ a n c, sv = .slice (some a) n c → NmB w.heap.size g a.block))
        case first =>
          go_region_law ((go_simp; go_at_call 46; refine (HSh.out _ ?hX).mono ?_; (case hX => (repeat (first | exact Below.refl _ _ | refine Below.drew ?_))); rintro r w' ⟨v7, rfl, hv7, hs7, hbb⟩))
          all_goals go_wp2_with fail
          all_goals go_meet
          all_goals (refine ⟨?_, hv7, fun a n c hq => ?_⟩)
          all_goals first
            | exact ((Below.refl _ _).drew).trans hbb
            | (rcases hs7 a n c hq with q | q
               · exact q
               · exact ⟨by have h8 := HJ1.out.2.1.below.size; have h7 : W1.drew.heap.size = W1.heap.size := (by simp); omega, by have h8 := HJ1.out.2.1.own.lt.2; have h7 : W1.drew.heap.size = W1.heap.size := (by simp); omega⟩)
        case rest =>
        obtain ⟨hb10, hv10, hs10⟩ := hcut
        have HK : Hid (Below W1.heap.size W1 wc ∧ OwnNs wc u10 y ∧ (∀ a n c, u10 = .slice (some a) n c → NmB w.heap.size g a.block)) := ⟨hb10, hv10, hs10⟩
        obtain ⟨vg, vc, rfl, _⟩ := hv10
        have HK2 : Hid (FnJ w xs j g cp us ns wc) := HJ1.out.2.1.move hb10
        have hgl2 := HK2.out.own.lt
        have hsz2 := HK2.out.below.size
        obtain ⟨W2, hW2⟩ : ∃ W2 : World, W2 = wc.alloc (Obj.cells #[.slice (some ⟨vg, 0, none⟩) y.length vc] 30) := ⟨_, rfl⟩
        have hb2 : Below wc.heap.size wc W2 := by rw [hW2]; exact (Below.refl _ _).alloc (Nat.le_refl _) _
        have cW2 : W2.cell? ⟨wc.heap.size, 0, none⟩ = some (.slice (some ⟨vg, 0, none⟩) y.length vc) := by rw [hW2]; simp
        have hfl : fr ≤ us.length := by rw [← HJ1.out.1]; exact hfrle
        have HM : Hid (fr = (us.take fr).length) := by
          show fr = _
          rw [List.length_take]; omega
        have HO2 : Hid (OwnV W2 w.heap.size g cp (us.take fr)) := (HK2.out.own.take hfl).below hb2
        have HW2 : Hid (W2 = wc.alloc (Obj.cells #[.slice (some ⟨vg, 0, none⟩) y.length vc] 30)) := hW2
        have z4 : (fr : Int) ≤ (cp : Int) := by omega
        have hz2 : wc.heap.size < W2.heap.size := by rw [hW2]; simp
        clear hb10 hs10 c0 c1 c2 c3 c4 c5 c6 HSh hb2
        go_wp2_with (at_builtin; (try rw [← hW2]); refine wpList_append_nds _ rfl _ _ rfl w.heap.size g cp fr wc.heap.size 1 1 (us.take fr) [.slice (some ⟨vg, 0, none⟩) y.length vc] rfl rfl HM.out rfl HO2.out ?hc ?hy ?hl ?hb ?_)
        case hc =>
          intro i v hv
          have hi : i = 0 := by have := (List.getElem?_eq_some_iff.1 hv).1; simpa using this
          subst hi
          simp at hv
          subst hv
          exact cW2
        case hy =>
          intro v hv
          simp at hv
          subst hv
          rfl
        case hl => rw [← HM.out]; show fr + 1 ≤ 1000; omega
        case hb => omega
        intro g' cp' w' hO' hgr' hat'
        have fin : Hid (FnJ w xs (j + 1) g' cp' (us.take fr ++ [.slice (some ⟨vg, 0, none⟩) y.length vc]) (ns.take fr ++ [y]) w') :=
          fn_push HF.out.2.1 HF.out.2.2 HK2.out HK.out.2.1 HK.out.2.2 HY.out hfl hO' (by simpa using hgr') (by simpa using hat')
        have hcp' : fr + 1 ≤ cp' := by have h8 := hO'.caps.1; rw [List.length_append, ← HM.out] at h8; exact h8
        clear hO' hgr' hat' hW2 cW2
        go_wp2_with fail
        go_roundw
        case rel => exact ⟨j + 1, fr + 1, g', cp', us.take fr ++ [.slice (some ⟨vg, 0, none⟩) y.length vc], ns.take fr ++ [y], rfl, by go_num, by omega, by rw [List.length_append, List.length_singleton, ← HM.out], by omega, hcp', rfl, fin.out⟩
        case measure => simp [intOf]; omega
    · have zj : ¬ (j : Int) < (n : Int) := by omega
      have HFo : Hid (foldV normOf [] xs = some ns) := by
        have h1 := HJ.out.2.fold
        rw [List.take_of_length_le (by have := HL.out; omega)] at h1
        exact h1
      have HB9 : Hid (Below w.heap.size w wr) := HJ.out.2.below
      by_cases hm1 : m = 1
      · subst hm1
        obtain ⟨u, rfl⟩ : ∃ u, us = [u] := by
          have h1 := HJ.out.1
          match us, h1 with
          | [u], _ => exact ⟨u, rfl⟩
        obtain ⟨y, rfl⟩ : ∃ y, ns = [y] := by
          have h1 := HJ.out.2.len
          match ns, h1 with
          | [y], _ => exact ⟨y, rfl⟩
        have e0 := HJ.out.2.own.cell (j := 0) rfl
        have HO9 : Hid (Opd (fun k => w.heap.size ≤ k) wr u y) := (HJ.out.2.opd 0 u y rfl rfl).weak (fun k _ q => q.1)
        obtain ⟨b9, o9, c9, hu9, _, _⟩ := HO9.out.form
        rw [hu9] at e0
        have HR : Hid (FnPost xs w (.returned (.tuple #[.slice (some ⟨b9, o9, none⟩) y.length c9, .bool true])) wr) := ⟨HB9.out, .inl ⟨u, y, HFo.out, by rw [hu9], HO9.out⟩⟩
        clear hu9
        go_wp2_with fail
        exact bodyPost_ret (v := .tuple #[.slice (some ⟨b9, o9, none⟩) y.length c9, .bool true]) (by simp [results, Tryz.results45, go_sem]) rfl HR.out
      · have zm : ((m : Int) != 1) = true := by have : ¬ (m : Int) = 1 := (by omega); simpa using this
        have HR : Hid (FnPost xs w (.returned (.tuple #[.slice none 0 0, .bool false])) wr) := ⟨HB9.out, .inr ⟨fun s q => by
          rw [HFo.out] at q
          have h1 := HJ.out.1
          rw [HJ.out.2.len, Option.some.inj q] at h1
          exact hm1 h1, rfl⟩⟩
        go_wp2_with fail
        exact bodyPost_ret (v := .tuple #[.slice none 0 0, .bool false]) (by simp [results, Tryz.results45, go_sem]) rfl HR.out
theorem foldNorm_core {w : World} {gN cpN : Nat} {xs : List Nd} (h : NdsAt w gN 0 xs) (hg : gN < w.heap.size) (hG : ∀ e ∈ xs, GoodN e) (hl : xs.length ≤ 200) :
    Calls Tryz.prog 45 #[.slice (some ⟨gN, 0, none⟩) xs.length cpN, .func (Fn.func 46) #[] #[]] w (FnPost xs w) := foldNorm_win h hg hG hl
end Go.Proofs.YtkidabedcgngcaaGreatDoor

/-
  spec.Normal.
-/
namespace Go.Proofs.YtkidabedcgngcaaGreatDoor
open Go.ChangeShapes Go.WideShapes Go.ChangeAt Go.RowKit Go.Deep
set_option linter.unusedVariables false
set_option linter.unusedSimpArgs false
set_option maxRecDepth 100000

/-- What Normal hands back. -/
def NmlP (xs : List Nd) (w : World) (r : Ending) (w' : World) : Prop := ((¬ GoodF xs ∧ r = .returned (.agg #[.slice none 0 0])) ∨ (GoodF xs ∧ ∃ y g cp, NormF xs y ∧ r = .returned (.agg #[.slice (some ⟨g, 0, none⟩) y.length cp]) ∧ OwnNd w' w.heap.size g cp y)) ∧ Below w.heap.size w w'
theorem goodF_norm {xs : List Nd} (h : GoodF xs) : ∃ y, NormF xs y ∧ y ≠ [] ∧ y.length ≤ 200 ∧ ∀ x ∈ y, x ∈ xs := by
  obtain ⟨hl, s, hs, _⟩ := h
  obtain ⟨y, hy⟩ := normF_ex (ShT.tree goodB hs)
  obtain ⟨h1, h2⟩ := trv_mem _ (Nat.le_refl _) hy
  exact ⟨y, hy, trv_ne hy, by omega, h1⟩
end Go.Proofs.YtkidabedcgngcaaGreatDoor

/-
  The marks, looked for.
-/
namespace Go.Proofs.YtkidabedcgngcaaGreatDoor
open Go.ChangeShapes Go.WideShapes Go.ChangeAt Go.RowKit Go.Deep
set_option linter.unusedVariables false

theorem markText_in (W0 : World) (a : Int) (w : World) (hb : Below W0.heap.size W0 w) (h0 : 0 < a) (h1 : a ≤ 2 ^ 40) :
    Calls Tryz.prog 36 #[.int .i64 a] w fun e w' => e = .returned (.string (mText a.toNat)) ∧ Below W0.heap.size W0 w' := by
  refine (markText_any a w h0 h1).mono ?_
  rintro e w' ⟨he, hb'⟩
  exact ⟨he, hb.trans (hb'.mono hb.size)⟩

end Go.Proofs.YtkidabedcgngcaaGreatDoor

/-
  Nodes with marks: markNodeS, heldNodeS, markFilter, heldFilter.
-/
namespace Go.Proofs.YtkidabedcgngcaaGreatDoor
open Go.ChangeShapes Go.WideShapes Go.ChangeAt Go.RowKit Go.Deep
set_option linter.unusedVariables false
set_option linter.unusedSimpArgs false
set_option maxRecDepth 100000

/-- Whether a third mark. -/
def thirdB (k : Int) : Bool := k % 3 == 0
/-- The node that the marks from 'k' on make. -/
def mNd (k : Int) : Nd := ⟨k, mText (k + 1).toNat, thirdB (k + 1 + 1), mText (k + 1 + 1 + 1).toNat, k + 1 + 1 + 1 + 1, k + 1 + 1 + 1 + 1 + 1, k + 1 + 1 + 1 + 1 + 1 + 1⟩
/-- The first 'i' of the nodes are marked, from 'k' on. -/
def markedN (k : Int) (es : List Nd) (i : Nat) : Prop := ∀ j : Nat, j < i → es[j]? = some (mNd (k + j * 7))
theorem OwnNd.upd {w : World} {base g cap m j : Nat} {fs : List Nd} {f f' : Nd} {u : Value} (h : OwnNd w base g cap (fs.set m f)) (hm : m < fs.length) (hj : j < 7) (hc : f'.seven = f.seven.set j u) :
    OwnNd (w.setCell ⟨g, m * 7 + j, none⟩ u) base g cap (fs.set m f') := by
  have := h.set m j f f' u (by simp [hm]) hj hc
  rwa [List.set_set] at this
theorem markedN_set {k : Int} {fs : List Nd} {m : Nat} (h : markedN k fs m) (hm : m < fs.length) : markedN k (fs.set m (mNd (k + m * 7))) (m + 1) := by
  intro j hj
  by_cases e : j = m
  · subst e; simp [hm]
  · rw [List.getElem?_set_ne (by omega)]; exact h j (by omega)
set_option maxHeartbeats 2000000 in
theorem markNodeS_core (base g cap : Nat) (es : List Nd) (k : Int) (w : World) (hO : OwnNd w base g cap es) (h0 : 0 < k) (h1 : k ≤ 2 ^ 30) (hn : es.length ≤ 1048576) :
    Calls Tryz.prog 35 #[.slice (some ⟨g, 0, none⟩) es.length cap, .int .i64 k] w fun e w' =>
      ∃ fs, e = .returned (.int .i64 (k + es.length * 7)) ∧ OwnNd w' base g cap fs ∧ fs.length = es.length ∧ markedN k fs es.length ∧ w.grownBy w' (some g) := by
  have HO : Hid (OwnNd w base g cap es) := hO
  clear hO
  go_enter Tryz.func35, Tryz.ntmps35
  go_wp2
  go_loopw [1, 5] (fun c i wr => ∃ (m : Nat) (a : Int) (fs : List Nd), m ≤ es.length ∧ i = .int .i64 m ∧ c = .int .i64 a ∧ a = k + m * 7 ∧ OwnNd wr base g cap fs ∧ fs.length = es.length ∧ markedN k fs m ∧ w.grownBy wr (some g)) (fun _ i _ => es.length - (intOf i).toNat)
  case atStart => exact ⟨0, k, es, Nat.zero_le _, rfl, rfl, by simp, HO.out, rfl, fun j hj => by omega, grown_of_below (Below.refl _ _) _⟩
  case round =>
    obtain ⟨m, a, fs, hm, rfl, rfl, ha, hO, hfl, hmk, hgr⟩ := hrel
    have HR : Hid (a = k + m * 7 ∧ OwnNd wr base g cap fs ∧ fs.length = es.length ∧ markedN k fs m) := ⟨ha, hO, hfl, hmk⟩
    have ha0 : 0 < a := by omega
    have ha1 : a ≤ 2 ^ 31 := by omega
    have HG : Hid (w.grownBy wr (some g)) := hgr
    clear hO hfl hmk ha hgr
    by_cases hlt : m < es.length
    · obtain ⟨f, hf⟩ : ∃ f, fs[m]? = some f := ⟨_, List.getElem?_eq_getElem (by rw [HR.out.2.2.1]; exact hlt)⟩
      have HF : Hid (fs[m]? = some f ∧ m < fs.length) := ⟨hf, by rw [HR.out.2.2.1]; exact hlt⟩
      clear hf
      have c0 := (HR.out.2.1.at m f HF.out.1).1
      simp only [Nat.zero_add] at c0
      have z0 := fun j => World.ownsRow.frozenAt HR.out.2.1 j
      have H0 : Hid (OwnNd (wr.setCell ⟨g, m * 7, none⟩ (.int .i64 a)) base g cap (fs.set m { f with kind := a }) ∧ w.grownBy (wr.setCell ⟨g, m * 7, none⟩ (.int .i64 a)) (some g)) :=
        ⟨HR.out.2.1.set m 0 f { f with kind := a } (.int .i64 a) HF.out.1 (by omega) rfl, HG.out.trans (grown_set _ _ _ _)⟩
      go_wp2_with fail
      refine (markText_any (a + 1) _ (by omega) (by omega)).mono ?_
      rintro e w1 ⟨rfl, hb1⟩
      have hO1 := H0.out.1.below hb1 H0.out.1.lt.2
      obtain ⟨_, c1, c2, _⟩ := hO1.at m _ (by simp [HF.out.2]; rfl)
      simp only [Nat.zero_add] at c1 c2
      have z1 := fun j => World.ownsRow.frozenAt hO1 j
      have hO2 := (hO1.upd (j := 1) (u := .string (mText (a + 1).toNat)) (f' := { f with kind := a, s := mText (a + 1).toNat }) HF.out.2 (by omega) rfl).upd (j := 2) (u := .bool ((a + 1 + 1) % 3 == 0)) (f' := { f with kind := a, s := mText (a + 1).toNat, hi := ((a + 1 + 1) % 3 == 0) }) HF.out.2 (by omega) rfl
      have H1 : Hid (OwnNd ((w1.setCell ⟨g, m * 7 + 1, none⟩ (.string (mText (a + 1).toNat))).setCell ⟨g, m * 7 + 2, none⟩ (.bool ((a + 1 + 1) % 3 == 0))) base g cap (fs.set m { f with kind := a, s := mText (a + 1).toNat, hi := ((a + 1 + 1) % 3 == 0) }) ∧ w.grownBy ((w1.setCell ⟨g, m * 7 + 1, none⟩ (.string (mText (a + 1).toNat))).setCell ⟨g, m * 7 + 2, none⟩ (.bool ((a + 1 + 1) % 3 == 0))) (some g)) :=
        ⟨hO2, ((H0.out.2.trans (grown_of_below hb1 _)).trans (grown_set _ _ _ _)).trans (grown_set _ _ _ _)⟩
      clear hO1 hO2 hb1 c0 z0
      go_wp2_with fail
      refine (markText_any (a + 1 + 1 + 1) _ (by omega) (by omega)).mono ?_
      rintro e w2 ⟨rfl, hb2⟩
      have hO3 := H1.out.1.below hb2 H1.out.1.lt.2
      obtain ⟨_, _, _, c3, c4, c5, c6⟩ := hO3.at m _ (by simp [HF.out.2]; rfl)
      simp only [Nat.zero_add] at c3 c4 c5 c6
      have z3 := fun j => World.ownsRow.frozenAt hO3 j
      have hO4 := (((hO3.upd (j := 3) (u := .string (mText (a + 1 + 1 + 1).toNat)) (f' := { f with kind := a, s := mText (a + 1).toNat, hi := ((a + 1 + 1) % 3 == 0), t := mText (a + 1 + 1 + 1).toNat }) HF.out.2 (by omega) rfl).upd (j := 4) (u := .int .u64 (a + 1 + 1 + 1 + 1))
        (f' := { f with kind := a, s := mText (a + 1).toNat, hi := ((a + 1 + 1) % 3 == 0), t := mText (a + 1 + 1 + 1).toNat, lo := a + 1 + 1 + 1 + 1 }) HF.out.2 (by omega) rfl).upd (j := 5) (u := .int .u64 (a + 1 + 1 + 1 + 1 + 1))
        (f' := { f with kind := a, s := mText (a + 1).toNat, hi := ((a + 1 + 1) % 3 == 0), t := mText (a + 1 + 1 + 1).toNat, lo := a + 1 + 1 + 1 + 1, up := a + 1 + 1 + 1 + 1 + 1 }) HF.out.2 (by omega) rfl).upd (j := 6) (u := .int .i64 (a + 1 + 1 + 1 + 1 + 1 + 1)) (f' := mNd a) HF.out.2 (by omega) rfl
      have hG4 := ((((H1.out.2.trans (grown_of_below hb2 _)).trans (grown_set w2 g (m * 7 + 3) (.string (mText (a + 1 + 1 + 1).toNat)))).trans (grown_set _ g (m * 7 + 4) (.int .u64 (a + 1 + 1 + 1 + 1)))).trans (grown_set _ g (m * 7 + 5) (.int .u64 (a + 1 + 1 + 1 + 1 + 1)))).trans (grown_set _ g (m * 7 + 6) (.int .i64 (a + 1 + 1 + 1 + 1 + 1 + 1)))
      have H4 : Hid (_ ∧ _) := ⟨hO4, hG4⟩
      have HE : Hid (a = k + m * 7) := HR.out.1
      clear hO3 hO4 hG4 hb2 c1 c2 z1
      go_wp2_with fail
      refine ⟨⟨m + 1, a + 1 + 1 + 1 + 1 + 1 + 1 + 1, fs.set m (mNd a), by omega, by go_num, rfl, ?_, H4.out.1, by rw [List.length_set]; exact HR.out.2.2.1, ?_, H4.out.2⟩, ?_⟩
      · go_light
        have := HE.out
        omega
      · go_light
        have := markedN_set HR.out.2.2.2 HF.out.2
        rw [← HE.out] at this
        exact this
      · go_light
        simp [intOf]; omega
    · go_wp2_with fail
      go_ret
      have e1 : m = es.length := by omega
      refine ⟨fs, ?_, HR.out.2.1, HR.out.2.2.1, ?_, HG.out⟩
      · rw [HR.out.1, e1]; rfl
      · rw [← e1]; exact HR.out.2.2.2
/-- A slice of the call's own, or nil. -/
def OwnUN (w : World) (base : Nat) (u : Value) (R : List Nd) : Prop := (u = .slice none 0 0 ∧ R = []) ∨ ∃ g cp, u = .slice (some ⟨g, 0, none⟩) R.length cp ∧ OwnNd w base g cp R
theorem OwnUN.ins {w : World} {base : Nat} {u : Value} {R : List Nd} (h : OwnUN w base u R) : InNds w u R := by
  rcases h with ⟨rfl, rfl⟩ | ⟨g, cp, rfl, hO⟩
  · exact .inl ⟨_, _, rfl, rfl⟩
  · exact InNds.own hO rfl
theorem OwnUN.row {w : World} {base : Nat} {u : Value} {R : List Nd} (h : OwnUN w base u R) : ∀ g, u.ownBlock = some g → base ≤ g ∧ g < w.heap.size := by
  intro g hg
  rcases h with ⟨rfl, _⟩ | ⟨g', cp, rfl, hO⟩
  · cases hg
  · have : g' = g := Option.some.inj hg
    subst this
    exact hO.lt
theorem OwnUN.keptNe {w w' : World} {base : Nat} {u : Value} {R : List Nd} {row : Option Nat} (h : OwnUN w base u R) (hg : w.grownBy w' row) (hne : ∀ g, u.ownBlock = some g → row ≠ some g) : OwnUN w' base u R := by
  rcases h with h | ⟨g, cp, rfl, hO⟩
  · exact .inl h
  · exact .inr ⟨g, cp, rfl, World.ownsRow.kept hO hg (.inr (fun q => hne g rfl q.symm))⟩
theorem OwnUN.below {w w' : World} {base : Nat} {u : Value} {R : List Nd} (h : OwnUN w base u R) (hb : Below w.heap.size w w') : OwnUN w' base u R := h.keptNe (grown_of_below hb none) (fun g q z => by cases z)
theorem OwnUN.ownCells {w : World} {base : Nat} {u : Value} {R : List Nd} (h : OwnUN w base u R) : u.cells = #[u] := by
  rcases h with ⟨rfl, _⟩ | ⟨g, cp, rfl, _⟩ <;> rfl
set_option maxHeartbeats 400000 in
theorem markNodeS_zero (a : Option Addr) (cap : Nat) (k : Int) (w : World) :
    Calls Tryz.prog 35 #[.slice a 0 cap, .int .i64 k] w fun e w' => e = .returned (.int .i64 k) ∧ Below w.heap.size w w' := by
  go_enter Tryz.func35, Tryz.ntmps35
  go_wp2
  go_loopw [1, 5] (fun c i wr => c = .int .i64 k ∧ i = .int .i64 0 ∧ wr = w) (fun _ i _ => 0)
  case atStart => exact ⟨rfl, rfl, rfl⟩
  case round =>
    obtain ⟨rfl, rfl, rfl⟩ := hrel
    go_wp2_with fail
    go_ret
    exact ⟨rfl, Below.refl _ _⟩
theorem markNodeS_own (base : Nat) (u : Value) (R : List Nd) (k : Int) (w : World) (h : OwnUN w base u R) (h0 : 0 < k) (h1 : k ≤ 2 ^ 30) (hn : R.length ≤ 1048576) :
    Calls Tryz.prog 35 #[u, .int .i64 k] w fun e w' =>
      ∃ R', e = .returned (.int .i64 (k + R.length * 7)) ∧ OwnUN w' base u R' ∧ R'.length = R.length ∧ markedN k R' R'.length ∧ w.grownBy w' u.ownBlock := by
  rcases h with ⟨rfl, rfl⟩ | ⟨g, cp, rfl, hO⟩
  · refine (markNodeS_zero none 0 k w).mono ?_
    rintro e w' ⟨rfl, hb⟩
    exact ⟨[], by simp, .inl ⟨rfl, rfl⟩, rfl, fun j hj => by simp at hj, grown_of_below hb _⟩
  · refine (markNodeS_core base g cp R k w hO h0 h1 hn).mono ?_
    rintro e w' ⟨fs, rfl, hO', hl, hm, hg⟩
    exact ⟨fs, rfl, .inr ⟨g, cp, by rw [hl], hO'⟩, hl, by rw [hl]; exact hm, hg⟩
set_option maxHeartbeats 400000 in
theorem markFilter_own (base : Nat) (u : Value) (R : List Nd) (k : Int) (w : World) (h : OwnUN w base u R) (h0 : 0 < k) (h1 : k ≤ 2 ^ 30) (hn : R.length ≤ 1048576) :
    Calls Tryz.prog 13 #[.agg #[u], .int .i64 k] w fun e w' =>
      ∃ R', e = .returned (.int .i64 (k + R.length * 7)) ∧ OwnUN w' base u R' ∧ R'.length = R.length ∧ markedN k R' R'.length ∧ w.grownBy w' u.ownBlock := by
  have hu := h.ownCells
  have hb0 : Below w.heap.size w (w.alloc (Obj.cells #[u] 32)) := (Below.refl _ _).alloc (Nat.le_refl _) _
  have HU : Hid (OwnUN (w.alloc (Obj.cells #[u] 32)) base u R) := h.below hb0
  clear h
  go_enter Tryz.func13, Tryz.ntmps13
  go_wp2_with fail
  refine (markNodeS_own base u R k _ HU.out h0 h1 hn).mono ?_
  rintro e w1 ⟨R', rfl, hU', hl, hm, hb1⟩
  have HF : Hid (OwnUN w1 base u R' ∧ R'.length = R.length ∧ markedN k R' R'.length) := ⟨hU', hl, hm⟩
  clear hU' hl hm
  go_wp2_with fail
  go_ret
  exact ⟨R', rfl, HF.out.1, HF.out.2.1, HF.out.2.2, (grown_of_below hb0 _).trans hb1⟩
end Go.Proofs.YtkidabedcgngcaaGreatDoor

