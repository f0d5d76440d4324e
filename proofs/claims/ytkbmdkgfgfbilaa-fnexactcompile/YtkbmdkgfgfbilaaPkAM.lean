import Derived.Deep.RegionLaw
import Derived.Deep.AppendLies
import Derived.Test.YtkbmdkgfgfbilaaPkAK
import Derived.Test.YtkbmdkgfgfbilaaPkAI
import Derived.Test.YtkbmdkgfgfbilaaPkAJ
import Derived.Test.YtkbmdkgfgfbilaaPkAL
import Derived.Test.YtkbmdkgfgfbilaaPkAG
/-
  impl.shapeOf.
-/
namespace Go.Proofs.Ytkbmdkgfgfbilaa
open Go.ChangeShapes Go.WideShapes Go.ChangeAt Go.RowKit Go.Deep
set_option linter.unusedVariables false
set_option linter.unusedSimpArgs false
set_option maxRecDepth 100000

theorem lift0 {P : Program} {f : Nat} {args : Array Value} {w : World} {v : Value} (W0 : World) (h : Below W0.heap.size W0 w) (c : Calls P f args w fun e w' => e = .returned v ∧ Below w.heap.size w w') :
    Calls P f args w fun e w' => e = .returned v ∧ Below W0.heap.size W0 w' ∧ (∀ b o, b < W0.heap.size → w'.cell? ⟨b, o, none⟩ = W0.cell? ⟨b, o, none⟩) := by
  refine c.mono ?_
  rintro e w' ⟨he, hb⟩
  have k := h.trans (hb.mono h.size)
  exact ⟨he, k, fun b o hlt => k.cell (p := ⟨b, o, none⟩) hlt⟩
def SoA (w : World) (e : Nd) (W0 : World) : Prop := BoxAt W0 w.heap.size 69 7 w.heap.size e.seven ∧ BoxAt W0 w.heap.size 82 3 (w.heap.size + 1) [.bool false, .int .i64 0, .int .i64 0] ∧ Below w.heap.size w W0 ∧ W0.heap.size = w.heap.size + 2
theorem so_after {w W0 w' : World} {e : Nd} {gd : Bool} (hA : SoA w e W0) (hb : Below W0.drew.heap.size W0.drew w') : SoJ w e w'.heap.size gd 0 (w'.alloc (Obj.cells #[.bool gd, .int .i64 e.kind, .int .i64 0] 82)) := by
  have h1 : Below W0.heap.size W0 w' := ((Below.refl W0.heap.size W0).drew).trans hb
  have h2 := h1.size
  have h3 : Below W0.heap.size W0 (w'.alloc (Obj.cells #[.bool gd, .int .i64 e.kind, .int .i64 0] 82)) := h1.alloc h2 _
  have h4 := hA.2.2.2
  exact ⟨hA.1.below h3, hA.2.1.below h3, boxAt_new w' _ (by omega) rfl, by omega, hA.2.2.1.trans (h3.mono (by omega))⟩
theorem so_before {w W0 w' : World} {e : Nd} {gd : Bool} (hA : SoA w e W0) (hb : Below (W0.drew.alloc (Obj.cells #[.bool false, .int .i64 0, .int .i64 0] 82)).heap.size (W0.drew.alloc (Obj.cells #[.bool false, .int .i64 0, .int .i64 0] 82)) w') :
    SoJ w e (w.heap.size + 2) gd 0 (((w'.setCell ⟨w.heap.size + 2, 0, none⟩ (.bool gd)).setCell ⟨w.heap.size + 2, 1, none⟩ (.int .i64 e.kind)).setCell ⟨w.heap.size + 2, 2, none⟩ (.int .i64 0)) := by
  have h4 := hA.2.2.2
  have hd : W0.drew.heap.size = W0.heap.size := by simp
  have h0 : Below W0.heap.size W0 (W0.drew.alloc (Obj.cells #[.bool false, .int .i64 0, .int .i64 0] 82)) := ((Below.refl W0.heap.size W0).drew).alloc (by simp) _
  have h1 : Below W0.heap.size W0 w' := h0.trans (hb.mono (by simp))
  have hB : BoxAt w' w.heap.size 82 3 (w.heap.size + 2) [.bool false, .int .i64 0, .int .i64 0] := by
    have := boxAt_new W0.drew (base := w.heap.size) (t := 82) (sz := 3) #[.bool false, .int .i64 0, .int .i64 0] (by simp; omega) rfl
    rw [hd, h4] at this
    exact this.below hb
  refine ⟨(((hA.1.below h1).beside (by omega) 0 _).beside (by omega) 1 _).beside (by omega) 2 _, (((hA.2.1.below h1).beside (by omega) 0 _).beside (by omega) 1 _).beside (by omega) 2 _, ((hB.set 0 _).set 1 _).set 2 _, Nat.le_refl _, ?_⟩
  exact below_set (below_set (below_set (hA.2.2.1.trans (h1.mono (by omega))) (by omega) 0 _) (by omega) 1 _) (by omega) 2 _
/-- One round of shapeOf: the operand's block, then the stores. -/
structure SoK (w : World) (e : Nd) (WB OB : Nat) (v : Bool) (a : Nat) (x : Shape) (q : Nat) (wr : World) : Prop where
  so : SoJ w e WB v a wr
  ob : BoxAt wr w.heap.size 82 3 OB [.bool x.valid, .int .i64 x.kind, .int .i64 (q : Int)]
  ne : ¬ OB = WB
  ge : w.heap.size + 2 ≤ OB
theorem SoJ.round {w : World} {e : Nd} {WB : Nat} {v : Bool} {a : Nat} {wr : World} (h : SoJ w e WB v a wr) (x : Shape) : SoK w e WB wr.heap.size v a x x.nest (wr.alloc (Obj.cells #[.bool x.valid, .int .i64 x.kind, .int .i64 (x.nest : Int)] 82)) := by
  have hb : Below wr.heap.size wr (wr.alloc (Obj.cells #[.bool x.valid, .int .i64 x.kind, .int .i64 (x.nest : Int)] 82)) := (Below.refl _ _).alloc (Nat.le_refl _) _
  have h1 := h.whole.lt.2
  have h2 := h.ne
  exact ⟨h.move hb, boxAt_new wr _ h.below.size rfl, by omega, by omega⟩
theorem SoK.valid {w : World} {e : Nd} {WB OB : Nat} {v : Bool} {a : Nat} {x : Shape} {q : Nat} {wr : World} (h : SoK w e WB OB v a x q wr) (v2 : Bool) : SoK w e WB OB v2 a x q (wr.setCell ⟨WB, 0, none⟩ (.bool v2)) := by
  have h2 := h.so.ne
  exact ⟨⟨h.so.node.beside (by omega) 0 _, h.so.res.beside (by omega) 0 _, h.so.whole.set 0 _, h2, below_set h.so.below (by omega) 0 _⟩, h.ob.beside h.ne 0 _, h.ne, h.ge⟩
theorem SoK.more {w : World} {e : Nd} {WB OB : Nat} {v : Bool} {a : Nat} {x : Shape} {q : Nat} {wr : World} (h : SoK w e WB OB v a x q wr) (q2 : Nat) : SoK w e WB OB v a x q2 (wr.setCell ⟨OB, 2, none⟩ (.int .i64 (q2 : Int))) := by
  have h2 := h.so.ne
  have h3 := h.ge
  have h4 := h.ne
  exact ⟨⟨h.so.node.beside (by omega) 2 _, h.so.res.beside (by omega) 2 _, h.so.whole.beside (by omega) 2 _, h2, below_set h.so.below (by omega) 2 _⟩, h.ob.set 2 _, h.ne, h.ge⟩
theorem SoK.done {w : World} {e : Nd} {WB OB : Nat} {v : Bool} {a : Nat} {x : Shape} {q : Nat} {wr : World} (h : SoK w e WB OB v a x q wr) (a2 : Nat) : SoJ w e WB v a2 (wr.setCell ⟨WB, 2, none⟩ (.int .i64 (a2 : Int))) := by
  have h2 := h.so.ne
  exact ⟨h.so.node.beside (by omega) 2 _, h.so.res.beside (by omega) 2 _, h.so.whole.set 2 _, h2, below_set h.so.below (by omega) 2 _⟩
theorem take_all {os : List Shape} {j : Nat} {x : Shape} (h : os[j]? = some x) : (os.take (j + 1)).all (·.valid) = ((os.take j).all (·.valid) && x.valid) := by
  rw [List.take_add_one, h]
  simp
theorem nestFrom_at (op : Int) {os : List Shape} {j a : Nat} {o : Shape} (h : os[j]? = some o) : nestFrom op j a (os.drop j) = nestFrom op (j + 1) (max a (o.nest + if level op j o.kind then 1 else 0)) (os.drop (j + 1)) := by
  have hj := (List.getElem?_eq_some_iff.1 h).1
  rw [List.drop_eq_getElem_cons hj, show os[j] = o from Option.some.inj ((List.getElem?_eq_getElem hj).symm.trans h)]
  rfl
set_option maxHeartbeats 8000000 in
theorem shapeOf_core {w : World} {b o cap : Nat} {os : List Shape} (e : Nd) (h : ShsAt w b o os) (hbl : b < w.heap.size) (hl : os.length ≤ cap) (h3 : os.length ≤ 3) (hcap : cap ≤ 9223372036854775807) (hN : ∀ x ∈ os, x.nest ≤ 1000) (hs : e.s.size ≤ maxLen) (ht : e.t.size ≤ maxLen) :
    Calls Try.prog 47 #[e.v, .slice (some ⟨b, o, none⟩) os.length cap] w fun r w' => r = .returned (.agg #[.bool (shapeM goodB e os).valid, .int .i64 e.kind, .int .i64 ((shapeM goodB e os).nest : Int)]) ∧ Below w.heap.size w w' := by
  have HF : Hid (ShsAt w b o os ∧ (∀ x ∈ os, x.nest ≤ 1000) ∧ e.s.size ≤ maxLen ∧ e.t.size ≤ maxLen) := ⟨h, hN, hs, ht⟩
  obtain ⟨n, hn⟩ : ∃ n, n = os.length := ⟨_, rfl⟩
  have HL : Hid (n = os.length) := hn
  rw [← hn] at hl h3 ⊢
  clear h hN hs ht hn
  obtain ⟨gd, hgd⟩ : ∃ gd, gd = goodB e := ⟨_, rfl⟩
  have HG : Hid (gd = goodB e) := hgd
  have HVal : Hid (∀ w, Calls Try.prog 64 #[.agg #[.int .i64 e.kind, .string e.s, .bool e.hi, .string e.t, .int .u64 e.lo, .int .u64 e.up, .int .i64 e.n]] w fun r w' => r = .returned (.bool gd) ∧ Below w.heap.size w w') := fun w => by
    rw [hgd]; exact valid_is e w HF.out.2.2.1 HF.out.2.2.2
  clear hgd
  obtain ⟨W0, hW0⟩ : ∃ W0 : World, W0 = (w.alloc (Obj.cells #[.int .i64 e.kind, .string e.s, .bool e.hi, .string e.t, .int .u64 e.lo, .int .u64 e.up, .int .i64 e.n] 69)).alloc (Obj.cells #[.bool false, .int .i64 0, .int .i64 0] 82) := ⟨_, rfl⟩
  have HW0 : Hid (BoxAt W0 w.heap.size 69 7 w.heap.size e.seven ∧ BoxAt W0 w.heap.size 82 3 (w.heap.size + 1) [.bool false, .int .i64 0, .int .i64 0] ∧ Below w.heap.size w W0 ∧ W0.heap.size = w.heap.size + 2) := by
    rw [hW0]
    exact ⟨BoxAt.ofHeap (vs := #[.int .i64 e.kind, .string e.s, .bool e.hi, .string e.t, .int .u64 e.lo, .int .u64 e.up, .int .i64 e.n]) (heap_alloc2_old w _ _) (Nat.le_refl _) rfl, BoxAt.ofHeap (vs := #[.bool false, .int .i64 0, .int .i64 0]) (heap_alloc2_new w _ _) (by omega) rfl, ((Below.refl _ _).alloc (Nat.le_refl _) _).alloc (by simp) _, by simp⟩
  have c0 := HW0.out.1.cell (j := 0) rfl
  have c1 := HW0.out.1.cell (j := 1) rfl
  have c2 := HW0.out.1.cell (j := 2) rfl
  have c3 := HW0.out.1.cell (j := 3) rfl
  have c4 := HW0.out.1.cell (j := 4) rfl
  have c5 := HW0.out.1.cell (j := 5) rfl
  have c6 := HW0.out.1.cell (j := 6) rfl
  have hz := HW0.out.2.2.2
  obtain ⟨tot, htot⟩ : ∃ tot, tot = (shapeM goodB e os).nest := ⟨_, rfl⟩
  have HT : Hid (nestFrom e.kind 0 0 os = tot) := by rw [htot]; exact (rfl : nestFrom e.kind 0 0 os = _)
  have HV : Hid ((shapeM goodB e os).valid = (gd && os.all (·.valid))) := by
    show (shapeM goodB e os).valid = _
    rw [HG.out]; rfl
  rw [← htot]
  clear htot
  go_enter Try.func47, Try.ntmps47
  go_upto_region 1 with fail
  rw [← hW0]
  clear hW0
  go_cut [5] (fun s wx => ∃ WB, s = .pointer (some ⟨WB, 0, none⟩) ∧ SoJ w e WB gd 0 wx)
  case first =>
    have hlt0 : w.heap.size < W0.heap.size := by omega
    have c0a : ∀ o, (W0.alloc o).cell? ⟨w.heap.size, 0, none⟩ = some (.int .i64 e.kind) := fun o => by rw [((Below.refl W0.heap.size W0).alloc (Nat.le_refl _) o).cell (p := ⟨w.heap.size, 0, none⟩) hlt0]; exact c0
    go_region_law ((go_simp; go_at_call 64; refine (HVal.out _).mono ?_; rintro r w' ⟨rfl, hbb⟩; obtain ⟨hcc, hff⟩ := bcell hbb; have hsz' := hbb.size; have k0 : w'.cell? ⟨w.heap.size, 0, none⟩ = some (.int .i64 e.kind) := by { rw [hcc w.heap.size 0 (by simp; omega)]; first | exact c0 | (simp; first | exact c0 | exact c0a _) }; have kl : w.heap.size < w'.heap.size := by { simp at hsz'; omega }; have k0a : ∀ o, (w'.alloc o).cell? ⟨w.heap.size, 0, none⟩ = some (.int .i64 e.kind) := fun o => by { rw [((Below.refl w'.heap.size w').alloc (Nat.le_refl _) o).cell (p := ⟨w.heap.size, 0, none⟩) kl]; exact k0 }))
    all_goals go_wp2_with fail
    all_goals go_meet
    all_goals first
      | exact ⟨_, rfl, so_after HW0.out hbb⟩
      | exact ⟨_, rfl, so_before HW0.out hbb⟩
  case rest =>
  obtain ⟨WB, rfl, hJ⟩ := hcut
  have HJ0 : Hid (SoJ w e WB gd 0 wc) := hJ
  clear hJ c0 c1 c2 c3 c4 c5 c6 hz HW0 HVal
  go_wp2_with fail
  go_loopw [15] (fun iv wr => ∃ (j a : Nat) (v : Bool), iv = .int .i64 (j : Int) ∧ j ≤ n ∧ a ≤ 2000 ∧ v = (gd && (os.take j).all (·.valid)) ∧ nestFrom e.kind j a (os.drop j) = tot ∧ SoJ w e WB v a wr) (fun iv _ => n - (intOf iv).toNat)
  case atStart => exact ⟨0, 0, gd, rfl, Nat.zero_le _, Nat.zero_le _, by simp, HT.out, HJ0.out⟩
  case round =>
    obtain ⟨j, a, v, rfl, hj, ha, hv, hN, hJ⟩ := hrel
    have HJ : Hid (v = (gd && (os.take j).all (·.valid)) ∧ nestFrom e.kind j a (os.drop j) = tot ∧ SoJ w e WB v a wr) := ⟨hv, hN, hJ⟩
    have hWB := hJ.whole.lt
    have hWn := hJ.ne
    clear hv hN hJ HJ0 HT
    by_cases hlt : j < n
    · have zj : (j : Int) < (n : Int) := by omega
      obtain ⟨x, hx⟩ : ∃ x, os[j]? = some x := ⟨_, List.getElem?_eq_getElem (by have := HL.out; omega)⟩
      obtain ⟨d0, d1, d2⟩ := (HF.out.1.below HJ.out.2.2.below hbl) j x hx
      have hxn := HF.out.2.1 x (List.mem_of_getElem? hx)
      have HX : Hid (os[j]? = some x) := hx
      obtain ⟨W1, hW1⟩ : ∃ W1 : World, W1 = wr.alloc (Obj.cells #[.bool x.valid, .int .i64 x.kind, .int .i64 (x.nest : Int)] 82) := ⟨_, rfl⟩
      have HK1 : Hid (SoK w e WB wr.heap.size v a x x.nest W1) := by rw [hW1]; exact HJ.out.2.2.round x
      clear hx
      go_upto_region 5 with fail
      rw [← hW1]
      clear hW1 d0 d1 d2
      obtain ⟨v0, hv0⟩ : ∃ v0, v0 = v := ⟨_, rfl⟩
      have HV0 : Hid (v0 = (gd && (os.take j).all (·.valid))) := by rw [hv0]; exact HJ.out.1
      have HN0 : Hid (nestFrom e.kind j a (os.drop j) = tot) := HJ.out.2.1
      clear HJ
      have w0 := HK1.out.so.whole.cell (j := 0) rfl
      have w0f := HK1.out.so.whole.frozen 0
      have o0 := HK1.out.ob.cell (j := 0) rfl
      have hne := HK1.out.ne
      have hge := HK1.out.ge
      cases v
      · have hv0' : v0 = false := hv0
        clear hv0
        obtain ⟨W2, hW2⟩ : ∃ W2 : World, W2 = W1.setCell ⟨WB, 0, none⟩ (.bool false) := ⟨_, rfl⟩
        have HK2 : Hid (SoK w e WB wr.heap.size false a x x.nest W2) := by rw [hW2]; exact HK1.out.valid false
        have HVn : Hid (false = (gd && (os.take (j + 1)).all (·.valid))) := by
          show false = _
          rw [take_all HX.out, ← Bool.and_assoc, ← HV0.out, hv0']
          simp
        go_upto_region 6 with fail
        rw [← hW2]
        clear hW2 w0 w0f o0 HK1 HV0
        have m0 := HK2.out.so.node.cell (j := 0) rfl
        have o1 := HK2.out.ob.cell (j := 1) rfl
        have o2 := HK2.out.ob.cell (j := 2) rfl
        have o2f := HK2.out.ob.frozen 2
        have w2 := HK2.out.so.whole.cell (j := 2) rfl
        have w2f := HK2.out.so.whole.frozen 2
        have fin : ∀ (y : Nat), y = max a (x.nest + (if level e.kind j x.kind then 1 else 0)) → nestFrom e.kind (j + 1) y (os.drop (j + 1)) = tot := fun y hy => by
          rw [hy, ← nestFrom_at e.kind HX.out]; exact HN0.out
        by_cases h16 : e.kind = 16
        · have hlv : level e.kind j x.kind = true := by unfold level; rw [h16]; rfl
          have z16 : (e.kind == 16) = true := by simpa using h16
          clear h16
          obtain ⟨W3, hW3⟩ : ∃ W3 : World, W3 = W2.setCell ⟨wr.heap.size, 2, none⟩ (.int .i64 ((x.nest : Int) + 1)) := ⟨_, rfl⟩
          have HK3 : Hid (SoK w e WB wr.heap.size false a x (x.nest + 1) W3) := by rw [hW3]; exact HK2.out.more (x.nest + 1)
          go_upto_region 8 with fail
          rw [← hW3]
          clear hW3 m0 o1 o2 o2f w2 w2f HK2
          have o2 := HK3.out.ob.cell (j := 2) rfl
          have w2 := HK3.out.so.whole.cell (j := 2) rfl
          have w2f := HK3.out.so.whole.frozen 2
          obtain ⟨a2, ha2⟩ : ∃ a2, a2 = max a (x.nest + 1) := ⟨_, rfl⟩
          have HFin : Hid (nestFrom e.kind (j + 1) a2 (os.drop (j + 1)) = tot ∧ a2 ≤ 2000) := ⟨fin a2 (by rw [ha2, hlv]; rfl), by omega⟩
          have ha3 : max (a : Int) ((x.nest : Int) + 1) = (a2 : Int) := by omega
          clear fin hlv ha2
          go_wp2_with fail
          go_roundw
          case rel =>
            refine ⟨j + 1, a2, false, by go_num, by omega, HFin.out.2, HVn.out, HFin.out.1, ?_⟩
            exact HK3.out.done a2
          case measure => simp [intOf]; omega
        · have z16 : (e.kind == 16) = false := by simpa using h16
          go_wp2_with fail
          refine (inParens_core e.kind j x.kind _ h16).mono ?_
          rintro r w9 ⟨rfl, hw9⟩
          rw [hw9]
          clear hw9 h16
          cases hlv : level e.kind j x.kind
          · skip
            obtain ⟨a2, ha2⟩ : ∃ a2, a2 = max a (x.nest) := ⟨_, rfl⟩
            have HFin : Hid (nestFrom e.kind (j + 1) a2 (os.drop (j + 1)) = tot ∧ a2 ≤ 2000) := ⟨fin a2 (by rw [ha2, hlv]; rfl), by omega⟩
            have ha3 : max (a : Int) ((x.nest : Int)) = (a2 : Int) := by omega
            clear fin hlv ha2
            go_wp2_with fail
            go_roundw
            case rel =>
              refine ⟨j + 1, a2, false, by go_num, by omega, HFin.out.2, HVn.out, HFin.out.1, ?_⟩
              exact HK2.out.done a2
            case measure => simp [intOf]; omega
          · skip
            obtain ⟨W3, hW3⟩ : ∃ W3 : World, W3 = W2.setCell ⟨wr.heap.size, 2, none⟩ (.int .i64 ((x.nest : Int) + 1)) := ⟨_, rfl⟩
            have HK3 : Hid (SoK w e WB wr.heap.size false a x (x.nest + 1) W3) := by rw [hW3]; exact HK2.out.more (x.nest + 1)
            go_upto_region 8 with fail
            rw [← hW3]
            clear hW3 m0 o1 o2 o2f w2 w2f HK2
            have o2 := HK3.out.ob.cell (j := 2) rfl
            have w2 := HK3.out.so.whole.cell (j := 2) rfl
            have w2f := HK3.out.so.whole.frozen 2
            obtain ⟨a2, ha2⟩ : ∃ a2, a2 = max a (x.nest + 1) := ⟨_, rfl⟩
            have HFin : Hid (nestFrom e.kind (j + 1) a2 (os.drop (j + 1)) = tot ∧ a2 ≤ 2000) := ⟨fin a2 (by rw [ha2, hlv]; rfl), by omega⟩
            have ha3 : max (a : Int) ((x.nest : Int) + 1) = (a2 : Int) := by omega
            clear fin hlv ha2
            go_wp2_with fail
            go_roundw
            case rel =>
              refine ⟨j + 1, a2, false, by go_num, by omega, HFin.out.2, HVn.out, HFin.out.1, ?_⟩
              exact HK3.out.done a2
            case measure => simp [intOf]; omega
      · have hv0' : v0 = true := hv0
        clear hv0
        obtain ⟨W2, hW2⟩ : ∃ W2 : World, W2 = W1.setCell ⟨WB, 0, none⟩ (.bool x.valid) := ⟨_, rfl⟩
        have HK2 : Hid (SoK w e WB wr.heap.size x.valid a x x.nest W2) := by rw [hW2]; exact HK1.out.valid x.valid
        have HVn : Hid (x.valid = (gd && (os.take (j + 1)).all (·.valid))) := by
          show x.valid = _
          rw [take_all HX.out, ← Bool.and_assoc, ← HV0.out, hv0']
          simp
        go_upto_region 6 with fail
        rw [← hW2]
        clear hW2 w0 w0f o0 HK1 HV0
        have m0 := HK2.out.so.node.cell (j := 0) rfl
        have o1 := HK2.out.ob.cell (j := 1) rfl
        have o2 := HK2.out.ob.cell (j := 2) rfl
        have o2f := HK2.out.ob.frozen 2
        have w2 := HK2.out.so.whole.cell (j := 2) rfl
        have w2f := HK2.out.so.whole.frozen 2
        have fin : ∀ (y : Nat), y = max a (x.nest + (if level e.kind j x.kind then 1 else 0)) → nestFrom e.kind (j + 1) y (os.drop (j + 1)) = tot := fun y hy => by
          rw [hy, ← nestFrom_at e.kind HX.out]; exact HN0.out
        by_cases h16 : e.kind = 16
        · have hlv : level e.kind j x.kind = true := by unfold level; rw [h16]; rfl
          have z16 : (e.kind == 16) = true := by simpa using h16
          clear h16
          obtain ⟨W3, hW3⟩ : ∃ W3 : World, W3 = W2.setCell ⟨wr.heap.size, 2, none⟩ (.int .i64 ((x.nest : Int) + 1)) := ⟨_, rfl⟩
          have HK3 : Hid (SoK w e WB wr.heap.size x.valid a x (x.nest + 1) W3) := by rw [hW3]; exact HK2.out.more (x.nest + 1)
          go_upto_region 8 with fail
          rw [← hW3]
          clear hW3 m0 o1 o2 o2f w2 w2f HK2
          have o2 := HK3.out.ob.cell (j := 2) rfl
          have w2 := HK3.out.so.whole.cell (j := 2) rfl
          have w2f := HK3.out.so.whole.frozen 2
          obtain ⟨a2, ha2⟩ : ∃ a2, a2 = max a (x.nest + 1) := ⟨_, rfl⟩
          have HFin : Hid (nestFrom e.kind (j + 1) a2 (os.drop (j + 1)) = tot ∧ a2 ≤ 2000) := ⟨fin a2 (by rw [ha2, hlv]; rfl), by omega⟩
          have ha3 : max (a : Int) ((x.nest : Int) + 1) = (a2 : Int) := by omega
          clear fin hlv ha2
          go_wp2_with fail
          go_roundw
          case rel =>
            refine ⟨j + 1, a2, x.valid, by go_num, by omega, HFin.out.2, HVn.out, HFin.out.1, ?_⟩
            exact HK3.out.done a2
          case measure => simp [intOf]; omega
        · have z16 : (e.kind == 16) = false := by simpa using h16
          go_wp2_with fail
          refine (inParens_core e.kind j x.kind _ h16).mono ?_
          rintro r w9 ⟨rfl, hw9⟩
          rw [hw9]
          clear hw9 h16
          cases hlv : level e.kind j x.kind
          · skip
            obtain ⟨a2, ha2⟩ : ∃ a2, a2 = max a (x.nest) := ⟨_, rfl⟩
            have HFin : Hid (nestFrom e.kind (j + 1) a2 (os.drop (j + 1)) = tot ∧ a2 ≤ 2000) := ⟨fin a2 (by rw [ha2, hlv]; rfl), by omega⟩
            have ha3 : max (a : Int) ((x.nest : Int)) = (a2 : Int) := by omega
            clear fin hlv ha2
            go_wp2_with fail
            go_roundw
            case rel =>
              refine ⟨j + 1, a2, x.valid, by go_num, by omega, HFin.out.2, HVn.out, HFin.out.1, ?_⟩
              exact HK2.out.done a2
            case measure => simp [intOf]; omega
          · skip
            obtain ⟨W3, hW3⟩ : ∃ W3 : World, W3 = W2.setCell ⟨wr.heap.size, 2, none⟩ (.int .i64 ((x.nest : Int) + 1)) := ⟨_, rfl⟩
            have HK3 : Hid (SoK w e WB wr.heap.size x.valid a x (x.nest + 1) W3) := by rw [hW3]; exact HK2.out.more (x.nest + 1)
            go_upto_region 8 with fail
            rw [← hW3]
            clear hW3 m0 o1 o2 o2f w2 w2f HK2
            have o2 := HK3.out.ob.cell (j := 2) rfl
            have w2 := HK3.out.so.whole.cell (j := 2) rfl
            have w2f := HK3.out.so.whole.frozen 2
            obtain ⟨a2, ha2⟩ : ∃ a2, a2 = max a (x.nest + 1) := ⟨_, rfl⟩
            have HFin : Hid (nestFrom e.kind (j + 1) a2 (os.drop (j + 1)) = tot ∧ a2 ≤ 2000) := ⟨fin a2 (by rw [ha2, hlv]; rfl), by omega⟩
            have ha3 : max (a : Int) ((x.nest : Int) + 1) = (a2 : Int) := by omega
            clear fin hlv ha2
            go_wp2_with fail
            go_roundw
            case rel =>
              refine ⟨j + 1, a2, x.valid, by go_num, by omega, HFin.out.2, HVn.out, HFin.out.1, ?_⟩
              exact HK3.out.done a2
            case measure => simp [intOf]; omega
    · have zj : ¬ (j : Int) < (n : Int) := by omega
      have HFi : Hid (a = tot ∧ v = (shapeM goodB e os).valid) := by
        show _ ∧ _
        have h1 := HJ.out.2.1
        have h2 := HJ.out.1
        have hln := HL.out
        rw [List.drop_eq_nil_of_le (by omega)] at h1
        rw [List.take_of_length_le (by omega)] at h2
        exact ⟨h1, by rw [h2, HV.out]⟩
      have w0 := HJ.out.2.2.whole.cell (j := 0) rfl
      have w1 := HJ.out.2.2.whole.cell (j := 1) rfl
      have w2 := HJ.out.2.2.whole.cell (j := 2) rfl
      have r0 := HJ.out.2.2.res.cell (j := 0) rfl
      have r1 := HJ.out.2.2.res.cell (j := 1) rfl
      have r2 := HJ.out.2.2.res.cell (j := 2) rfl
      have f0 := HJ.out.2.2.res.frozen 0
      have f1 := HJ.out.2.2.res.frozen 1
      have f2 := HJ.out.2.2.res.frozen 2
      obtain ⟨W9, hW9⟩ : ∃ W9 : World, W9 = set3 wr (w.heap.size + 1) (.bool v) (.int .i64 e.kind) (.int .i64 (a : Int)) := ⟨_, rfl⟩
      have HW9 : Hid (BoxAt W9 w.heap.size 82 3 (w.heap.size + 1) [.bool v, .int .i64 e.kind, .int .i64 (a : Int)] ∧ Below w.heap.size w W9) := by
        rw [hW9]; exact ⟨HJ.out.2.2.res.set3 _ _ _, below_set3 HJ.out.2.2.below (by omega) _ _ _⟩
      have p0 := HW9.out.1.cell (j := 0) rfl
      have p1 := HW9.out.1.cell (j := 1) rfl
      have p2 := HW9.out.1.cell (j := 2) rfl
      unfold set3 at hW9
      go_wp2_with fail
      rw [← hW9]
      obtain ⟨rfl, hvv⟩ := HFi.out
      rw [← hvv]
      refine bodyPost_ret (v := .agg #[.bool v, .int .i64 e.kind, .int .i64 (a : Int)]) (by simp [results, Try.results47, go_sem, p0, p1, p2]) rfl ⟨rfl, HW9.out.2⟩
end Go.Proofs.Ytkbmdkgfgfbilaa

/-
  impl.foldTree over shapeOf.
-/
namespace Go.Proofs.Ytkbmdkgfgfbilaa
open Go.ChangeShapes Go.WideShapes Go.ChangeAt Go.RowKit Go.Deep
set_option linter.unusedVariables false
set_option linter.unusedSimpArgs false
set_option maxRecDepth 100000

theorem Try.infoSh : (Try.prog.info? 82).map (fun i => (i.zero, i.size, i.bytes)) = some (some (.agg #[.bool false, .int .i64 0, .int .i64 0]), 3, 24) := by kernel_rfl
/-- One shape appended, at a step of a region that draws. -/
theorem step_append_shape {ops : Array Oper} {oo : Oper} {a : Act} {K : Act → World → Prop} {Q : Exit → Act → World → Prop} {E : Prop} (w : World) (hgd : oo.guard = none) (s x : Operand)
    (ho : oo.op = .call { callee := .builtin .append, args := #[s, x], argTypes := #[104, 104] })
    (base n g cp blk : Nat) (ss : List Shape) (y : Shape) (hn : n = ss.length) (hs : a.eval s = .slice (some ⟨g, 0, none⟩) n cp) (hx : a.eval x = .slice (some ⟨blk, 0, none⟩) 1 1) (hO : OwnSh w base g cp ss)
    (hc : ShsAt w blk 0 [y]) (hlen : ss.length ≤ 1000) (hbase : base ≤ w.heap.size)
    (h : ∀ g' cp' w', OwnSh w' base g' cp' (ss ++ [y]) → w.grownBy w' (some g) → (g = g' ∨ g' = w.heap.size) → K (a.put oo.dst (.slice (some ⟨g', 0, none⟩) (n + 1) cp')) w') : if Region.wanted oo (yielded ops a.tmps) = true then Oper.wp Try.prog oo a w K Q else E := by
  subst hn
  obtain ⟨i, hi, hz0, hz1, hz2⟩ := info_parts Try.infoSh
  obtain ⟨c0, c1, c2⟩ := hc 0 y rfl
  refine step_append_lies w hgd s x 104 ho base 82 i _ 3 24 Try.underlying104 hi hz0 hz1 hz2 rfl (by decide) (.slice (some ⟨g, 0, none⟩) ss.length cp) ss.length (cellsS ss) hs hO ⟨blk, 0, none⟩ 1 1 (cellsS [y]) hx rfl ?_ ?_ (by decide) ?_ ?_ hbase w.heap.size rfl ?_
  · intro j u hu
    have hj : j < 3 := by
      have := (List.getElem?_eq_some_iff.1 hu).1
      rw [length_cellsS] at this
      simpa using this
    rw [Addr.add_mid]
    have hcs : cellsS [y] = y.three := by simp [cellsS]
    rw [hcs] at hu
    match j, hj with
    | 0, _ => simp at hu; rw [← hu]; simpa using c0
    | 1, _ => simp at hu; rw [← hu]; simpa using c1
    | 2, _ => simp at hu; rw [← hu]; simpa using c2
  · intro u hu
    have hcs : cellsS [y] = y.three := by simp [cellsS]
    rw [hcs] at hu
    simp at hu
    rcases hu with rfl | rfl | rfl <;> rfl
  · unfold maxLen; omega
  · omega
  · intro g' cp' w' hO' hgr hat hlt
    refine h g' cp' w' ?_ hgr ?_
    · unfold OwnSh
      rw [List.length_append, cellsS_append]
      exact hO'
    · simp [Value.ownBlock] at hat
      exact hat
theorem fold_nest {xs : List Nd} {ss : List Shape} (h : foldM goodB [] xs = some ss) : ∀ s ∈ ss, s.nest ≤ xs.length := by
  intro s hs
  obtain ⟨ks, rfl, hK⟩ := ShT.kids goodB (fold_tree goodB h)
  obtain ⟨k, hk, h3⟩ := kid_len goodB hK hs
  have h4 := len_flat hk
  have h5 := nest_len goodB _ (Nat.le_refl _) h3
  omega
structure FoJ (w : World) (xs : List Nd) (j g cp : Nat) (ss : List Shape) (wr : World) : Prop where
  fold : foldM goodB [] (xs.take j) = some ss
  own : OwnSh wr (w.heap.size + 1) g cp ss
  res : BoxAt wr w.heap.size 82 3 w.heap.size [.bool false, .int .i64 0, .int .i64 0]
  below : Below w.heap.size w wr
theorem FoJ.move {w : World} {xs : List Nd} {j g cp : Nat} {ss : List Shape} {wr w' : World} (h : FoJ w xs j g cp ss wr) (hb : Below wr.heap.size wr w') : FoJ w xs j g cp ss w' :=
  ⟨h.fold, h.own.below hb, h.res.below hb, h.below.trans (hb.mono h.below.size)⟩
theorem fold_next {xs : List Nd} {j : Nat} {ss : List Shape} {e : Nd} (h : foldM goodB [] (xs.take j) = some ss) (he : xs[j]? = some e) (hl : arity e.kind ≤ ss.length) : foldM goodB [] (xs.take (j + 1)) = some (ss.take (ss.length - arity e.kind) ++ [shapeM goodB e (ss.drop (ss.length - arity e.kind))]) := by
  rw [List.take_add_one, he, foldM_append, h]
  simp only [Option.toList, Option.bind_some, foldM, stepM]
  rw [if_neg (by omega)]
theorem fold_stop {xs : List Nd} {j : Nat} {ss : List Shape} {e : Nd} (h : foldM goodB [] (xs.take j) = some ss) (he : xs[j]? = some e) (hl : ss.length < arity e.kind) : foldM goodB [] xs = none := by
  have hj := (List.getElem?_eq_some_iff.1 he).1
  have : xs = xs.take j ++ e :: xs.drop (j + 1) := by
    conv => lhs; rw [← List.take_append_drop j xs, List.drop_eq_getElem_cons hj]
    rw [show xs[j] = e from Option.some.inj ((List.getElem?_eq_getElem hj).symm.trans he)]
  rw [this, foldM_append, h]
  simp only [Option.bind_some, foldM, stepM]
  rw [if_pos hl]
/-- What foldTree hands back. -/
def FoldPost (xs : List Nd) (w : World) (r : Ending) (w' : World) : Prop := Below w.heap.size w w' ∧ ((∃ s, foldM goodB [] xs = some [s] ∧ r = .returned (.tuple #[.agg #[.bool s.valid, .int .i64 s.kind, .int .i64 (s.nest : Int)], .bool true])) ∨ ((∀ s, ¬ foldM goodB [] xs = some [s]) ∧ r = .returned (.tuple #[.agg #[.bool false, .int .i64 0, .int .i64 0], .bool false])))
end Go.Proofs.Ytkbmdkgfgfbilaa

/-
  impl.foldTree, walked.
-/
namespace Go.Proofs.Ytkbmdkgfgfbilaa
open Go.ChangeShapes Go.WideShapes Go.ChangeAt Go.RowKit Go.Deep
set_option linter.unusedVariables false
set_option linter.unusedSimpArgs false
set_option maxRecDepth 100000

/-- The state with the node and its shape laid. -/
structure FoK (w : World) (xs : List Nd) (j g cp : Nat) (ss : List Shape) (SB : Nat) (y : Shape) (wr : World) : Prop where
  fo : FoJ w xs j g cp ss wr
  box : BoxAt wr w.heap.size 82 3 SB y.three
  ne : ¬ SB = g
  ge : w.heap.size + 1 ≤ SB
theorem fo_after {w : World} {xs : List Nd} {j g cp : Nat} {ss : List Shape} {W1 w' : World} (y : Shape) (h : FoJ w xs j g cp ss W1) (hb : Below W1.drew.heap.size W1.drew w') : FoK w xs j g cp ss w'.heap.size y (w'.alloc (Obj.cells #[.bool y.valid, .int .i64 y.kind, .int .i64 (y.nest : Int)] 82)) := by
  have h1 : Below W1.heap.size W1 w' := ((Below.refl W1.heap.size W1).drew).trans hb
  have h2 := h1.size
  have h3 : Below W1.heap.size W1 (w'.alloc (Obj.cells #[.bool y.valid, .int .i64 y.kind, .int .i64 (y.nest : Int)] 82)) := h1.alloc h2 _
  have h4 := h.own.lt
  have h5 := h.below.size
  have h6 := h.res.lt
  exact ⟨h.move h3, boxAt_new w' _ (by omega) rfl, by omega, by omega⟩
theorem fo_before {w : World} {xs : List Nd} {j g cp : Nat} {ss : List Shape} {W1 w' : World} (y : Shape) (h : FoJ w xs j g cp ss W1) (hb : Below (W1.drew.alloc (Obj.cells #[.bool false, .int .i64 0, .int .i64 0] 82)).heap.size (W1.drew.alloc (Obj.cells #[.bool false, .int .i64 0, .int .i64 0] 82)) w') :
    FoK w xs j g cp ss W1.heap.size y (((w'.setCell ⟨W1.heap.size, 0, none⟩ (.bool y.valid)).setCell ⟨W1.heap.size, 1, none⟩ (.int .i64 y.kind)).setCell ⟨W1.heap.size, 2, none⟩ (.int .i64 (y.nest : Int))) := by
  have hd : W1.drew.heap.size = W1.heap.size := by simp
  have h0 : Below W1.heap.size W1 (W1.drew.alloc (Obj.cells #[.bool false, .int .i64 0, .int .i64 0] 82)) := ((Below.refl W1.heap.size W1).drew).alloc (by simp) _
  have h1 : Below W1.heap.size W1 w' := h0.trans (hb.mono (by simp))
  have h4 := h.own.lt
  have h5 := h.below.size
  have h6 := h.res.lt
  have hB : BoxAt w' w.heap.size 82 3 W1.heap.size [.bool false, .int .i64 0, .int .i64 0] := by
    have := boxAt_new W1.drew (base := w.heap.size) (t := 82) (sz := 3) #[.bool false, .int .i64 0, .int .i64 0] (by simp; omega) rfl
    rw [hd] at this
    exact this.below hb
  have hJ := h.move h1
  have hC : Chg (fun k => k = W1.heap.size) w' (((w'.setCell ⟨W1.heap.size, 0, none⟩ (.bool y.valid)).setCell ⟨W1.heap.size, 1, none⟩ (.int .i64 y.kind)).setCell ⟨W1.heap.size, 2, none⟩ (.int .i64 (y.nest : Int))) :=
    ((Chg.of_set w' W1.heap.size 0 _ (S := fun k => k = W1.heap.size) rfl).trans (Chg.of_set _ W1.heap.size 1 _ (S := fun k => k = W1.heap.size) rfl)).trans (Chg.of_set _ W1.heap.size 2 _ (S := fun k => k = W1.heap.size) rfl)
  refine ⟨⟨hJ.fold, own_chg hJ.own hC (fun k q => by simp [Value.ownBlock] at q; omega), hJ.res.chg hC (by omega), ?_⟩, ((hB.set 0 _).set 1 _).set 2 _, by omega, by omega⟩
  exact below_set (below_set (below_set hJ.below (by omega) 0 _) (by omega) 1 _) (by omega) 2 _
theorem sh_new (X : World) (y : Shape) (B : Nat) (hB : X.heap.size = B) : ShsAt (X.alloc (Obj.cells #[.bool y.valid, .int .i64 y.kind, .int .i64 (y.nest : Int)] 82)) B 0 [y] := by
  subst hB
  intro i s hs
  have hi : i = 0 := by have := (List.getElem?_eq_some_iff.1 hs).1; simpa using this
  subst hi
  simp at hs
  subst hs
  exact ⟨by simp, by simp, by simp⟩
theorem fo_push {w wc X w' : World} {xs : List Nd} {j g cp g' cp' fr : Nat} {ss : List Shape} {y : Shape} (h : FoJ w xs j g cp ss wc) (hX : Below wc.heap.size wc X) (hY : foldM goodB [] (xs.take (j + 1)) = some (ss.take fr ++ [y])) (hO : OwnSh w' (w.heap.size + 1) g' cp' (ss.take fr ++ [y])) (hgr : X.grownBy w' (some g)) (hm : fr = (ss.take fr).length) : FoJ w xs (j + 1) g' cp' (ss.take fr ++ [y]) w' ∧ fr + 1 ≤ cp' := by
  have hJ := h.move hX
  have h1 := hJ.own.lt
  have hC : Chg (fun k => k = g) X w' := Chg.of_grown hgr (fun k hk => by cases hk; rfl)
  refine ⟨⟨hY, hO, hJ.res.chg hC (by omega), Chg.below hJ.below hC hJ.below.size (fun k q => by omega)⟩, ?_⟩
  have := hO.caps.1
  rw [List.length_append, List.length_singleton, ← hm] at this
  exact this
set_option maxHeartbeats 16000000 in
theorem foldTree_core {w : World} {gN cpN : Nat} {xs : List Nd} (h : NdsAt w gN 0 xs) (hg : gN < w.heap.size) (hok : ∀ e ∈ xs, e.ok) (hl : xs.length ≤ 200) :
    Calls Try.prog 46 #[.slice (some ⟨gN, 0, none⟩) xs.length cpN, .func (Fn.func 47) #[] #[]] w (FoldPost xs w) := by
  have HF : Hid (NdsAt w gN 0 xs ∧ ∀ e ∈ xs, e.ok) := ⟨h, hok⟩
  obtain ⟨n, hn⟩ : ∃ n, n = xs.length := ⟨_, rfl⟩
  have HL : Hid (n = xs.length) := hn
  rw [← hn] at hl ⊢
  clear h hok hn
  obtain ⟨W0, hW0⟩ : ∃ W0 : World, W0 = (w.alloc (Obj.cells #[.bool false, .int .i64 0, .int .i64 0] 82)).alloc (Obj.cells #[] 82) := ⟨_, rfl⟩
  have HW0 : Hid (FoJ w xs 0 (w.heap.size + 1) 0 [] W0) := by
    obtain ⟨V, hV⟩ : ∃ V : World, V = w.alloc (Obj.cells #[.bool false, .int .i64 0, .int .i64 0] 82) := ⟨_, rfl⟩
    have hz : V.heap.size = w.heap.size + 1 := by rw [hV]; simp
    have hb : Below V.heap.size V W0 := by rw [hW0, ← hV]; exact (Below.refl _ _).alloc (Nat.le_refl _) _
    have hbV : Below w.heap.size w V := by rw [hV]; exact (Below.refl _ _).alloc (Nat.le_refl _) _
    have hB : BoxAt V w.heap.size 82 3 w.heap.size [.bool false, .int .i64 0, .int .i64 0] := by rw [hV]; exact boxAt_new w _ (Nat.le_refl _) rfl
    refine ⟨rfl, ?_, hB.below hb, hbV.trans (hb.mono (by omega))⟩
    rw [hW0, ← hV, ← hz]
    exact ownSh_new V (Nat.le_refl _)
  go_enter Try.func46, Try.ntmps46
  go_upto_region 2 with fail
  rw [← hW0]
  clear hW0
  go_wp2_with fail
  go_loopw [6, 14] (fun sv iv wr => ∃ (j m g cp : Nat) (ss : List Shape), iv = .int .i64 (j : Int) ∧ j ≤ n ∧ m = ss.length ∧ m ≤ j ∧ m ≤ cp ∧ sv = .slice (some ⟨g, 0, none⟩) m cp ∧ FoJ w xs j g cp ss wr) (fun _ iv _ => n - (intOf iv).toNat)
  case atStart => exact ⟨0, 0, _, 0, [], rfl, Nat.zero_le _, rfl, Nat.le_refl _, Nat.zero_le _, rfl, HW0.out⟩
  case round =>
    obtain ⟨j, m, g, cp, ss, rfl, hj, hm, hmj, hmc, rfl, hJ⟩ := hrel
    have HJ : Hid (m = ss.length ∧ FoJ w xs j g cp ss wr) := ⟨hm, hJ⟩
    have hgl := hJ.own.lt
    have hcp : cp ≤ 9223372036854775807 := by have := hJ.own.caps.2; unfold maxLen at this; omega
    have hsz := hJ.below.size
    have hrl := hJ.res.lt.2
    have r0 := hJ.res.cell (j := 0) rfl
    have r1 := hJ.res.cell (j := 1) rfl
    have r2 := hJ.res.cell (j := 2) rfl
    have f0 := hJ.res.frozen 0
    have f1 := hJ.res.frozen 1
    have f2 := hJ.res.frozen 2
    clear hm hJ HW0
    by_cases hlt : j < n
    · have zj : (j : Int) < (n : Int) := by omega
      obtain ⟨e, he⟩ : ∃ e, xs[j]? = some e := ⟨_, List.getElem?_eq_getElem (by have := HL.out; omega)⟩
      obtain ⟨d0, d1, d2, d3, d4, d5, d6⟩ := (HF.out.1.below HJ.out.2.below hg) j e he
      simp only [Nat.zero_add] at d0 d1 d2 d3 d4 d5 d6
      have ok := HF.out.2 e (List.mem_of_getElem? he)
      have HE : Hid (xs[j]? = some e ∧ e.s.size ≤ maxLen ∧ e.t.size ≤ maxLen) := ⟨he, ok.s, ok.t⟩
      clear ok he
      obtain ⟨W1, hW1⟩ : ∃ W1 : World, W1 = wr.alloc (Obj.cells #[.int .i64 e.kind, .string e.s, .bool e.hi, .string e.t, .int .u64 e.lo, .int .u64 e.up, .int .i64 e.n] 69) := ⟨_, rfl⟩
      have hb1 : Below wr.heap.size wr W1 := by rw [hW1]; exact (Below.refl _ _).alloc (Nat.le_refl _) _
      have hz1 : W1.heap.size = wr.heap.size + 1 := by rw [hW1]; simp
      have HJ1 : Hid (m = ss.length ∧ FoJ w xs j g cp ss W1 ∧ BoxAt W1 w.heap.size 69 7 wr.heap.size e.seven) := by
        refine ⟨HJ.out.1, HJ.out.2.move hb1, ?_⟩
        rw [hW1]; exact boxAt_new wr _ hsz rfl
      go_upto_region 5 with fail
      rw [← hW1]
      clear hW1 d0 d1 d2 d3 d4 d5 d6 r0 r1 r2 f0 f1 f2 HJ hb1
      have c0 := HJ1.out.2.2.cell (j := 0) rfl
      have c1 := HJ1.out.2.2.cell (j := 1) rfl
      have c2 := HJ1.out.2.2.cell (j := 2) rfl
      have c3 := HJ1.out.2.2.cell (j := 3) rfl
      have c4 := HJ1.out.2.2.cell (j := 4) rfl
      have c5 := HJ1.out.2.2.cell (j := 5) rfl
      have c6 := HJ1.out.2.2.cell (j := 6) rfl
      obtain ⟨a, ha⟩ : ∃ a, a = arity e.kind := ⟨_, rfl⟩
      have ha3 : a ≤ 3 := by rw [ha]; exact arity_le _
      have HAr : Hid (Calls Try.prog 48 #[.int .i64 e.kind] W1 fun r w' => r = .returned (.int .i64 (a : Int)) ∧ w' = W1) := by rw [ha]; exact operandCount_core e.kind W1
      have HAk : Hid (a = arity e.kind) := ha
      clear ha
      go_wp2_with fail
      refine HAr.out.mono ?_
      rintro r w9 ⟨rfl, hw9⟩
      rw [hw9]
      clear hw9 HAr
      by_cases hfr : m < a
      · have zf : (m : Int) - (a : Int) < 0 := by omega
        have r0 := HJ1.out.2.1.res.cell (j := 0) rfl
        have r1 := HJ1.out.2.1.res.cell (j := 1) rfl
        have r2 := HJ1.out.2.1.res.cell (j := 2) rfl
        have f0 := HJ1.out.2.1.res.frozen 0
        have f1 := HJ1.out.2.1.res.frozen 1
        have f2 := HJ1.out.2.1.res.frozen 2
        have HS : Hid (foldM goodB [] xs = none) := fold_stop HJ1.out.2.1.fold HE.out.1 (by rw [← HJ1.out.1, ← HAk.out]; exact hfr)
        obtain ⟨W9, hW9⟩ : ∃ W9 : World, W9 = set3 W1 w.heap.size (.bool false) (.int .i64 0) (.int .i64 0) := ⟨_, rfl⟩
        have HW9 : Hid (BoxAt W9 w.heap.size 82 3 w.heap.size [.bool false, .int .i64 0, .int .i64 0] ∧ Below w.heap.size w W9) := by
          rw [hW9]; exact ⟨HJ1.out.2.1.res.set3 _ _ _, below_set3 HJ1.out.2.1.below (Nat.le_refl _) _ _ _⟩
        have p0 := HW9.out.1.cell (j := 0) rfl
        have p1 := HW9.out.1.cell (j := 1) rfl
        have p2 := HW9.out.1.cell (j := 2) rfl
        unfold set3 at hW9
        go_wp2_with fail
        rw [← hW9]
        refine bodyPost_ret (v := .tuple #[.agg #[.bool false, .int .i64 0, .int .i64 0], .bool false]) (by simp [results, Try.results46, go_sem, p0, p1, p2]) rfl ⟨HW9.out.2, .inr ⟨fun s q => (by rw [HS.out] at q; cases q), rfl⟩⟩
      · obtain ⟨fr, hfrm⟩ : ∃ fr : Nat, (m : Int) - (a : Int) = (fr : Int) := ⟨m - a, by omega⟩
        have hfrle : fr ≤ m := by omega
        have HFr : Hid (fr = ss.length - arity e.kind ∧ arity e.kind ≤ ss.length) := by
          have h1 := HJ1.out.1
          have h2 := HAk.out
          exact ⟨by omega, by omega⟩
        have zf : ¬ (fr : Int) < 0 := by omega
        have z2 : (fr : Int) ≤ (m : Int) := by omega
        have z3 : (m : Int) ≤ (cp : Int) := by omega
        obtain ⟨y, hy⟩ : ∃ y, y = shapeM goodB e (ss.drop fr) := ⟨_, rfl⟩
        have HY : Hid (foldM goodB [] (xs.take (j + 1)) = some (ss.take fr ++ [y])) := by
          show _ = _
          rw [hy, HFr.out.1]
          exact fold_next HJ1.out.2.1.fold HE.out.1 HFr.out.2
        obtain ⟨ad, had⟩ : ∃ ad : Option Addr, (if cp = fr then some (⟨g, 0, none⟩ : Addr) else some ⟨g, fr * 3, none⟩) = ad := ⟨_, rfl⟩
        have HSh : Hid (∀ X, Below W1.heap.size W1 X → Calls Try.prog 47 #[.agg #[.int .i64 e.kind, .string e.s, .bool e.hi, .string e.t, .int .u64 e.lo, .int .u64 e.up, .int .i64 e.n], .slice ad (m - fr) (cp - fr)] X fun r w' => r = .returned (.agg #[.bool y.valid, .int .i64 y.kind, .int .i64 (y.nest : Int)]) ∧ Below X.heap.size X w') := fun X hX => by
          have hs1 := HJ1.out.2.1.own.at.below hX HJ1.out.2.1.own.lt.2
          have hs2 := hs1.drop fr
          rw [Nat.zero_add] at hs2
          have hlen : (ss.drop fr).length = m - fr := by rw [List.length_drop, ← HJ1.out.1]
          have hX2 := hX.size
          have hg2 := HJ1.out.2.1.own.lt.2
          have hnest : ∀ x ∈ ss.drop fr, x.nest ≤ 1000 := fun x hx => by
            have h1 := fold_nest HJ1.out.2.1.fold x (List.mem_of_mem_drop hx)
            rw [List.length_take] at h1
            omega
          have hos : (ss.drop fr).length ≤ 3 := by rw [hlen]; have := HFr.out.1; have := HAk.out; have := HJ1.out.1; omega
          rw [hy, ← had]
          by_cases hcf : cp = fr
          · rw [if_pos hcf]
            have hnil : ss.drop fr = [] := List.length_eq_zero_iff.1 (by rw [hlen]; omega)
            have h9 := shapeOf_core (w := X) (b := g) (o := 0) (cap := cp - fr) (os := ss.drop fr) e (by rw [hnil]; intro i s hs; simp at hs) (by omega) (by rw [hlen]; omega) hos (by omega) hnest HE.out.2.1 HE.out.2.2
            rw [hlen] at h9
            exact h9
          · rw [if_neg hcf]
            have h9 := shapeOf_core (w := X) (b := g) (o := fr * 3) (cap := cp - fr) (os := ss.drop fr) e hs2 (by omega) (by rw [hlen]; omega) hos (by omega) hnest HE.out.2.1 HE.out.2.2
            rw [hlen] at h9
            exact h9
        clear hy hfr
        go_upto_region 8 with fail
        go_cut [10] (fun sv wx => ∃ SB, sv = .pointer (some ⟨SB, 0, none⟩) ∧ FoK w xs j g cp ss SB y wx)
        case first =>
          go_region_law ((go_simp; go_at_call 47; refine (HSh.out _ ?hX).mono ?_; (case hX => (repeat (first | exact Below.refl _ _ | refine Below.drew ?_ | refine Below.alloc ?_ (by simp) _))); rintro r w' ⟨rfl, hbb⟩; obtain ⟨hcc, hff⟩ := bcell hbb; have hsz' := hbb.size))
          all_goals go_wp2_with fail
          all_goals go_meet
          all_goals first
            | exact ⟨_, rfl, fo_after y HJ1.out.2.1 hbb⟩
            | exact ⟨_, rfl, by have h9 := fo_before y HJ1.out.2.1 hbb; rw [hz1] at h9; exact h9⟩
        case rest =>
        obtain ⟨SB, rfl, hK⟩ := hcut
        have HK : Hid (FoK w xs j g cp ss SB y wc) := hK
        have b0 := hK.box.cell (j := 0) rfl
        have b1 := hK.box.cell (j := 1) rfl
        have b2 := hK.box.cell (j := 2) rfl
        have hgl2 := hK.fo.own.lt
        have hsb := hK.box.lt.2
        have hnsb := hK.ne
        have hsz2 := hK.fo.below.size
        have HM : Hid (fr = (ss.take fr).length) := by
          show fr = _
          rw [List.length_take, ← HJ1.out.1]
          omega
        clear hK c0 c1 c2 c3 c4 c5 c6 HSh
        go_upto_region 9 with fail
        have hfl : fr ≤ ss.length := by rw [← HJ1.out.1]; exact hfrle
        have z4 : (fr : Int) ≤ (cp : Int) := by omega
        have z5 : fr ≤ cp := by omega
        go_region_law ((refine step_append_shape _ (by rfl) _ _ (by rfl) (w.heap.size + 1) fr g cp wc.heap.size (ss.take fr) y HM.out (by rfl) (by rfl) ?hO ?hc ?hl ?hb ?_
                        case hO => (refine OwnSh.below (HK.out.fo.own.take hfl) ?_; repeat (first | exact Below.refl _ _ | refine Below.drew ?_ | refine Below.alloc ?_ (by simp) _))
                        case hc => exact sh_new _ y _ (by simp)
                        case hl => rw [← HM.out]; omega
                        case hb => simp; omega
                        intro g' cp' w' hO' hgr' hat'
                        have fin : Hid (FoJ w xs (j + 1) g' cp' (ss.take fr ++ [y]) w' ∧ fr + 1 ≤ cp') := fo_push HK.out.fo (by repeat (first | exact Below.refl _ _ | refine Below.drew ?_ | refine Below.alloc ?_ (by simp) _)) HY.out hO' hgr' HM.out
                        clear hO' hgr' hat'))
        all_goals go_wp2_with fail
        all_goals go_roundw
        all_goals first
          | exact ⟨j + 1, fr + 1, g', cp', ss.take fr ++ [y], by go_num, by omega, by rw [List.length_append, List.length_singleton, ← HM.out], by omega, fin.out.2, rfl, fin.out.1⟩
          | (simp [intOf]; omega)
    · have zj : ¬ (j : Int) < (n : Int) := by omega
      have HFo : Hid (foldM goodB [] xs = some ss) := by
        have h1 := HJ.out.2.fold
        rw [List.take_of_length_le (by have := HL.out; omega)] at h1
        exact h1
      by_cases hm1 : m = 1
      · subst hm1
        obtain ⟨s, rfl⟩ : ∃ s, ss = [s] := by
          have h1 := HJ.out.1
          match ss, h1 with
          | [s], _ => exact ⟨s, rfl⟩
        obtain ⟨e0, e1, e2⟩ := HJ.out.2.own.at 0 s rfl
        simp only [Nat.zero_add, Nat.zero_mul] at e0 e1 e2
        obtain ⟨W9, hW9⟩ : ∃ W9 : World, W9 = set3 wr w.heap.size (.bool s.valid) (.int .i64 s.kind) (.int .i64 (s.nest : Int)) := ⟨_, rfl⟩
        have HW9 : Hid (BoxAt W9 w.heap.size 82 3 w.heap.size [.bool s.valid, .int .i64 s.kind, .int .i64 (s.nest : Int)] ∧ Below w.heap.size w W9) := by
          rw [hW9]; exact ⟨HJ.out.2.res.set3 _ _ _, below_set3 HJ.out.2.below (Nat.le_refl _) _ _ _⟩
        have p0 := HW9.out.1.cell (j := 0) rfl
        have p1 := HW9.out.1.cell (j := 1) rfl
        have p2 := HW9.out.1.cell (j := 2) rfl
        unfold set3 at hW9
        go_wp2_with fail
        rw [← hW9]
        refine bodyPost_ret (v := .tuple #[.agg #[.bool s.valid, .int .i64 s.kind, .int .i64 (s.nest : Int)], .bool true]) (by simp [results, Try.results46, go_sem, p0, p1, p2]) rfl ⟨HW9.out.2, .inl ⟨s, HFo.out, rfl⟩⟩
      · have zm : ((m : Int) != 1) = true := by have : ¬ (m : Int) = 1 := (by omega); simpa using this
        obtain ⟨W9, hW9⟩ : ∃ W9 : World, W9 = set3 wr w.heap.size (.bool false) (.int .i64 0) (.int .i64 0) := ⟨_, rfl⟩
        have HW9 : Hid (BoxAt W9 w.heap.size 82 3 w.heap.size [.bool false, .int .i64 0, .int .i64 0] ∧ Below w.heap.size w W9) := by
          rw [hW9]; exact ⟨HJ.out.2.res.set3 _ _ _, below_set3 HJ.out.2.below (Nat.le_refl _) _ _ _⟩
        have p0 := HW9.out.1.cell (j := 0) rfl
        have p1 := HW9.out.1.cell (j := 1) rfl
        have p2 := HW9.out.1.cell (j := 2) rfl
        unfold set3 at hW9
        go_wp2_with fail
        rw [← hW9]
        refine bodyPost_ret (v := .tuple #[.agg #[.bool false, .int .i64 0, .int .i64 0], .bool false]) (by simp [results, Try.results46, go_sem, p0, p1, p2]) rfl ⟨HW9.out.2, .inr ⟨fun s q => ?_, rfl⟩⟩
        rw [HFo.out] at q
        have h1 := HJ.out.1
        rw [Option.some.inj q] at h1
        exact hm1 h1
end Go.Proofs.Ytkbmdkgfgfbilaa

/-
  impl.ValidFilter.
-/
namespace Go.Proofs.Ytkbmdkgfgfbilaa
open Go.ChangeShapes Go.WideShapes Go.ChangeAt Go.RowKit Go.Deep
set_option linter.unusedVariables false
set_option linter.unusedSimpArgs false
set_option maxRecDepth 100000

set_option maxHeartbeats 4000000 in
theorem implFilter_core {w : World} {base g cp : Nat} {xs : List Nd} (h : OwnNd w base g cp xs) (hok : ∀ e ∈ xs, e.ok) : Calls Try.prog 19 #[.agg #[.slice (some ⟨g, 0, none⟩) xs.length cp]] w (FltPost xs w) := by
  have HO : Hid (OwnNd w base g cp xs ∧ ∀ e ∈ xs, e.ok) := ⟨h, hok⟩
  have hg := h.lt.2
  obtain ⟨n, hn⟩ : ∃ n, n = xs.length := ⟨_, rfl⟩
  have HN : Hid (n = xs.length) := hn
  have hcp := h.caps
  rw [← hn] at hcp ⊢
  unfold maxLen at hcp
  clear h hok hn
  obtain ⟨W0, hW0⟩ : ∃ W0 : World, W0 = w.alloc (Obj.cells #[.slice (some ⟨g, 0, none⟩) n cp] 35) := ⟨_, rfl⟩
  have HW0 : Hid (BoxAt W0 w.heap.size 35 1 w.heap.size [.slice (some ⟨g, 0, none⟩) n cp] ∧ Below w.heap.size w W0) := by
    rw [hW0]; exact ⟨boxAt_new w _ (Nat.le_refl _) rfl, (Below.refl _ _).alloc (Nat.le_refl _) _⟩
  have c0 := HW0.out.1.cell (j := 0) rfl
  have s0 := HW0.out.2.size
  go_enter Try.func19, Try.ntmps19
  go_upto_region 1 with fail
  rw [← hW0]
  clear hW0
  by_cases hbig : 200 < n
  · have zb : (200 : Int) < (n : Int) := by omega
    have HF : Hid (¬ GoodF xs) := fun q => by have := q.1; have := HN.out; omega
    go_wp2_with fail
    go_ret
    exact ⟨_, rfl, by simp [HF.out], HW0.out.2⟩
  have zb : ¬ (200 : Int) < (n : Int) := by omega
  have HC : Hid (Calls Try.prog 46 #[.slice (some ⟨g, 0, none⟩) n cp, .func (Fn.func 47) #[] #[]] W0 (FoldPost xs W0)) := by
    have hl : xs.length ≤ 200 := by rw [← HN.out]; omega
    have := foldTree_core (w := W0) (gN := g) (cpN := cp) (HO.out.1.at.below HW0.out.2 hg) (by omega) HO.out.2 hl
    rw [← HN.out] at this
    exact this
  go_wp2_with fail
  refine HC.out.mono ?_
  rintro r w2 ⟨hb2, (⟨s, hs, rfl⟩ | ⟨hs, rfl⟩)⟩
  · have HF : Hid (GoodF xs ↔ (s.valid = true ∧ s.nest ≤ 20)) := by
      show GoodF xs ↔ _
      have hsh := fold_tree goodB hs
      constructor
      · rintro ⟨_, t, ht, hv, hn⟩
        rw [sh_one hsh ht]; exact ⟨hv, hn⟩
      · rintro ⟨hv, hn⟩
        exact ⟨by have := HN.out; omega, s, hsh, hv, hn⟩
    have HB : Hid (Below w.heap.size w w2) := HW0.out.2.trans (hb2.mono s0)
    obtain ⟨v, hv⟩ : ∃ v, v = s.valid := ⟨_, rfl⟩
    obtain ⟨k, hk⟩ : ∃ k, k = s.nest := ⟨_, rfl⟩
    obtain ⟨kd, hkd⟩ : ∃ kd, kd = s.kind := ⟨_, rfl⟩
    rw [← hv, ← hk] at HF
    rw [← hv, ← hk, ← hkd]
    clear hs hb2 c0 HC hv hk hkd
    cases v
    · go_wp2_with fail
      go_ret
      exact ⟨_, rfl, by rw [HF.out]; simp, HB.out.trans ((Below.refl _ _).alloc HB.out.size _)⟩
    · go_wp2_with fail
      go_ret
      exact ⟨_, rfl, by rw [HF.out]; simp <;> omega, HB.out.trans ((Below.refl _ _).alloc HB.out.size _)⟩
  · have HF : Hid (¬ GoodF xs) := fun q => by
      obtain ⟨_, s, hsh, _⟩ := q
      have := ShT.fold goodB hsh []
      exact hs s (by simpa using this)
    have HB : Hid (Below w.heap.size w w2) := HW0.out.2.trans (hb2.mono s0)
    clear hs hb2 c0 HC
    go_wp2_with fail
    go_ret
    exact ⟨_, rfl, by simp [HF.out], HB.out.trans ((Below.refl _ _).alloc HB.out.size _)⟩
end Go.Proofs.Ytkbmdkgfgfbilaa

/-
  impl.Compile.
-/
namespace Go.Proofs.Ytkbmdkgfgfbilaa
open Go.ChangeShapes Go.WideShapes Go.ChangeAt Go.RowKit Go.Deep
set_option linter.unusedVariables false
set_option linter.unusedSimpArgs false
set_option maxRecDepth 100000

theorem ad_all (t : CT) : AdC t := by
  induction t with
  | leaf n => exact ad_leaf n
  | chain n a b ha hb => exact ad_chain n a b ha hb
  | inter n a b ha hb => exact ad_inter n a b ha hb
  | cond n a b c ha hb hc => exact ad_cond n a b c ha hb hc
/-- Blocks that lie apart. -/
structure Apt (bs : List Bk) (mv : Value) : Prop where
  pw : bs.Pairwise (fun x y => x.v.ownBlock ≠ y.v.ownBlock)
  main : ∀ x ∈ bs, x.v.ownBlock ≠ mv.ownBlock
  some : ∀ x ∈ bs, x.l ≠ []
def CmpI (xs : List Nd) (w : World) (r : Ending) (w' : World) : Prop := ∃ (a : Option Addr) (n c : Nat) (a' : Option Addr) (n' c' : Nat) (cnt : Int) (X : List (List Ix)) (M : List Ix) (bs : List Bk), r = .returned (.agg #[.slice a n c, .slice a' n' c', .int .i64 cnt]) ∧ CdU w w' (.slice a n c) (.slice a' n' c') cnt X M bs ∧ CmpOf xs X M ∧ Apt bs (.slice a' n' c')
/-- A call of Compile's ends: what it made, seen from the world that it began in. -/
theorem code_done {w0 w : World} {cb eb p1 : Nat} {cv mv : Value} {c : Nat} {X : List (List Ix)} {M : List Ix} {bs : List Bk} (hC : CoAt w cb cv X bs) (hE : EmAt w eb mv (absG 0 0 M) c) (hc : c = cntL M) (hb : Below w0.heap.size w0 w) (h1 : w0.heap.size ≤ p1) (h2 : p1 < cb) (h3 : cb < eb) (u0 u1 u2 v1 v2 : Value) :
    CdU w0 (((((w.setCell ⟨cb, 1, none⟩ v1).setCell ⟨cb, 2, none⟩ v2).setCell ⟨p1, 0, none⟩ u0).setCell ⟨p1, 1, none⟩ u1).setCell ⟨p1, 2, none⟩ u2) cv mv ((c : Nat) : Int) X M bs := by
  have hch : Chg (fun b => b ≤ cb) w (((((w.setCell ⟨cb, 1, none⟩ v1).setCell ⟨cb, 2, none⟩ v2).setCell ⟨p1, 0, none⟩ u0).setCell ⟨p1, 1, none⟩ u1).setCell ⟨p1, 2, none⟩ u2) :=
    ((((Chg.of_set (S := fun b => b ≤ cb) w cb 1 v1 (Nat.le_refl cb)).trans (Chg.of_set (S := fun b => b ≤ cb) _ cb 2 v2 (Nat.le_refl cb))).trans (Chg.of_set (S := fun b => b ≤ cb) _ p1 0 u0 (Nat.le_of_lt h2))).trans (Chg.of_set (S := fun b => b ≤ cb) _ p1 1 u1 (Nat.le_of_lt h2))).trans (Chg.of_set (S := fun b => b ≤ cb) _ p1 2 u2 (Nat.le_of_lt h2))
  refine ⟨⟨(hC.row.chg hch (fun k hk q => by have := (hC.row.blk hk).1; omega)).low (by omega), fun x hx => ((hC.each x hx).chg hch (fun k hk q => by have := ((hC.each x hx).blk hk).1; omega)).low (by omega), hC.view, ?_⟩, (hE.row.chg hch (fun k hk q => by have := (hE.row.blk hk).1; omega)).low (by omega), by rw [hc]⟩
  exact below_set (below_set (below_set (below_set (below_set hb (by omega) _ _) (by omega) _ _) h1 _ _) h1 _ _) h1 _ _
set_option maxHeartbeats 8000000 in
theorem implCompile_core {w : World} {base g cp : Nat} {xs : List Nd} (h : OwnNd w base g cp xs) (hok : ∀ e ∈ xs, e.ok) : Calls Try.prog 7 #[.agg #[.slice (some ⟨g, 0, none⟩) xs.length cp]] w (CmpI xs w) := by
  have HO : Hid (OwnNd w base g cp xs ∧ ∀ e ∈ xs, e.ok) := ⟨h, hok⟩
  have hgl := h.lt.2
  have hcp := h.caps
  obtain ⟨n, hn⟩ : ∃ n, n = xs.length := ⟨_, rfl⟩
  have HN : Hid (n = xs.length) := hn
  obtain ⟨W0, hW0⟩ : ∃ W0 : World, W0 = (w.alloc (Obj.cells #[.slice (some ⟨g, 0, none⟩) n cp] 35)).alloc (Obj.cells #[.slice none 0 0, .slice none 0 0, .int .i64 0] 31) := ⟨_, rfl⟩
  have hb0 : Below w.heap.size w W0 := by rw [hW0]; exact ((Below.refl _ _).alloc (Nat.le_refl _) _).alloc (by simp) _
  have hz0 : W0.heap.size = w.heap.size + 1 + 1 := by rw [hW0]; simp
  have HK : Hid (∀ wx, Below W0.heap.size W0 wx → wx.cell? ⟨w.heap.size, 0, none⟩ = some (.slice (some ⟨g, 0, none⟩) n cp) ∧ BoxAt wx (w.heap.size + 1) 31 3 (w.heap.size + 1) [.slice none 0 0, .slice none 0 0, .int .i64 0] ∧ OwnNd wx base g cp xs ∧ Below w.heap.size w wx ∧ w.heap.size + 2 ≤ wx.heap.size) := by
    intro wx hx
    refine ⟨?_, ?_, (HO.out.1.below hb0 hgl).below hx (by omega), hb0.trans (hx.mono (by omega)), by have := hx.size; omega⟩
    · rw [hx.cell (p := ⟨w.heap.size, 0, none⟩) (by show w.heap.size < _; omega), hW0]; simp [go_sem]
    · refine BoxAt.below ?_ hx
      rw [hW0]
      have z1 : (w.alloc (Obj.cells #[.slice (some ⟨g, 0, none⟩) n cp] 35)).heap.size = w.heap.size + 1 := by simp
      have hb2 := boxAt_new (w.alloc (Obj.cells #[.slice (some ⟨g, 0, none⟩) n cp] 35)) (base := w.heap.size + 1) (t := 31) (sz := 3) #[.slice none 0 0, .slice none 0 0, .int .i64 0] (by rw [z1]; exact Nat.le_refl _) rfl
      rw [z1] at hb2
      exact hb2
  have HF : Hid (Calls Try.prog 19 #[.agg #[.slice (some ⟨g, 0, none⟩) n cp]] W0 (FltPost xs W0)) := by
    rw [hn]; exact implFilter_core (HK.out W0 (Below.refl _ _)).2.2.1 hok
  rw [← hn]
  clear h hok hn
  have c0 := (HK.out W0 (Below.refl _ _)).1
  go_enter Try.func7, Try.ntmps7
  go_upto_region 1 with fail
  rw [← hW0]
  clear hW0
  go_wp2_with fail
  refine HF.out.mono ?_
  rintro e w1 ⟨r, rfl, hr, hb1⟩
  have HR : Hid (r = true ↔ GoodF xs) := hr
  have HK1 : Hid (BoxAt w1 (w.heap.size + 1) 31 3 (w.heap.size + 1) [.slice none 0 0, .slice none 0 0, .int .i64 0] ∧ Below w.heap.size w w1 ∧ w.heap.size + 2 ≤ w1.heap.size) := ⟨(HK.out w1 hb1).2.1, (HK.out w1 hb1).2.2.2.1, (HK.out w1 hb1).2.2.2.2⟩
  clear hr c0 HF
  have c0 := (HK.out w1 hb1).1
  cases r
  case false =>
    have f0 := HK1.out.1.cell (j := 0) rfl
    have f1 := HK1.out.1.cell (j := 1) rfl
    have f2 := HK1.out.1.cell (j := 2) rfl
    have z0 := HK1.out.1.frozen 0
    have z1 := HK1.out.1.frozen 1
    have z2 := HK1.out.1.frozen 2
    have HG : Hid (CmpI xs w (.returned (.agg #[.slice none 0 0, .slice none 0 0, .int .i64 0])) (((w1.setCell ⟨w.heap.size + 1, 0, none⟩ (.slice none 0 0)).setCell ⟨w.heap.size + 1, 1, none⟩ (.slice none 0 0)).setCell ⟨w.heap.size + 1, 2, none⟩ (.int .i64 0))) :=
      ⟨_, _, _, _, _, _, _, [], [], [], rfl, cdU_nil w _ (below_set (below_set (below_set HK1.out.2.1 (by omega) _ _) (by omega) _ _) (by omega) _ _), .inl ⟨fun q => Bool.noConfusion (HR.out.2 q), rfl, rfl⟩, ⟨List.Pairwise.nil, (fun x hx => by cases hx), (fun x hx => by cases hx)⟩⟩
    have HB : Hid (BoxAt (((w1.setCell ⟨w.heap.size + 1, 0, none⟩ (.slice none 0 0)).setCell ⟨w.heap.size + 1, 1, none⟩ (.slice none 0 0)).setCell ⟨w.heap.size + 1, 2, none⟩ (.int .i64 0)) (w.heap.size + 1) 31 3 (w.heap.size + 1) [.slice none 0 0, .slice none 0 0, .int .i64 0]) := ((HK1.out.1.set 0 _).set 1 _).set 2 _
    go_wp2_with fail
    have e0 := HB.out.cell (j := 0) rfl
    have e1 := HB.out.cell (j := 1) rfl
    have e2 := HB.out.cell (j := 2) rfl
    exact bodyPost_ret (v := .agg #[.slice none 0 0, .slice none 0 0, .int .i64 0]) (by simp [results, Try.results7, go_sem, e0, e1, e2]) rfl HG.out
  case true =>
  have hG : GoodF xs := HR.out.1 rfl
  obtain ⟨t, ht⟩ := goodF_tree hG
  have HT : Hid (GoodF xs ∧ TreeF xs t ∧ t.size ≤ 200 ∧ t.ifs ≤ 200) := ⟨hG, ht, by rw [ht.size]; exact hG.1, by rw [← ht.ifs]; exact Nat.le_trans (ifsL_le xs) hG.1⟩
  have HFo : Hid (Calls Try.prog 20 #[.slice (some ⟨g, 0, none⟩) n cp, .func (Fn.func 21) #[] #[]] w1 (FcPost t w1)) := by
    rw [HN.out]; exact foldCode_core (HK.out w1 hb1).2.2.1.at (HK.out w1 hb1).2.2.1.lt.2 ht hG.1
  clear hG ht
  go_wp2_with fail
  refine HFo.out.mono ?_
  rintro e w2 ⟨p, rfl, hT2, hb2⟩
  have s2 := hb2.size
  have HT2 : Hid (TrAt w2 t w1.heap.size w2.heap.size p none) := hT2
  have k2 : Below W0.heap.size W0 w2 := hb1.trans (hb2.mono hb1.size)
  clear hT2 HFo c0
  obtain ⟨W3, hW3⟩ : ∃ W3 : World, W3 = w2.alloc (Obj.cells #[.slice none 0 0, .slice none 0 0, .int .i64 0] 31) := ⟨_, rfl⟩
  obtain ⟨cb, hcb⟩ : ∃ cb, cb = w2.heap.size := ⟨_, rfl⟩
  have hb3 : Below w2.heap.size w2 W3 := by rw [hW3]; exact (Below.refl _ _).alloc (Nat.le_refl _) _
  have HC3 : Hid (CoAt W3 cb (.slice none 0 0) [] [] ∧ cb = w2.heap.size) := by
    refine ⟨⟨?_, rowB_nil _ _, (fun x hx => by cases hx), rfl, List.Pairwise.nil, (fun x hx => by cases hx)⟩, hcb⟩
    rw [hW3, hcb]; exact boxAt_new w2 _ (Nat.le_refl _) rfl
  have HAd : Hid (Calls Try.prog 22 #[ptrV cb, ptrV p, .func (Fn.func 23) #[] #[]] W3 (AdP W3 t w1.heap.size w2.heap.size p cb (.slice none 0 0) [] [] false)) := by
    refine ad_all t W3 w1.heap.size w2.heap.size p cb (.slice none 0 0) [] [] _ (fun _ => False) [] false (HT2.out.below hb3 (Nat.le_refl _) (Nat.le_refl _)) HC3.out.1 (Nat.le_of_eq hcb.symm) (.inl ⟨rfl, bef_start _ _⟩) ⟨fun b q => q.elim, fun b q => q.elim⟩ ?_ ?_ ?_
    · have := HT.out.2.2.1; simp; omega
    · have := HT.out.2.2.1; simp [cntL]; omega
    · have := HT.out.2.2.2; simp; omega
  have k3 : Below W0.heap.size W0 W3 := k2.trans (hb3.mono k2.size)
  go_upto_region 5 with fail
  rw [← hW3, ← hcb]
  clear hW3 hcb
  go_wp2_with fail
  refine HAd.out.mono ?_
  rintro e w4 ⟨rfl, cv4, bs4, hA4⟩
  obtain ⟨ca, cc, hcv⟩ := hA4.code.row.slice
  obtain ⟨cn, hcn⟩ : ∃ cn, cn = bs4.length := ⟨_, rfl⟩
  rw [← hcn] at hcv
  clear hcn
  subst hcv
  have HA4 : Hid (TrAt w4 t w1.heap.size w2.heap.size p (some 0) ∧ CoAt w4 cb (.slice ca cn cc) (t.conds [] false 0) bs4) := ⟨hA4.tree, hA4.code⟩
  have k4 : Below W0.heap.size W0 w4 := by
    refine Chg.below k3 hA4.fr.chg k3.size (fun b hb => ?_)
    have g1 := k2.size
    have g2 := hb1.size
    have g3 := HC3.out.2
    rcases hb with q | q | q
    · omega
    · omega
    · simp [Value.ownBlock] at q
  have hc4 := hA4.code.lt
  clear hA4 HAd
  obtain ⟨W5, hW5⟩ : ∃ W5 : World, W5 = w4.alloc (Obj.cells #[.slice none 0 0, .int .i64 0] 56) := ⟨_, rfl⟩
  obtain ⟨eb, heb⟩ : ∃ eb, eb = w4.heap.size := ⟨_, rfl⟩
  have hb5 : Below w4.heap.size w4 W5 := by rw [hW5]; exact (Below.refl _ _).alloc (Nat.le_refl _) _
  have HE5 : Hid (EmAt W5 eb (.slice none 0 0) [] 0 ∧ eb = w4.heap.size) := by
    refine ⟨⟨?_, rowX_nil _ _⟩, heb⟩
    rw [hW5, heb]; exact boxAt_new w4 _ (Nat.le_refl _) rfl
  have HEm : Hid (Calls Try.prog 24 #[ptrV p, ptrV eb, .bool false] W5 (EmP W5 eb 0 (.slice none 0 0) [] t false 0)) := by
    refine emit_all t W5 w1.heap.size w2.heap.size p 0 eb 0 (.slice none 0 0) [] false (HA4.out.1.below hb5 (by have := HC3.out.2; omega) (Nat.le_refl _)) HE5.out.1 (by have := HC3.out.2; omega) ?_ ?_ ?_
    · have := HT.out.2.2.1; simp; omega
    · have := HT.out.2.2.1; omega
    · have := HT.out.2.2.2; omega
  have k5 : Below W0.heap.size W0 W5 := k4.trans (hb5.mono k4.size)
  have hbe : Hid (Below eb W5 W5 ∧ cb < eb ∧ W0.heap.size ≤ eb ∧ W0.heap.size ≤ cb) := ⟨Below.refl _ _, by omega, by rw [heb]; exact k4.size, by rw [HC3.out.2]; exact k2.size⟩
  have HC5 : Hid (CoAt W5 cb (.slice ca cn cc) (t.conds [] false 0) bs4) := HA4.out.2.below hb5
  go_upto_region 7 with fail
  rw [← hW5, ← heb]
  clear hW5 heb
  go_wp2_with fail
  refine HEm.out.mono ?_
  rintro e w6 ⟨v6, rfl, hT6⟩
  obtain ⟨M, hM⟩ : ∃ M, M = t.gen false 0 := ⟨_, rfl⟩
  have hE6 : EmAt w6 eb v6 (absG 0 0 M) (cntL M) := by
    have h9 := hT6.at_
    rw [hM]
    simpa using h9
  obtain ⟨va, vc, hv6⟩ := hE6.row.slice
  obtain ⟨vn, hvn⟩ : ∃ vn, vn = (absG 0 0 M).length := ⟨_, rfl⟩
  rw [← hvn] at hv6
  clear hvn
  subst hv6
  have hx6 : Below eb W5 w6 := hT6.below HE5.out.1
  have k6 : Below W0.heap.size W0 w6 := k5.trans (hx6.mono hbe.out.2.2.1)
  have HC6 : Hid (CoAt w6 cb (.slice ca cn cc) (t.conds [] false 0) bs4) := by
    refine HC5.out.chg (S := fun b => eb ≤ b) ⟨hx6.os, hx6.tape, hx6.output, hx6.size, fun k hk hn => hx6.block k (by omega)⟩ (by have := hbe.out.2.1; omega) (fun k hk q => ?_) (fun x hx k hk q => ?_)
    · have := (HA4.out.2.row.blk hk).2; have := HE5.out.2; omega
    · have := ((HA4.out.2.each x hx).blk hk).2; have := HE5.out.2; omega
  obtain ⟨ct, hct⟩ : ∃ ct : Int, ct = ((cntL M : Nat) : Int) := ⟨_, rfl⟩
  have HE6 : Hid (EmAt w6 eb (.slice va vn vc) (absG 0 0 M) (cntL M) ∧ ct = ((cntL M : Nat) : Int) ∧ M = t.gen false 0) := ⟨hE6, hct, hM⟩
  have HApt : Hid (Apt bs4 (.slice va vn vc)) := by
    refine ⟨HC6.out.apart, fun x hx q => ?_, HC6.out.some⟩
    rcases hz : (Value.slice va vn vc).ownBlock with _ | j
    · rw [hz] at q
      rcases (HA4.out.2.each x hx).cases with ⟨_, h6⟩ | ⟨g6, c6, h6, _⟩
      · exact HC6.out.some x hx h6
      · rw [h6] at q; simp [Value.ownBlock] at q
    · rw [hz] at q
      have h1 := ((HA4.out.2.each x hx).blk q).2
      have h2 := (hE6.row.blk hz).1
      have h3 := HE5.out.2
      omega
  have a0 : w6.cell? ⟨eb, 0, none⟩ = some (.slice va vn vc) := hE6.box.cell (j := 0) rfl
  have a1 : w6.cell? ⟨eb, 1, none⟩ = some (.int .i64 ct) := by rw [hct]; exact hE6.box.cell (j := 1) rfl
  have b1 := HC6.out.box.cell (j := 1) rfl
  have b2 := HC6.out.box.cell (j := 2) rfl
  have g1 := HC6.out.box.frozen 1
  have g2 := HC6.out.box.frozen 2
  obtain ⟨W7, hW7⟩ : ∃ W7 : World, W7 = (w6.setCell ⟨cb, 1, none⟩ (.slice va vn vc)).setCell ⟨cb, 2, none⟩ (.int .i64 ct) := ⟨_, rfl⟩
  have HB7 : Hid (BoxAt W7 cb 31 3 cb [.slice ca cn cc, .slice va vn vc, .int .i64 ct]) := by rw [hW7]; exact (HC6.out.box.set 1 _).set 2 _
  have HP7 : Hid (BoxAt W7 (w.heap.size + 1) 31 3 (w.heap.size + 1) [.slice none 0 0, .slice none 0 0, .int .i64 0]) := by
    rw [hW7]; exact (((HK.out w6 k6).2.1).beside (by have := hbe.out.2.2.2; omega) _ _).beside (by have := hbe.out.2.2.2; omega) _ _
  have HG : Hid (CmpI xs w (.returned (.agg #[.slice ca cn cc, .slice va vn vc, .int .i64 ct])) (((W7.setCell ⟨w.heap.size + 1, 0, none⟩ (.slice ca cn cc)).setCell ⟨w.heap.size + 1, 1, none⟩ (.slice va vn vc)).setCell ⟨w.heap.size + 1, 2, none⟩ (.int .i64 ct))) := by
    refine ⟨_, _, _, _, _, _, _, t.conds [] false 0, M, bs4, rfl, ?_, .inr ⟨HT.out.1, t, HT.out.2.1, rfl, hM⟩, HApt.out⟩
    rw [hW7]
    have h9 := code_done (w0 := w) (p1 := w.heap.size + 1) HC6.out hE6 rfl (HK.out w6 k6).2.2.2.1 (by omega) (by have := hbe.out.2.2.2; omega) hbe.out.2.1 (.slice ca cn cc) (.slice va vn vc) (.int .i64 ct) (.slice va vn vc) (.int .i64 ct)
    rw [← hct] at h9
    exact h9
  clear hT6 hE6 hx6 hM hct
  go_upto_region 9 with fail
  rw [← hW7]
  clear hW7 a0 a1 b1 b2 g1 g2
  have d0 := HB7.out.cell (j := 0) rfl
  have d1 := HB7.out.cell (j := 1) rfl
  have d2 := HB7.out.cell (j := 2) rfl
  have f0 := HP7.out.cell (j := 0) rfl
  have f1 := HP7.out.cell (j := 1) rfl
  have f2 := HP7.out.cell (j := 2) rfl
  have z0 := HP7.out.frozen 0
  have z1 := HP7.out.frozen 1
  have z2 := HP7.out.frozen 2
  have HB : Hid (BoxAt (((W7.setCell ⟨w.heap.size + 1, 0, none⟩ (.slice ca cn cc)).setCell ⟨w.heap.size + 1, 1, none⟩ (.slice va vn vc)).setCell ⟨w.heap.size + 1, 2, none⟩ (.int .i64 ct)) (w.heap.size + 1) 31 3 (w.heap.size + 1) [.slice ca cn cc, .slice va vn vc, .int .i64 ct]) := ((HP7.out.set 0 _).set 1 _).set 2 _
  go_wp2_with fail
  have e0 := HB.out.cell (j := 0) rfl
  have e1 := HB.out.cell (j := 1) rfl
  have e2 := HB.out.cell (j := 2) rfl
  exact bodyPost_ret (v := .agg #[.slice ca cn cc, .slice va vn vc, .int .i64 ct]) (by simp [results, Try.results7, go_sem, e0, e1, e2]) rfl HG.out
end Go.Proofs.Ytkbmdkgfgfbilaa

/-
  Code with marks: markBlockS, heldBlockS, markBlock, heldBlock, markCode, heldCode.
-/
namespace Go.Proofs.Ytkbmdkgfgfbilaa
open Go.ChangeShapes Go.WideShapes Go.ChangeAt Go.RowKit Go.Deep
set_option linter.unusedVariables false
set_option linter.unusedSimpArgs false
set_option maxRecDepth 100000

/-- How many marks blocks take. -/
def mkLen : List Bk → Nat
  | [] => 0
  | x :: r => x.l.length * 11 + 1 + mkLen r
def markedB : Int → List Bk → Prop
  | _, [] => True
  | k, x :: r => markedX k x.l x.l.length ∧ x.cnt = k + x.l.length * 11 ∧ markedB (k + x.l.length * 11 + 1) r
theorem mkLen_append (l m : List Bk) : mkLen (l ++ m) = mkLen l + mkLen m := by
  induction l with
  | nil => simp [mkLen]
  | cons x r ih => simp only [List.cons_append, mkLen, ih]; omega
theorem markedB_snoc {x : Bk} : ∀ {l : List Bk} {k : Int}, markedB k l → markedX (k + mkLen l) x.l x.l.length → x.cnt = k + mkLen l + x.l.length * 11 → markedB k (l ++ [x])
  | [], k, _, h1, h2 => by
    simp only [mkLen, Int.natCast_zero, Int.add_zero] at h1 h2
    exact ⟨h1, h2, trivial⟩
  | y :: r, k, h, h1, h2 => by
    refine ⟨h.1, h.2.1, markedB_snoc h.2.2 ?_ ?_⟩
    · have e : k + ((mkLen (y :: r) : Nat) : Int) = k + y.l.length * 11 + 1 + (mkLen r : Nat) := by simp only [mkLen]; omega
      rw [e] at h1; exact h1
    · have e : k + ((mkLen (y :: r) : Nat) : Int) = k + y.l.length * 11 + 1 + (mkLen r : Nat) := by simp only [mkLen]; omega
      rw [e] at h2; exact h2
theorem markedB_nth : ∀ {bs : List Bk} {k : Int} {m : Nat} {x : Bk}, markedB k bs → bs[m]? = some x → markedX (k + mkLen (bs.take m)) x.l x.l.length ∧ x.cnt = k + mkLen (bs.take m) + x.l.length * 11
  | [], _, _, _, _, h => by simp at h
  | y :: r, k, 0, x, h, hx => by simp at hx; subst hx; simp only [List.take_zero, mkLen, Int.natCast_zero, Int.add_zero]; exact ⟨h.1, h.2.1⟩
  | y :: r, k, m + 1, x, h, hx => by
    have := markedB_nth h.2.2 (m := m) (by simpa using hx)
    have e : k + ((mkLen ((y :: r).take (m + 1)) : Nat) : Int) = k + y.l.length * 11 + 1 + (mkLen (r.take m) : Nat) := by simp only [List.take_succ_cons, mkLen]; omega
    rw [e]; exact this
def shp (x : Bk) : Value × Nat := (x.v, x.l.length)
theorem mkLen_shp : ∀ {l m : List Bk}, l.map shp = m.map shp → mkLen l = mkLen m
  | [], [], _ => rfl
  | x :: r, y :: t, h => by
    simp only [List.map_cons, List.cons.injEq] at h
    have e : x.l.length = y.l.length := congrArg Prod.snd h.1
    simp only [mkLen, e, mkLen_shp h.2]
  | [], _ :: _, h => by simp at h
  | _ :: _, [], h => by simp at h
theorem mkLen_take (l : List Bk) (m : Nat) : mkLen (l.take m) ≤ mkLen l := by
  have := mkLen_append (l.take m) (l.drop m)
  rw [List.take_append_drop] at this
  omega
theorem mkLen_step {l : List Bk} {m : Nat} {x : Bk} (h : l[m]? = some x) : mkLen (l.take (m + 1)) = mkLen (l.take m) + (x.l.length * 11 + 1) := by
  rw [List.take_add_one, h, mkLen_append]; simp [mkLen]
theorem take_set (l : List Bk) (m : Nat) (x : Bk) (hm : m < l.length) : (l.set m x).take (m + 1) = l.take m ++ [x] := by
  rw [List.take_add_one, List.getElem?_set_self hm, List.take_set_of_le (Nat.le_refl _)]; rfl
def pwV (vs : List Value) : Prop := vs.Pairwise (fun a b => a.ownBlock ≠ b.ownBlock)
theorem pwV_ne {vs : List Value} (h : pwV vs) {i j : Nat} {a b : Value} (hij : i ≠ j) (ha : vs[i]? = some a) (hb : vs[j]? = some b) : a.ownBlock ≠ b.ownBlock := by
  obtain ⟨hi, ha⟩ := List.getElem?_eq_some_iff.1 ha
  obtain ⟨hj, hb⟩ := List.getElem?_eq_some_iff.1 hb
  subst ha hb
  rcases Nat.lt_or_gt_of_ne hij with q | q
  · exact List.pairwise_iff_getElem.1 h i j hi hj q
  · exact fun e => List.pairwise_iff_getElem.1 h j i hj hi q e.symm
def MkS (cv : Value) (vs : List Value) (b : Nat) : Prop := cv.ownBlock = some b ∨ ∃ v ∈ vs, v.ownBlock = some b
/-- Blocks that are being marked. -/
structure MkJ (w0 w : World) (base g n cap : Nat) (bs fs : List Bk) (k a : Int) (m : Nat) : Prop where
  val : a = k + mkLen (fs.take m)
  row : RowB w base (.slice (some ⟨g, 0, none⟩) n cap) fs
  each : Eac w base fs
  same : fs.map shp = bs.map shp
  marked : markedB k (fs.take m)
  chg : Chg (MkS (.slice (some ⟨g, 0, none⟩) n cap) (bs.map Bk.v)) w0 w
theorem shp_v {fs bs : List Bk} (h : fs.map shp = bs.map shp) : fs.map Bk.v = bs.map Bk.v := by
  have := congrArg (List.map Prod.fst) h
  simpa [List.map_map, shp, Function.comp_def] using this
theorem shp_len {fs bs : List Bk} (h : fs.map shp = bs.map shp) : fs.length = bs.length := by
  have := congrArg List.length h
  simpa using this
theorem MkJ.step {w0 w w1 : World} {base g n cap : Nat} {bs fs : List Bk} {k a : Int} {m : Nat} {x : Bk} {R' : List Ix} (h : MkJ w0 w base g n cap bs fs k a m) (hpw : pwV (bs.map Bk.v)) (hx : fs[m]? = some x) (hR : RowX w1 base x.v R') (hl : R'.length = x.l.length) (hmk : markedX a R' R'.length) (hg : w.grownBy w1 x.v.ownBlock) :
    MkJ w0 (w1.setCell ⟨g, m * 2 + 1, none⟩ (.int .i64 (a + x.l.length * 11))) base g n cap bs (fs.set m ⟨x.v, a + x.l.length * 11, R'⟩) k (a + x.l.length * 11 + 1) (m + 1) := by
  have hm : m < fs.length := (List.getElem?_eq_some_iff.1 hx).1
  have hxm := List.mem_of_getElem? hx
  have hch : Chg (fun j => x.v.ownBlock = some j) w w1 := Chg.of_grown hg (fun j hj => hj)
  have hset : Chg (fun b => b = g) w1 (w1.setCell ⟨g, m * 2 + 1, none⟩ (.int .i64 (a + x.l.length * 11))) := Chg.of_set _ _ _ _ rfl
  have hrow1 : RowB w1 base (.slice (some ⟨g, 0, none⟩) n cap) fs := h.row.chg hch (fun j hj q => row_apart (h.each x hxm) h.row j q hj)
  have hvv := shp_v h.same
  have hxv : (bs.map Bk.v)[m]? = some x.v := by rw [← hvv, List.getElem?_map, hx]; rfl
  have hset2 : fs.map shp = (fs.set m ⟨x.v, a + x.l.length * 11, R'⟩).map shp := by
    rw [List.map_set]
    have e : shp ⟨x.v, a + x.l.length * 11, R'⟩ = shp x := by simp [shp, hl]
    rw [e]
    have e2 : (fs.map shp)[m]? = some (shp x) := by rw [List.getElem?_map, hx]; rfl
    obtain ⟨hm2, e3⟩ := List.getElem?_eq_some_iff.1 e2
    rw [← e3]; exact (List.set_getElem_self hm2).symm
  refine ⟨?_, ?_, fun y hy => ?_, by rw [← hset2]; exact h.same, ?_, ?_⟩
  · rw [take_set _ _ _ hm, mkLen_append, h.val]; simp only [mkLen, hl]; omega
  · have hn : n = fs.length := by
      obtain ⟨a', c', hv⟩ := h.row.slice
      cases hv; rfl
    subst hn
    have h9 := (World.ownsRow.stored hrow1 (m * 2 + 1) (.int .i64 (a + x.l.length * 11))).1
    rw [cellsB_set fs m x ⟨x.v, a + x.l.length * 11, R'⟩ _ 1 hx (by omega) rfl] at h9
    unfold RowB
    rw [List.length_set]
    exact h9
  · obtain ⟨j, hj⟩ := List.getElem?_of_mem hy
    by_cases hjm : j = m
    · subst hjm
      rw [List.getElem?_set_self hm] at hj
      cases hj
      exact hR.chg hset (fun i hi q => row_apart hR hrow1 i hi (by rw [q]; rfl))
    · rw [List.getElem?_set_ne (fun q => hjm q.symm)] at hj
      have hym := List.mem_of_getElem? hj
      have hyv : (bs.map Bk.v)[j]? = some y.v := by rw [← hvv, List.getElem?_map, hj]; rfl
      have hne := pwV_ne hpw hjm hyv hxv
      have h1 := (h.each y hym).chg hch (fun i hi q => hne (hi.trans q.symm))
      exact h1.chg hset (fun i hi q => row_apart h1 hrow1 i hi (by rw [q]; rfl))
  · rw [take_set _ _ _ hm]
    refine markedB_snoc h.marked ?_ ?_
    · rw [← h.val]; exact hmk
    · rw [← h.val, hl]
  · refine (h.chg.trans (hch.mono (fun j hj => .inr ⟨x.v, List.mem_of_getElem? hxv, hj⟩))).trans (hset.mono (fun j hj => .inl (by rw [hj]; rfl)))
set_option maxHeartbeats 4000000 in
theorem markBlockS_core (base g cap : Nat) (bs : List Bk) (k : Int) (w : World) (n : Nat) (hR : RowB w base (.slice (some ⟨g, 0, none⟩) n cap) bs) (hE : Eac w base bs) (hpw : pwV (bs.map Bk.v)) (h0 : 0 < k) (h1 : k ≤ 2 ^ 28) (hl : mkLen bs ≤ 2 ^ 28) (hx : ∀ x ∈ bs, x.l.length ≤ 1048576) :
    Calls Try.prog 29 #[.slice (some ⟨g, 0, none⟩) n cap, .int .i64 k] w fun e w' =>
      ∃ fs, e = .returned (.int .i64 (k + mkLen bs)) ∧ MkJ w w' base g n cap bs fs k (k + mkLen bs) n := by
  have hn : n = bs.length := by
    obtain ⟨a', c', hv⟩ := hR.slice
    cases hv; rfl
  have HO : Hid (MkJ w w base g n cap bs bs k k 0) := ⟨by simp [mkLen], hR, hE, rfl, trivial, Chg.refl _ _⟩
  have HB : Hid (pwV (bs.map Bk.v) ∧ mkLen bs ≤ 2 ^ 28 ∧ (∀ x ∈ bs, x.l.length ≤ 1048576) ∧ n = bs.length) := ⟨hpw, hl, hx, hn⟩
  have hnb : n ≤ 2 ^ 28 := by
    have : ∀ l : List Bk, l.length ≤ mkLen l := fun l => by
      induction l with
      | nil => simp [mkLen]
      | cons x r ih => simp only [List.length_cons, mkLen]; omega
    have := this bs; omega
  clear hR hE hpw hl hx hn
  go_enter Try.func29, Try.ntmps29
  go_wp2
  go_loopw [1, 5] (fun c i wr => ∃ (m : Nat) (a : Int) (fs : List Bk), m ≤ n ∧ i = .int .i64 m ∧ c = .int .i64 a ∧ 0 < a ∧ a ≤ 2 ^ 29 ∧ MkJ w wr base g n cap bs fs k a m) (fun _ i _ => n - (intOf i).toNat)
  case atStart => exact ⟨0, k, bs, Nat.zero_le _, rfl, rfl, h0, by omega, HO.out⟩
  case round =>
    obtain ⟨m, a, fs, hm, rfl, rfl, ha0, ha1, hJ⟩ := hrel
    have HJ : Hid (MkJ w wr base g n cap bs fs k a m) := hJ
    clear hJ
    by_cases hlt : m < n
    · have hfl : fs.length = n := by rw [HB.out.2.2.2]; exact shp_len HJ.out.same
      obtain ⟨x, hx⟩ : ∃ x, fs[m]? = some x := ⟨_, List.getElem?_eq_getElem (by omega)⟩
      have hxm := List.mem_of_getElem? hx
      obtain ⟨xa, xc, hxv⟩ := (HJ.out.each x hxm).slice
      have hxl : x.l.length ≤ 1048576 := by
        obtain ⟨y, hy⟩ : ∃ y, bs[m]? = some y := ⟨_, List.getElem?_eq_getElem (by have := HB.out.2.2.2; omega)⟩
        have e1 : (fs.map shp)[m]? = some (shp x) := by rw [List.getElem?_map, hx]; rfl
        have e2 : (bs.map shp)[m]? = some (shp y) := by rw [List.getElem?_map, hy]; rfl
        rw [HJ.out.same, e2] at e1
        have e3 := congrArg Prod.snd (Option.some.inj e1)
        have e4 : y.l.length = x.l.length := e3
        rw [← e4]; exact HB.out.2.2.1 y (List.mem_of_getElem? hy)
      have hcl : RowB wr base (.slice (some ⟨g, 0, none⟩) fs.length cap) fs := by rw [hfl]; exact HJ.out.row
      obtain ⟨q0, q1⟩ := hcl.cell hx
      have z1 : wr.frozen? ⟨g, m * 2 + 1, none⟩ = false := World.ownsRow.frozenAt hcl _
      have hgl : g < wr.heap.size := (World.ownsRow.lt hcl g rfl).2
      obtain ⟨xn, hxn⟩ : ∃ xn, xn = x.l.length := ⟨_, rfl⟩
      have HX : Hid (fs[m]? = some x ∧ xn = x.l.length ∧ RowX wr base (.slice xa xn xc) x.l ∧ x.v = .slice xa xn xc ∧ RowB wr base (.slice (some ⟨g, 0, none⟩) n cap) fs) := ⟨hx, hxn, by rw [hxn, ← hxv]; exact HJ.out.each x hxm, by rw [hxn]; exact hxv, HJ.out.row⟩
      rw [hxv, ← hxn] at q0
      rw [← hxn] at hxl
      have HC : Hid (Calls Try.prog 56 #[.slice xa xn xc, .int .i64 a] wr fun e w' =>
          ∃ R', e = .returned (.int .i64 (a + xn * 11)) ∧ RowX w' base (.slice xa xn xc) R' ∧ R'.length = x.l.length ∧ markedX a R' R'.length ∧ wr.grownBy w' (Value.slice xa xn xc).ownBlock) := by
        have h9 := markInsS_own base (.slice xa xn xc) x.l a wr HX.out.2.2.1 ha0 (by omega) (by rw [← hxn]; exact hxl)
        rw [← hxn] at h9
        rw [← hxn]; exact h9
      have HS : Hid (a + xn * 11 + 1 ≤ k + mkLen bs) := by
        have h2 := mkLen_step hx
        have h3 := mkLen_take fs (m + 1)
        have h4 := mkLen_shp HJ.out.same
        have h5 := HJ.out.val
        show _ ≤ _
        omega
      have hS := HS.out
      have hML := HB.out.2.1
      have ha9 : a + xn * 11 + 1 ≤ 2 ^ 29 := by omega
      clear hx hxm hxv hcl hxn hS hML
      go_wp2_with fail
      refine HC.out.mono ?_
      rintro e w1 ⟨R', rfl, hR', hl', hmk', hg'⟩
      have HJ2 : Hid (MkJ w (w1.setCell ⟨g, m * 2 + 1, none⟩ (.int .i64 (a + (xn : Int) * 11))) base g n cap bs (fs.set m ⟨x.v, a + x.l.length * 11, R'⟩) k (a + (xn : Int) * 11 + 1) (m + 1)) := by
        have h9 := HJ.out.step HB.out.1 HX.out.1 (by rw [HX.out.2.2.2.1]; exact hR') hl' hmk' (by rw [HX.out.2.2.2.1]; exact hg')
        rw [← HX.out.2.1] at h9 ⊢
        exact h9
      have hch : Chg (fun j => (Value.slice xa xn xc).ownBlock = some j) wr w1 := Chg.of_grown hg' (fun j hj => hj)
      have hnb2 : ¬ (Value.slice xa xn xc).ownBlock = some g := fun q => row_apart HX.out.2.2.1 HX.out.2.2.2.2 g q rfl
      have y1 : w1.cell? ⟨g, m * 2 + 1, none⟩ = some (.int .i64 x.cnt) := by rw [hch.cell (p := ⟨g, m * 2 + 1, none⟩) hgl hnb2]; exact q1
      have y2 : w1.frozen? ⟨g, m * 2 + 1, none⟩ = false := by rw [hch.frozen (p := ⟨g, m * 2 + 1, none⟩) hgl hnb2]; exact z1
      clear hR' hl' hmk' hg' hch q0 q1 z1
      go_wp2_with fail
      refine ⟨⟨m + 1, a + (xn : Int) * 11 + 1, fs.set m ⟨x.v, a + x.l.length * 11, R'⟩, by omega, by go_num, rfl, by omega, ha9, HJ2.out⟩, ?_⟩
      go_light
      simp [intOf]; omega
    · obtain rfl : m = n := by omega
      have HV : Hid (a = k + mkLen bs) := by
        show a = _
        have h1 := HJ.out.val
        rw [List.take_of_length_le (by rw [shp_len HJ.out.same, ← HB.out.2.2.2]; exact Nat.le_refl _), mkLen_shp HJ.out.same] at h1
        exact h1
      go_wp2_with fail
      go_ret
      refine ⟨fs, by rw [HV.out]; rfl, ?_⟩
      rw [← HV.out]; exact HJ.out
set_option maxHeartbeats 4000000 in
theorem heldBlockS_core (base g cap : Nat) (bs : List Bk) (k : Int) (w : World) (n : Nat) (hR : RowB w base (.slice (some ⟨g, 0, none⟩) n cap) bs) (hE : Eac w base bs) (hmk : markedB k bs) (h0 : 0 < k) (h1 : k ≤ 2 ^ 28) (hl : mkLen bs ≤ 2 ^ 28) (hx : ∀ x ∈ bs, x.l.length ≤ 1048576) :
    Calls Try.prog 31 #[.slice (some ⟨g, 0, none⟩) n cap, .int .i64 k] w fun e w' => e = .returned (.int .i64 (k + mkLen bs)) ∧ Below w.heap.size w w' := by
  have hn : n = bs.length := by
    obtain ⟨a', c', hv⟩ := hR.slice
    cases hv; rfl
  have HB : Hid (RowB w base (.slice (some ⟨g, 0, none⟩) n cap) bs ∧ Eac w base bs ∧ markedB k bs ∧ mkLen bs ≤ 2 ^ 28 ∧ (∀ x ∈ bs, x.l.length ≤ 1048576) ∧ n = bs.length) := ⟨hR, hE, hmk, hl, hx, hn⟩
  have hnb : n ≤ 2 ^ 28 := by
    have : ∀ l : List Bk, l.length ≤ mkLen l := fun l => by
      induction l with
      | nil => simp [mkLen]
      | cons x r ih => simp only [List.length_cons, mkLen]; omega
    have := this bs; omega
  clear hR hE hmk hl hx hn
  go_enter Try.func31, Try.ntmps31
  go_wp2
  go_loopw [1, 5] (fun c i wr => ∃ (m : Nat) (a : Int), m ≤ n ∧ i = .int .i64 m ∧ c = .int .i64 a ∧ 0 < a ∧ a ≤ 2 ^ 29 ∧ Hid (a = k + mkLen (bs.take m)) ∧ Below w.heap.size w wr) (fun _ i _ => n - (intOf i).toNat)
  case atStart => exact ⟨0, k, Nat.zero_le _, rfl, rfl, h0, by omega, by show k = _; simp [mkLen], Below.refl _ _⟩
  case round =>
    obtain ⟨m, a, hm, rfl, rfl, ha0, ha1, HA, hbr⟩ := hrel
    by_cases hlt : m < n
    · obtain ⟨x, hx⟩ : ∃ x, bs[m]? = some x := ⟨_, List.getElem?_eq_getElem (by have := HB.out.2.2.2.2.2; omega)⟩
      have hxm := List.mem_of_getElem? hx
      obtain ⟨mk1, mk2⟩ := markedB_nth HB.out.2.2.1 hx
      rw [← HA.out] at mk1 mk2
      have hrx := (HB.out.2.1 x hxm).below hbr
      obtain ⟨xa, xc, hxv⟩ := hrx.slice
      have hcl : RowB wr base (.slice (some ⟨g, 0, none⟩) bs.length cap) bs := by
        have h9 := HB.out.1.below hbr
        rw [HB.out.2.2.2.2.2] at h9
        exact h9
      obtain ⟨q0, q1⟩ := hcl.cell hx
      have hgl : g < wr.heap.size := (World.ownsRow.lt hcl g rfl).2
      obtain ⟨xn, hxn⟩ : ∃ xn, xn = x.l.length := ⟨_, rfl⟩
      have hxl : xn ≤ 1048576 := by rw [hxn]; exact HB.out.2.2.2.2.1 x hxm
      rw [hxv, ← hxn] at q0
      rw [mk2, ← hxn] at q1
      have HC : Hid (Calls Try.prog 57 #[.slice xa xn xc, .int .i64 a] wr fun e w' => e = .returned (.int .i64 (a + xn * 11)) ∧ Below wr.heap.size wr w') := by
        have h9 := heldInsS_own base x.v x.l a wr hrx mk1 ha0 (by omega) (by rw [← hxn]; exact hxl)
        rw [hxv, ← hxn] at h9
        exact h9
      have HS : Hid (a + xn * 11 + 1 = k + mkLen (bs.take (m + 1))) := by
        show _ = _
        rw [mkLen_step hx, HA.out, hxn]; omega
      have ha9 : a + xn * 11 + 1 ≤ 2 ^ 29 := by
        have h2 := HS.out
        have h3 := mkLen_take bs (m + 1)
        have h4 := HB.out.2.2.2.1
        omega
      clear hx hxm hxv hcl hxn mk1 mk2 hrx
      go_wp2_with fail
      refine HC.out.mono ?_
      rintro e w1 ⟨rfl, hb1⟩
      have hk1 : Below w.heap.size w w1 := hbr.trans (hb1.mono hbr.size)
      have y1 : w1.cell? ⟨g, m * 2 + 1, none⟩ = some (.int .i64 (a + (xn : Int) * 11)) := by rw [hb1.cell (p := ⟨g, m * 2 + 1, none⟩) hgl]; exact q1
      have hnn : ¬ a + (xn : Int) * 11 < 0 := by omega
      clear q0 q1 hb1
      go_wp2_with fail
      refine ⟨⟨m + 1, a + (xn : Int) * 11 + 1, by omega, by go_num, rfl, by omega, ha9, HS.out, hk1⟩, ?_⟩
      go_light
      simp [intOf]; omega
    · obtain rfl : m = n := by omega
      have HV : Hid (a = k + mkLen bs) := by
        show a = _
        have h1 := HA.out
        rw [List.take_of_length_le (by rw [← HB.out.2.2.2.2.2]; exact Nat.le_refl _)] at h1
        exact h1
      go_wp2_with fail
      go_ret
      exact ⟨by rw [HV.out]; rfl, hbr⟩
set_option maxHeartbeats 400000 in
theorem markBlockS_zero (a : Option Addr) (cap : Nat) (k : Int) (w : World) :
    Calls Try.prog 29 #[.slice a 0 cap, .int .i64 k] w fun e w' => e = .returned (.int .i64 k) ∧ Below w.heap.size w w' := by
  go_enter Try.func29, Try.ntmps29
  go_wp2
  go_loopw [1, 5] (fun c i wr => c = .int .i64 k ∧ i = .int .i64 0 ∧ wr = w) (fun _ i _ => 0)
  case atStart => exact ⟨rfl, rfl, rfl⟩
  case round =>
    obtain ⟨rfl, rfl, rfl⟩ := hrel
    go_wp2_with fail
    go_ret
    exact ⟨rfl, Below.refl _ _⟩
set_option maxHeartbeats 400000 in
theorem heldBlockS_zero (a : Option Addr) (cap : Nat) (k : Int) (w : World) :
    Calls Try.prog 31 #[.slice a 0 cap, .int .i64 k] w fun e w' => e = .returned (.int .i64 k) ∧ Below w.heap.size w w' := by
  go_enter Try.func31, Try.ntmps31
  go_wp2
  go_loopw [1, 5] (fun c i wr => c = .int .i64 k ∧ i = .int .i64 0 ∧ wr = w) (fun _ i _ => 0)
  case atStart => exact ⟨rfl, rfl, rfl⟩
  case round =>
    obtain ⟨rfl, rfl, rfl⟩ := hrel
    go_wp2_with fail
    go_ret
    exact ⟨rfl, Below.refl _ _⟩
/-- Marks laid into blocks. -/
def MbP (base : Nat) (cv : Value) (bs : List Bk) (k : Int) (w : World) (e : Ending) (w' : World) : Prop :=
  ∃ fs, e = .returned (.int .i64 (k + mkLen bs)) ∧ RowB w' base cv fs ∧ Eac w' base fs ∧ fs.map shp = bs.map shp ∧ markedB k fs ∧ Chg (MkS cv (bs.map Bk.v)) w w'
theorem markBlockS_own (base : Nat) (cv : Value) (bs : List Bk) (k : Int) (w : World) (hR : RowB w base cv bs) (hE : Eac w base bs) (hpw : pwV (bs.map Bk.v)) (h0 : 0 < k) (h1 : k ≤ 2 ^ 28) (hl : mkLen bs ≤ 2 ^ 28) (hx : ∀ x ∈ bs, x.l.length ≤ 1048576) :
    Calls Try.prog 29 #[cv, .int .i64 k] w (MbP base cv bs k w) := by
  rcases hR.cases with ⟨rfl, rfl⟩ | ⟨g, cp, rfl, _⟩
  · refine (markBlockS_zero none 0 k w).mono ?_
    rintro e w' ⟨rfl, hb⟩
    exact ⟨[], by simp [mkLen], rowB_nil _ _, (fun x hx => by cases hx), rfl, trivial, Chg.of_below hb⟩
  · refine (markBlockS_core base g cp bs k w bs.length hR hE hpw h0 h1 hl hx).mono ?_
    rintro e w' ⟨fs, rfl, hJ⟩
    refine ⟨fs, rfl, hJ.row, hJ.each, hJ.same, ?_, hJ.chg⟩
    have h9 := hJ.marked
    rw [List.take_of_length_le (Nat.le_of_eq (shp_len hJ.same))] at h9
    exact h9
theorem heldBlockS_own (base : Nat) (cv : Value) (bs : List Bk) (k : Int) (w : World) (hR : RowB w base cv bs) (hE : Eac w base bs) (hmk : markedB k bs) (h0 : 0 < k) (h1 : k ≤ 2 ^ 28) (hl : mkLen bs ≤ 2 ^ 28) (hx : ∀ x ∈ bs, x.l.length ≤ 1048576) :
    Calls Try.prog 31 #[cv, .int .i64 k] w fun e w' => e = .returned (.int .i64 (k + mkLen bs)) ∧ Below w.heap.size w w' := by
  rcases hR.cases with ⟨rfl, rfl⟩ | ⟨g, cp, rfl, _⟩
  · refine (heldBlockS_zero none 0 k w).mono ?_
    rintro e w' ⟨rfl, hb⟩
    exact ⟨by simp [mkLen], hb⟩
  · exact heldBlockS_core base g cp bs k w bs.length hR hE hmk h0 h1 hl hx
set_option maxHeartbeats 400000 in
theorem markBlock_own (base : Nat) (u : Value) (c : Int) (R : List Ix) (k : Int) (w : World) (h : RowX w base u R) (h0 : 0 < k) (h1 : k ≤ 2 ^ 30) (hn : R.length ≤ 1048576) :
    Calls Try.prog 30 #[.agg #[u, .int .i64 c], .int .i64 k] w fun e w' =>
      ∃ R', e = .returned (.int .i64 (k + R.length * 11)) ∧ RowX w' base u R' ∧ R'.length = R.length ∧ markedX k R' R'.length ∧ w.grownBy w' u.ownBlock := by
  obtain ⟨ua, uc, hu⟩ := h.slice
  obtain ⟨un, hun⟩ : ∃ un, un = R.length := ⟨_, rfl⟩
  have hb0 : Below w.heap.size w (w.alloc (Obj.cells #[u, .int .i64 c] 29)) := (Below.refl _ _).alloc (Nat.le_refl _) _
  have HC : Hid (Calls Try.prog 56 #[u, .int .i64 k] (w.alloc (Obj.cells #[u, .int .i64 c] 29)) fun e w' =>
      ∃ R', e = .returned (.int .i64 (k + un * 11)) ∧ RowX w' base u R' ∧ R'.length = R.length ∧ markedX k R' R'.length ∧ (w.alloc (Obj.cells #[u, .int .i64 c] 29)).grownBy w' u.ownBlock) := by rw [hun]; exact markInsS_own base u R k _ (h.below hb0) h0 h1 hn
  have HUN : Hid (un = R.length) := hun
  rw [← hun] at hu ⊢
  subst hu
  clear h hun
  go_enter Try.func30, Try.ntmps30
  go_wp2_with fail
  refine HC.out.mono ?_
  rintro e w1 ⟨R', rfl, hU', hl, hm, hb1⟩
  have HF : Hid (RowX w1 base (.slice ua un uc) R' ∧ R'.length = R.length ∧ markedX k R' R'.length) := ⟨hU', hl, hm⟩
  clear hU' hl hm
  go_wp2_with fail
  go_ret
  exact ⟨R', rfl, HF.out.1, by rw [HUN.out]; exact HF.out.2.1, HF.out.2.2, (grown_of_below hb0 _).trans hb1⟩
set_option maxHeartbeats 400000 in
theorem heldBlock_own (base : Nat) (u : Value) (c : Int) (R : List Ix) (k : Int) (w : World) (h : RowX w base u R) (hm : markedX k R R.length) (h0 : 0 < k) (h1 : k ≤ 2 ^ 30) (hn : R.length ≤ 1048576) :
    Calls Try.prog 32 #[.agg #[u, .int .i64 c], .int .i64 k] w fun e w' => e = .returned (.int .i64 (k + R.length * 11)) ∧ Below w.heap.size w w' := by
  obtain ⟨ua, uc, hu⟩ := h.slice
  obtain ⟨un, hun⟩ : ∃ un, un = R.length := ⟨_, rfl⟩
  have hb0 : Below w.heap.size w (w.alloc (Obj.cells #[u, .int .i64 c] 29)) := (Below.refl _ _).alloc (Nat.le_refl _) _
  have HC : Hid (Calls Try.prog 57 #[u, .int .i64 k] (w.alloc (Obj.cells #[u, .int .i64 c] 29)) fun e w' => e = .returned (.int .i64 (k + un * 11)) ∧ Below (w.alloc (Obj.cells #[u, .int .i64 c] 29)).heap.size (w.alloc (Obj.cells #[u, .int .i64 c] 29)) w') := by rw [hun]; exact heldInsS_own base u R k _ (h.below hb0) hm h0 h1 hn
  rw [← hun] at hu ⊢
  rw [← hun] at hn
  subst hu
  clear h hun hm
  have hge : ¬ k + (un : Int) * 11 < 0 := by omega
  go_enter Try.func32, Try.ntmps32
  go_wp2_with fail
  refine HC.out.mono ?_
  rintro e w1 ⟨rfl, hb1⟩
  go_wp2_with fail
  go_ret
  exact ⟨rfl, hb0.trans (hb1.mono (by simp))⟩
end Go.Proofs.Ytkbmdkgfgfbilaa

