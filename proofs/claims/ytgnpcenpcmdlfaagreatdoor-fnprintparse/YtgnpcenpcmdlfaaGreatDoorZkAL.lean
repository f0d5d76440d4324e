import Derived.Deep.RegionLaw
import Derived.Deep.AppendLies
import Derived.Test.YtgnpcenpcmdlfaaGreatDoorZkAK
import Derived.Test.YtgnpcenpcmdlfaaGreatDoorRPrN
/-
  impl.shapeOf.
-/
namespace Go.Proofs.YtgnpcenpcmdlfaaGreatDoor
open Go.ChangeShapes Go.WideShapes Go.ChangeAt Go.RowKit Go.Deep
set_option linter.unusedVariables false
set_option linter.unusedSimpArgs false
set_option maxRecDepth 100000

theorem lift0 {P : Program} {f : Nat} {args : Array Value} {w : World} {v : Value} (W0 : World) (h : Below W0.heap.size W0 w) (c : Calls P f args w fun e w' => e = .returned v ∧ Below w.heap.size w w') :
    Calls P f args w fun e w' => e = .returned v ∧ Below W0.heap.size W0 w' ∧ (∀ b o, b < W0.heap.size → w'.cell? ⟨b, o, none⟩ = W0.cell? ⟨b, o, none⟩) := by
  refine c.mono ?_
  rintro e w' ⟨he, hb⟩
  have k := h.trans (hb.mono h.size)
  exact ⟨he, k, fun b o hlt => k.cell (p := ⟨b, o, none⟩) hlt⟩
def SoA (w : World) (e : Nd) (W0 : World) : Prop := BoxAt W0 w.heap.size 65 7 w.heap.size e.seven ∧ BoxAt W0 w.heap.size 112 3 (w.heap.size + 1) [.bool false, .int .i64 0, .int .i64 0] ∧ Below w.heap.size w W0 ∧ W0.heap.size = w.heap.size + 2
theorem so_after {w W0 w' : World} {e : Nd} {gd : Bool} (hA : SoA w e W0) (hb : Below W0.drew.heap.size W0.drew w') : SoJ w e w'.heap.size gd 0 (w'.alloc (Obj.cells #[.bool gd, .int .i64 e.kind, .int .i64 0] 112)) := by
  have h1 : Below W0.heap.size W0 w' := ((Below.refl W0.heap.size W0).drew).trans hb
  have h2 := h1.size
  have h3 : Below W0.heap.size W0 (w'.alloc (Obj.cells #[.bool gd, .int .i64 e.kind, .int .i64 0] 112)) := h1.alloc h2 _
  have h4 := hA.2.2.2
  exact ⟨hA.1.below h3, hA.2.1.below h3, boxAt_new w' _ (by omega) rfl, by omega, hA.2.2.1.trans (h3.mono (by omega))⟩
theorem so_before {w W0 w' : World} {e : Nd} {gd : Bool} (hA : SoA w e W0) (hb : Below (W0.drew.alloc (Obj.cells #[.bool false, .int .i64 0, .int .i64 0] 112)).heap.size (W0.drew.alloc (Obj.cells #[.bool false, .int .i64 0, .int .i64 0] 112)) w') :
    SoJ w e (w.heap.size + 2) gd 0 (((w'.setCell ⟨w.heap.size + 2, 0, none⟩ (.bool gd)).setCell ⟨w.heap.size + 2, 1, none⟩ (.int .i64 e.kind)).setCell ⟨w.heap.size + 2, 2, none⟩ (.int .i64 0)) := by
  have h4 := hA.2.2.2
  have hd : W0.drew.heap.size = W0.heap.size := by simp
  have h0 : Below W0.heap.size W0 (W0.drew.alloc (Obj.cells #[.bool false, .int .i64 0, .int .i64 0] 112)) := ((Below.refl W0.heap.size W0).drew).alloc (by simp) _
  have h1 : Below W0.heap.size W0 w' := h0.trans (hb.mono (by simp))
  have hB : BoxAt w' w.heap.size 112 3 (w.heap.size + 2) [.bool false, .int .i64 0, .int .i64 0] := by
    have := boxAt_new W0.drew (base := w.heap.size) (t := 112) (sz := 3) #[.bool false, .int .i64 0, .int .i64 0] (by simp; omega) rfl
    rw [hd, h4] at this
    exact this.below hb
  refine ⟨(((hA.1.below h1).beside (by omega) 0 _).beside (by omega) 1 _).beside (by omega) 2 _, (((hA.2.1.below h1).beside (by omega) 0 _).beside (by omega) 1 _).beside (by omega) 2 _, ((hB.set 0 _).set 1 _).set 2 _, Nat.le_refl _, ?_⟩
  exact below_set (below_set (below_set (hA.2.2.1.trans (h1.mono (by omega))) (by omega) 0 _) (by omega) 1 _) (by omega) 2 _
/-- One round of shapeOf: the operand's block, then the stores. -/
structure SoK (w : World) (e : Nd) (WB OB : Nat) (v : Bool) (a : Nat) (x : Shape) (q : Nat) (wr : World) : Prop where
  so : SoJ w e WB v a wr
  ob : BoxAt wr w.heap.size 112 3 OB [.bool x.valid, .int .i64 x.kind, .int .i64 (q : Int)]
  ne : ¬ OB = WB
  ge : w.heap.size + 2 ≤ OB
theorem SoJ.round {w : World} {e : Nd} {WB : Nat} {v : Bool} {a : Nat} {wr : World} (h : SoJ w e WB v a wr) (x : Shape) : SoK w e WB wr.heap.size v a x x.nest (wr.alloc (Obj.cells #[.bool x.valid, .int .i64 x.kind, .int .i64 (x.nest : Int)] 112)) := by
  have hb : Below wr.heap.size wr (wr.alloc (Obj.cells #[.bool x.valid, .int .i64 x.kind, .int .i64 (x.nest : Int)] 112)) := (Below.refl _ _).alloc (Nat.le_refl _) _
  have h1 := h.whole.lt.2
  have h2 := h.ne
  exact ⟨h.move hb, boxAt_new wr _ h.below.size rfl, by omega, by omega⟩
theorem SoK.valid {w : World} {e : Nd} {WB OB : Nat} {v : Bool} {a : Nat} {x : Shape} {q : Nat} {wr : World} (h : SoK w e WB OB v a x q wr) (v2 : Bool) : SoK w e WB OB v2 a x q (wr.setCell ⟨WB, 0, none⟩ (.bool v2)) := by
  have h2 := h.so.ne
  exact ⟨⟨h.so.node.beside (by omega) 0 _, h.so.res.beside (by omega) 0 _, h.so.whole.set 0 _, h2, below_set h.so.below (by omega) 0 _⟩, h.ob.beside h.ne 0 _, h.ne, h.ge⟩
theorem SoK.more {w : World} {e : Nd} {WB OB : Nat} {v : Bool} {a : Nat} {x : Shape} {q : Nat} {wr : World} (h : SoK w e WB OB v a x q wr) (q2 : Nat) : SoK w e WB OB v a x q2 (wr.setCell ⟨OB, 2, none⟩ (.int .i64 (q2 : Int))) := by
  have h2 := h.so.ne
  have h3 := h.ge
  have h4 := h.ne
  exact ⟨⟨h.so.node.beside (by omega) 2 _, h.so.res.beside (by omega) 2 _, h.so.whole.beside (by omega) 2 _, h2, below_set h.so.below (by omega) 2 _⟩, h.ob.set 2 _, h.ne, h.ge⟩
theorem SoK.done {w : World} {e : Nd} {WB OB : Nat} {v : Bool} {a : Nat} {x : Shape} {q : Nat} {wr : World} (h : SoK w e WB OB v a x q wr) (a2 : Nat) : SoJ w e WB v a2 (wr.setCell ⟨WB, 2, none⟩ (.int .i64 (a2 : Int))) := by
  have h2 := h.so.ne
  exact ⟨h.so.node.beside (by omega) 2 _, h.so.res.beside (by omega) 2 _, h.so.whole.set 2 _, h2, below_set h.so.below (by omega) 2 _⟩
theorem take_all {os : List Shape} {j : Nat} {x : Shape} (h : os[j]? = some x) : (os.take (j + 1)).all (·.valid) = ((os.take j).all (·.valid) && x.valid) := by
  rw [List.take_add_one, h]
  simp
theorem nestFrom_at (op : Int) {os : List Shape} {j a : Nat} {o : Shape} (h : os[j]? = some o) : nestFrom op j a (os.drop j) = nestFrom op (j + 1) (max a (o.nest + if level op j o.kind then 1 else 0)) (os.drop (j + 1)) := by
  have hj := (List.getElem?_eq_some_iff.1 h).1
  rw [List.drop_eq_getElem_cons hj, show os[j] = o from Option.some.inj ((List.getElem?_eq_getElem hj).symm.trans h)]
  rfl
set_option maxHeartbeats 8000000 in
theorem shapeOf_core {w : World} {b o cap : Nat} {os : List Shape} (e : Nd) (h : ShsAt w b o os) (hbl : b < w.heap.size) (hl : os.length ≤ cap) (h3 : os.length ≤ 3) (hcap : cap ≤ 9223372036854775807) (hN : ∀ x ∈ os, x.nest ≤ 1000) (hs : e.s.size ≤ maxLen) (ht : e.t.size ≤ maxLen) :
    Calls Tryz.prog 72 #[e.v, .slice (some ⟨b, o, none⟩) os.length cap] w fun r w' => r = .returned (.agg #[.bool (shapeM goodB e os).valid, .int .i64 e.kind, .int .i64 ((shapeM goodB e os).nest : Int)]) ∧ Below w.heap.size w w' := by
  have HF : Hid (ShsAt w b o os ∧ (∀ x ∈ os, x.nest ≤ 1000) ∧ e.s.size ≤ maxLen ∧ e.t.size ≤ maxLen) := ⟨h, hN, hs, ht⟩
  obtain ⟨n, hn⟩ : ∃ n, n = os.length := ⟨_, rfl⟩
  have HL : Hid (n = os.length) := hn
  rw [← hn] at hl h3 ⊢
  clear h hN hs ht hn
  obtain ⟨gd, hgd⟩ : ∃ gd, gd = goodB e := ⟨_, rfl⟩
  have HG : Hid (gd = goodB e) := hgd
  have HVal : Hid (∀ w, Calls Tryz.prog 100 #[.agg #[.int .i64 e.kind, .string e.s, .bool e.hi, .string e.t, .int .u64 e.lo, .int .u64 e.up, .int .i64 e.n]] w fun r w' => r = .returned (.bool gd) ∧ Below w.heap.size w w') := fun w => by
    rw [hgd]; exact valid_is e w HF.out.2.2.1 HF.out.2.2.2
  clear hgd
  obtain ⟨W0, hW0⟩ : ∃ W0 : World, W0 = (w.alloc (Obj.cells #[.int .i64 e.kind, .string e.s, .bool e.hi, .string e.t, .int .u64 e.lo, .int .u64 e.up, .int .i64 e.n] 65)).alloc (Obj.cells #[.bool false, .int .i64 0, .int .i64 0] 112) := ⟨_, rfl⟩
  have HW0 : Hid (BoxAt W0 w.heap.size 65 7 w.heap.size e.seven ∧ BoxAt W0 w.heap.size 112 3 (w.heap.size + 1) [.bool false, .int .i64 0, .int .i64 0] ∧ Below w.heap.size w W0 ∧ W0.heap.size = w.heap.size + 2) := by
    rw [hW0]
    exact ⟨BoxAt.ofHeap (vs := #[.int .i64 e.kind, .string e.s, .bool e.hi, .string e.t, .int .u64 e.lo, .int .u64 e.up, .int .i64 e.n]) (heap_alloc2_old w _ _) (Nat.le_refl _) rfl, BoxAt.ofHeap (vs := #[.bool false, .int .i64 0, .int .i64 0]) (heap_alloc2_new w _ _) (by omega) rfl, ((Below.refl _ _).alloc (Nat.le_refl _) _).alloc (by simp) _, by simp⟩
  have c0 := HW0.out.1.cell (j := 0) rfl
  have c1 := HW0.out.1.cell (j := 1) rfl
  have c2 := HW0.out.1.cell (j := 2) rfl
  have c3 := HW0.out.1.cell (j := 3) rfl
  have c4 := HW0.out.1.cell (j := 4) rfl
  have c5 := HW0.out.1.cell (j := 5) rfl
  have c6 := HW0.out.1.cell (j := 6) rfl
  have hz := HW0.out.2.2.2
  obtain ⟨tot, htot⟩ : ∃ tot, tot = (shapeM goodB e os).nest := ⟨_, rfl⟩
  have HT : Hid (nestFrom e.kind 0 0 os = tot) := by rw [htot]; exact (rfl : nestFrom e.kind 0 0 os = _)
  have HV : Hid ((shapeM goodB e os).valid = (gd && os.all (·.valid))) := by
    show (shapeM goodB e os).valid = _
    rw [HG.out]; rfl
  rw [← htot]
  clear htot
  go_enter Tryz.func72, Tryz.ntmps72
  go_upto_region 1 with fail
  rw [← hW0]
  clear hW0
  go_cut [5] (fun s wx => ∃ WB, s = .pointer (some ⟨WB, 0, none⟩) ∧ SoJ w e WB gd 0 wx)
  case first =>
    have hlt0 : w.heap.size < W0.heap.size := by omega
    have c0a : ∀ o, (W0.alloc o).cell? ⟨w.heap.size, 0, none⟩ = some (.int .i64 e.kind) := fun o => by rw [((Below.refl W0.heap.size W0).alloc (Nat.le_refl _) o).cell (p := ⟨w.heap.size, 0, none⟩) hlt0]; exact c0
    go_region_law ((go_simp; go_at_call 100; refine (HVal.out _).mono ?_; rintro r w' ⟨rfl, hbb⟩; obtain ⟨hcc, hff⟩ := bcell hbb; have hsz' := hbb.size; have k0 : w'.cell? ⟨w.heap.size, 0, none⟩ = some (.int .i64 e.kind) := by { rw [hcc w.heap.size 0 (by simp; omega)]; first | exact c0 | (simp; first | exact c0 | exact c0a _) }; have kl : w.heap.size < w'.heap.size := by { simp at hsz'; omega }; have k0a : ∀ o, (w'.alloc o).cell? ⟨w.heap.size, 0, none⟩ = some (.int .i64 e.kind) := fun o => by { rw [((Below.refl w'.heap.size w').alloc (Nat.le_refl _) o).cell (p := ⟨w.heap.size, 0, none⟩) kl]; exact k0 }))
    all_goals go_wp2_with fail
    all_goals go_meet
    all_goals first
      | exact ⟨_, rfl, so_after HW0.out hbb⟩
      | exact ⟨_, rfl, so_before HW0.out hbb⟩
  case rest =>
  obtain ⟨WB, rfl, hJ⟩ := hcut
  have HJ0 : Hid (SoJ w e WB gd 0 wc) := hJ
  clear hJ c0 c1 c2 c3 c4 c5 c6 hz HW0 HVal
  go_wp2_with fail
  go_loopw [15] (fun iv wr => ∃ (j a : Nat) (v : Bool), iv = .int .i64 (j : Int) ∧ j ≤ n ∧ a ≤ 2000 ∧ v = (gd && (os.take j).all (·.valid)) ∧ nestFrom e.kind j a (os.drop j) = tot ∧ SoJ w e WB v a wr) (fun iv _ => n - (intOf iv).toNat)
  case atStart => exact ⟨0, 0, gd, rfl, Nat.zero_le _, Nat.zero_le _, by simp, HT.out, HJ0.out⟩
  case round =>
    obtain ⟨j, a, v, rfl, hj, ha, hv, hN, hJ⟩ := hrel
    have HJ : Hid (v = (gd && (os.take j).all (·.valid)) ∧ nestFrom e.kind j a (os.drop j) = tot ∧ SoJ w e WB v a wr) := ⟨hv, hN, hJ⟩
    have hWB := hJ.whole.lt
    have hWn := hJ.ne
    clear hv hN hJ HJ0 HT
    by_cases hlt : j < n
    · have zj : (j : Int) < (n : Int) := by omega
      obtain ⟨x, hx⟩ : ∃ x, os[j]? = some x := ⟨_, List.getElem?_eq_getElem (by have := HL.out; omega)⟩
      obtain ⟨d0, d1, d2⟩ := (HF.out.1.below HJ.out.2.2.below hbl) j x hx
      have hxn := HF.out.2.1 x (List.mem_of_getElem? hx)
      have HX : Hid (os[j]? = some x) := hx
      obtain ⟨W1, hW1⟩ : ∃ W1 : World, W1 = wr.alloc (Obj.cells #[.bool x.valid, .int .i64 x.kind, .int .i64 (x.nest : Int)] 112) := ⟨_, rfl⟩
      have HK1 : Hid (SoK w e WB wr.heap.size v a x x.nest W1) := by rw [hW1]; exact HJ.out.2.2.round x
      clear hx
      go_upto_region 5 with fail
      rw [← hW1]
      clear hW1 d0 d1 d2
      obtain ⟨v0, hv0⟩ : ∃ v0, v0 = v := ⟨_, rfl⟩
      have HV0 : Hid (v0 = (gd && (os.take j).all (·.valid))) := by rw [hv0]; exact HJ.out.1
      have HN0 : Hid (nestFrom e.kind j a (os.drop j) = tot) := HJ.out.2.1
      clear HJ
      have w0 := HK1.out.so.whole.cell (j := 0) rfl
      have w0f := HK1.out.so.whole.frozen 0
      have o0 := HK1.out.ob.cell (j := 0) rfl
      have hne := HK1.out.ne
      have hge := HK1.out.ge
      cases v
      · have hv0' : v0 = false := hv0
        clear hv0
        obtain ⟨W2, hW2⟩ : ∃ W2 : World, W2 = W1.setCell ⟨WB, 0, none⟩ (.bool false) := ⟨_, rfl⟩
        have HK2 : Hid (SoK w e WB wr.heap.size false a x x.nest W2) := by rw [hW2]; exact HK1.out.valid false
        have HVn : Hid (false = (gd && (os.take (j + 1)).all (·.valid))) := by
          show false = _
          rw [take_all HX.out, ← Bool.and_assoc, ← HV0.out, hv0']
          simp
        go_upto_region 6 with fail
        rw [← hW2]
        clear hW2 w0 w0f o0 HK1 HV0
        have m0 := HK2.out.so.node.cell (j := 0) rfl
        have o1 := HK2.out.ob.cell (j := 1) rfl
        have o2 := HK2.out.ob.cell (j := 2) rfl
        have o2f := HK2.out.ob.frozen 2
        have w2 := HK2.out.so.whole.cell (j := 2) rfl
        have w2f := HK2.out.so.whole.frozen 2
        have fin : ∀ (y : Nat), y = max a (x.nest + (if level e.kind j x.kind then 1 else 0)) → nestFrom e.kind (j + 1) y (os.drop (j + 1)) = tot := fun y hy => by
          rw [hy, ← nestFrom_at e.kind HX.out]; exact HN0.out
        by_cases h16 : e.kind = 16
        · have hlv : level e.kind j x.kind = true := by unfold level; rw [h16]; rfl
          have z16 : (e.kind == 16) = true := by simpa using h16
          clear h16
          obtain ⟨W3, hW3⟩ : ∃ W3 : World, W3 = W2.setCell ⟨wr.heap.size, 2, none⟩ (.int .i64 ((x.nest : Int) + 1)) := ⟨_, rfl⟩
          have HK3 : Hid (SoK w e WB wr.heap.size false a x (x.nest + 1) W3) := by rw [hW3]; exact HK2.out.more (x.nest + 1)
          go_upto_region 8 with fail
          rw [← hW3]
          clear hW3 m0 o1 o2 o2f w2 w2f HK2
          have o2 := HK3.out.ob.cell (j := 2) rfl
          have w2 := HK3.out.so.whole.cell (j := 2) rfl
          have w2f := HK3.out.so.whole.frozen 2
          obtain ⟨a2, ha2⟩ : ∃ a2, a2 = max a (x.nest + 1) := ⟨_, rfl⟩
          have HFin : Hid (nestFrom e.kind (j + 1) a2 (os.drop (j + 1)) = tot ∧ a2 ≤ 2000) := ⟨fin a2 (by rw [ha2, hlv]; rfl), by omega⟩
          have ha3 : max (a : Int) ((x.nest : Int) + 1) = (a2 : Int) := by omega
          clear fin hlv ha2
          go_wp2_with fail
          go_roundw
          case rel =>
            refine ⟨j + 1, a2, false, by go_num, by omega, HFin.out.2, HVn.out, HFin.out.1, ?_⟩
            exact HK3.out.done a2
          case measure => simp [intOf]; omega
        · have z16 : (e.kind == 16) = false := by simpa using h16
          go_wp2_with fail
          refine (inParens_core e.kind j x.kind _ h16).mono ?_
          rintro r w9 ⟨rfl, hw9⟩
          rw [hw9]
          clear hw9 h16
          cases hlv : level e.kind j x.kind
          · skip
            obtain ⟨a2, ha2⟩ : ∃ a2, a2 = max a (x.nest) := ⟨_, rfl⟩
            have HFin : Hid (nestFrom e.kind (j + 1) a2 (os.drop (j + 1)) = tot ∧ a2 ≤ 2000) := ⟨fin a2 (by rw [ha2, hlv]; rfl), by omega⟩
            have ha3 : max (a : Int) ((x.nest : Int)) = (a2 : Int) := by omega
            clear fin hlv ha2
            go_wp2_with fail
            go_roundw
            case rel =>
              refine ⟨j + 1, a2, false, by go_num, by omega, HFin.out.2, HVn.out, HFin.out.1, ?_⟩
              exact HK2.out.done a2
            case measure => simp [intOf]; omega
          · skip
            obtain ⟨W3, hW3⟩ : ∃ W3 : World, W3 = W2.setCell ⟨wr.heap.size, 2, none⟩ (.int .i64 ((x.nest : Int) + 1)) := ⟨_, rfl⟩
            have HK3 : Hid (SoK w e WB wr.heap.size false a x (x.nest + 1) W3) := by rw [hW3]; exact HK2.out.more (x.nest + 1)
            go_upto_region 8 with fail
            rw [← hW3]
            clear hW3 m0 o1 o2 o2f w2 w2f HK2
            have o2 := HK3.out.ob.cell (j := 2) rfl
            have w2 := HK3.out.so.whole.cell (j := 2) rfl
            have w2f := HK3.out.so.whole.frozen 2
            obtain ⟨a2, ha2⟩ : ∃ a2, a2 = max a (x.nest + 1) := ⟨_, rfl⟩
            have HFin : Hid (nestFrom e.kind (j + 1) a2 (os.drop (j + 1)) = tot ∧ a2 ≤ 2000) := ⟨fin a2 (by rw [ha2, hlv]; rfl), by omega⟩
            have ha3 : max (a : Int) ((x.nest : Int) + 1) = (a2 : Int) := by omega
            clear fin hlv ha2
            go_wp2_with fail
            go_roundw
            case rel =>
              refine ⟨j + 1, a2, false, by go_num, by omega, HFin.out.2, HVn.out, HFin.out.1, ?_⟩
              exact HK3.out.done a2
            case measure => simp [intOf]; omega
      · have hv0' : v0 = true := hv0
        clear hv0
        obtain ⟨W2, hW2⟩ : ∃ W2 : World, W2 = W1.setCell ⟨WB, 0, none⟩ (.bool x.valid) := ⟨_, rfl⟩
        have HK2 : Hid (SoK w e WB wr.heap.size x.valid a x x.nest W2) := by rw [hW2]; exact HK1.out.valid x.valid
        have HVn : Hid (x.valid = (gd && (os.take (j + 1)).all (·.valid))) := by
          show x.valid = _
          rw [take_all HX.out, ← Bool.and_assoc, ← HV0.out, hv0']
          simp
        go_upto_region 6 with fail
        rw [← hW2]
        clear hW2 w0 w0f o0 HK1 HV0
        have m0 := HK2.out.so.node.cell (j := 0) rfl
        have o1 := HK2.out.ob.cell (j := 1) rfl
        have o2 := HK2.out.ob.cell (j := 2) rfl
        have o2f := HK2.out.ob.frozen 2
        have w2 := HK2.out.so.whole.cell (j := 2) rfl
        have w2f := HK2.out.so.whole.frozen 2
        have fin : ∀ (y : Nat), y = max a (x.nest + (if level e.kind j x.kind then 1 else 0)) → nestFrom e.kind (j + 1) y (os.drop (j + 1)) = tot := fun y hy => by
          rw [hy, ← nestFrom_at e.kind HX.out]; exact HN0.out
        by_cases h16 : e.kind = 16
        · have hlv : level e.kind j x.kind = true := by unfold level; rw [h16]; rfl
          have z16 : (e.kind == 16) = true := by simpa using h16
          clear h16
          obtain ⟨W3, hW3⟩ : ∃ W3 : World, W3 = W2.setCell ⟨wr.heap.size, 2, none⟩ (.int .i64 ((x.nest : Int) + 1)) := ⟨_, rfl⟩
          have HK3 : Hid (SoK w e WB wr.heap.size x.valid a x (x.nest + 1) W3) := by rw [hW3]; exact HK2.out.more (x.nest + 1)
          go_upto_region 8 with fail
          rw [← hW3]
          clear hW3 m0 o1 o2 o2f w2 w2f HK2
          have o2 := HK3.out.ob.cell (j := 2) rfl
          have w2 := HK3.out.so.whole.cell (j := 2) rfl
          have w2f := HK3.out.so.whole.frozen 2
          obtain ⟨a2, ha2⟩ : ∃ a2, a2 = max a (x.nest + 1) := ⟨_, rfl⟩
          have HFin : Hid (nestFrom e.kind (j + 1) a2 (os.drop (j + 1)) = tot ∧ a2 ≤ 2000) := ⟨fin a2 (by rw [ha2, hlv]; rfl), by omega⟩
          have ha3 : max (a : Int) ((x.nest : Int) + 1) = (a2 : Int) := by omega
          clear fin hlv ha2
          go_wp2_with fail
          go_roundw
          case rel =>
            refine ⟨j + 1, a2, x.valid, by go_num, by omega, HFin.out.2, HVn.out, HFin.out.1, ?_⟩
            exact HK3.out.done a2
          case measure => simp [intOf]; omega
        · have z16 : (e.kind == 16) = false := by simpa using h16
          go_wp2_with fail
          refine (inParens_core e.kind j x.kind _ h16).mono ?_
          rintro r w9 ⟨rfl, hw9⟩
          rw [hw9]
          clear hw9 h16
          cases hlv : level e.kind j x.kind
          · skip
            obtain ⟨a2, ha2⟩ : ∃ a2, a2 = max a (x.nest) := ⟨_, rfl⟩
            have HFin : Hid (nestFrom e.kind (j + 1) a2 (os.drop (j + 1)) = tot ∧ a2 ≤ 2000) := ⟨fin a2 (by rw [ha2, hlv]; rfl), by omega⟩
            have ha3 : max (a : Int) ((x.nest : Int)) = (a2 : Int) := by omega
            clear fin hlv ha2
            go_wp2_with fail
            go_roundw
            case rel =>
              refine ⟨j + 1, a2, x.valid, by go_num, by omega, HFin.out.2, HVn.out, HFin.out.1, ?_⟩
              exact HK2.out.done a2
            case measure => simp [intOf]; omega
          · skip
            obtain ⟨W3, hW3⟩ : ∃ W3 : World, W3 = W2.setCell ⟨wr.heap.size, 2, none⟩ (.int .i64 ((x.nest : Int) + 1)) := ⟨_, rfl⟩
            have HK3 : Hid (SoK w e WB wr.heap.size x.valid a x (x.nest + 1) W3) := by rw [hW3]; exact HK2.out.more (x.nest + 1)
            go_upto_region 8 with fail
            rw [← hW3]
            clear hW3 m0 o1 o2 o2f w2 w2f HK2
            have o2 := HK3.out.ob.cell (j := 2) rfl
            have w2 := HK3.out.so.whole.cell (j := 2) rfl
            have w2f := HK3.out.so.whole.frozen 2
            obtain ⟨a2, ha2⟩ : ∃ a2, a2 = max a (x.nest + 1) := ⟨_, rfl⟩
            have HFin : Hid (nestFrom e.kind (j + 1) a2 (os.drop (j + 1)) = tot ∧ a2 ≤ 2000) := ⟨fin a2 (by rw [ha2, hlv]; rfl), by omega⟩
            have ha3 : max (a : Int) ((x.nest : Int) + 1) = (a2 : Int) := by omega
            clear fin hlv ha2
            go_wp2_with fail
            go_roundw
            case rel =>
              refine ⟨j + 1, a2, x.valid, by go_num, by omega, HFin.out.2, HVn.out, HFin.out.1, ?_⟩
              exact HK3.out.done a2
            case measure => simp [intOf]; omega
    · have zj : ¬ (j : Int) < (n : Int) := by omega
      have HFi : Hid (a = tot ∧ v = (shapeM goodB e os).valid) := by
        show _ ∧ _
        have h1 := HJ.out.2.1
        have h2 := HJ.out.1
        have hln := HL.out
        rw [List.drop_eq_nil_of_le (by omega)] at h1
        rw [List.take_of_length_le (by omega)] at h2
        exact ⟨h1, by rw [h2, HV.out]⟩
      have w0 := HJ.out.2.2.whole.cell (j := 0) rfl
      have w1 := HJ.out.2.2.whole.cell (j := 1) rfl
      have w2 := HJ.out.2.2.whole.cell (j := 2) rfl
      have r0 := HJ.out.2.2.res.cell (j := 0) rfl
      have r1 := HJ.out.2.2.res.cell (j := 1) rfl
      have r2 := HJ.out.2.2.res.cell (j := 2) rfl
      have f0 := HJ.out.2.2.res.frozen 0
      have f1 := HJ.out.2.2.res.frozen 1
      have f2 := HJ.out.2.2.res.frozen 2
      obtain ⟨W9, hW9⟩ : ∃ W9 : World, W9 = set3 wr (w.heap.size + 1) (.bool v) (.int .i64 e.kind) (.int .i64 (a : Int)) := ⟨_, rfl⟩
      have HW9 : Hid (BoxAt W9 w.heap.size 112 3 (w.heap.size + 1) [.bool v, .int .i64 e.kind, .int .i64 (a : Int)] ∧ Below w.heap.size w W9) := by
        rw [hW9]; exact ⟨HJ.out.2.2.res.set3 _ _ _, below_set3 HJ.out.2.2.below (by omega) _ _ _⟩
      have p0 := HW9.out.1.cell (j := 0) rfl
      have p1 := HW9.out.1.cell (j := 1) rfl
      have p2 := HW9.out.1.cell (j := 2) rfl
      unfold set3 at hW9
      go_wp2_with fail
      rw [← hW9]
      obtain ⟨rfl, hvv⟩ := HFi.out
      rw [← hvv]
      refine bodyPost_ret (v := .agg #[.bool v, .int .i64 e.kind, .int .i64 (a : Int)]) (by simp [results, Tryz.results72, go_sem, p0, p1, p2]) rfl ⟨rfl, HW9.out.2⟩
end Go.Proofs.YtgnpcenpcmdlfaaGreatDoor

/-
  impl.foldTree over shapeOf.
-/
namespace Go.Proofs.YtgnpcenpcmdlfaaGreatDoor
open Go.ChangeShapes Go.WideShapes Go.ChangeAt Go.RowKit Go.Deep
set_option linter.unusedVariables false
set_option linter.unusedSimpArgs false
set_option maxRecDepth 100000

theorem Tryz.infoSh : (Tryz.prog.info? 112).map (fun i => (i.zero, i.size, i.bytes)) = some (some (.agg #[.bool false, .int .i64 0, .int .i64 0]), 3, 24) := by kernel_rfl
/-- One shape appended, at a step of a region that draws. -/
theorem step_append_shape {ops : Array Oper} {oo : Oper} {a : Act} {K : Act → World → Prop} {Q : Exit → Act → World → Prop} {E : Prop} (w : World) (hgd : oo.guard = none) (s x : Operand)
    (ho : oo.op = .call { callee := .builtin .append, args := #[s, x], argTypes := #[144, 144] })
    (base n g cp blk : Nat) (ss : List Shape) (y : Shape) (hn : n = ss.length) (hs : a.eval s = .slice (some ⟨g, 0, none⟩) n cp) (hx : a.eval x = .slice (some ⟨blk, 0, none⟩) 1 1) (hO : OwnSh w base g cp ss)
    (hc : ShsAt w blk 0 [y]) (hlen : ss.length ≤ 1000) (hbase : base ≤ w.heap.size)
    (h : ∀ g' cp' w', OwnSh w' base g' cp' (ss ++ [y]) → w.grownBy w' (some g) → (g = g' ∨ g' = w.heap.size) → K (a.put oo.dst (.slice (some ⟨g', 0, none⟩) (n + 1) cp')) w') : if Region.wanted oo (yielded ops a.tmps) = true then Oper.wp Tryz.prog oo a w K Q else E := by
  subst hn
  obtain ⟨i, hi, hz0, hz1, hz2⟩ := info_parts Tryz.infoSh
  obtain ⟨c0, c1, c2⟩ := hc 0 y rfl
  refine step_append_lies w hgd s x 144 ho base 112 i _ 3 24 Tryz.underlying144 hi hz0 hz1 hz2 rfl (by decide) (.slice (some ⟨g, 0, none⟩) ss.length cp) ss.length (cellsS ss) hs hO ⟨blk, 0, none⟩ 1 1 (cellsS [y]) hx rfl ?_ ?_ (by decide) ?_ ?_ hbase w.heap.size rfl ?_
  · intro j u hu
    have hj : j < 3 := by
      have := (List.getElem?_eq_some_iff.1 hu).1
      rw [length_cellsS] at this
      simpa using this
    rw [Addr.add_mid]
    have hcs : cellsS [y] = y.three := by simp [cellsS]
    rw [hcs] at hu
    match j, hj with
    | 0, _ => simp at hu; rw [← hu]; simpa using c0
    | 1, _ => simp at hu; rw [← hu]; simpa using c1
    | 2, _ => simp at hu; rw [← hu]; simpa using c2
  · intro u hu
    have hcs : cellsS [y] = y.three := by simp [cellsS]
    rw [hcs] at hu
    simp at hu
    rcases hu with rfl | rfl | rfl <;> rfl
  · unfold maxLen; omega
  · omega
  · intro g' cp' w' hO' hgr hat hlt
    refine h g' cp' w' ?_ hgr ?_
    · unfold OwnSh
      rw [List.length_append, cellsS_append]
      exact hO'
    · simp [Value.ownBlock] at hat
      exact hat
theorem fold_nest {xs : List Nd} {ss : List Shape} (h : foldM goodB [] xs = some ss) : ∀ s ∈ ss, s.nest ≤ xs.length := by
  intro s hs
  obtain ⟨ks, rfl, hK⟩ := ShT.kids goodB (fold_tree goodB h)
  obtain ⟨k, hk, h3⟩ := kid_len goodB hK hs
  have h4 := len_flat hk
  have h5 := nest_len goodB _ (Nat.le_refl _) h3
  omega
structure FoJ (w : World) (xs : List Nd) (j g cp : Nat) (ss : List Shape) (wr : World) : Prop where
  fold : foldM goodB [] (xs.take j) = some ss
  own : OwnSh wr (w.heap.size + 1) g cp ss
  res : BoxAt wr w.heap.size 112 3 w.heap.size [.bool false, .int .i64 0, .int .i64 0]
  below : Below w.heap.size w wr
theorem FoJ.move {w : World} {xs : List Nd} {j g cp : Nat} {ss : List Shape} {wr w' : World} (h : FoJ w xs j g cp ss wr) (hb : Below wr.heap.size wr w') : FoJ w xs j g cp ss w' :=
  ⟨h.fold, h.own.below hb, h.res.below hb, h.below.trans (hb.mono h.below.size)⟩
theorem fold_next {xs : List Nd} {j : Nat} {ss : List Shape} {e : Nd} (h : foldM goodB [] (xs.take j) = some ss) (he : xs[j]? = some e) (hl : arity e.kind ≤ ss.length) : foldM goodB [] (xs.take (j + 1)) = some (ss.take (ss.length - arity e.kind) ++ [shapeM goodB e (ss.drop (ss.length - arity e.kind))]) := by
  rw [List.take_add_one, he, foldM_append, h]
  simp only [Option.toList, Option.bind_some, foldM, stepM]
  rw [if_neg (by omega)]
theorem fold_stop {xs : List Nd} {j : Nat} {ss : List Shape} {e : Nd} (h : foldM goodB [] (xs.take j) = some ss) (he : xs[j]? = some e) (hl : ss.length < arity e.kind) : foldM goodB [] xs = none := by
  have hj := (List.getElem?_eq_some_iff.1 he).1
  have : xs = xs.take j ++ e :: xs.drop (j + 1) := by
    conv => lhs; rw [← List.take_append_drop j xs, List.drop_eq_getElem_cons hj]
    rw [show xs[j] = e from Option.some.inj ((List.getElem?_eq_getElem hj).symm.trans he)]
  rw [this, foldM_append, h]
  simp only [Option.bind_some, foldM, stepM]
  rw [if_pos hl]
/-- What foldTree hands back. -/
def FoldPost (xs : List Nd) (w : World) (r : Ending) (w' : World) : Prop := Below w.heap.size w w' ∧ ((∃ s, foldM goodB [] xs = some [s] ∧ r = .returned (.tuple #[.agg #[.bool s.valid, .int .i64 s.kind, .int .i64 (s.nest : Int)], .bool true])) ∨ ((∀ s, ¬ foldM goodB [] xs = some [s]) ∧ r = .returned (.tuple #[.agg #[.bool false, .int .i64 0, .int .i64 0], .bool false])))
end Go.Proofs.YtgnpcenpcmdlfaaGreatDoor

/-
  Rows of printed trees; printNode over such a row.
-/
namespace Go.Proofs.YtgnpcenpcmdlfaaGreatDoor
open Go.ChangeShapes Go.WideShapes Go.ChangeAt Go.RowKit Go.Deep
set_option linter.unusedVariables false
set_option linter.unusedSimpArgs false
set_option maxRecDepth 100000

theorem foldG_next {T : Type} (V : Nd → List T → T) {xs : List Nd} {j : Nat} {ns : List T} {e : Nd} (h : foldV V [] (xs.take j) = some ns) (he : xs[j]? = some e) (hl : arity e.kind ≤ ns.length) : foldV V [] (xs.take (j + 1)) = some (ns.take (ns.length - arity e.kind) ++ [V e (ns.drop (ns.length - arity e.kind))]) := by
  rw [List.take_add_one, he, foldV_append, h]
  simp only [Option.toList, Option.bind_some, foldV, stepV]
  rw [if_neg (by omega)]
  rfl
theorem foldG_stop {T : Type} (V : Nd → List T → T) {xs : List Nd} {j : Nat} {ns : List T} {e : Nd} (h : foldV V [] (xs.take j) = some ns) (he : xs[j]? = some e) (hl : ns.length < arity e.kind) : foldV V [] xs = none := by
  have hj := (List.getElem?_eq_some_iff.1 he).1
  have : xs = xs.take j ++ e :: xs.drop (j + 1) := by
    conv => lhs; rw [← List.take_append_drop j xs, List.drop_eq_getElem_cons hj]
    rw [show xs[j] = e from Option.some.inj ((List.getElem?_eq_getElem hj).symm.trans he)]
  rw [this, foldV_append, h]
  simp only [Option.bind_some, foldV, stepV]
  rw [if_pos hl]
  rfl
/-- A printed tree in memory. -/
structure Po where
  kind : Int
  b : Nat
  c : Nat
  t : List UInt8
abbrev Po.pt (p : Po) : PT := (p.kind, p.t)
abbrev Po.two (p : Po) : List Value := [.int .i64 p.kind, .slice (some ⟨p.b, 0, none⟩) p.t.length p.c]
def cellsQ (ps : List Po) : List Value := ps.flatMap Po.two
theorem length_cellsQ (ss : List Po) : (cellsQ ss).length = ss.length * 2 := by
  induction ss with
  | nil => rfl
  | cons e es ih => simp only [cellsQ, List.flatMap_cons, List.length_append] at ih ⊢; rw [ih]; simp; omega
theorem cellsQ_append (es fs : List Po) : cellsQ (es ++ fs) = cellsQ es ++ cellsQ fs := by simp [cellsQ]
theorem cellsQ_get (es : List Po) : ∀ (k : Nat) (e : Po), es[k]? = some e → ∀ j, j < 2 → (cellsQ es)[k * 2 + j]? = e.two[j]? := by
  induction es with
  | nil => intro k e h; simp at h
  | cons f es ih =>
    intro k e h j hj
    have hc : cellsQ (f :: es) = f.two ++ cellsQ es := by simp [cellsQ]
    rw [hc]
    cases k with
    | zero =>
      simp at h; subst h
      rw [List.getElem?_append_left (by show 0 * 2 + j < 2; omega)]
      simp
    | succ k =>
      simp at h
      rw [List.getElem?_append_right (by show 2 ≤ (k + 1) * 2 + j; omega)]
      have : (k + 1) * 2 + j - f.two.length = k * 2 + j := by show (k + 1) * 2 + j - 2 = _; omega
      rw [this]; exact ih k e h j hj
theorem cellsQ_take (es : List Po) (k : Nat) : cellsQ (es.take k) = (cellsQ es).take (k * 2) := by
  induction es generalizing k with
  | nil => simp [cellsQ]
  | cons f es ih =>
    cases k with
    | zero => simp [cellsQ]
    | succ k =>
      have hc : cellsQ (f :: es) = f.two ++ cellsQ es := by simp [cellsQ]
      have hd : cellsQ (f :: es.take k) = f.two ++ cellsQ (es.take k) := by simp [cellsQ]
      have e1 : (k + 1) * 2 = f.two.length + k * 2 := by show (k + 1) * 2 = 2 + k * 2; omega
      rw [List.take_succ_cons, hd, hc, ih, e1, List.take_length_add_append]
/-- Printed trees at ⟨b, o⟩. -/
def QsAt (w : World) (b o : Nat) (ps : List Po) : Prop := ∀ i p, ps[i]? = some p → w.cell? ⟨b, o + i * 2, none⟩ = some (.int .i64 p.kind) ∧ w.cell? ⟨b, o + i * 2 + 1, none⟩ = some (.slice (some ⟨p.b, 0, none⟩) p.t.length p.c)
theorem QsAt.below {B : Nat} {w w' : World} {b o : Nat} {ss : List Po} (h : QsAt w b o ss) (hb : Below B w w') (hlt : b < B) : QsAt w' b o ss := by
  intro i e he
  have := h i e he
  refine ⟨?_, ?_⟩
  all_goals rw [hb.cell (by exact hlt)]
  · exact this.1
  · exact this.2
theorem QsAt.drop {w : World} {b o : Nat} {ss : List Po} (h : QsAt w b o ss) (k : Nat) : QsAt w b (o + k * 2) (ss.drop k) := by
  intro i s hs
  have := h (k + i) s (by rw [← List.getElem?_drop]; exact hs)
  rw [Nat.add_mul, ← Nat.add_assoc] at this
  exact this
def OwnPo (w : World) (base g cp : Nat) (ps : List Po) : Prop := w.ownsRow base 67 2 (.slice (some ⟨g, 0, none⟩) ps.length cp) ps.length (cellsQ ps)
theorem OwnPo.lt {w : World} {base g cp : Nat} {ss : List Po} (h : OwnPo w base g cp ss) : base ≤ g ∧ g < w.heap.size := World.ownsRow.lt h g rfl
theorem OwnPo.below {w w' : World} {base g cp : Nat} {ss : List Po} (h : OwnPo w base g cp ss) (hb : Below w.heap.size w w') : OwnPo w' base g cp ss := own_chg h (Chg.of_below hb) (S := fun _ => False) (fun k q z => z)
theorem OwnPo.at {w : World} {base g cp : Nat} {ss : List Po} (h : OwnPo w base g cp ss) : QsAt w g 0 ss := by
  intro i e he
  have hi : i < ss.length := (List.getElem?_eq_some_iff.1 he).1
  have c := fun j (hj : j < 2) => (World.ownsRow.cellAt h (i * 2 + j) (by omega)).trans (cellsQ_get ss i e he j hj)
  refine ⟨?_, ?_⟩
  · rw [Nat.zero_add]; exact c 0 (by omega)
  · rw [Nat.zero_add]; exact c 1 (by omega)
theorem OwnPo.caps {w : World} {base g cp : Nat} {ss : List Po} (h : OwnPo w base g cp ss) : ss.length ≤ cp ∧ cp ≤ maxLen := by
  rcases h.2 with ⟨h0, _⟩ | ⟨g', cap', cur, hv, _, _, hn, hcap, _, _⟩
  · cases h0
  · simp only [Value.slice.injEq, Option.some.injEq, Addr.mk.injEq, and_true, true_and] at hv
    obtain ⟨rfl, rfl⟩ := hv
    exact ⟨hn, hcap⟩
theorem OwnPo.take {w : World} {base g cp : Nat} {ss : List Po} (h : OwnPo w base g cp ss) {k : Nat} (hk : k ≤ ss.length) : OwnPo w base g cp (ss.take k) := by
  rcases h.2 with ⟨h0, _⟩ | ⟨g', cap', cur, hv, h1, h2, h3, h4, h5, h6⟩
  · cases h0
  · simp only [Value.slice.injEq, Option.some.injEq, Addr.mk.injEq, and_true, true_and] at hv
    obtain ⟨rfl, rfl⟩ := hv
    have hl : (ss.take k).length = k := by rw [List.length_take]; omega
    refine ⟨by rw [length_cellsQ], .inr ⟨g, cp, cur, rfl, h1, h2, by omega, h4, h5, ?_⟩⟩
    rw [hl, cellsQ_take, ← h6, List.take_take]
    congr 1
    omega
theorem ownPo_new (w : World) {base : Nat} (hb : base ≤ w.heap.size) : OwnPo (w.alloc (Obj.cells #[] 67)) base w.heap.size 0 [] :=
  World.ownsRow_made w #[] 0 hb (Nat.zero_le _) (by simp)
theorem Tryz.infoPt : (Tryz.prog.info? 67).map (fun i => (i.zero, i.size, i.bytes)) = some (some (.agg #[.int .i64 0, .slice none 0 0]), 2, 32) := by kernel_rfl
/-- One printed tree appended, at a step of a region that draws. -/
theorem step_append_pt {ops : Array Oper} {oo : Oper} {a : Act} {K : Act → World → Prop} {Q : Exit → Act → World → Prop} {E : Prop} (w : World) (hgd : oo.guard = none) (s x : Operand)
    (ho : oo.op = .call { callee := .builtin .append, args := #[s, x], argTypes := #[116, 116] })
    (base n g cp blk : Nat) (ss : List Po) (y : Po) (hn : n = ss.length) (hs : a.eval s = .slice (some ⟨g, 0, none⟩) n cp) (hx : a.eval x = .slice (some ⟨blk, 0, none⟩) 1 1) (hO : OwnPo w base g cp ss)
    (hc : QsAt w blk 0 [y]) (hlen : ss.length ≤ 1000) (hbase : base ≤ w.heap.size)
    (h : ∀ g' cp' w', OwnPo w' base g' cp' (ss ++ [y]) → w.grownBy w' (some g) → (g = g' ∨ g' = w.heap.size) → K (a.put oo.dst (.slice (some ⟨g', 0, none⟩) (n + 1) cp')) w') : if Region.wanted oo (yielded ops a.tmps) = true then Oper.wp Tryz.prog oo a w K Q else E := by
  subst hn
  obtain ⟨i, hi, hz0, hz1, hz2⟩ := info_parts Tryz.infoPt
  obtain ⟨c0, c1⟩ := hc 0 y rfl
  have hcs : cellsQ [y] = y.two := by simp [cellsQ]
  refine step_append_lies w hgd s x 116 ho base 67 i _ 2 32 Tryz.underlying116 hi hz0 hz1 hz2 rfl (by decide) (.slice (some ⟨g, 0, none⟩) ss.length cp) ss.length (cellsQ ss) hs hO ⟨blk, 0, none⟩ 1 1 (cellsQ [y]) hx rfl ?_ ?_ (by decide) ?_ ?_ hbase w.heap.size rfl ?_
  · intro j u hu
    have hj : j < 2 := by
      have := (List.getElem?_eq_some_iff.1 hu).1
      rw [length_cellsQ] at this
      simpa using this
    rw [Addr.add_mid]
    rw [hcs] at hu
    match j, hj with
    | 0, _ => simp at hu; rw [← hu]; simpa using c0
    | 1, _ => simp at hu; rw [← hu]; simpa using c1
  · intro u hu
    rw [hcs] at hu
    simp at hu
    rcases hu with rfl | rfl <;> rfl
  · unfold maxLen; omega
  · omega
  · intro g' cp' w' hO' hgr hat hlt
    refine h g' cp' w' ?_ hgr ?_
    · unfold OwnPo
      rw [List.length_append, cellsQ_append]
      exact hO'
    · simp [Value.ownBlock] at hat
      exact hat
theorem printNode_core (e : Nd) (g F c : Nat) (ps : List Po) (w : World) (hg : GoodN e) (hn : NumN e) (hl : ps.length = arity e.kind) (hgl : g < w.heap.size) (hQ : QsAt w g F ps) (hE : ∀ p ∈ ps, BysAt w p.b 0 p.t ∧ p.b < w.heap.size ∧ p.t.length ≤ 400000) (hG : Gl w) (hB : 7 ≤ w.heap.size) :
    Calls Tryz.prog 37 #[e.v, .slice (some ⟨g, F, none⟩) ps.length c] w (PnP e.kind (printV e (ps.map Po.pt)).2 w) := by
  obtain ⟨kind, s, hi, t, lo, up, n⟩ := e
  simp only at hl ⊢
  by_cases h14 : kind = 14
  · subst h14
    match ps, hl with
    | [p, q], _ =>
      have h0 := hQ 0 p rfl
      have h1 := hQ 1 q rfl
      simp only [Nat.zero_mul, Nat.one_mul, Nat.add_zero] at h0 h1
      have e0 := hE p (by simp)
      have e1 := hE q (by simp)
      have := printNode_14 s hi t lo up n g F c p.kind q.kind p.b p.c q.b q.c p.t q.t w hgl hG hB ⟨h0.1, h0.2, e0.1, e0.2.1⟩ ⟨h1.1, h1.2, e1.1, e1.2.1⟩ e0.2.2 e1.2.2
      have hv : (printV ⟨14, s, hi, t, lo, up, n⟩ ([p, q].map Po.pt)).2 = wrapT 14 0 (p.kind, p.t) ++ [32, 62, 32] ++ wrapT 14 1 (q.kind, q.t) := by simp [printV, joinM, sepM]
      rw [hv]
      exact this
  by_cases h15 : kind = 15
  · subst h15
    match ps, hl with
    | [p, q], _ =>
      have h0 := hQ 0 p rfl
      have h1 := hQ 1 q rfl
      simp only [Nat.zero_mul, Nat.one_mul, Nat.add_zero] at h0 h1
      have e0 := hE p (by simp)
      have e1 := hE q (by simp)
      have := printNode_15 s hi t lo up n g F c p.kind q.kind p.b p.c q.b q.c p.t q.t w hgl hG hB ⟨h0.1, h0.2, e0.1, e0.2.1⟩ ⟨h1.1, h1.2, e1.1, e1.2.1⟩ e0.2.2 e1.2.2
      have hv : (printV ⟨15, s, hi, t, lo, up, n⟩ ([p, q].map Po.pt)).2 = wrapT 15 0 (p.kind, p.t) ++ [32, 124, 32] ++ wrapT 15 1 (q.kind, q.t) := by simp [printV, joinM, sepM]
      rw [hv]
      exact this
  by_cases h16 : kind = 16
  · subst h16
    match ps, hl with
    | [p, q, r], _ =>
      have h0 := hQ 0 p rfl
      have h1 := hQ 1 q rfl
      have h2 := hQ 2 r rfl
      simp only [Nat.zero_mul, Nat.one_mul, Nat.add_zero, Nat.reduceMul] at h0 h1 h2
      have e0 := hE p (by simp)
      have e1 := hE q (by simp)
      have e2 := hE r (by simp)
      have := printNode_16 s hi t lo up n g F c p.kind q.kind r.kind p.b p.c q.b q.c r.b r.c p.t q.t r.t w hgl hG hB ⟨h0.1, h0.2, e0.1, e0.2.1⟩ ⟨h1.1, h1.2, e1.1, e1.2.1⟩ ⟨h2.1, h2.2, e2.1, e2.2.1⟩ e0.2.2 e1.2.2 e2.2.2
      have hv : (printV ⟨16, s, hi, t, lo, up, n⟩ ([p, q, r].map Po.pt)).2 = [105, 102, 40] ++ (p.t ++ [44, 32] ++ q.t ++ [44, 32] ++ r.t) ++ [41] := by simp [printV, joinM, sepM, wrapT, wrapB]
      rw [hv]
      exact this
  have ha : arity kind = 0 := by unfold arity; rw [if_neg (by omega), if_neg h16]
  obtain rfl : ps = [] := List.length_eq_zero_iff.1 (by rw [hl, ha])
  have := printNode_leaf kind s hi t lo up n (some ⟨g, F, none⟩) c w hg hn ha hG hB
  have hv : (printV ⟨kind, s, hi, t, lo, up, n⟩ (([] : List Po).map Po.pt)).2 = leafM ⟨kind, s, hi, t, lo, up, n⟩ := by simp [printV]
  rw [hv]
  exact this
end Go.Proofs.YtgnpcenpcmdlfaaGreatDoor

/-
  impl.foldTree, walked.
-/
namespace Go.Proofs.YtgnpcenpcmdlfaaGreatDoor
open Go.ChangeShapes Go.WideShapes Go.ChangeAt Go.RowKit Go.Deep
set_option linter.unusedVariables false
set_option linter.unusedSimpArgs false
set_option maxRecDepth 100000

/-- The state with the node and its shape laid. -/
structure FoK (w : World) (xs : List Nd) (j g cp : Nat) (ss : List Shape) (SB : Nat) (y : Shape) (wr : World) : Prop where
  fo : FoJ w xs j g cp ss wr
  box : BoxAt wr w.heap.size 112 3 SB y.three
  ne : ¬ SB = g
  ge : w.heap.size + 1 ≤ SB
theorem fo_after {w : World} {xs : List Nd} {j g cp : Nat} {ss : List Shape} {W1 w' : World} (y : Shape) (h : FoJ w xs j g cp ss W1) (hb : Below W1.drew.heap.size W1.drew w') : FoK w xs j g cp ss w'.heap.size y (w'.alloc (Obj.cells #[.bool y.valid, .int .i64 y.kind, .int .i64 (y.nest : Int)] 112)) := by
  have h1 : Below W1.heap.size W1 w' := ((Below.refl W1.heap.size W1).drew).trans hb
  have h2 := h1.size
  have h3 : Below W1.heap.size W1 (w'.alloc (Obj.cells #[.bool y.valid, .int .i64 y.kind, .int .i64 (y.nest : Int)] 112)) := h1.alloc h2 _
  have h4 := h.own.lt
  have h5 := h.below.size
  have h6 := h.res.lt
  exact ⟨h.move h3, boxAt_new w' _ (by omega) rfl, by omega, by omega⟩
theorem fo_before {w : World} {xs : List Nd} {j g cp : Nat} {ss : List Shape} {W1 w' : World} (y : Shape) (h : FoJ w xs j g cp ss W1) (hb : Below (W1.drew.alloc (Obj.cells #[.bool false, .int .i64 0, .int .i64 0] 112)).heap.size (W1.drew.alloc (Obj.cells #[.bool false, .int .i64 0, .int .i64 0] 112)) w') :
    FoK w xs j g cp ss W1.heap.size y (((w'.setCell ⟨W1.heap.size, 0, none⟩ (.bool y.valid)).setCell ⟨W1.heap.size, 1, none⟩ (.int .i64 y.kind)).setCell ⟨W1.heap.size, 2, none⟩ (.int .i64 (y.nest : Int))) := by
  have hd : W1.drew.heap.size = W1.heap.size := by simp
  have h0 : Below W1.heap.size W1 (W1.drew.alloc (Obj.cells #[.bool false, .int .i64 0, .int .i64 0] 112)) := ((Below.refl W1.heap.size W1).drew).alloc (by simp) _
  have h1 : Below W1.heap.size W1 w' := h0.trans (hb.mono (by simp))
  have h4 := h.own.lt
  have h5 := h.below.size
  have h6 := h.res.lt
  have hB : BoxAt w' w.heap.size 112 3 W1.heap.size [.bool false, .int .i64 0, .int .i64 0] := by
    have := boxAt_new W1.drew (base := w.heap.size) (t := 112) (sz := 3) #[.bool false, .int .i64 0, .int .i64 0] (by simp; omega) rfl
    rw [hd] at this
    exact this.below hb
  have hJ := h.move h1
  have hC : Chg (fun k => k = W1.heap.size) w' (((w'.setCell ⟨W1.heap.size, 0, none⟩ (.bool y.valid)).setCell ⟨W1.heap.size, 1, none⟩ (.int .i64 y.kind)).setCell ⟨W1.heap.size, 2, none⟩ (.int .i64 (y.nest : Int))) :=
    ((Chg.of_set w' W1.heap.size 0 _ (S := fun k => k = W1.heap.size) rfl).trans (Chg.of_set _ W1.heap.size 1 _ (S := fun k => k = W1.heap.size) rfl)).trans (Chg.of_set _ W1.heap.size 2 _ (S := fun k => k = W1.heap.size) rfl)
  refine ⟨⟨hJ.fold, own_chg hJ.own hC (fun k q => by simp [Value.ownBlock] at q; omega), hJ.res.chg hC (by omega), ?_⟩, ((hB.set 0 _).set 1 _).set 2 _, by omega, by omega⟩
  exact below_set (below_set (below_set hJ.below (by omega) 0 _) (by omega) 1 _) (by omega) 2 _
theorem sh_new (X : World) (y : Shape) (B : Nat) (hB : X.heap.size = B) : ShsAt (X.alloc (Obj.cells #[.bool y.valid, .int .i64 y.kind, .int .i64 (y.nest : Int)] 112)) B 0 [y] := by
  subst hB
  intro i s hs
  have hi : i = 0 := by have := (List.getElem?_eq_some_iff.1 hs).1; simpa using this
  subst hi
  simp at hs
  subst hs
  exact ⟨by simp, by simp, by simp⟩
theorem fo_push {w wc X w' : World} {xs : List Nd} {j g cp g' cp' fr : Nat} {ss : List Shape} {y : Shape} (h : FoJ w xs j g cp ss wc) (hX : Below wc.heap.size wc X) (hY : foldM goodB [] (xs.take (j + 1)) = some (ss.take fr ++ [y])) (hO : OwnSh w' (w.heap.size + 1) g' cp' (ss.take fr ++ [y])) (hgr : X.grownBy w' (some g)) (hm : fr = (ss.take fr).length) : FoJ w xs (j + 1) g' cp' (ss.take fr ++ [y]) w' ∧ fr + 1 ≤ cp' := by
  have hJ := h.move hX
  have h1 := hJ.own.lt
  have hC : Chg (fun k => k = g) X w' := Chg.of_grown hgr (fun k hk => by cases hk; rfl)
  refine ⟨⟨hY, hO, hJ.res.chg hC (by omega), Chg.below hJ.below hC hJ.below.size (fun k q => by omega)⟩, ?_⟩
  have := hO.caps.1
  rw [List.length_append, List.length_singleton, ← hm] at this
  exact this
set_option maxHeartbeats 16000000 in
theorem foldTree_win {w : World} {gN oN cpN : Nat} {xs : List Nd} (h : NdsAt w gN oN xs) (hg : gN < w.heap.size) (hok : ∀ e ∈ xs, e.ok) (hl : xs.length ≤ 200) :
    Calls Tryz.prog 71 #[.slice (some ⟨gN, oN, none⟩) xs.length cpN, .func (Fn.func 72) #[] #[]] w (FoldPost xs w) := by
  have HF : Hid (NdsAt w gN oN xs ∧ ∀ e ∈ xs, e.ok) := ⟨h, hok⟩
  obtain ⟨n, hn⟩ : ∃ n, n = xs.length := ⟨_, rfl⟩
  have HL : Hid (n = xs.length) := hn
  rw [← hn] at hl ⊢
  clear h hok hn
  obtain ⟨W0, hW0⟩ : ∃ W0 : World, W0 = (w.alloc (Obj.cells #[.bool false, .int .i64 0, .int .i64 0] 112)).alloc (Obj.cells #[] 112) := ⟨_, rfl⟩
  have HW0 : Hid (FoJ w xs 0 (w.heap.size + 1) 0 [] W0) := by
    obtain ⟨V, hV⟩ : ∃ V : World, V = w.alloc (Obj.cells #[.bool false, .int .i64 0, .int .i64 0] 112) := ⟨_, rfl⟩
    have hz : V.heap.size = w.heap.size + 1 := by rw [hV]; simp
    have hb : Below V.heap.size V W0 := by rw [hW0, ← hV]; exact (Below.refl _ _).alloc (Nat.le_refl _) _
    have hbV : Below w.heap.size w V := by rw [hV]; exact (Below.refl _ _).alloc (Nat.le_refl _) _
    have hB : BoxAt V w.heap.size 112 3 w.heap.size [.bool false, .int .i64 0, .int .i64 0] := by rw [hV]; exact boxAt_new w _ (Nat.le_refl _) rfl
    refine ⟨rfl, ?_, hB.below hb, hbV.trans (hb.mono (by omega))⟩
    rw [hW0, ← hV, ← hz]
    exact ownSh_new V (Nat.le_refl _)
  go_enter Tryz.func71, Tryz.ntmps71
  go_upto_region 2 with fail
  rw [← hW0]
  clear hW0
  go_wp2_with fail
  go_loopw [6, 14] (fun sv iv wr => ∃ (j m g cp : Nat) (ss : List Shape), iv = .int .i64 (j : Int) ∧ j ≤ n ∧ m = ss.length ∧ m ≤ j ∧ m ≤ cp ∧ sv = .slice (some ⟨g, 0, none⟩) m cp ∧ FoJ w xs j g cp ss wr) (fun _ iv _ => n - (intOf iv).toNat)
  case atStart => exact ⟨0, 0, _, 0, [], rfl, Nat.zero_le _, rfl, Nat.le_refl _, Nat.zero_le _, rfl, HW0.out⟩
  case round =>
    obtain ⟨j, m, g, cp, ss, rfl, hj, hm, hmj, hmc, rfl, hJ⟩ := hrel
    have HJ : Hid (m = ss.length ∧ FoJ w xs j g cp ss wr) := ⟨hm, hJ⟩
    have hgl := hJ.own.lt
    have hcp : cp ≤ 9223372036854775807 := by have := hJ.own.caps.2; unfold maxLen at this; omega
    have hsz := hJ.below.size
    have hrl := hJ.res.lt.2
    have r0 := hJ.res.cell (j := 0) rfl
    have r1 := hJ.res.cell (j := 1) rfl
    have r2 := hJ.res.cell (j := 2) rfl
    have f0 := hJ.res.frozen 0
    have f1 := hJ.res.frozen 1
    have f2 := hJ.res.frozen 2
    clear hm hJ HW0
    by_cases hlt : j < n
    · have zj : (j : Int) < (n : Int) := by omega
      obtain ⟨e, he⟩ : ∃ e, xs[j]? = some e := ⟨_, List.getElem?_eq_getElem (by have := HL.out; omega)⟩
      obtain ⟨d0, d1, d2, d3, d4, d5, d6⟩ := (HF.out.1.below HJ.out.2.below hg) j e he
      have ok := HF.out.2 e (List.mem_of_getElem? he)
      have HE : Hid (xs[j]? = some e ∧ e.s.size ≤ maxLen ∧ e.t.size ≤ maxLen) := ⟨he, ok.s, ok.t⟩
      clear ok he
      obtain ⟨W1, hW1⟩ : ∃ W1 : World, W1 = wr.alloc (Obj.cells #[.int .i64 e.kind, .string e.s, .bool e.hi, .string e.t, .int .u64 e.lo, .int .u64 e.up, .int .i64 e.n] 65) := ⟨_, rfl⟩
      have hb1 : Below wr.heap.size wr W1 := by rw [hW1]; exact (Below.refl _ _).alloc (Nat.le_refl _) _
      have hz1 : W1.heap.size = wr.heap.size + 1 := by rw [hW1]; simp
      have HJ1 : Hid (m = ss.length ∧ FoJ w xs j g cp ss W1 ∧ BoxAt W1 w.heap.size 65 7 wr.heap.size e.seven) := by
        refine ⟨HJ.out.1, HJ.out.2.move hb1, ?_⟩
        rw [hW1]; exact boxAt_new wr _ hsz rfl
      go_upto_region 5 with fail
      rw [← hW1]
      clear hW1 d0 d1 d2 d3 d4 d5 d6 r0 r1 r2 f0 f1 f2 HJ hb1
      have c0 := HJ1.out.2.2.cell (j := 0) rfl
      have c1 := HJ1.out.2.2.cell (j := 1) rfl
      have c2 := HJ1.out.2.2.cell (j := 2) rfl
      have c3 := HJ1.out.2.2.cell (j := 3) rfl
      have c4 := HJ1.out.2.2.cell (j := 4) rfl
      have c5 := HJ1.out.2.2.cell (j := 5) rfl
      have c6 := HJ1.out.2.2.cell (j := 6) rfl
      obtain ⟨a, ha⟩ : ∃ a, a = arity e.kind := ⟨_, rfl⟩
      have ha3 : a ≤ 3 := by rw [ha]; exact arity_le _
      have HAr : Hid (Calls Tryz.prog 73 #[.int .i64 e.kind] W1 fun r w' => r = .returned (.int .i64 (a : Int)) ∧ w' = W1) := by rw [ha]; exact operandCount_core e.kind W1
      have HAk : Hid (a = arity e.kind) := ha
      clear ha
      go_wp2_with fail
      refine HAr.out.mono ?_
      rintro r w9 ⟨rfl, hw9⟩
      rw [hw9]
      clear hw9 HAr
      by_cases hfr : m < a
      · have zf : (m : Int) - (a : Int) < 0 := by omega
        have r0 := HJ1.out.2.1.res.cell (j := 0) rfl
        have r1 := HJ1.out.2.1.res.cell (j := 1) rfl
        have r2 := HJ1.out.2.1.res.cell (j := 2) rfl
        have f0 := HJ1.out.2.1.res.frozen 0
        have f1 := HJ1.out.2.1.res.frozen 1
        have f2 := HJ1.out.2.1.res.frozen 2
        have HS : Hid (foldM goodB [] xs = none) := fold_stop HJ1.out.2.1.fold HE.out.1 (by rw [← HJ1.out.1, ← HAk.out]; exact hfr)
        obtain ⟨W9, hW9⟩ : ∃ W9 : World, W9 = set3 W1 w.heap.size (.bool false) (.int .i64 0) (.int .i64 0) := ⟨_, rfl⟩
        have HW9 : Hid (BoxAt W9 w.heap.size 112 3 w.heap.size [.bool false, .int .i64 0, .int .i64 0] ∧ Below w.heap.size w W9) := by
          rw [hW9]; exact ⟨HJ1.out.2.1.res.set3 _ _ _, below_set3 HJ1.out.2.1.below (Nat.le_refl _) _ _ _⟩
        have p0 := HW9.out.1.cell (j := 0) rfl
        have p1 := HW9.out.1.cell (j := 1) rfl
        have p2 := HW9.out.1.cell (j := 2) rfl
        unfold set3 at hW9
        go_wp2_with fail
        rw [← hW9]
        refine bodyPost_ret (v := .tuple #[.agg #[.bool false, .int .i64 0, .int .i64 0], .bool false]) (by simp [results, Tryz.results71, go_sem, p0, p1, p2]) rfl ⟨HW9.out.2, .inr ⟨fun s q => (by rw [HS.out] at q; cases q), rfl⟩⟩
      · obtain ⟨fr, hfrm⟩ : ∃ fr : Nat, (m : Int) - (a : Int) = (fr : Int) := ⟨m - a, by omega⟩
        have hfrle : fr ≤ m := by omega
        have HFr : Hid (fr = ss.length - arity e.kind ∧ arity e.kind ≤ ss.length) := by
          have h1 := HJ1.out.1
          have h2 := HAk.out
          exact ⟨by omega, by omega⟩
        have zf : ¬ (fr : Int) < 0 := by omega
        have z2 : (fr : Int) ≤ (m : Int) := by omega
        have z3 : (m : Int) ≤ (cp : Int) := by omega
        obtain ⟨y, hy⟩ : ∃ y, y = shapeM goodB e (ss.drop fr) := ⟨_, rfl⟩
        have HY : Hid (foldM goodB [] (xs.take (j + 1)) = some (ss.take fr ++ [y])) := by
          show _ = _
          rw [hy, HFr.out.1]
          exact fold_next HJ1.out.2.1.fold HE.out.1 HFr.out.2
        obtain ⟨ad, had⟩ : ∃ ad : Option Addr, (if cp = fr then some (⟨g, 0, none⟩ : Addr) else some ⟨g, fr * 3, none⟩) = ad := ⟨_, rfl⟩
        have HSh : Hid (∀ X, Below W1.heap.size W1 X → Calls Tryz.prog 72 #[.agg #[.int .i64 e.kind, .string e.s, .bool e.hi, .string e.t, .int .u64 e.lo, .int .u64 e.up, .int .i64 e.n], .slice ad (m - fr) (cp - fr)] X fun r w' => r = .returned (.agg #[.bool y.valid, .int .i64 y.kind, .int .i64 (y.nest : Int)]) ∧ Below X.heap.size X w') := fun X hX => by
          have hs1 := HJ1.out.2.1.own.at.below hX HJ1.out.2.1.own.lt.2
          have hs2 := hs1.drop fr
          rw [Nat.zero_add] at hs2
          have hlen : (ss.drop fr).length = m - fr := by rw [List.length_drop, ← HJ1.out.1]
          have hX2 := hX.size
          have hg2 := HJ1.out.2.1.own.lt.2
          have hnest : ∀ x ∈ ss.drop fr, x.nest ≤ 1000 := fun x hx => by
            have h1 := fold_nest HJ1.out.2.1.fold x (List.mem_of_mem_drop hx)
            rw [List.length_take] at h1
            omega
          have hos : (ss.drop fr).length ≤ 3 := by rw [hlen]; have := HFr.out.1; have := HAk.out; have := HJ1.out.1; omega
          rw [hy, ← had]
          by_cases hcf : cp = fr
          · rw [if_pos hcf]
            have hnil : ss.drop fr = [] := List.length_eq_zero_iff.1 (by rw [hlen]; omega)
            have h9 := shapeOf_core (w := X) (b := g) (o := 0) (cap := cp - fr) (os := ss.drop fr) e (by rw [hnil]; intro i s hs; simp at hs) (by omega) (by rw [hlen]; omega) hos (by omega) hnest HE.out.2.1 HE.out.2.2
            rw [hlen] at h9
            exact h9
          · rw [if_neg hcf]
            have h9 := shapeOf_core (w := X) (b := g) (o := fr * 3) (cap := cp - fr) (os := ss.drop fr) e hs2 (by omega) (by rw [hlen]; omega) hos (by omega) hnest HE.out.2.1 HE.out.2.2
            rw [hlen] at h9
            exact h9
        clear hy hfr
        go_upto_region 8 with fail
        go_cut [10] (fun sv wx => ∃ SB, sv = .pointer (some ⟨SB, 0, none⟩) ∧ FoK w xs j g cp ss SB y wx)
        case first =>
          go_region_law ((go_simp; go_at_call 72; refine (HSh.out _ ?hX).mono ?_; (case hX => (repeat (first | exact Below.refl _ _ | refine Below.drew ?_ | refine Below.alloc ?_ (by simp) _))); rintro r w' ⟨rfl, hbb⟩; obtain ⟨hcc, hff⟩ := bcell hbb; have hsz' := hbb.size))
          all_goals go_wp2_with fail
          all_goals go_meet
          all_goals first
            | exact ⟨_, rfl, fo_after y HJ1.out.2.1 hbb⟩
            | exact ⟨_, rfl, by have h9 := fo_before y HJ1.out.2.1 hbb; rw [hz1] at h9; exact h9⟩
        case rest =>
        obtain ⟨SB, rfl, hK⟩ := hcut
        have HK : Hid (FoK w xs j g cp ss SB y wc) := hK
        have b0 := hK.box.cell (j := 0) rfl
        have b1 := hK.box.cell (j := 1) rfl
        have b2 := hK.box.cell (j := 2) rfl
        have hgl2 := hK.fo.own.lt
        have hsb := hK.box.lt.2
        have hnsb := hK.ne
        have hsz2 := hK.fo.below.size
        have HM : Hid (fr = (ss.take fr).length) := by
          show fr = _
          rw [List.length_take, ← HJ1.out.1]
          omega
        clear hK c0 c1 c2 c3 c4 c5 c6 HSh
        go_upto_region 9 with fail
        have hfl : fr ≤ ss.length := by rw [← HJ1.out.1]; exact hfrle
        have z4 : (fr : Int) ≤ (cp : Int) := by omega
        have z5 : fr ≤ cp := by omega
        go_region_law ((refine step_append_shape _ (by rfl) _ _ (by rfl) (w.heap.size + 1) fr g cp wc.heap.size (ss.take fr) y HM.out (by rfl) (by rfl) ?hO ?hc ?hl ?hb ?_
                        case hO => (refine OwnSh.below (HK.out.fo.own.take hfl) ?_; repeat (first | exact Below.refl _ _ | refine Below.drew ?_ | refine Below.alloc ?_ (by simp) _))
                        case hc => exact sh_new _ y _ (by simp)
                        case hl => rw [← HM.out]; omega
                        case hb => simp; omega
                        intro g' cp' w' hO' hgr' hat'
                        have fin : Hid (FoJ w xs (j + 1) g' cp' (ss.take fr ++ [y]) w' ∧ fr + 1 ≤ cp') := fo_push HK.out.fo (by repeat (first | exact Below.refl _ _ | refine Below.drew ?_ | refine Below.alloc ?_ (by simp) _)) HY.out hO' hgr' HM.out
                        clear hO' hgr' hat'))
        all_goals go_wp2_with fail
        all_goals go_roundw
        all_goals first
          | exact ⟨j + 1, fr + 1, g', cp', ss.take fr ++ [y], by go_num, by omega, by rw [List.length_append, List.length_singleton, ← HM.out], by omega, fin.out.2, rfl, fin.out.1⟩
          | (simp [intOf]; omega)
    · have zj : ¬ (j : Int) < (n : Int) := by omega
      have HFo : Hid (foldM goodB [] xs = some ss) := by
        have h1 := HJ.out.2.fold
        rw [List.take_of_length_le (by have := HL.out; omega)] at h1
        exact h1
      by_cases hm1 : m = 1
      · subst hm1
        obtain ⟨s, rfl⟩ : ∃ s, ss = [s] := by
          have h1 := HJ.out.1
          match ss, h1 with
          | [s], _ => exact ⟨s, rfl⟩
        obtain ⟨e0, e1, e2⟩ := HJ.out.2.own.at 0 s rfl
        simp only [Nat.zero_add, Nat.zero_mul] at e0 e1 e2
        obtain ⟨W9, hW9⟩ : ∃ W9 : World, W9 = set3 wr w.heap.size (.bool s.valid) (.int .i64 s.kind) (.int .i64 (s.nest : Int)) := ⟨_, rfl⟩
        have HW9 : Hid (BoxAt W9 w.heap.size 112 3 w.heap.size [.bool s.valid, .int .i64 s.kind, .int .i64 (s.nest : Int)] ∧ Below w.heap.size w W9) := by
          rw [hW9]; exact ⟨HJ.out.2.res.set3 _ _ _, below_set3 HJ.out.2.below (Nat.le_refl _) _ _ _⟩
        have p0 := HW9.out.1.cell (j := 0) rfl
        have p1 := HW9.out.1.cell (j := 1) rfl
        have p2 := HW9.out.1.cell (j := 2) rfl
        unfold set3 at hW9
        go_wp2_with fail
        rw [← hW9]
        refine bodyPost_ret (v := .tuple #[.agg #[.bool s.valid, .int .i64 s.kind, .int .i64 (s.nest : Int)], .bool true]) (by simp [results, Tryz.results71, go_sem, p0, p1, p2]) rfl ⟨HW9.out.2, .inl ⟨s, HFo.out, rfl⟩⟩
      · have zm : ((m : Int) != 1) = true := by have : ¬ (m : Int) = 1 := (by omega); simpa using this
        obtain ⟨W9, hW9⟩ : ∃ W9 : World, W9 = set3 wr w.heap.size (.bool false) (.int .i64 0) (.int .i64 0) := ⟨_, rfl⟩
        have HW9 : Hid (BoxAt W9 w.heap.size 112 3 w.heap.size [.bool false, .int .i64 0, .int .i64 0] ∧ Below w.heap.size w W9) := by
          rw [hW9]; exact ⟨HJ.out.2.res.set3 _ _ _, below_set3 HJ.out.2.below (Nat.le_refl _) _ _ _⟩
        have p0 := HW9.out.1.cell (j := 0) rfl
        have p1 := HW9.out.1.cell (j := 1) rfl
        have p2 := HW9.out.1.cell (j := 2) rfl
        unfold set3 at hW9
        go_wp2_with fail
        rw [← hW9]
        refine bodyPost_ret (v := .tuple #[.agg #[.bool false, .int .i64 0, .int .i64 0], .bool false]) (by simp [results, Tryz.results71, go_sem, p0, p1, p2]) rfl ⟨HW9.out.2, .inr ⟨fun s q => ?_, rfl⟩⟩
        rw [HFo.out] at q
        have h1 := HJ.out.1
        rw [Option.some.inj q] at h1
        exact hm1 h1
theorem foldTree_core {w : World} {gN cpN : Nat} {xs : List Nd} (h : NdsAt w gN 0 xs) (hg : gN < w.heap.size) (hok : ∀ e ∈ xs, e.ok) (hl : xs.length ≤ 200) :
    Calls Tryz.prog 71 #[.slice (some ⟨gN, 0, none⟩) xs.length cpN, .func (Fn.func 72) #[] #[]] w (FoldPost xs w) := foldTree_win h hg hok hl
end Go.Proofs.YtgnpcenpcmdlfaaGreatDoor

/-
  impl.ValidFilter.
-/
namespace Go.Proofs.YtgnpcenpcmdlfaaGreatDoor
open Go.ChangeShapes Go.WideShapes Go.ChangeAt Go.RowKit Go.Deep
set_option linter.unusedVariables false
set_option linter.unusedSimpArgs false
set_option maxRecDepth 100000

set_option maxHeartbeats 4000000 in
theorem implFilter_win {w : World} {g o cp : Nat} {xs : List Nd} (h : WdN w g o cp xs) (hok : ∀ e ∈ xs, e.ok) : Calls Tryz.prog 35 #[.agg #[.slice (some ⟨g, o, none⟩) xs.length cp]] w (FltPost xs w) := by
  have HO : Hid (WdN w g o cp xs ∧ ∀ e ∈ xs, e.ok) := ⟨h, hok⟩
  have hg := h.lt
  obtain ⟨n, hn⟩ : ∃ n, n = xs.length := ⟨_, rfl⟩
  have HN : Hid (n = xs.length) := hn
  have hcp := h.caps
  rw [← hn] at hcp ⊢
  unfold maxLen at hcp
  clear h hok hn
  obtain ⟨W0, hW0⟩ : ∃ W0 : World, W0 = w.alloc (Obj.cells #[.slice (some ⟨g, o, none⟩) n cp] 25) := ⟨_, rfl⟩
  have HW0 : Hid (BoxAt W0 w.heap.size 25 1 w.heap.size [.slice (some ⟨g, o, none⟩) n cp] ∧ Below w.heap.size w W0) := by
    rw [hW0]; exact ⟨boxAt_new w _ (Nat.le_refl _) rfl, (Below.refl _ _).alloc (Nat.le_refl _) _⟩
  have c0 := HW0.out.1.cell (j := 0) rfl
  have s0 := HW0.out.2.size
  go_enter Tryz.func35, Tryz.ntmps35
  go_upto_region 1 with fail
  rw [← hW0]
  clear hW0
  by_cases hbig : 200 < n
  · have zb : (200 : Int) < (n : Int) := by omega
    have HF : Hid (¬ GoodF xs) := fun q => by have := q.1; have := HN.out; omega
    go_wp2_with fail
    go_ret
    exact ⟨_, rfl, by simp [HF.out], HW0.out.2⟩
  have zb : ¬ (200 : Int) < (n : Int) := by omega
  have HC : Hid (Calls Tryz.prog 71 #[.slice (some ⟨g, o, none⟩) n cp, .func (Fn.func 72) #[] #[]] W0 (FoldPost xs W0)) := by
    have hl : xs.length ≤ 200 := by rw [← HN.out]; omega
    have := foldTree_win (w := W0) (gN := g) (oN := o) (cpN := cp) (HO.out.1.at.below HW0.out.2 hg) (by omega) HO.out.2 hl
    rw [← HN.out] at this
    exact this
  go_wp2_with fail
  refine HC.out.mono ?_
  rintro r w2 ⟨hb2, (⟨s, hs, rfl⟩ | ⟨hs, rfl⟩)⟩
  · have HF : Hid (GoodF xs ↔ (s.valid = true ∧ s.nest ≤ 20)) := by
      show GoodF xs ↔ _
      have hsh := fold_tree goodB hs
      constructor
      · rintro ⟨_, t, ht, hv, hn⟩
        rw [sh_one hsh ht]; exact ⟨hv, hn⟩
      · rintro ⟨hv, hn⟩
        exact ⟨by have := HN.out; omega, s, hsh, hv, hn⟩
    have HB : Hid (Below w.heap.size w w2) := HW0.out.2.trans (hb2.mono s0)
    obtain ⟨v, hv⟩ : ∃ v, v = s.valid := ⟨_, rfl⟩
    obtain ⟨k, hk⟩ : ∃ k, k = s.nest := ⟨_, rfl⟩
    obtain ⟨kd, hkd⟩ : ∃ kd, kd = s.kind := ⟨_, rfl⟩
    rw [← hv, ← hk] at HF
    rw [← hv, ← hk, ← hkd]
    clear hs hb2 c0 HC hv hk hkd
    cases v
    · go_wp2_with fail
      go_ret
      exact ⟨_, rfl, by rw [HF.out]; simp, HB.out.trans ((Below.refl _ _).alloc HB.out.size _)⟩
    · go_wp2_with fail
      go_ret
      exact ⟨_, rfl, by rw [HF.out]; simp <;> omega, HB.out.trans ((Below.refl _ _).alloc HB.out.size _)⟩
  · have HF : Hid (¬ GoodF xs) := fun q => by
      obtain ⟨_, s, hsh, _⟩ := q
      have := ShT.fold goodB hsh []
      exact hs s (by simpa using this)
    have HB : Hid (Below w.heap.size w w2) := HW0.out.2.trans (hb2.mono s0)
    clear hs hb2 c0 HC
    go_wp2_with fail
    go_ret
    exact ⟨_, rfl, by simp [HF.out], HB.out.trans ((Below.refl _ _).alloc HB.out.size _)⟩
theorem implFilter_core {w : World} {base g cp : Nat} {xs : List Nd} (h : OwnNd w base g cp xs) (hok : ∀ e ∈ xs, e.ok) : Calls Tryz.prog 35 #[.agg #[.slice (some ⟨g, 0, none⟩) xs.length cp]] w (FltPost xs w) := implFilter_win h.wd hok
end Go.Proofs.YtgnpcenpcmdlfaaGreatDoor

/-
  impl.foldTree over printNode, walked; impl.PrintFilter.
-/
namespace Go.Proofs.YtgnpcenpcmdlfaaGreatDoor
open Go.ChangeShapes Go.WideShapes Go.ChangeAt Go.RowKit Go.Deep
set_option linter.unusedVariables false
set_option linter.unusedSimpArgs false
set_option maxRecDepth 100000

structure FpJ (w : World) (xs : List Nd) (j g cp : Nat) (ps : List Po) (wr : World) : Prop where
  fold : foldV printV [] (xs.take j) = some (ps.map Po.pt)
  own : OwnPo wr (w.heap.size + 1) g cp ps
  res : BoxAt wr w.heap.size 67 2 w.heap.size [.int .i64 0, .slice none 0 0]
  txt : ∀ p ∈ ps, OwnY wr (w.heap.size + 1) p.b p.c p.t ∧ ¬ p.b = g
  below : Below w.heap.size w wr
theorem FpJ.move {w : World} {xs : List Nd} {j g cp : Nat} {ps : List Po} {wr w' : World} (h : FpJ w xs j g cp ps wr) (hb : Below wr.heap.size wr w') : FpJ w xs j g cp ps w' :=
  ⟨h.fold, h.own.below hb, h.res.below hb, fun p hp => ⟨(h.txt p hp).1.below hb, (h.txt p hp).2⟩, h.below.trans (hb.mono h.below.size)⟩
/-- The state with a node's print laid. -/
structure FpK (w : World) (xs : List Nd) (j g cp : Nat) (ps : List Po) (SB : Nat) (y : Po) (wr : World) : Prop where
  fo : FpJ w xs j g cp ps wr
  box : BoxAt wr w.heap.size 67 2 SB y.two
  new : OwnY wr (w.heap.size + 1) y.b y.c y.t
  ne : ¬ SB = g
  nb : ¬ y.b = g
  ge : w.heap.size + 1 ≤ SB
theorem fp_after {w : World} {xs : List Nd} {j g cp : Nat} {ps : List Po} {W1 w' : World} (y : Po) (h : FpJ w xs j g cp ps W1) (hb : Below W1.drew.heap.size W1.drew w') (hy : OwnY w' W1.drew.heap.size y.b y.c y.t) : FpK w xs j g cp ps w'.heap.size y (w'.alloc (Obj.cells #[.int .i64 y.kind, .slice (some ⟨y.b, 0, none⟩) y.t.length y.c] 67)) := by
  have hd : W1.drew.heap.size = W1.heap.size := by simp
  have h1 : Below W1.heap.size W1 w' := ((Below.refl W1.heap.size W1).drew).trans hb
  have h2 := h1.size
  have hb3 : Below w'.heap.size w' (w'.alloc (Obj.cells #[.int .i64 y.kind, .slice (some ⟨y.b, 0, none⟩) y.t.length y.c] 67)) := (Below.refl _ _).alloc (Nat.le_refl _) _
  have h4 := h.own.lt
  have h5 := h.below.size
  have h6 := h.res.lt
  have h7 := hy.lt
  exact ⟨(h.move h1).move hb3, boxAt_new w' _ (by omega) rfl, (hy.mono (by omega)).below hb3, by omega, by omega, by omega⟩
theorem fp_before {w : World} {xs : List Nd} {j g cp : Nat} {ps : List Po} {W1 w' : World} (y : Po) (h : FpJ w xs j g cp ps W1) (hb : Below (W1.drew.alloc (Obj.cells #[.int .i64 0, .slice none 0 0] 67)).heap.size (W1.drew.alloc (Obj.cells #[.int .i64 0, .slice none 0 0] 67)) w') (hy : OwnY w' (W1.drew.alloc (Obj.cells #[.int .i64 0, .slice none 0 0] 67)).heap.size y.b y.c y.t) :
    FpK w xs j g cp ps W1.heap.size y ((w'.setCell ⟨W1.heap.size, 0, none⟩ (.int .i64 y.kind)).setCell ⟨W1.heap.size, 1, none⟩ (.slice (some ⟨y.b, 0, none⟩) y.t.length y.c)) := by
  have hd : W1.drew.heap.size = W1.heap.size := by simp
  have hs1 : (W1.drew.alloc (Obj.cells #[.int .i64 0, .slice none 0 0] 67)).heap.size = W1.heap.size + 1 := by simp
  have h0 : Below W1.heap.size W1 (W1.drew.alloc (Obj.cells #[.int .i64 0, .slice none 0 0] 67)) := ((Below.refl W1.heap.size W1).drew).alloc (by simp) _
  have h1 : Below W1.heap.size W1 w' := h0.trans (hb.mono (by simp))
  have h4 := h.own.lt
  have h5 := h.below.size
  have h6 := h.res.lt
  have h7 := hy.lt
  have hB : BoxAt w' w.heap.size 67 2 W1.heap.size [.int .i64 0, .slice none 0 0] := by
    have := boxAt_new W1.drew (base := w.heap.size) (t := 67) (sz := 2) #[.int .i64 0, .slice none 0 0] (by simp; omega) rfl
    rw [hd] at this
    exact this.below hb
  have hJ := h.move h1
  have hC : Chg (fun k => k = W1.heap.size) w' ((w'.setCell ⟨W1.heap.size, 0, none⟩ (.int .i64 y.kind)).setCell ⟨W1.heap.size, 1, none⟩ (.slice (some ⟨y.b, 0, none⟩) y.t.length y.c)) :=
    (Chg.of_set w' W1.heap.size 0 _ (S := fun k => k = W1.heap.size) rfl).trans (Chg.of_set _ W1.heap.size 1 _ (S := fun k => k = W1.heap.size) rfl)
  refine ⟨⟨hJ.fold, own_chg hJ.own hC (fun k q => by simp [Value.ownBlock] at q; omega), hJ.res.chg hC (by omega), fun p hp => ⟨(hJ.txt p hp).1.chg hC (by have h8 := (h.txt p hp).1.lt.2; omega), (hJ.txt p hp).2⟩, ?_⟩, (hB.set 0 _).set 1 _, (hy.mono (by omega)).chg hC (by omega), by omega, by omega, by omega⟩
  exact below_set (below_set hJ.below (by omega) 0 _) (by omega) 1 _
theorem pt_new (X : World) (y : Po) (B : Nat) (hB : X.heap.size = B) : QsAt (X.alloc (Obj.cells #[.int .i64 y.kind, .slice (some ⟨y.b, 0, none⟩) y.t.length y.c] 67)) B 0 [y] := by
  subst hB
  intro i s hs
  have hi : i = 0 := by have := (List.getElem?_eq_some_iff.1 hs).1; simpa using this
  subst hi
  simp at hs
  subst hs
  exact ⟨by simp, by simp⟩
theorem fp_push {w wc X w' : World} {xs : List Nd} {j g cp SB g' cp' fr : Nat} {ps : List Po} {y : Po} (h : FpK w xs j g cp ps SB y wc) (hX : Below wc.heap.size wc X) (hY : foldV printV [] (xs.take (j + 1)) = some ((ps.take fr ++ [y]).map Po.pt)) (hO : OwnPo w' (w.heap.size + 1) g' cp' (ps.take fr ++ [y])) (hgr : X.grownBy w' (some g)) (hat : g = g' ∨ g' = X.heap.size) (hm : fr = (ps.take fr).length) : FpJ w xs (j + 1) g' cp' (ps.take fr ++ [y]) w' ∧ fr + 1 ≤ cp' := by
  have hJ := h.fo.move hX
  have h1 := hJ.own.lt
  have hxs := hX.size
  have hC : Chg (fun k => k = g) X w' := Chg.of_grown hgr (fun k hk => by cases hk; rfl)
  refine ⟨⟨hY, hO, hJ.res.chg hC (by omega), fun p hp => ?_, Chg.below hJ.below hC hJ.below.size (fun k q => by omega)⟩, ?_⟩
  · have hp2 : OwnY wc (w.heap.size + 1) p.b p.c p.t ∧ ¬ p.b = g := by
      rcases List.mem_append.1 hp with q | q
      · exact h.fo.txt p (List.mem_of_mem_take q)
      · simp at q; subst q; exact ⟨h.new, h.nb⟩
    refine ⟨(hp2.1.below hX).chg hC hp2.2, ?_⟩
    have h9 := hp2.1.lt.2
    rcases hat with q | q
    · rw [← q]; exact hp2.2
    · omega
  · have := hO.caps.1
    rw [List.length_append, List.length_singleton, ← hm] at this
    exact this
def FpP (y : PT) (w : World) (r : Ending) (w' : World) : Prop := ∃ b c, r = .returned (.tuple #[.agg #[.int .i64 y.1, .slice (some ⟨b, 0, none⟩) y.2.length c], .bool true]) ∧ OwnY w' w.heap.size b c y.2 ∧ Below w.heap.size w w'
theorem fold_trvG {T : Type} (V : Nd → List T → T) : ∀ (k : Nat) (xs : List Nd) (ss : List T), xs.length = k → foldV V [] xs = some ss → TrV V ss xs
  | 0, xs, ss, hk, h => by
    obtain rfl := List.length_eq_zero_iff.1 hk
    simp only [foldV, Option.some.injEq] at h
    subst h
    exact .nil
  | k + 1, xs, ss, hk, h => by
    rcases List.eq_nil_or_concat xs with rfl | ⟨ys, n, rfl⟩
    · simp at hk
    · rw [List.concat_eq_append] at hk h ⊢
      rw [foldV_append] at h
      cases hy : foldV V [] ys with
      | none => rw [hy] at h; cases h
      | some st =>
        have ih := fold_trvG V k ys st (by simp at hk; exact hk) hy
        rw [hy] at h
        simp only [Option.bind_some, foldV, stepV] at h
        split at h
        · cases h
        · rename_i hn
          simp only [Option.bind_some, foldV, Option.some.injEq] at h
          subst h
          refine .snoc n (by rw [List.length_drop]; omega) ?_
          rw [List.take_append_drop]; exact ih
theorem fold_len {xs : List Nd} {ss : List PT} (h : foldV printV [] xs = some ss) (hg : ∀ e ∈ xs, GoodN e ∧ NumN e) (hl : xs.length ≤ 200) : ∀ s ∈ ss, s.2.length ≤ 400000 := by
  intro s hs
  have h1 := print_len (fold_trvG printV _ xs ss rfl h) hg
  have h2 : s.2.length ≤ sizeP ss := by
    obtain ⟨a, b, rfl⟩ := List.append_of_mem hs
    rw [sizeP_append]
    simp [sizeP]
    omega
  omega
set_option maxHeartbeats 16000000 in
theorem foldPrint_win {w : World} {gN oN cpN : Nat} {xs : List Nd} {y : PT} (h : NdsAt w gN oN xs) (hg : gN < w.heap.size) (hG : ∀ e ∈ xs, GoodN e ∧ NumN e) (hl : xs.length ≤ 200) (hT : TextF xs y) (hGl : Gl w) (hB : 7 ≤ w.heap.size) :
    Calls Tryz.prog 36 #[.slice (some ⟨gN, oN, none⟩) xs.length cpN, .func (Fn.func 37) #[] #[]] w (FpP y w) := by
  have HF : Hid (NdsAt w gN oN xs ∧ (∀ e ∈ xs, GoodN e ∧ NumN e) ∧ xs.length ≤ 200 ∧ foldV printV [] xs = some [y] ∧ Gl w) := ⟨h, hG, hl, by have := TrV.fold _ hT []; simpa using this, hGl⟩
  obtain ⟨n, hn⟩ : ∃ n, n = xs.length := ⟨_, rfl⟩
  have HL : Hid (n = xs.length) := hn
  rw [← hn] at hl ⊢
  clear h hG hn hT hGl
  obtain ⟨W0, hW0⟩ : ∃ W0 : World, W0 = (w.alloc (Obj.cells #[.int .i64 0, .slice none 0 0] 67)).alloc (Obj.cells #[] 67) := ⟨_, rfl⟩
  have HW0 : Hid (FpJ w xs 0 (w.heap.size + 1) 0 [] W0) := by
    obtain ⟨V, hV⟩ : ∃ V : World, V = w.alloc (Obj.cells #[.int .i64 0, .slice none 0 0] 67) := ⟨_, rfl⟩
    have hz : V.heap.size = w.heap.size + 1 := by rw [hV]; simp
    have hb : Below V.heap.size V W0 := by rw [hW0, ← hV]; exact (Below.refl _ _).alloc (Nat.le_refl _) _
    have hbV : Below w.heap.size w V := by rw [hV]; exact (Below.refl _ _).alloc (Nat.le_refl _) _
    have hBx : BoxAt V w.heap.size 67 2 w.heap.size [.int .i64 0, .slice none 0 0] := by rw [hV]; exact boxAt_new w _ (Nat.le_refl _) rfl
    refine ⟨rfl, ?_, hBx.below hb, (fun p hp => by cases hp), hbV.trans (hb.mono (by omega))⟩
    rw [hW0, ← hV, ← hz]
    exact ownPo_new V (Nat.le_refl _)
  go_enter Tryz.func36, Tryz.ntmps36
  go_upto_region 2 with fail
  rw [← hW0]
  clear hW0
  go_wp2_with fail
  go_loopw [6, 14] (fun sv iv wr => ∃ (j m g cp : Nat) (ps : List Po), iv = .int .i64 (j : Int) ∧ j ≤ n ∧ m = ps.length ∧ m ≤ j ∧ m ≤ cp ∧ sv = .slice (some ⟨g, 0, none⟩) m cp ∧ FpJ w xs j g cp ps wr) (fun _ iv _ => n - (intOf iv).toNat)
  case atStart => exact ⟨0, 0, _, 0, [], rfl, Nat.zero_le _, rfl, Nat.le_refl _, Nat.zero_le _, rfl, HW0.out⟩
  case round =>
    obtain ⟨j, m, g, cp, ps, rfl, hj, hm, hmj, hmc, rfl, hJ⟩ := hrel
    have HJ : Hid (m = ps.length ∧ FpJ w xs j g cp ps wr) := ⟨hm, hJ⟩
    have hgl := hJ.own.lt
    have hcp : cp ≤ 9223372036854775807 := by have := hJ.own.caps.2; unfold maxLen at this; omega
    have hsz := hJ.below.size
    have hrl := hJ.res.lt.2
    clear hm hJ HW0
    by_cases hlt : j < n
    · have zj : (j : Int) < (n : Int) := by omega
      obtain ⟨e, he⟩ : ∃ e, xs[j]? = some e := ⟨_, List.getElem?_eq_getElem (by have := HL.out; omega)⟩
      obtain ⟨d0, d1, d2, d3, d4, d5, d6⟩ := (HF.out.1.below HJ.out.2.below hg) j e he
      have HE : Hid (xs[j]? = some e ∧ GoodN e ∧ NumN e) := ⟨he, HF.out.2.1 e (List.mem_of_getElem? he)⟩
      clear he
      obtain ⟨W1, hW1⟩ : ∃ W1 : World, W1 = wr.alloc (Obj.cells #[.int .i64 e.kind, .string e.s, .bool e.hi, .string e.t, .int .u64 e.lo, .int .u64 e.up, .int .i64 e.n] 65) := ⟨_, rfl⟩
      have hb1 : Below wr.heap.size wr W1 := by rw [hW1]; exact (Below.refl _ _).alloc (Nat.le_refl _) _
      have hz1 : W1.heap.size = wr.heap.size + 1 := by rw [hW1]; simp
      have HJ1 : Hid (m = ps.length ∧ FpJ w xs j g cp ps W1 ∧ BoxAt W1 w.heap.size 65 7 wr.heap.size e.seven) := by
        refine ⟨HJ.out.1, HJ.out.2.move hb1, ?_⟩
        rw [hW1]; exact boxAt_new wr _ hsz rfl
      go_upto_region 5 with fail
      rw [← hW1]
      clear hW1 d0 d1 d2 d3 d4 d5 d6 HJ hb1
      have c0 := HJ1.out.2.2.cell (j := 0) rfl
      have c1 := HJ1.out.2.2.cell (j := 1) rfl
      have c2 := HJ1.out.2.2.cell (j := 2) rfl
      have c3 := HJ1.out.2.2.cell (j := 3) rfl
      have c4 := HJ1.out.2.2.cell (j := 4) rfl
      have c5 := HJ1.out.2.2.cell (j := 5) rfl
      have c6 := HJ1.out.2.2.cell (j := 6) rfl
      obtain ⟨a, ha⟩ : ∃ a, a = arity e.kind := ⟨_, rfl⟩
      have ha3 : a ≤ 3 := by rw [ha]; exact arity_le _
      have HAr : Hid (Calls Tryz.prog 73 #[.int .i64 e.kind] W1 fun r w' => r = .returned (.int .i64 (a : Int)) ∧ w' = W1) := by rw [ha]; exact operandCount_core e.kind W1
      have HAk : Hid (a = arity e.kind) := ha
      clear ha
      go_wp2_with fail
      refine HAr.out.mono ?_
      rintro r w9 ⟨rfl, hw9⟩
      rw [hw9]
      clear hw9 HAr
      by_cases hfr : m < a
      · exfalso
        have hno := foldG_stop printV HJ1.out.2.1.fold HE.out.1 (by rw [List.length_map, ← HJ1.out.1, ← HAk.out]; exact hfr)
        rw [HF.out.2.2.2.1] at hno
        cases hno
      · obtain ⟨fr, hfrm⟩ : ∃ fr : Nat, (m : Int) - (a : Int) = (fr : Int) := ⟨m - a, by omega⟩
        have hfrle : fr ≤ m := by omega
        have HFr : Hid (fr = ps.length - arity e.kind ∧ arity e.kind ≤ ps.length) := by
          have h1 := HJ1.out.1
          have h2 := HAk.out
          exact ⟨by omega, by omega⟩
        have zf : ¬ (fr : Int) < 0 := by omega
        have z2 : (fr : Int) ≤ (m : Int) := by omega
        have z3 : (m : Int) ≤ (cp : Int) := by omega
        obtain ⟨Y, hY⟩ : ∃ Y, Y = (printV e ((ps.drop fr).map Po.pt)).2 := ⟨_, rfl⟩
        have HY : Hid (foldV printV [] (xs.take (j + 1)) = some ((ps.take fr).map Po.pt ++ [(e.kind, Y)])) := by
          show _ = _
          have h9 := foldG_next printV HJ1.out.2.1.fold HE.out.1 (by rw [List.length_map]; exact HFr.out.2)
          rw [List.length_map, ← HFr.out.1, ← List.map_take, ← List.map_drop] at h9
          rw [h9, hY]
          rfl
        obtain ⟨ad, had⟩ : ∃ ad : Option Addr, (if cp = fr then some (⟨g, 0, none⟩ : Addr) else some ⟨g, fr * 2, none⟩) = ad := ⟨_, rfl⟩
        have HSh : Hid (∀ X, Below W1.heap.size W1 X → Calls Tryz.prog 37 #[.agg #[.int .i64 e.kind, .string e.s, .bool e.hi, .string e.t, .int .u64 e.lo, .int .u64 e.up, .int .i64 e.n], .slice ad (m - fr) (cp - fr)] X (PnP e.kind Y X)) := fun X hX => by
          have hJX := HJ1.out.2.1.move hX
          have hs2 := (hJX.own.at).drop fr
          rw [Nat.zero_add] at hs2
          have hlen : (ps.drop fr).length = m - fr := by rw [List.length_drop, ← HJ1.out.1]
          have hX2 := hX.size
          have hla : (ps.drop fr).length = arity e.kind := by rw [List.length_drop]; have := HFr.out.1; have := HFr.out.2; omega
          have hE : ∀ p ∈ ps.drop fr, BysAt X p.b 0 p.t ∧ p.b < X.heap.size ∧ p.t.length ≤ 400000 := fun p hp => by
            have h1 := hJX.txt p (List.mem_of_mem_drop hp)
            refine ⟨h1.1.at, h1.1.lt.2, ?_⟩
            exact fold_len HJ1.out.2.1.fold (fun e he => HF.out.2.1 e (List.mem_of_mem_take he)) (by rw [List.length_take]; have := HF.out.2.2.1; omega) p.pt (List.mem_map.2 ⟨p, List.mem_of_mem_drop hp, rfl⟩)
          have hglX : Gl X := HF.out.2.2.2.2.on hJX.below hB
          have hbX : 7 ≤ X.heap.size := by have := hJX.below.size; omega
          rw [hY, ← had]
          by_cases hcf : cp = fr
          · rw [if_pos hcf]
            have hnil : ps.drop fr = [] := List.length_eq_zero_iff.1 (by rw [hlen]; omega)
            have h9 := printNode_core e g 0 (cp - fr) (ps.drop fr) X HE.out.2.1 HE.out.2.2 hla hJX.own.lt.2 (by rw [hnil]; intro i s hs; simp at hs) hE hglX hbX
            rw [hlen] at h9
            exact h9
          · rw [if_neg hcf]
            have h9 := printNode_core e g (fr * 2) (cp - fr) (ps.drop fr) X HE.out.2.1 HE.out.2.2 hla hJX.own.lt.2 hs2 hE hglX hbX
            rw [hlen] at h9
            exact h9
        clear hY hfr
        go_upto_region 8 with fail
        go_cut [10] (fun sv wx => ∃ SB b c, sv = .pointer (some ⟨SB, 0, none⟩) ∧ FpK w xs j g cp ps SB ⟨e.kind, b, c, Y⟩ wx)
        case first =>
          go_region_law ((go_simp; go_at_call 37; refine (HSh.out _ ?hX).mono ?_; (case hX => (repeat (first | exact Below.refl _ _ | refine Below.drew ?_ | refine Below.alloc ?_ (by simp) _))); rintro r w' ⟨vb, vc, rfl, hvO, hbb⟩; obtain ⟨hcc, hff⟩ := bcell hbb; have hsz' := hbb.size))
          all_goals go_wp2_with fail
          all_goals go_meet
          all_goals first
            | exact ⟨_, vb, vc, rfl, fp_after ⟨e.kind, vb, vc, Y⟩ HJ1.out.2.1 hbb hvO⟩
            | exact ⟨_, vb, vc, rfl, by have h9 := fp_before ⟨e.kind, vb, vc, Y⟩ HJ1.out.2.1 hbb hvO; rw [hz1] at h9; exact h9⟩
        case rest =>
        obtain ⟨SB, yb, yc, rfl, hK⟩ := hcut
        obtain ⟨yl, hyl⟩ : ∃ yl, yl = Y.length := ⟨_, rfl⟩
        have HK : Hid (FpK w xs j g cp ps SB ⟨e.kind, yb, yc, Y⟩ wc ∧ yl = Y.length) := ⟨hK, hyl⟩
        have b0 := hK.box.cell (j := 0) rfl
        have b1 := hK.box.cell (j := 1) rfl
        simp only at b0 b1
        rw [← hyl] at b1
        have hgl2 := hK.fo.own.lt
        have hsb := hK.box.lt.2
        have hnsb := hK.ne
        have hsz2 := hK.fo.below.size
        have HM : Hid (fr = (ps.take fr).length) := by
          show fr = _
          rw [List.length_take, ← HJ1.out.1]
          omega
        clear hK c0 c1 c2 c3 c4 c5 c6 HSh hyl
        go_upto_region 9 with fail
        have hfl : fr ≤ ps.length := by rw [← HJ1.out.1]; exact hfrle
        have z4 : (fr : Int) ≤ (cp : Int) := by omega
        have z5 : fr ≤ cp := by omega
        go_region_law ((refine step_append_pt _ (by rfl) _ _ (by rfl) (w.heap.size + 1) fr g cp wc.heap.size (ps.take fr) ⟨e.kind, yb, yc, Y⟩ HM.out (by rfl) (by rfl) ?hO ?hc ?hl ?hb ?_
                        case hO => (refine OwnPo.below (HK.out.1.fo.own.take hfl) ?_; repeat (first | exact Below.refl _ _ | refine Below.drew ?_ | refine Below.alloc ?_ (by simp) _))
                        case hc => (have h9 := pt_new wc ⟨e.kind, yb, yc, Y⟩ _ rfl; simp only [← HK.out.2] at h9; exact fun i q hq => by simpa using h9 i q hq)
                        case hl => rw [← HM.out]; omega
                        case hb => simp; omega
                        intro g' cp' w' hO' hgr' hat'
                        have fin : Hid (FpJ w xs (j + 1) g' cp' (ps.take fr ++ [⟨e.kind, yb, yc, Y⟩]) w' ∧ fr + 1 ≤ cp') := fp_push HK.out.1 (by repeat (first | exact Below.refl _ _ | refine Below.drew ?_ | refine Below.alloc ?_ (by simp) _)) (by rw [HY.out, List.map_append]; rfl) hO' hgr' hat' HM.out
                        clear hO' hgr' hat'))
        all_goals go_wp2_with fail
        all_goals go_roundw
        all_goals first
          | exact ⟨j + 1, fr + 1, g', cp', ps.take fr ++ [⟨e.kind, yb, yc, Y⟩], by go_num, by omega, by rw [List.length_append, List.length_singleton, ← HM.out], by omega, fin.out.2, rfl, fin.out.1⟩
          | (simp [intOf]; omega)
    · have zj : ¬ (j : Int) < (n : Int) := by omega
      obtain ⟨p, hps, hpy⟩ : ∃ p, ps = [p] ∧ p.pt = y := by
        have h1 := HJ.out.2.fold
        rw [List.take_of_length_le (by have := HL.out; omega), HF.out.2.2.2.1] at h1
        have h2 := Option.some.inj h1
        match ps, h2 with
        | [p], h2 => exact ⟨p, rfl, by simpa using h2.symm⟩
      have hm1 : m = 1 := by rw [HJ.out.1, hps]; rfl
      subst hm1
      have HJp : Hid (FpJ w xs j g cp [p] wr ∧ p.pt = y) := ⟨by rw [← hps]; exact HJ.out.2, hpy⟩
      clear hps hpy HJ
      obtain ⟨q0, q1⟩ := HJp.out.1.own.at 0 p rfl
      simp only [Nat.zero_add, Nat.zero_mul] at q0 q1
      obtain ⟨pk, pb, pc, pt⟩ := p
      obtain ⟨pl, hpl⟩ : ∃ pl, pl = pt.length := ⟨_, rfl⟩
      simp only at q0 q1
      rw [← hpl] at q1
      have r0 := HJp.out.1.res.cell (j := 0) rfl
      have r1 := HJp.out.1.res.cell (j := 1) rfl
      have f0 := HJp.out.1.res.frozen 0
      have f1 := HJp.out.1.res.frozen 1
      obtain ⟨W9, hW9⟩ : ∃ W9 : World, W9 = (wr.setCell ⟨w.heap.size, 0, none⟩ (.int .i64 pk)).setCell ⟨w.heap.size, 1, none⟩ (.slice (some ⟨pb, 0, none⟩) pl pc) := ⟨_, rfl⟩
      have HW9 : Hid (BoxAt W9 w.heap.size 67 2 w.heap.size [.int .i64 pk, .slice (some ⟨pb, 0, none⟩) pl pc] ∧ FpP y w (.returned (.tuple #[.agg #[.int .i64 pk, .slice (some ⟨pb, 0, none⟩) pl pc], .bool true])) W9) := by
        have hC : Chg (fun k => k = w.heap.size) wr W9 := by rw [hW9]; exact (Chg.of_set wr _ 0 _ (S := fun k => k = w.heap.size) rfl).trans (Chg.of_set _ _ 1 _ rfl)
        have hx := (HJp.out.1.txt ⟨pk, pb, pc, pt⟩ (by simp)).1
        have hxl := hx.lt
        simp only at hxl
        refine ⟨by rw [hW9]; exact (HJp.out.1.res.set 0 _).set 1 _, pb, pc, ?_, ?_, ?_⟩
        · rw [← HJp.out.2, hpl]
        · rw [← HJp.out.2]; exact (hx.chg hC (by show ¬ pb = _; omega)).mono (by omega)
        · rw [hW9]; exact below_set (below_set HJp.out.1.below (Nat.le_refl _) 0 _) (Nat.le_refl _) 1 _
      have p0 := HW9.out.1.cell (j := 0) rfl
      have p1 := HW9.out.1.cell (j := 1) rfl
      clear hpl
      go_wp2_with fail
      rw [← hW9]
      exact bodyPost_ret (v := .tuple #[.agg #[.int .i64 pk, .slice (some ⟨pb, 0, none⟩) pl pc], .bool true]) (by simp [results, Tryz.results36, go_sem, p0, p1]) rfl HW9.out.2
/-- What PrintFilter hands back. -/
def PrtOf (xs : List Nd) (R : List UInt8) : Prop := (¬ GoodF xs ∧ R = []) ∨ (GoodF xs ∧ ∃ k, TextF xs (k, R))
theorem prtOf_one {xs : List Nd} {R S : List UInt8} (h : PrtOf xs R) (k : PrtOf xs S) : R = S := by
  rcases h with ⟨h1, rfl⟩ | ⟨h1, a, h2⟩
  · rcases k with ⟨_, rfl⟩ | ⟨k1, _⟩
    · rfl
    · exact absurd k1 h1
  · rcases k with ⟨k1, _⟩ | ⟨_, b, k2⟩
    · exact absurd h1 k1
    · have := textF_one h2 k2
      exact (Prod.mk.inj this).2
theorem goodF_text {xs : List Nd} (h : GoodF xs) : ∃ y, TextF xs y := by
  obtain ⟨_, s, hs, _⟩ := h
  exact textF_ex (ShT.tree goodB hs)
theorem num_of_ok {e : Nd} (h : e.ok) : NumN e := by
  have h1 := wf_u64 h.lo
  have h2 := wf_u64 h.up
  exact ⟨h1.1, h1.2, h2.1, h2.2⟩
def PrtU (xs : List Nd) (w : World) (r : Ending) (w' : World) : Prop := ∃ g cp R, r = .returned (.slice (some ⟨g, 0, none⟩) R.length cp) ∧ OwnY w' w.heap.size g cp R ∧ PrtOf xs R ∧ Below w.heap.size w w'
set_option maxHeartbeats 4000000 in
theorem implPrint_win {w : World} {g o cp : Nat} {xs : List Nd} (h : WdN w g o cp xs) (hok : ∀ e ∈ xs, e.ok) (hGl : Gl w) (hB : 7 ≤ w.heap.size) : Calls Tryz.prog 15 #[.agg #[.slice (some ⟨g, o, none⟩) xs.length cp]] w (PrtU xs w) := by
  have HO : Hid (WdN w g o cp xs ∧ (∀ e ∈ xs, e.ok) ∧ Gl w) := ⟨h, hok, hGl⟩
  have hgl := h.lt
  have hcp := h.caps
  obtain ⟨W0, hW0⟩ : ∃ W0 : World, W0 = w.alloc (Obj.cells #[.slice (some ⟨g, o, none⟩) xs.length cp] 25) := ⟨_, rfl⟩
  have hb0 : Below w.heap.size w W0 := by rw [hW0]; exact (Below.refl _ _).alloc (Nat.le_refl _) _
  have hz0 : w.heap.size < W0.heap.size := by rw [hW0]; simp
  have c0 : W0.cell? ⟨w.heap.size, 0, none⟩ = some (.slice (some ⟨g, o, none⟩) xs.length cp) := by rw [hW0]; simp
  have HO0 : Hid (WdN W0 g o cp xs) := h.below hb0 hgl
  clear h hok hGl
  go_enter Tryz.func15, Tryz.ntmps15
  go_upto_region 1 with fail
  rw [← hW0]
  clear hW0
  go_wp2_with fail
  refine (implFilter_win HO0.out HO.out.2.1).mono ?_
  rintro e w1 ⟨r, rfl, hr, hb1⟩
  have HR : Hid (r = true ↔ GoodF xs) := hr
  have s1 := hb1.size
  have k1 : Below w.heap.size w w1 := hb0.trans (hb1.mono (by omega))
  have c1 : w1.cell? ⟨w.heap.size, 0, none⟩ = some (.slice (some ⟨g, o, none⟩) xs.length cp) := by rw [hb1.cell (p := ⟨w.heap.size, 0, none⟩) hz0]; exact c0
  have HO1 : Hid (WdN w1 g o cp xs) := HO0.out.below hb1 HO0.out.lt
  clear hr c0
  cases r
  case false =>
    have HG : Hid (PrtU xs w (.returned (.slice (some ⟨w1.heap.size, 0, none⟩) 0 0)) (w1.alloc (Obj.cells #[] 5))) := ⟨w1.heap.size, 0, [], rfl, ownY_new w1 k1.size, .inl ⟨fun q => Bool.noConfusion (HR.out.2 q), rfl⟩, k1.alloc k1.size _⟩
    go_wp2_with fail
    go_ret
    exact HG.out
  case true =>
  have hG : GoodF xs := HR.out.1 rfl
  obtain ⟨y, hy⟩ := goodF_text hG
  have HC : Hid (Calls Tryz.prog 36 #[.slice (some ⟨g, o, none⟩) xs.length cp, .func (Fn.func 37) #[] #[]] w1 (FpP y w1)) :=
    foldPrint_win HO1.out.at HO1.out.lt (fun e he => ⟨goodF_all hG e he, num_of_ok (HO.out.2.1 e he)⟩) hG.1 hy (HO.out.2.2.on k1 hB) (by omega)
  have HY : Hid (TextF xs y ∧ GoodF xs) := ⟨hy, hG⟩
  clear hy hG
  go_wp2_with fail
  refine HC.out.mono ?_
  rintro e w3 ⟨b, c, rfl, hOb, hb3⟩
  obtain ⟨yk, yt⟩ := y
  obtain ⟨yl, hyl⟩ : ∃ yl, yl = yt.length := ⟨_, rfl⟩
  simp only
  rw [← hyl]
  have s3 := hb3.size
  have HG : Hid (PrtU xs w (.returned (.slice (some ⟨b, 0, none⟩) yl c)) (w3.alloc (Obj.cells #[.int .i64 yk, .slice (some ⟨b, 0, none⟩) yl c] 67))) := by
    have hbb : Below w3.heap.size w3 (w3.alloc (Obj.cells #[.int .i64 yk, .slice (some ⟨b, 0, none⟩) yl c] 67)) := (Below.refl _ _).alloc (Nat.le_refl _) _
    exact ⟨b, c, yt, by rw [hyl], (hOb.mono k1.size).below hbb, .inr ⟨HY.out.2, yk, HY.out.1⟩, (k1.trans (hb3.mono k1.size)).trans (hbb.mono (by omega))⟩
  clear hyl hOb
  go_wp2_with fail
  go_ret
  exact HG.out
theorem implPrint_core {w : World} {base g cp : Nat} {xs : List Nd} (h : OwnNd w base g cp xs) (hok : ∀ e ∈ xs, e.ok) (hGl : Gl w) (hB : 7 ≤ w.heap.size) : Calls Tryz.prog 15 #[.agg #[.slice (some ⟨g, 0, none⟩) xs.length cp]] w (PrtU xs w) := implPrint_win h.wd hok hGl hB
end Go.Proofs.YtgnpcenpcmdlfaaGreatDoor

