import Derived.Test.YtgnpcenpcmdlfaaGreatDoorTie
import Derived.Test.YtgnpcenpcmdlfaaGreatDoorCards
import Derived.ProofKit
import Derived.LaidMore
import Derived.OpenShut
import Derived.Lib.LaidTab
import Derived.Stop.Joined
import Derived.Test.YtgnpcenpcmdlfaaGreatDoorPkAO
import Derived.Test.YtgnpcenpcmdlfaaGreatDoorPkAI
/-
  The law FnExactParseFilter: its walk.
-/
namespace Go.Proofs.YtgnpcenpcmdlfaaGreatDoor.exParse
open Go.ChangeShapes Go.WideShapes Go.ChangeAt Go.RowKit Go.Deep
set_option linter.unusedVariables false
set_option linter.unusedSimpArgs false
set_option maxRecDepth 100000

set_option maxHeartbeats 4000000 in
theorem walkPf (v : Value) (xs : List UInt8) (w : World) (h : BysIn w v xs) (hW : WdsAt w) (hE : ErrAt w) (hG : 7 ≤ w.heap.size) :
    Calls Tryz.prog 3 #[v] w fun e w' => e = .returned (.bool true) ∧ Below w.heap.size w w' := by
  obtain ⟨a, cap, hv⟩ := h.slice
  subst hv
  have HI : Hid (BysIn w (.slice a xs.length cap) xs ∧ (∀ w', Below w.heap.size w w' → WdsAt w' ∧ ErrAt w') ∧ 7 ≤ w.heap.size) := ⟨h, fun w' hb => ⟨hW.chg (S := fun _ => False) (Chg.of_below hb) (fun q => q), hE.chg (S := fun _ => False) (Chg.of_below hb) (fun q => q)⟩, hG⟩
  have hr := h.1
  unfold maxLen at hr
  clear h hW hE hG
  by_cases hbig : 1048576 < xs.length
  · have z : ¬ ((xs.length : Int) ≤ 1048576) := by omega
    go_enter Tryz.func3, Tryz.ntmps3
    go_wp2_with fail
    go_ret
    exact ⟨rfl, Below.refl _ _⟩
  have h1 : xs.length ≤ 1048576 := by omega
  have HM : Hid (xs.length ≤ maxLen) := by show xs.length ≤ maxLen; unfold maxLen; omega
  go_enter Tryz.func3, Tryz.ntmps3
  go_wp2_with fail
  refine (toByteS_in _ xs _ HI.out.1 h1).mono ?_
  rintro e w1 ⟨g1, rfl, ho1, hb1⟩
  have Ho1 : Hid (OwnY w1 w.heap.size g1 xs.length xs) := ho1
  have s1 := hb1.size
  clear ho1
  go_wp2_with fail
  refine (specParse_core Ho1.out.at Ho1.out.lt.2 rfl (by omega) (Nat.le_refl _) HM.out).mono ?_
  rintro e w2 ⟨v2, rfl, hb2, hS2⟩
  obtain ⟨ce, ca, es, hM, ua, un, uc, rfl, hU⟩ := hS2.ans
  have s2 := hb2.size
  have HD : Hid (AnsOf xs ce ca es) := hM
  obtain ⟨W2, hW2⟩ : ∃ W2 : World, W2 = w2.alloc (Obj.cells #[.int .i64 ce, .int .i64 ca, .slice ua un uc] 27) := ⟨_, rfl⟩
  have z2 : w2.heap.size < W2.heap.size := by rw [hW2]; simp
  have b2' : Below w2.heap.size w2 W2 := by rw [hW2]; exact (Below.refl _ _).alloc (Nat.le_refl _) _
  have HU2 : Hid (OwnUN W2 w1.heap.size (.slice ua un uc) es ∧ BoxAt W2 w.heap.size 27 3 w2.heap.size [.int .i64 ce, .int .i64 ca, .slice ua un uc] ∧ (∀ g, (Value.slice ua un uc).ownBlock = some g → g < w2.heap.size)) := by
    refine ⟨hU.below b2', ?_, fun g q => (hU.row g q).2⟩
    rw [hW2]; exact boxAt_new w2 _ (by omega) rfl
  have k2 : Below w.heap.size w W2 := (hb1.trans (hb2.mono s1)).trans (b2'.mono (by omega))
  clear hU hM hS2 Ho1
  go_upto_region 4 with fail
  rw [← hW2]
  clear hW2 hb1 hb2 b2'
  go_wp2_with fail
  refine (toByteS_in _ xs _ (HI.out.1.below k2) h1).mono ?_
  rintro e w3 ⟨g3, rfl, ho3, hb3⟩
  have s3 := hb3.size
  have Ho3 : Hid (OwnY w3 W2.heap.size g3 xs.length xs) := ho3
  have k3 : Below w.heap.size w w3 := k2.trans (hb3.mono k2.size)
  have hg3 := ho3.lt
  clear ho3
  go_wp2_with fail
  refine (implParse_core Ho3.out.at hg3.2 rfl (by omega) (Nat.le_refl _) HM.out (by have := k3.size; have := HI.out.2.2; omega) (HI.out.2.1 w3 k3).1 (HI.out.2.1 w3 k3).2).mono ?_
  rintro e w4 ⟨v4, rfl, hb4, hS4⟩
  obtain ⟨ce', ca', es', hM', ⟨ia, n', ic, rfl, hU'⟩, hl'⟩ := hS4.ans
  obtain ⟨rfl, rfl, rfl⟩ := hM'.one HD.out
  have hesn : es'.length ≤ 1048576 := by omega
  have s4 := hb4.size
  obtain ⟨W4, hW4⟩ : ∃ W4 : World, W4 = w4.alloc (Obj.cells #[.int .i64 ce', .int .i64 ca', .slice ia n' ic] 27) := ⟨_, rfl⟩
  have z4 : w4.heap.size < W4.heap.size := by rw [hW4]; simp
  have b4' : Below w4.heap.size w4 W4 := by rw [hW4]; exact (Below.refl _ _).alloc (Nat.le_refl _) _
  have b24 : Below W2.heap.size W2 W4 := (hb3.trans (hb4.mono s3)).trans (b4'.mono (by omega))
  have HU4 : Hid ((OwnUN W4 w1.heap.size (.slice ua un uc) es' ∧ BoxAt W4 w.heap.size 27 3 w2.heap.size [.int .i64 ce', .int .i64 ca', .slice ua un uc]) ∧ (OwnUN W4 w3.heap.size (.slice ia n' ic) es' ∧ BoxAt W4 w.heap.size 27 3 w4.heap.size [.int .i64 ce', .int .i64 ca', .slice ia n' ic]) ∧ (∀ g, (Value.slice ia n' ic).ownBlock = some g → w3.heap.size ≤ g ∧ g < w4.heap.size) ∧ OwnY W4 W2.heap.size g3 xs.length xs) := by
    refine ⟨⟨HU2.out.1.below b24, HU2.out.2.1.below b24⟩, ⟨hU'.below b4', ?_⟩, fun g q => hU'.row g q, (Ho3.out.below hb4).below b4'⟩
    rw [hW4]; exact boxAt_new w4 _ (by omega) rfl
  have k4 : Below w.heap.size w W4 := k2.trans (b24.mono k2.size)
  have c0 := HU2.out.2.1.below (hb3.trans (hb4.mono s3))
  have p0 := c0.cell (j := 0) rfl
  have p1 := c0.cell (j := 1) rfl
  have p2 := c0.cell (j := 2) rfl
  clear hU' hM' hS4 c0
  go_upto_region 6 with fail
  rw [← hW4]
  clear hW4 hb3 hb4 b4' p0 p1 p2
  have p0 := HU4.out.1.2.cell (j := 0) rfl
  have p1 := HU4.out.1.2.cell (j := 1) rfl
  have p2 := HU4.out.1.2.cell (j := 2) rfl
  have q0 := HU4.out.2.1.2.cell (j := 0) rfl
  have q1 := HU4.out.2.1.2.cell (j := 1) rfl
  have q2 := HU4.out.2.1.2.cell (j := 2) rfl
  go_wp2_with fail
  refine (eqFilterRes_same ce' ca' ia n' ic ua un uc es' _ _ W4 HU4.out.2.1.1 HU4.out.1.1).mono ?_
  rintro e w5 ⟨rfl, hb5⟩
  have s5 := hb5.size
  clear p0 p1 p2 q0 q1 q2
  go_wp2_with fail
  refine (toByteS_in _ xs _ (HI.out.1.below (k4.trans (hb5.mono k4.size))) h1).mono ?_
  rintro e w6 ⟨g6, rfl, ho6, hb6⟩
  have s6 := hb6.size
  have b46 : Below W4.heap.size W4 w6 := hb5.trans (hb6.mono s5)
  have Ho6 : Hid (OwnY w6 w5.heap.size g6 xs.length xs ∧ OwnY w6 W2.heap.size g3 xs.length xs) := ⟨ho6, HU4.out.2.2.2.below b46⟩
  clear ho6
  go_wp2_with fail
  refine (eqByteS_same g3 0 xs.length g6 0 xs.length xs _ Ho6.out.2.at Ho6.out.1.at Ho6.out.2.lt.2 Ho6.out.1.lt.2 HM.out).mono ?_
  rintro e w7 ⟨rfl, hb7⟩
  have s7 := hb7.size
  have b47 : Below W4.heap.size W4 w7 := b46.trans (hb7.mono b46.size)
  have Ho7 : Hid (OwnY w7 W2.heap.size g3 xs.length xs) := Ho6.out.2.below hb7
  clear Ho6 hb5 hb6 hb7 b46
  go_wp2_with fail
  refine (markByteS_own W2.heap.size g3 xs.length xs w7 Ho7.out h1).mono ?_
  rintro e w8 ⟨rfl, hg8⟩
  have s8 := hg8.size
  have c8 : Chg (fun k => k = g3) w7 w8 := Chg.of_grown hg8 (fun k hk => by cases hk; rfl)
  have HU8 : Hid ((OwnUN w8 w1.heap.size (.slice ua un uc) es' ∧ BoxAt w8 w.heap.size 27 3 w2.heap.size [.int .i64 ce', .int .i64 ca', .slice ua un uc]) ∧ (OwnUN w8 w3.heap.size (.slice ia n' ic) es' ∧ BoxAt w8 w.heap.size 27 3 w4.heap.size [.int .i64 ce', .int .i64 ca', .slice ia n' ic])) := by
    refine ⟨⟨(HU4.out.1.1.below b47).keptNe hg8 (fun g q q2 => ?_), (HU4.out.1.2.below b47).chg c8 (by omega)⟩, ⟨(HU4.out.2.1.1.below b47).keptNe hg8 (fun g q q2 => ?_), (HU4.out.2.1.2.below b47).chg c8 (by omega)⟩⟩
    · have := HU2.out.2.2 g q; have := Option.some.inj q2; omega
    · have := HU4.out.2.2.1 g q; have := Option.some.inj q2; omega
  have k8 : Below w.heap.size w w8 := (k4.trans (b47.mono k4.size)).grown hg8 (by have := k4.size; omega) (fun k hk => by cases hk; omega)
  have HG : Hid (∀ g, (Value.slice ia n' ic).ownBlock = some g → w3.heap.size ≤ g ∧ g < w4.heap.size) := HU4.out.2.2.1
  have hk1 : ¬ (1 + (xs.length : Int)) < 0 := by omega
  clear hg8 c8 Ho7 HU4 b47
  have p0 := HU8.out.1.2.cell (j := 0) rfl
  have p1 := HU8.out.1.2.cell (j := 1) rfl
  have p2 := HU8.out.1.2.cell (j := 2) rfl
  have q0 := HU8.out.2.2.cell (j := 0) rfl
  have q1 := HU8.out.2.2.cell (j := 1) rfl
  have q2 := HU8.out.2.2.cell (j := 2) rfl
  go_wp2_with fail
  refine (eqFilterRes_same ce' ca' ia n' ic ua un uc es' _ _ w8 HU8.out.2.1 HU8.out.1.1).mono ?_
  rintro e w9 ⟨rfl, hb9⟩
  have s9 := hb9.size
  have k9 : Below w.heap.size w w9 := k8.trans (hb9.mono k8.size)
  have HU9 : Hid ((OwnUN w9 w1.heap.size (.slice ua un uc) es' ∧ BoxAt w9 w.heap.size 27 3 w2.heap.size [.int .i64 ce', .int .i64 ca', .slice ua un uc]) ∧ (OwnUN w9 w3.heap.size (.slice ia n' ic) es' ∧ BoxAt w9 w.heap.size 27 3 w4.heap.size [.int .i64 ce', .int .i64 ca', .slice ia n' ic])) := ⟨⟨HU8.out.1.1.below hb9, HU8.out.1.2.below hb9⟩, ⟨HU8.out.2.1.below hb9, HU8.out.2.2.below hb9⟩⟩
  clear p0 p1 p2 q0 q1 q2 hb9 HU8
  have q0 := HU9.out.2.2.cell (j := 0) rfl
  have q1 := HU9.out.2.2.cell (j := 1) rfl
  have q2 := HU9.out.2.2.cell (j := 2) rfl
  go_wp2_with fail
  refine (markFilterRes_own ce' ca' ia n' ic w3.heap.size es' w9 HU9.out.2.1 hesn).mono ?_
  rintro e w10 ⟨R', rfl, hU10, hl10, hm10, hg10⟩
  have s10 := hg10.size
  have c10 : Chg (fun k => w3.heap.size ≤ k ∧ k < w4.heap.size) w9 w10 := Chg.of_grown hg10 (fun k hk => HG.out k hk)
  have HU10 : Hid ((OwnUN w10 w1.heap.size (.slice ua un uc) es' ∧ BoxAt w10 w.heap.size 27 3 w2.heap.size [.int .i64 ce', .int .i64 ca', .slice ua un uc]) ∧ (OwnUN w10 w3.heap.size (.slice ia n' ic) R' ∧ BoxAt w10 w.heap.size 27 3 w4.heap.size [.int .i64 ce', .int .i64 ca', .slice ia n' ic]) ∧ R'.length = es'.length ∧ markedN 1 R' R'.length) := by
    refine ⟨⟨HU9.out.1.1.keptNe hg10 (fun g q q2 => ?_), HU9.out.1.2.chg c10 (by omega)⟩, ⟨hU10, HU9.out.2.2.chg c10 (by omega)⟩, hl10, hm10⟩
    have h7 := HU2.out.2.2 g q
    have h8 := HG.out g q2
    omega
  have k10 : Below w.heap.size w w10 := Chg.below k9 c10 k9.size (by omega)
  clear q0 q1 q2 hU10 hl10 hm10 hg10 c10 HU9
  have q0 := HU10.out.2.1.2.cell (j := 0) rfl
  have q1 := HU10.out.2.1.2.cell (j := 1) rfl
  have q2 := HU10.out.2.1.2.cell (j := 2) rfl
  go_wp2_with fail
  have hhl := heldFilterRes_own ce' ca' ia n' ic w3.heap.size R' w10 HU10.out.2.1.1 HU10.out.2.2.2 (by rw [HU10.out.2.2.1]; exact hesn)
  rw [HU10.out.2.2.1] at hhl
  refine hhl.mono ?_
  rintro e w11 ⟨rfl, hb11⟩
  have s11 := hb11.size
  have k11 : Below w.heap.size w w11 := k10.trans (hb11.mono k10.size)
  have HU11 : Hid (OwnUN w11 w1.heap.size (.slice ua un uc) es' ∧ BoxAt w11 w.heap.size 27 3 w2.heap.size [.int .i64 ce', .int .i64 ca', .slice ua un uc]) := ⟨HU10.out.1.1.below hb11, HU10.out.1.2.below hb11⟩
  have hq0 : ¬ (1 + (es'.length : Int) * 7) < 0 := by omega
  clear q0 q1 q2 hb11 HU10 hhl
  go_wp2_with fail
  refine (toByteS_in _ xs _ (HI.out.1.below k11) h1).mono ?_
  rintro e w12 ⟨g12, rfl, ho12, hb12⟩
  have s12 := hb12.size
  have k12 : Below w.heap.size w w12 := k11.trans (hb12.mono k11.size)
  have Ho12 : Hid (OwnY w12 w11.heap.size g12 xs.length xs) := ho12
  clear ho12
  go_wp2_with fail
  refine (implParse_core Ho12.out.at Ho12.out.lt.2 rfl (by omega) (Nat.le_refl _) HM.out (by have := k12.size; have := HI.out.2.2; omega) (HI.out.2.1 w12 k12).1 (HI.out.2.1 w12 k12).2).mono ?_
  rintro e w13 ⟨v13, rfl, hb13, hS13⟩
  obtain ⟨ce2, ca2, es2, hM2, ⟨ha, hn2, hc2, rfl, hU2⟩, hl2⟩ := hS13.ans
  obtain ⟨rfl, rfl, rfl⟩ := hM2.one HD.out
  have s13 := hb13.size
  obtain ⟨W13, hW13⟩ : ∃ W13 : World, W13 = w13.alloc (Obj.cells #[.int .i64 ce2, .int .i64 ca2, .slice ha hn2 hc2] 27) := ⟨_, rfl⟩
  have b13' : Below w13.heap.size w13 W13 := by rw [hW13]; exact (Below.refl _ _).alloc (Nat.le_refl _) _
  have b1113 : Below w11.heap.size w11 W13 := (hb12.trans (hb13.mono s12)).trans (b13'.mono (by omega))
  have HU13 : Hid ((OwnUN W13 w1.heap.size (.slice ua un uc) es2 ∧ BoxAt W13 w.heap.size 27 3 w2.heap.size [.int .i64 ce2, .int .i64 ca2, .slice ua un uc]) ∧ (OwnUN W13 w12.heap.size (.slice ha hn2 hc2) es2 ∧ BoxAt W13 w.heap.size 27 3 w13.heap.size [.int .i64 ce2, .int .i64 ca2, .slice ha hn2 hc2])) := by
    refine ⟨⟨HU11.out.1.below b1113, HU11.out.2.below b1113⟩, ⟨hU2.below b13', ?_⟩⟩
    rw [hW13]; exact boxAt_new w13 _ (by have := k12.size; omega) rfl
  have k13 : Below w.heap.size w W13 := k11.trans (b1113.mono k11.size)
  clear hU2 hM2 hS13
  go_upto_region 23 with fail
  rw [← hW13]
  clear hW13 hb12 hb13 b13' b1113
  have p0 := HU13.out.1.2.cell (j := 0) rfl
  have p1 := HU13.out.1.2.cell (j := 1) rfl
  have p2 := HU13.out.1.2.cell (j := 2) rfl
  have q0 := HU13.out.2.2.cell (j := 0) rfl
  have q1 := HU13.out.2.2.cell (j := 1) rfl
  have q2 := HU13.out.2.2.cell (j := 2) rfl
  go_wp2_with fail
  refine (eqFilterRes_same ce2 ca2 ha hn2 hc2 ua un uc es2 _ _ W13 HU13.out.2.1 HU13.out.1.1).mono ?_
  rintro e w14 ⟨rfl, hb14⟩
  go_wp2_with fail
  go_ret
  exact ⟨rfl, k13.trans (hb14.mono k13.size)⟩
end Go.Proofs.YtgnpcenpcmdlfaaGreatDoor.exParse

/-
  What the premise over the tables says: words of a filter, an error of strconv.
-/
namespace Go.Proofs.YtgnpcenpcmdlfaaGreatDoor.exParse
open Go.ChangeShapes Go.WideShapes Go.ChangeAt Go.WideMaps Go.WideElems Go.RowKit
set_option linter.unusedVariables false
set_option linter.unusedSimpArgs false
set_option maxRecDepth 100000

theorem gWords : Tryz.prog.globalNamed "loop.example/s01854/impl.nodeWords" = some 0 := by kernel_rfl
theorem tWords : (Tryz.prog.globals[0]?).map (·.type) = some 119 := by kernel_rfl
theorem gD64 : Tryz.prog.globalNamed "math/bits.deBruijn64tab" = some 6 := by kernel_rfl
theorem cStr : Tryz.prog.cellsOf 9 = 1 := by kernel_rfl
theorem var_lt {P : Program} {W : World} {n : String} {g : Nat} {cs : Array Value} (hg : P.globalNamed n = some g) (h : W.var? P n = some cs) : g < W.heap.size := by
  unfold World.var? at h
  rw [hg] at h
  simp only [Option.bind_some] at h
  by_cases hlt : g < W.heap.size
  · exact hlt
  · rw [Array.getElem?_eq_none (by omega)] at h
    simp at h
/-- A table of strings, its cells. -/
theorem strs_of_tab {H : Type} {enc : TypeId × Value → H} {P : Program} {w : World} {base : Nat} {sp : Nat → Bool} {held : Bool} {fuel : Nat} {t e : TypeId} {n : Nat} {cs : List Value} {zs : List (List UInt8)} {p : List MemPlace}
    (ht : P.underlying t = some (.array n e)) (he : P.underlying e = some .string) (hce : P.cellsOf e = 1)
    (h : DataW.trod enc P w base sp held fuel t cs = some (.agg (zs.map fun z => .lit (.string z)), p)) : ∀ (i : Nat) (z : List UInt8), zs[i]? = some z → cs[i]? = some (Value.string ⟨z.toArray⟩) := by
  obtain ⟨xs, m, rfl, hx, hl, hn, hel⟩ := DataW.trod_array ht h
  simp only [Prod.mk.injEq, DataW.agg.injEq] at hx
  intro i z hz
  have hlen : zs.length = n := by have := congrArg List.length hx.1; simpa [hn] using this
  have hi : i < n := by have := (List.getElem?_eq_some_iff.1 hz).1; omega
  have h1 := hel i hi
  rw [hce, Nat.mul_one] at h1
  obtain ⟨y, hy⟩ : ∃ y, xs[i]? = some y := ⟨_, List.getElem?_eq_getElem (by omega)⟩
  rw [hy] at h1
  obtain ⟨s, hc, rfl, _⟩ := DataW.trod_string he h1
  have h2 := congrArg (fun l => l[i]?) hx.1
  simp only [List.getElem?_map, hz, hy, Option.map_some, Option.some.injEq, DataW.lit.injEq, Lit.string.injEq] at h2
  have h3 : cs[i]? = some (.string s) := by
    have : ((cs.drop i).take 1)[0]? = some (.string s) := by rw [hc]; rfl
    simpa [List.getElem?_take, List.getElem?_drop] using this
  rw [h3, h2, Lib.mk_data]

theorem trod_ifc {H : Type} {enc : TypeId × Value → H} {P : Program} {w : World} {base : Nat} {sp : Nat → Bool} {held : Bool} {fuel : Nat} {t : TypeId} {cs : List Value} {x : DataW H × List MemPlace} {ms : Array (String × TypeId)}
    (ht : P.underlying t = some (.interface ms)) (h : DataW.trod enc P w base sp held fuel t cs = some x) : ∃ ev, cs = [ev] ∧ (ev = .nilIface ∨ ∃ te pe, ev = .iface te pe) := by
  cases fuel with
  | zero => simp [DataW.trod] at h
  | succ n =>
    unfold DataW.trod at h
    rw [ht] at h
    split at h <;> simp_all
theorem gErr : Tryz.prog.globalNamed "strconv.ErrRange" = some 3 := by kernel_rfl
theorem tErr : (Tryz.prog.globals[3]?).map (·.type) = some 156 := by kernel_rfl
theorem of_laidE {W : World} (h : laidMetH Tryz.prog [("math/bits.deBruijn32tab", Rows.laid_math_bits_deBruijn32tab), ("math/bits.deBruijn64tab", Rows.laid_math_bits_deBruijn64tab), ("internal/strconv.uint64pow10", Rows.laid_internal_strconv_uint64pow10), ("strconv.ErrRange", Rows.laid_strconv_ErrRange), ("strconv.ErrSyntax", Rows.laid_strconv_ErrSyntax), ("loop.example/s01854/impl.nodeWords", Rows.laid_loop_example_s01854_impl_nodeWords)] W) : WdsAt W ∧ ErrAt W ∧ 7 ≤ W.heap.size := by
  rw [MakeChecks.laidMetH_plain _ _ _ (by kernel_rfl)] at h
  obtain ⟨ps, ⟨g0, t0, cs0, f0, p0, q0, hg0, ht0, hv0, hd0, ⟨g1, t1, cs1, f1, p1, q1, hg1, ht1, hv1, hd1, ⟨g2, t2, cs2, f2, p2, q2, hg2, ht2, hv2, hd2, ⟨g3, t3, cs3, f3, p3, q3, hg3, ht3, hv3, hd3, ⟨g4, t4, cs4, f4, p4, q4, hg4, ht4, hv4, hd4, ⟨g5, t5, cs5, f5, p5, q5, hg5, ht5, hv5, hd5, _, _⟩, _⟩, _⟩, _⟩, _⟩, _⟩, _⟩ := h
  obtain rfl := Option.some.inj (gD64.symm.trans hg1)
  obtain rfl := Option.some.inj (gErr.symm.trans hg3)
  obtain rfl := Option.some.inj (gWords.symm.trans hg5)
  obtain rfl := Option.some.inj (tErr.symm.trans ht3)
  obtain rfl := Option.some.inj (tWords.symm.trans ht5)
  have hw : ∀ k : Nat, k ≤ 16 → W.cell? ⟨0, k, none⟩ = some (.string (nodeW k)) := fun k hk => by
    rw [World.var?_cell hg5 hv5 k]
    have hw := strs_of_tab (zs := (List.range 17).map (fun k => (nodeW k).data.toList)) Tryz.underlying119 Tryz.underlying9 cStr (h := hd5) k (nodeW k).data.toList (by rw [List.getElem?_map, List.getElem?_range (by omega)]; rfl)
    rw [Lib.mk_data] at hw
    simpa using hw
  refine ⟨hw, ?_, var_lt hg1 hv1⟩
  · obtain ⟨ev, hcs, hev⟩ := trod_ifc Tryz.underlying156 hd3
    refine ⟨ev, ?_, hev⟩
    rw [World.var?_cell hg3 hv3 0]
    have : cs3[0]? = some ev := by
      have h9 : cs3.toList[0]? = some ev := by rw [hcs]; rfl
      simpa using h9
    exact this
end Go.Proofs.YtgnpcenpcmdlfaaGreatDoor.exParse

/-
  The law FnExactParseFilter.
-/
namespace Go.Proofs.YtgnpcenpcmdlfaaGreatDoor.exParse
open Go.ChangeShapes Go.WideShapes Go.ChangeAt Go.WideMaps Go.WideElems Go.RowKit Go.Deep
set_option linter.unusedVariables false
set_option linter.unusedSimpArgs false
set_option maxRecDepth 100000

theorem own : ownKnob Tryz.prog.godebug = none := by kernel_rfl
theorem laidOut : laidOutB Tryz.prog = true := by kernel_rfl
/-- The door's own heap meets the condition. -/
theorem door_met (os : Os) (args : Array Value) : laidMetH Tryz.prog Rows.fnExactParseFilterRow.laid ((World.doorLaid Tryz.prog 400 os).forCall (fun _ _ => 0) ⟨#[], args, []⟩).memory :=
  laidMetH_of_parts3 (fuel := 8) (laidMet_of_run' 8 (by kernel_rfl) (by kernel_rfl)) (by kernel_rfl) (by kernel_rfl)
theorem var?_below {P : Program} {B g : Nat} {W W' : World} {n : String} {cs : Array Value} (h : Below B W W') (hg : P.globalNamed n = some g) (hgB : g < B) (hv : W.var? P n = some cs) : W'.var? P n = some cs := by
  unfold World.var? at hv ⊢
  simp only [hg, Option.bind_some] at hv ⊢
  rw [h.block g hgB]
  exact hv

set_option maxRecDepth 100000 in
theorem lifted (os : Os) (started : os.Started) (H : Type) (enc : TypeId × Value → H) :
    ReturnsInHanded {} Tryz.checked os 3 .any (fun w args => (Rows.fnExactParseFilterSpec.pre enc Tryz.prog Tryz.f3 [] false w args ∧ laidMetH Tryz.prog Rows.fnExactParseFilterRow.laid w) ∧ sizedMet enc Tryz.prog Tryz.f3 (OpenSpec.ofChange Rows.fnExactParseFilterSpec) false w args)
      (Rows.fnExactParseFilterSpec.post enc Tryz.prog Tryz.f3 false true false false) := by
  refine returnsInHanded_of_change_and (C := Tryz.checked) (X := fun w _ => laidMetH Tryz.prog Rows.fnExactParseFilterRow.laid w) (fun _ _ _ hh h => h.of_heap hh) own started (by kernel_rfl) Tryz.func3
    (ChangeSpec.witness_shaped (enc := enc) (C := Tryz.checked) (os := os) (X := fun w _ => laidMetH Tryz.prog Rows.fnExactParseFilterRow.laid w) false (World.doorLaid Tryz.prog 400 os) #[.slice none 0 0] 8 rfl (World.shaped_of_RefB (by kernel_rfl) (by kernel_rfl)) (by kernel_rfl) (by kernel_rfl) (by kernel_rfl) (door_met os _)) ?_
  intro W base args ds gs before hval0 hW _ _ hL _
  have hval : ∀ (j : Nat) t v, Tryz.f3.params[j]? = some t → args[j]? = some v → Value.okWide Tryz.prog W .any base t v := hval0
  have hW' := hW
  obtain ⟨p, q, hA0, hV, rfl, hfz, hnd⟩ := hW
  have hA : DataW.TrodAll enc Tryz.prog W 0 (fun _ => true) true Tryz.f3.params.toList args.toList ds p := hA0
  rw [Tryz.params3] at hA hval
  obtain ⟨v0, vs0, d0, ds0, p0, q0, hargs, rfl, rfl, h0, r0⟩ := trodAll_cons hA
  obtain ⟨rfl, rfl, rfl⟩ := trodAll_nil r0
  obtain rfl : args = #[v0] := by cases args; simp_all
  have hV1 : DataW.TrodVars enc Tryz.prog W (fun _ => true) ["loop.example/s01854/impl.nodeWords"] gs q := hV
  obtain ⟨gv, tv, cv, fv, dv, pv, rfl, k1, k2, k3, k4, rfl⟩ := trodVars_one hV1
  obtain rfl := Option.some.inj (gWords.symm.trans k1)
  obtain rfl := Option.some.inj (tWords.symm.trans k2)
  have k0 := h0
  have lt0 : ∀ x ∈ p0, x.block < W.heap.size := by obtain ⟨m, hm⟩ := k0; exact DataW.trod_lt m _ _ _ hm
  have ltv : ∀ x ∈ pv, x.block < W.heap.size := DataW.trod_lt fv _ _ _ k4
  obtain ⟨xs, hxs⟩ : ∃ xs, BysIn W v0 xs := by
    obtain ⟨a0, len0, cap0, rfl⟩ := okWide_slice Tryz.underlying22 (hval 0 22 v0 rfl rfl)
    obtain ⟨fuel, hf⟩ := h0
    exact bysIn_of_trod (x := (d0, p0)) (by simpa [Value.cells] using hf) lt0
  clear hA0 hval0 hV
  obtain ⟨hWd, hEr, hB⟩ := of_laidE hL
  refine (walkPf v0 xs W hxs hWd hEr hB).mono fun e W' ⟨he, bel⟩ => ?_
  subst he
  have k4' : DataW.trod enc Tryz.prog W' 0 (fun b => decide (b < W.heap.size)) true fv 119 cv.toList = some (dv, pv) :=
    DataW.trod_stays (kids_book laidOut (t0 := 119) (by kernel_rfl)) (book_sized (by kernel_rfl)) (fun h => by cases h) ⟨of_decide_eq_true (by kernel_rfl), book_self _⟩ k4 (fun x hx => bel.same (ltv x hx)) (fun x hx => by simpa using ltv x hx)
  exact ⟨_, rfl, _, _, _, [], _, _, hW', trodAll_mk1 (shut_bool Tryz.underlying4 _), (trodAll_cons_mk (Below.trod laidOut (by kernel_rfl) (of_decide_eq_true (by kernel_rfl)) k0 bel lt0) trodAll_mk0), trodVars_mk1 k1 k2 (var?_below bel k1 (var_lt k1 k3) k3) k4', bel.frame _, fun h => by cases h⟩

theorem over : Rows.FnExactParseFilterSaid :=
  OpenClaim.holds_of_wide 3 Tryz.f3 rfl rfl rfl rfl rfl rfl rfl ⟨rfl, rfl, rfl, rfl, rfl⟩ rfl rfl rfl rfl rfl (by kernel_rfl) Tryz.func3 (by kernel_rfl)
    (of_decide_eq_true (by kernel_rfl)) (by unfold Func.isWrapper; first | (rw [if_pos (by decide +kernel)]; kernel_rfl) | (rw [if_neg (by decide +kernel)]; exact ⟨rfl, rfl⟩))
    (fun os started H enc _ => lifted os started H enc)

theorem card : Rows.FnExactParseFilterCardSaid :=
  Claim7.holds_tied_plain_at .later [] [.data, .data, .data, .sentinel, .sentinel, .data] true Rows.fnExactParseFilterCard.stood.harness true
    over (fun _ h => by cases h) (by kernel_rfl) (fun _ h => by cases h) fnExactParseFilter_row_tie rfl ⟨rfl, rfl⟩ (by kernel_rfl) rfl
    (fun f fn hf hfn => by
      obtain rfl : f = 3 := Option.some.inj ((show Tryz.prog.funcNamed "loop.example/s01854/laws.FnExactParseFilter" = some 3 by kernel_rfl).symm.trans hf) |>.symm
      obtain rfl : fn = Tryz.f3 := (Option.some.inj (Tryz.func3.symm.trans hfn)).symm
      exact ⟨by kernel_rfl, fun j t ht => by
        rw [Tryz.params3] at ht
        have h3 : t = 22 := by
          rcases j with _ | j
          · simpa using ht.symm
          · simp at ht
        subst h3
        exact (show Tryz.prog.wantsStandIn 22 = false by kernel_rfl)⟩)
    (by kernel_rfl)
end Go.Proofs.YtgnpcenpcmdlfaaGreatDoor.exParse
namespace Go.Proofs.YtgnpcenpcmdlfaaGreatDoor
theorem exactParseFilter_holds : Rows.FnExactParseFilterCardSaid := exParse.card
#print axioms exactParseFilter_holds
end Go.Proofs.YtgnpcenpcmdlfaaGreatDoor

