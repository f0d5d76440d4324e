import Derived.Great.BuildSlice
import Derived.Test.YtgnpcenpcmdlfaaGreatDoorZkAM
import Derived.Test.YtgnpcenpcmdlfaaGreatDoorRPqI
import Derived.Test.YtgnpcenpcmdlfaaGreatDoorZkAN
/-
  spec.l5Drain.
-/
namespace Go.Proofs.YtgnpcenpcmdlfaaGreatDoor
open Go.ChangeShapes Go.WideShapes Go.ChangeAt Go.RowKit Go.Deep
set_option linter.unusedVariables false
set_option linter.unusedSimpArgs false
set_option maxRecDepth 100000

def slLen : Value → Nat
  | .slice _ n _ => n
  | _ => 0
structure DrJ (w : World) (base gs cs go : Nat) (st : List (Int × Nat)) (out : List Nd) (all : Bool) (st1 : List (Int × Nat)) (out1 : List Nd) (m n1 g1 c1 : Nat) (wr : World) : Prop where
  eq : drainF all st out = drainF all st1 out1
  own : OwnEn wr base gs cs st1.reverse
  nds : OwnNd wr base g1 c1 out1
  chg : Chg (fun k => k = go) w wr
  ne : ¬ g1 = gs
  ap : g1 = go ∨ w.heap.size ≤ g1
  sm : m = st1.length
  on : n1 = out1.length
def DrP (w : World) (base gs cs go : Nat) (st : List (Int × Nat)) (out : List Nd) (all : Bool) (e : Ending) (w' : World) : Prop := ∃ (st1 : List (Int × Nat)) (out1 : List Nd) (g1 c1 : Nat), e = .returned (.tuple #[.slice (some ⟨gs, 0, none⟩) st1.length cs, .slice (some ⟨g1, 0, none⟩) out1.length c1]) ∧ drainF all st out = (st1, out1) ∧ Hid (OwnEn w' base gs cs st1.reverse ∧ OwnNd w' base g1 c1 out1 ∧ Chg (fun k => k = go) w w' ∧ ¬ g1 = gs ∧ (g1 = go ∨ w.heap.size ≤ g1))
theorem DrJ.done {w : World} {base gs cs go : Nat} {st : List (Int × Nat)} {out : List Nd} {all : Bool} {st1 : List (Int × Nat)} {out1 : List Nd} {m n1 g1 c1 : Nat} {wr : World} (h : DrJ w base gs cs go st out all st1 out1 m n1 g1 c1 wr) (he : drainF all st1 out1 = (st1, out1)) : DrP w base gs cs go st out all (.returned (.tuple #[.slice (some ⟨gs, 0, none⟩) m cs, .slice (some ⟨g1, 0, none⟩) n1 c1])) wr :=
  ⟨st1, out1, g1, c1, by rw [h.sm, h.on], h.eq.trans he, h.own, h.nds, h.chg, h.ne, h.ap⟩
set_option maxHeartbeats 8000000 in
theorem l5Drain_core {w : World} {base gs cs go co : Nat} {st : List (Int × Nat)} {out : List Nd} (all : Bool) (hs : OwnEn w base gs cs st.reverse) (ho : OwnNd w base go co out) (hne : ¬ go = gs) (hl : st.length + out.length ≤ 100000) (hbs : base ≤ w.heap.size) :
    Calls Tryz.prog 51 #[.slice (some ⟨gs, 0, none⟩) st.length cs, .slice (some ⟨go, 0, none⟩) out.length co, .bool all] w (DrP w base gs cs go st out all) := by
  obtain ⟨m0, hm0⟩ : ∃ m, m = st.length := ⟨_, rfl⟩
  obtain ⟨n0, hn0⟩ : ∃ n, n = out.length := ⟨_, rfl⟩
  have H0 : Hid (DrJ w base gs cs go st out all st out m0 n0 go co w) := ⟨rfl, hs, ho, Chg.of_below (Below.refl _ _), hne, .inl rfl, hm0, hn0⟩
  rw [← hm0, ← hn0] at hl ⊢
  clear hs ho hne hm0 hn0
  go_enter Tryz.func51, Tryz.ntmps51
  go_wp2_with fail
  go_loopw [0, 1] (fun sv ov wr => ∃ (m n1 g1 c1 : Nat) (st1 : List (Int × Nat)) (out1 : List Nd), sv = .slice (some ⟨gs, 0, none⟩) m cs ∧ ov = .slice (some ⟨g1, 0, none⟩) n1 c1 ∧ m ≤ 100000 ∧ m + n1 ≤ 100000 ∧ DrJ w base gs cs go st out all st1 out1 m n1 g1 c1 wr) (fun sv _ _ => slLen sv)
  case atStart => exact ⟨m0, n0, go, co, st, out, rfl, rfl, by omega, hl, H0.out⟩
  case round =>
    clear H0
    obtain ⟨m', n1, g1, c1, st1, out1, rfl, rfl, hml, hmn, hJ⟩ := hrel
    have hgl := hJ.nds.lt
    have hsl := hJ.own.lt
    have hcs : cs ≤ 9223372036854775807 := by have := hJ.own.caps.2; unfold maxLen at this; omega
    have hmc : m' ≤ cs := by have := hJ.own.caps.1; rw [List.length_reverse, ← hJ.sm] at this; exact this
    have sr := hJ.chg.size
    cases st1 with
    | nil =>
      obtain rfl : m' = 0 := hJ.sm
      have HJ : Hid (DrJ w base gs cs go st out all [] out1 0 n1 g1 c1 wr) := hJ
      clear hJ
      go_wp2_with fail
      exact bodyPost_ret (v := .tuple #[.slice (some ⟨gs, 0, none⟩) 0 cs, .slice (some ⟨g1, 0, none⟩) n1 c1]) (by simp [results, Tryz.results51, go_sem]) rfl (HJ.out.done rfl)
    | cons e st2 =>
      obtain ⟨e1, l1⟩ := e
      obtain ⟨m, rfl⟩ : ∃ m, m' = m + 1 := ⟨m' - 1, by have := hJ.sm; simp at this; omega⟩
      have HJ : Hid (DrJ w base gs cs go st out all ((e1, l1) :: st2) out1 (m + 1) n1 g1 c1 wr) := hJ
      have HS2 : Hid (m = st2.length) := by have := hJ.sm; simp at this; exact this
      have c0 := hJ.own.cell enV_len (i := m) (e := (e1, l1)) (by rw [List.reverse_cons, List.getElem?_append_right (by simp [HS2.out]), List.length_reverse, HS2.out]; simp) 0 (by omega)
      simp at c0
      have zm : (0 : Int) < (m : Int) + 1 := by omega
      have zc : (m : Int) ≤ (cs : Int) := by omega
      clear hJ
      by_cases he1 : e1 = 1
      · have z1 : (e1 == 1) = true := by rw [beq_iff_eq]; exact he1
        have z2 : (e1 == 2) = false := by rw [beq_eq_false_iff_ne]; omega
        have HD : Hid (drainF all ((e1, l1) :: st2) out1 = drainF all st2 (out1 ++ [leafN 14])) := by
          show _ = _
          rw [drainF_cons, if_pos (.inl he1), he1]
          rfl
        have hop : OwnEn wr base gs cs st2.reverse := by
          have h9 := HJ.out.own.take enV_len (k := st2.length) (by simp)
          rw [List.reverse_cons, List.take_append_of_le_length (by simp), List.take_of_length_le (by simp)] at h9
          exact h9
        obtain ⟨W2, hW2⟩ : ∃ W2 : World, W2 = wr.alloc (Obj.cells #[.int .i64 14, .string ⟨#[]⟩, .bool false, .string ⟨#[]⟩, .int .u64 0, .int .u64 0, .int .i64 0] 65) := ⟨_, rfl⟩
        have hb2 : Below wr.heap.size wr W2 := by rw [hW2]; exact (Below.refl _ _).alloc (Nat.le_refl _) _
        have s2 := hb2.size
        have HW2 : Hid (OwnEn W2 base gs cs st2.reverse ∧ OwnNd W2 base g1 c1 out1 ∧ NdsAt W2 wr.heap.size 0 [leafN 14] ∧ Chg (fun k => k = go) w W2) := by
          refine ⟨hop.below hb2, HJ.out.nds.below hb2 HJ.out.nds.lt.2, ?_, HJ.out.chg.trans (Chg.of_below hb2)⟩
          intro i e he
          cases i with
          | zero =>
            simp at he
            subst he
            rw [hW2]
            refine ⟨?_, ?_, ?_, ?_, ?_, ?_, ?_⟩ <;> simp [leafN, noS]
          | succ i => simp at he
        have HL1 : Hid (n1 = out1.length) := HJ.out.on
        clear hb2 hop he1
        go_wp2_with (at_builtin; (try rw [← hW2]); refine wpList_append_nd _ rfl _ _ rfl base g1 c1 n1 wr.heap.size 0 1 1 out1 [leafN 14] rfl rfl HL1.out rfl HW2.out.2.1 HW2.out.2.2.1 ?hl ?hb ?_)
        case hl => rw [← HL1.out]; show n1 + 1 ≤ _; omega
        case hb => omega
        intro g' cp' w' hO' hgr hat
        have hgr2 : W2.grownBy w' (some g1) := by first | exact hgr | (rw [hW2]; exact hgr)
        have hat2 : g' = g1 ∨ g' = W2.heap.size := by first | exact hat | (rw [hW2]; exact hat) | (rw [hW2]; simpa using hat)
        have HR : Hid (DrJ w base gs cs go st out all st2 (out1 ++ [leafN 14]) m (n1 + 1) g' cp' w') := by
          have hc3 : Chg (fun k => k = g1) W2 w' := Chg.of_grown hgr2 (fun k hk => by cases hk; rfl)
          have hne := HJ.out.ne
          have hgo := HJ.out.ap
          refine ⟨HJ.out.eq.trans HD.out, HW2.out.1.chg hc3 (fun q => hne q.symm), hO', ?_, ?_, ?_, HS2.out, by rw [List.length_append, ← HL1.out]; rfl⟩
          · refine ⟨hc3.os.trans HW2.out.2.2.2.os, hc3.tape.trans HW2.out.2.2.2.tape, hc3.output.trans HW2.out.2.2.2.output, Nat.le_trans HW2.out.2.2.2.size hc3.size, fun k hk hn => (hc3.block k (Nat.lt_of_lt_of_le hk HW2.out.2.2.2.size) (fun q => ?_)).trans (HW2.out.2.2.2.block k hk hn)⟩
            rcases hgo with z | z
            · exact hn (q.trans z)
            · omega
          · rcases hat2 with z | z
            · rw [z]; exact hne
            · rw [z]; have := HW2.out.1.lt.2; omega
          · rcases hat2 with z | z
            · rw [z]; exact hgo
            · right; rw [z]; have := HW2.out.2.2.2.size; omega
        clear hO' hgr hgr2 hat hat2 hW2
        go_wp2_with fail
        go_roundw
        case rel => exact ⟨m, n1 + 1, g', cp', st2, out1 ++ [leafN 14], rfl, rfl, by omega, by omega, HR.out⟩
        case measure => simp [slLen]
      have z1 : (e1 == 1) = false := by rw [beq_eq_false_iff_ne]; exact he1
      cases hall : all
      case false =>
        subst hall
        have HE : Hid (drainF false ((e1, l1) :: st2) out1 = ((e1, l1) :: st2, out1)) := by show _ = _; rw [drainF_cons, if_neg (fun q => q.elim he1 (fun z => by cases z.1))]
        clear he1
        go_wp2_with fail
        exact bodyPost_ret (v := .tuple #[.slice (some ⟨gs, 0, none⟩) (m + 1) cs, .slice (some ⟨g1, 0, none⟩) n1 c1]) (by simp [results, Tryz.results51, go_sem]) rfl (HJ.out.done HE.out)
      case true =>
        by_cases he2 : e1 = 2
        · have z2 : (e1 == 2) = true := by rw [beq_iff_eq]; exact he2
          have he1 := he2
          clear he2
          subst hall
          have HD : Hid (drainF true ((e1, l1) :: st2) out1 = drainF true st2 (out1 ++ [leafN 15])) := by
            show _ = _
            rw [drainF_cons, if_pos (.inr ⟨rfl, he1⟩), he1]
            rfl
          have hop : OwnEn wr base gs cs st2.reverse := by
            have h9 := HJ.out.own.take enV_len (k := st2.length) (by simp)
            rw [List.reverse_cons, List.take_append_of_le_length (by simp), List.take_of_length_le (by simp)] at h9
            exact h9
          obtain ⟨W2, hW2⟩ : ∃ W2 : World, W2 = wr.alloc (Obj.cells #[.int .i64 15, .string ⟨#[]⟩, .bool false, .string ⟨#[]⟩, .int .u64 0, .int .u64 0, .int .i64 0] 65) := ⟨_, rfl⟩
          have hb2 : Below wr.heap.size wr W2 := by rw [hW2]; exact (Below.refl _ _).alloc (Nat.le_refl _) _
          have s2 := hb2.size
          have HW2 : Hid (OwnEn W2 base gs cs st2.reverse ∧ OwnNd W2 base g1 c1 out1 ∧ NdsAt W2 wr.heap.size 0 [leafN 15] ∧ Chg (fun k => k = go) w W2) := by
            refine ⟨hop.below hb2, HJ.out.nds.below hb2 HJ.out.nds.lt.2, ?_, HJ.out.chg.trans (Chg.of_below hb2)⟩
            intro i e he
            cases i with
            | zero =>
              simp at he
              subst he
              rw [hW2]
              refine ⟨?_, ?_, ?_, ?_, ?_, ?_, ?_⟩ <;> simp [leafN, noS]
            | succ i => simp at he
          have HL1 : Hid (n1 = out1.length) := HJ.out.on
          clear hb2 hop he1
          go_wp2_with (at_builtin; (try rw [← hW2]); refine wpList_append_nd _ rfl _ _ rfl base g1 c1 n1 wr.heap.size 0 1 1 out1 [leafN 15] rfl rfl HL1.out rfl HW2.out.2.1 HW2.out.2.2.1 ?hl ?hb ?_)
          case hl => rw [← HL1.out]; show n1 + 1 ≤ _; omega
          case hb => omega
          intro g' cp' w' hO' hgr hat
          have hgr2 : W2.grownBy w' (some g1) := by first | exact hgr | (rw [hW2]; exact hgr)
          have hat2 : g' = g1 ∨ g' = W2.heap.size := by first | exact hat | (rw [hW2]; exact hat) | (rw [hW2]; simpa using hat)
          have HR : Hid (DrJ w base gs cs go st out true st2 (out1 ++ [leafN 15]) m (n1 + 1) g' cp' w') := by
            have hc3 : Chg (fun k => k = g1) W2 w' := Chg.of_grown hgr2 (fun k hk => by cases hk; rfl)
            have hne := HJ.out.ne
            have hgo := HJ.out.ap
            refine ⟨HJ.out.eq.trans HD.out, HW2.out.1.chg hc3 (fun q => hne q.symm), hO', ?_, ?_, ?_, HS2.out, by rw [List.length_append, ← HL1.out]; rfl⟩
            · refine ⟨hc3.os.trans HW2.out.2.2.2.os, hc3.tape.trans HW2.out.2.2.2.tape, hc3.output.trans HW2.out.2.2.2.output, Nat.le_trans HW2.out.2.2.2.size hc3.size, fun k hk hn => (hc3.block k (Nat.lt_of_lt_of_le hk HW2.out.2.2.2.size) (fun q => ?_)).trans (HW2.out.2.2.2.block k hk hn)⟩
              rcases hgo with z | z
              · exact hn (q.trans z)
              · omega
            · rcases hat2 with z | z
              · rw [z]; exact hne
              · rw [z]; have := HW2.out.1.lt.2; omega
            · rcases hat2 with z | z
              · rw [z]; exact hgo
              · right; rw [z]; have := HW2.out.2.2.2.size; omega
          clear hO' hgr hgr2 hat hat2 hW2
          go_wp2_with fail
          go_roundw
          case rel => exact ⟨m, n1 + 1, g', cp', st2, out1 ++ [leafN 15], rfl, rfl, by omega, by omega, HR.out⟩
          case measure => simp [slLen]
        · have z2 : (e1 == 2) = false := by rw [beq_eq_false_iff_ne]; exact he2
          subst hall
          have HE : Hid (drainF true ((e1, l1) :: st2) out1 = ((e1, l1) :: st2, out1)) := by show _ = _; rw [drainF_cons, if_neg (fun q => q.elim he1 (fun z => he2 z.2))]
          clear he1 he2
          go_wp2_with fail
          exact bodyPost_ret (v := .tuple #[.slice (some ⟨gs, 0, none⟩) (m + 1) cs, .slice (some ⟨g1, 0, none⟩) n1 c1]) (by simp [results, Tryz.results51, go_sem]) rfl (HJ.out.done HE.out)
end Go.Proofs.YtgnpcenpcmdlfaaGreatDoor

/-
  spec.l5Parse: what is under way.
-/
namespace Go.Proofs.YtgnpcenpcmdlfaaGreatDoor
open Go.ChangeShapes Go.WideShapes Go.ChangeAt Go.RowKit Go.Deep
set_option linter.unusedVariables false
set_option linter.unusedSimpArgs false
set_option maxRecDepth 100000

structure PB (w : World) (base g cp N : Nat) (ks : List Tk) (pi pn : Nat) (pe : Int) (pa : Nat) (st : List (Int × Nat)) (out : List Nd) (gs cs go co : Nat) (W : World) : Prop where
  tk : OwnTk W base g cp ks
  p : BoxAt W w.heap.size 41 5 w.heap.size [.slice (some ⟨g, 0, none⟩) N cp, .int .i64 (pi : Int), .int .i64 (pn : Int), .int .i64 pe, .int .i64 (pa : Int)]
  rp : BoxAt W w.heap.size 41 5 (w.heap.size + 1) [.slice none 0 0, .int .i64 0, .int .i64 0, .int .i64 0, .int .i64 0]
  st : OwnEn W (w.heap.size + 2) gs cs st.reverse
  out : OwnNd W (w.heap.size + 2) go co out
  ne : ¬ go = gs
  bl : Below w.heap.size w W
  gl : g < w.heap.size
theorem PB.lts {w : World} {base g cp N : Nat} {ks : List Tk} {pi pn : Nat} {pe : Int} {pa : Nat} {st : List (Int × Nat)} {out : List Nd} {gs cs go co : Nat} {W : World} (h : PB w base g cp N ks pi pn pe pa st out gs cs go co W) : (w.heap.size + 2 ≤ gs ∧ gs < W.heap.size) ∧ (w.heap.size + 2 ≤ go ∧ go < W.heap.size) ∧ w.heap.size + 2 ≤ W.heap.size := by
  have h1 := h.st.lt
  have h2 := h.out.lt
  exact ⟨h1, h2, by omega⟩
theorem PB.up {w : World} {base g cp N : Nat} {ks : List Tk} {pi pn : Nat} {pe : Int} {pa : Nat} {st : List (Int × Nat)} {out : List Nd} {gs cs go co : Nat} {W : World} (h : PB w base g cp N ks pi pn pe pa st out gs cs go co W) {W' : World} (hb : Below W.heap.size W W') : PB w base g cp N ks pi pn pe pa st out gs cs go co W' :=
  ⟨h.tk.below hb, h.p.below hb, h.rp.below hb, h.st.below hb, h.out.below hb h.out.lt.2, h.ne, h.bl.trans (hb.mono h.bl.size), h.gl⟩
/-- Only a block that is none of these has changed. -/
theorem PB.side {w : World} {base g cp N : Nat} {ks : List Tk} {pi pn : Nat} {pe : Int} {pa : Nat} {st : List (Int × Nat)} {out : List Nd} {gs cs go co : Nat} {W : World} (h : PB w base g cp N ks pi pn pe pa st out gs cs go co W) {W' : World} {b : Nat} (hc : Chg (fun k => k = b) W W') (hb : w.heap.size + 2 ≤ b) (h1 : ¬ b = gs) (h2 : ¬ b = go) : PB w base g cp N ks pi pn pe pa st out gs cs go co W' := by
  have hg := h.gl
  exact ⟨h.tk.chg hc (by omega), h.p.chg hc (by omega), h.rp.chg hc (by omega), h.st.chg hc (fun q => h1 q.symm), own_chg h.out hc (fun k hk q => by simp [Value.ownBlock] at hk; exact h2 (q.symm.trans hk.symm)), h.ne, Chg.below h.bl hc h.bl.size (fun k q => by omega), hg⟩
theorem PB.setp {w : World} {base g cp N : Nat} {ks : List Tk} {pi pn : Nat} {pe : Int} {pa : Nat} {st : List (Int × Nat)} {out : List Nd} {gs cs go co : Nat} {W : World} (h : PB w base g cp N ks pi pn pe pa st out gs cs go co W) (pi' pn' : Nat) (pe' : Int) (pa' : Nat) : PB w base g cp N ks pi' pn' pe' pa' st out gs cs go co (setP W w.heap.size (.slice (some ⟨g, 0, none⟩) N cp) (.int .i64 (pi' : Int)) (.int .i64 (pn' : Int)) (.int .i64 pe') (.int .i64 (pa' : Int))) := by
  have hc : Chg (fun k => k = w.heap.size) W (setP W w.heap.size (.slice (some ⟨g, 0, none⟩) N cp) (.int .i64 (pi' : Int)) (.int .i64 (pn' : Int)) (.int .i64 pe') (.int .i64 (pa' : Int))) := chg_setP _ _ _ _ _ _ _
  have hg := h.gl
  have hl := h.lts
  exact ⟨h.tk.chg hc (by omega), h.p.setP _ _ _ _ _, h.rp.chg hc (by omega), h.st.chg hc (by omega), own_chg h.out hc (fun k hk q => by simp [Value.ownBlock] at hk; omega), h.ne, Chg.below h.bl hc h.bl.size (fun k q => by omega), hg⟩
theorem PB.seti {w : World} {base g cp N : Nat} {ks : List Tk} {pi pn : Nat} {pe : Int} {pa : Nat} {st : List (Int × Nat)} {out : List Nd} {gs cs go co : Nat} {W : World} (h : PB w base g cp N ks pi pn pe pa st out gs cs go co W) (u : Value) (hu : u = .int .i64 ((pi + 1 : Nat) : Int)) : PB w base g cp N ks (pi + 1) pn pe pa st out gs cs go co (W.setCell ⟨w.heap.size, 1, none⟩ u) := by
  subst hu
  have hc : Chg (fun k => k = w.heap.size) W (W.setCell ⟨w.heap.size, 1, none⟩ (.int .i64 ((pi + 1 : Nat) : Int))) := Chg.of_set _ _ _ _ rfl
  have hg := h.gl
  have hl := h.lts
  exact ⟨h.tk.chg hc (by omega), h.p.set 1 _, h.rp.chg hc (by omega), h.st.chg hc (by omega), own_chg h.out hc (fun k hk q => by simp [Value.ownBlock] at hk; omega), h.ne, Chg.below h.bl hc h.bl.size (fun k q => by omega), hg⟩
theorem PB.pushS {w : World} {base g cp N : Nat} {ks : List Tk} {pi pn : Nat} {pe : Int} {pa : Nat} {st : List (Int × Nat)} {out : List Nd} {gs cs go co : Nat} {W : World} (h : PB w base g cp N ks pi pn pe pa st out gs cs go co W) {e : Int × Nat} {g' c' : Nat} {W' : World} (hO : OwnEn W' (w.heap.size + 2) g' c' (st.reverse ++ [e])) (hgr : W.grownBy W' (some gs)) (hat : g' = gs ∨ g' = W.heap.size) : PB w base g cp N ks pi pn pe pa (e :: st) out g' c' go co W' := by
  have hc : Chg (fun k => k = gs) W W' := Chg.of_grown hgr (fun k hk => by cases hk; rfl)
  have hg := h.gl
  have hl := h.lts
  have hn := h.ne
  refine ⟨h.tk.chg hc (by omega), h.p.chg hc (by omega), h.rp.chg hc (by omega), by rw [List.reverse_cons]; exact hO, own_chg h.out hc (fun k hk q => by simp [Value.ownBlock] at hk; omega), by omega, Chg.below h.bl hc h.bl.size (fun k q => by omega), hg⟩
theorem PB.pushO {w : World} {base g cp N : Nat} {ks : List Tk} {pi pn : Nat} {pe : Int} {pa : Nat} {st : List (Int × Nat)} {out : List Nd} {gs cs go co : Nat} {W : World} (h : PB w base g cp N ks pi pn pe pa st out gs cs go co W) {xs : List Nd} {g' c' : Nat} {W' : World} (hO : OwnNd W' (w.heap.size + 2) g' c' (out ++ xs)) (hgr : W.grownBy W' (some go)) (hat : g' = go ∨ g' = W.heap.size) : PB w base g cp N ks pi pn pe pa st (out ++ xs) gs cs g' c' W' := by
  have hc : Chg (fun k => k = go) W W' := Chg.of_grown hgr (fun k hk => by cases hk; rfl)
  have hg := h.gl
  have hl := h.lts
  have hn := h.ne
  exact ⟨h.tk.chg hc (by omega), h.p.chg hc (by omega), h.rp.chg hc (by omega), h.st.chg hc (by omega), hO, by omega, Chg.below h.bl hc h.bl.size (fun k q => by omega), hg⟩
theorem PB.drain {w : World} {base g cp N : Nat} {ks : List Tk} {pi pn : Nat} {pe : Int} {pa : Nat} {st : List (Int × Nat)} {out : List Nd} {gs cs go co : Nat} {W : World} (h : PB w base g cp N ks pi pn pe pa st out gs cs go co W) {st1 : List (Int × Nat)} {out1 : List Nd} {g1 c1 : Nat} {W' : World} (hO : OwnEn W' (w.heap.size + 2) gs cs st1.reverse ∧ OwnNd W' (w.heap.size + 2) g1 c1 out1 ∧ Chg (fun k => k = go) W W' ∧ ¬ g1 = gs ∧ (g1 = go ∨ W.heap.size ≤ g1)) : PB w base g cp N ks pi pn pe pa st1 out1 gs cs g1 c1 W' := by
  have hc := hO.2.2.1
  have hg := h.gl
  have hl := h.lts
  exact ⟨h.tk.chg hc (by omega), h.p.chg hc (by omega), h.rp.chg hc (by omega), hO.1, hO.2.1, hO.2.2.2.1, Chg.below h.bl hc h.bl.size (fun k q => by omega), hg⟩
theorem PB.pop {w : World} {base g cp N : Nat} {ks : List Tk} {pi pn : Nat} {pe : Int} {pa : Nat} {st : List (Int × Nat)} {out : List Nd} {gs cs go co : Nat} {W : World} {e : Int × Nat} (h : PB w base g cp N ks pi pn pe pa (e :: st) out gs cs go co W) : PB w base g cp N ks pi pn pe pa st out gs cs go co W := by
  refine ⟨h.tk, h.p, h.rp, ?_, h.out, h.ne, h.bl, h.gl⟩
  have h1 := h.st.take enV_len (k := st.length) (by simp)
  rw [List.reverse_cons, List.take_append_of_le_length (by simp), List.take_of_length_le (by simp)] at h1
  exact h1
theorem PB.top {w : World} {base g cp N : Nat} {ks : List Tk} {pi pn : Nat} {pe : Int} {pa : Nat} {st : List (Int × Nat)} {out : List Nd} {gs cs go co : Nat} {W : World} {e : Int × Nat} (h : PB w base g cp N ks pi pn pe pa (e :: st) out gs cs go co W) : W.cell? ⟨gs, st.length * 2, none⟩ = some (.int .i64 e.1) ∧ W.cell? ⟨gs, st.length * 2 + 1, none⟩ = some (.int .i64 (e.2 : Int)) := by
  have hg : (e :: st).reverse[st.length]? = some e := by rw [List.reverse_cons, List.getElem?_append_right (by simp)]; simp
  exact ⟨h.st.cell enV_len hg 0 (by omega), h.st.cell enV_len hg 1 (by omega)⟩
/-- The whole of a row changed at one cell. -/
theorem OwnG.setLast {α : Type} {f : α → List Value} {sz ty : Nat} (hf : ∀ x, (f x).length = sz) {w : World} {base g cap : Nat} {es : List α} {e e' : α} (h : OwnG f sz ty w base g cap (es ++ [e])) (j : Nat) (u : Value) (hj : j < sz) (he : (f e).set j u = f e') : OwnG f sz ty (w.setCell ⟨g, es.length * sz + j, none⟩ u) base g cap (es ++ [e']) := by
  have h1 := (World.ownsRow.stored h (es.length * sz + j) u).1
  have hfl := gFlat_len hf es
  have h2 : ((es ++ [e]).flatMap f).set (es.length * sz + j) u = (es ++ [e']).flatMap f := by
    rw [List.flatMap_append, List.flatMap_singleton, List.set_append_right _ _ (by omega), hfl, show es.length * sz + j - es.length * sz = j by omega, he, List.flatMap_append, List.flatMap_singleton]
  rw [h2] at h1
  unfold OwnG
  rw [List.length_append, List.length_singleton] at h1 ⊢
  exact h1
theorem PB.left {w : World} {base g cp N : Nat} {ks : List Tk} {pi pn : Nat} {pe : Int} {pa : Nat} {st : List (Int × Nat)} {out : List Nd} {gs cs go co : Nat} {W : World} {k : Int} {l : Nat} (h : PB w base g cp N ks pi pn pe pa ((k, l) :: st) out gs cs go co W) (l' : Nat) : PB w base g cp N ks pi pn pe pa ((k, l') :: st) out gs cs go co (W.setCell ⟨gs, st.length * 2 + 1, none⟩ (.int .i64 (l' : Int))) := by
  have hc : Chg (fun k => k = gs) W (W.setCell ⟨gs, st.length * 2 + 1, none⟩ (.int .i64 (l' : Int))) := Chg.of_set _ _ _ _ rfl
  have hg := h.gl
  have hl := h.lts
  have hn := h.ne
  refine ⟨h.tk.chg hc (by omega), h.p.chg hc (by omega), h.rp.chg hc (by omega), ?_, own_chg h.out hc (fun k hk q => by simp [Value.ownBlock] at hk; omega), hn, Chg.below h.bl hc h.bl.size (fun k q => by omega), hg⟩
  have h1 := h.st
  rw [List.reverse_cons] at h1 ⊢
  have h2 := OwnG.setLast enV_len (e' := (k, l')) h1 1 (.int .i64 (l' : Int)) (by omega) rfl
  rw [List.length_reverse] at h2
  exact h2
/-- What l5Parse hands back. -/
def ParP (w : World) (g cp N : Nat) (m0 : Ms) (e : Ending) (w' : World) : Prop := Below w.heap.size w w' ∧
  ((∃ pi pn pa ns go co, MEnds m0 (.ok ns) ∧ OwnNd w' w.heap.size go co ns ∧ e = .returned (.tuple #[parV g N cp pi pn 0 pa, .slice (some ⟨go, 0, none⟩) ns.length co])) ∨
   (∃ pi pn c a oa on oc, MEnds m0 (.error (c, a)) ∧ 1 ≤ c ∧ e = .returned (.tuple #[parV g N cp pi pn c a, .slice oa on oc])))
/-- Under way. -/
structure PM (N : Nat) (ks : List Tk) (m0 m : Ms) (i : Nat) : Prop where
  ks : m.ks = ks.drop i
  md : m.made ≤ 200
  ln : m.out.length + m.st.length ≤ i
  iN : i < N
  go : ∀ r, MEnds m r → MEnds m0 r
  lf : ∀ e ∈ m.st, e.2 ≤ 2
def PRel (w : World) (base g cp N : Nat) (ks : List Tk) (m0 : Ms) (gk : Nat) (ov sv wv : Value) (wr : World) : Prop :=
  (∃ (m : Ms) (i gs cs go co : Nat), ov = .slice (some ⟨go, 0, none⟩) m.out.length co ∧ sv = .slice (some ⟨gs, 0, none⟩) m.st.length cs ∧ wv = .bool m.want ∧ N + 1 - i ≤ gk ∧ PM N ks m0 m i ∧ PB w base g cp N ks i m.made 0 0 m.st m.out gs cs go co wr) ∨
  (∃ (c : Int) (a pi pn gs cs go co : Nat) (st : List (Int × Nat)) (out : List Nd) (b : Bool), ov = .slice (some ⟨go, 0, none⟩) out.length co ∧ sv = .slice (some ⟨gs, 0, none⟩) st.length cs ∧ wv = .bool b ∧ MEnds m0 (.error (c, a)) ∧ 1 ≤ c ∧ PB w base g cp N ks pi pn c a st out gs cs go co wr)
/-- A reading that ends at a fault. -/
theorem PB.fail {w : World} {base g cp N : Nat} {ks : List Tk} {pi pn : Nat} {pe : Int} {pa : Nat} {st : List (Int × Nat)} {out : List Nd} {gs cs go co : Nat} {W : World} {m0 : Ms} (h : PB w base g cp N ks pi pn pe pa st out gs cs go co W) {pi' pn' : Nat} {c : Int} {a : Nat} {oa : Option Addr} {on oc : Nat} (hm : MEnds m0 (.error (c, a))) (hc : 1 ≤ c) {W' : World} (hW : W' = setP W (w.heap.size + 1) (.slice (some ⟨g, 0, none⟩) N cp) (.int .i64 (pi' : Int)) (.int .i64 (pn' : Int)) (.int .i64 c) (.int .i64 (a : Int))) : ParP w g cp N m0 (.returned (.tuple #[parV g N cp pi' pn' c a, .slice oa on oc])) W' ∧ BoxAt W' w.heap.size 41 5 (w.heap.size + 1) [.slice (some ⟨g, 0, none⟩) N cp, .int .i64 (pi' : Int), .int .i64 (pn' : Int), .int .i64 c, .int .i64 (a : Int)] := by
  subst hW
  exact ⟨⟨below_setP h.bl (by omega) _ _ _ _ _, .inr ⟨pi', pn', c, a, oa, on, oc, hm, hc, rfl⟩⟩, h.rp.setP _ _ _ _ _⟩
theorem PB.good {w : World} {base g cp N : Nat} {ks : List Tk} {pi pn : Nat} {pe : Int} {pa : Nat} {st : List (Int × Nat)} {out : List Nd} {gs cs go co : Nat} {W : World} {m0 : Ms} (h : PB w base g cp N ks pi pn pe pa st out gs cs go co W) {pi' pn' pa' : Nat} (hm : MEnds m0 (.ok out)) {W' : World} (hW : W' = setP W (w.heap.size + 1) (.slice (some ⟨g, 0, none⟩) N cp) (.int .i64 (pi' : Int)) (.int .i64 (pn' : Int)) (.int .i64 0) (.int .i64 (pa' : Int))) : ParP w g cp N m0 (.returned (.tuple #[parV g N cp pi' pn' 0 pa', .slice (some ⟨go, 0, none⟩) out.length co])) W' ∧ BoxAt W' w.heap.size 41 5 (w.heap.size + 1) [.slice (some ⟨g, 0, none⟩) N cp, .int .i64 (pi' : Int), .int .i64 (pn' : Int), .int .i64 0, .int .i64 (pa' : Int)] := by
  subst hW
  have hc : Chg (fun k => k = w.heap.size + 1) W (setP W (w.heap.size + 1) (.slice (some ⟨g, 0, none⟩) N cp) (.int .i64 (pi' : Int)) (.int .i64 (pn' : Int)) (.int .i64 0) (.int .i64 (pa' : Int))) := chg_setP _ _ _ _ _ _ _
  have hl := h.lts
  exact ⟨⟨below_setP h.bl (by omega) _ _ _ _ _, .inl ⟨pi', pn', pa', out, go, co, hm, (OwnNd.mono (own_chg h.out hc (fun k hk q => by simp [Value.ownBlock] at hk; omega)) (by omega)), rfl⟩⟩, h.rp.setP _ _ _ _ _⟩
end Go.Proofs.YtgnpcenpcmdlfaaGreatDoor

/-
  spec.l5Parse: its steps, without memory.
-/
namespace Go.Proofs.YtgnpcenpcmdlfaaGreatDoor
open Go.ChangeShapes Go.WideShapes Go.ChangeAt Go.RowKit Go.Deep
set_option linter.unusedVariables false
set_option linter.unusedSimpArgs false
set_option maxRecDepth 100000

section
variable {N : Nat} {ks : List Tk} {m0 : Ms} {mks : List Tk} {md : Nat} {out : List Nd} {st : List (Int × Nat)} {wt : Bool} {i : Nat} {k : Tk}
theorem PM.hd (h : PM N ks m0 ⟨mks, md, out, st, wt⟩ i) (hk : ks[i]? = some k) : hdK mks = k.k ∧ hdA mks = k.pos ∧ mks.tail = ks.drop (i + 1) := by
  have h1 := h.ks
  show hdK mks = k.k ∧ _
  have h1 : mks = ks.drop i := h1
  rw [h1]
  exact drop_hd hk
theorem PM.stops (h : PM N ks m0 ⟨mks, md, out, st, wt⟩ i) {r : PR (List Nd)} (hs : mStep ⟨mks, md, out, st, wt⟩ = .inr r) : MEnds m0 r := h.go _ (.fin hs)
theorem PM.goes (h : PM N ks m0 ⟨mks, md, out, st, wt⟩ i) {m' : Ms} (hs : mStep ⟨mks, md, out, st, wt⟩ = .inl m') {j : Nat} (h1 : m'.ks = ks.drop j) (h2 : m'.made ≤ 200) (h3 : m'.out.length + m'.st.length ≤ j) (h4 : j < N) (h5 : ∀ e ∈ m'.st, e.2 ≤ 2) : PM N ks m0 m' j :=
  ⟨h1, h2, h3, h4, fun r q => h.go _ (.step hs q), h5⟩
theorem mStep_w (h : PM N ks m0 ⟨mks, md, out, st, true⟩ i) (hk : ks[i]? = some k) (hb : k.k.isBad = false) : mStep ⟨mks, md, out, st, true⟩ = stepWant ⟨mks, md, out, st, true⟩ := by
  unfold mStep
  rw [if_neg (by show ¬ (hdK mks).isBad = true; rw [(h.hd hk).1, hb]; simp), if_pos rfl]
theorem next_tk (hT : Toks ks) (hN : N = ks.length) (hk : ks[i]? = some k) (hg : ¬ k.k = .fin ∧ ¬ k.k = .bad) : ∃ k1, ks[i + 1]? = some k1 ∧ i + 1 < N := by
  obtain ⟨_, k1, hk1⟩ := toks_next hT hk hg.1 hg.2
  exact ⟨k1, hk1, by rw [hN]; exact (List.getElem?_eq_some_iff.1 hk1).1⟩
theorem lf_cons {a : Int} {l : Nat} (h : l ≤ 2) (h2 : ∀ e ∈ st, e.2 ≤ 2) : ∀ e ∈ (a, l) :: st, e.2 ≤ 2 := fun e he => by
  rcases List.mem_cons.1 he with rfl | he
  · exact h
  · exact h2 e he
/-- An if. -/
theorem want_if (h : PM N ks m0 ⟨mks, md, out, st, true⟩ i) (hk : ks[i]? = some k) (hN : N = ks.length) (hT : Toks ks) (hw : k.k = .word 16) {k1 : Tk} (hk1 : ks[i + 1]? = some k1) :
    (¬ md < 200 → MEnds m0 (.error (5, k.pos))) ∧
    (md < 200 → k1.k.isSign 40 = false → MEnds m0 (.error (if k1.k.isBad = true then 2 else 3, k1.pos))) ∧
    (md < 200 → k1.k.isSign 40 = true → openF st = 20 → MEnds m0 (.error (4, k1.pos))) ∧
    (md < 200 → k1.k.isSign 40 = true → ¬ openF st = 20 → PM N ks m0 ⟨ks.drop (i + 2), md + 1, out, (4, 2) :: st, true⟩ (i + 2)) := by
  obtain ⟨e1, e2, e3⟩ := h.hd hk
  obtain ⟨f1, f2, f3⟩ := drop_hd hk1
  have hs := mStep_w h hk (by rw [hw]; rfl)
  have hs2 : stepWant ⟨mks, md, out, st, true⟩ = stepIf ⟨mks, md, out, st, true⟩ := by
    unfold stepWant
    rw [show hdK (Ms.ks ⟨mks, md, out, st, true⟩) = .word 16 from e1.trans hw]
    exact if_pos rfl
  rw [hs2] at hs
  unfold stepIf at hs
  simp only [e2, e3, f1, f2, f3] at hs
  refine ⟨fun q => ?_, fun q q1 => ?_, fun q q1 q2 => ?_, fun q q1 q2 => ?_⟩
  · rw [if_neg q] at hs
    exact h.stops hs
  · rw [if_pos q, if_neg (by rw [q1]; simp)] at hs
    unfold failF at hs
    rw [f1, f2] at hs
    exact h.stops hs
  · rw [if_pos q, if_pos q1, if_pos q2] at hs
    exact h.stops hs
  · rw [if_pos q, if_pos q1, if_neg q2] at hs
    obtain ⟨k2, _, h2⟩ := next_tk hT hN hk1 (by rw [TkK.isSign_eq q1]; exact ⟨(fun q => nomatch q), (fun q => nomatch q)⟩)
    have hl := h.ln
    have hl : out.length + st.length ≤ i := hl
    exact h.goes hs rfl (by show md + 1 ≤ 200; omega) (by show out.length + ((4, 2) :: st).length ≤ i + 2; simp only [List.length_cons]; omega) h2 (lf_cons (by omega) h.lf)
theorem want_leaf (h : PM N ks m0 ⟨mks, md, out, st, true⟩ i) (hk : ks[i]? = some k) {kd : Int} (hw : k.k = .word kd) (h16 : ¬ kd = 16) :
    (¬ md < 200 → MEnds m0 (.error (5, k.pos))) ∧
    (md < 200 → ∀ e, argsM kd (ks.drop (i + 1)) = .error e → MEnds m0 (.error e)) ∧
    (md < 200 → ∀ j n, argsM kd (ks.drop (i + 1)) = .ok (ks.drop j, n) → i + 1 ≤ j → j < N → PM N ks m0 ⟨ks.drop j, md + 1, out ++ [n], st, false⟩ j) := by
  obtain ⟨e1, e2, e3⟩ := h.hd hk
  have hs := mStep_w h hk (by rw [hw]; rfl)
  have hs2 : stepWant ⟨mks, md, out, st, true⟩ = stepLeaf kd ⟨mks, md, out, st, true⟩ := by
    unfold stepWant
    rw [show hdK (Ms.ks ⟨mks, md, out, st, true⟩) = .word kd from e1.trans hw]
    exact if_neg h16
  rw [hs2] at hs
  unfold stepLeaf at hs
  simp only [e2, e3] at hs
  refine ⟨fun q => ?_, fun q e q1 => ?_, fun q j n q1 q2 q3 => ?_⟩
  · rw [if_neg q] at hs
    exact h.stops hs
  · rw [if_pos q, q1] at hs
    exact h.stops hs
  · rw [if_pos q, q1] at hs
    have hl := h.ln
    have hl : out.length + st.length ≤ i := hl
    exact h.goes hs rfl (by show md + 1 ≤ 200; omega) (by show (out ++ [n]).length + st.length ≤ j; simp only [List.length_append, List.length_singleton]; omega) q3 h.lf
theorem want_open (h : PM N ks m0 ⟨mks, md, out, st, true⟩ i) (hk : ks[i]? = some k) (hN : N = ks.length) (hT : Toks ks) (hs1 : k.k.isSign 40 = true) :
    (openF st = 20 → MEnds m0 (.error (4, k.pos))) ∧ (¬ openF st = 20 → PM N ks m0 ⟨ks.drop (i + 1), md, out, (3, 0) :: st, true⟩ (i + 1)) := by
  obtain ⟨e1, e2, e3⟩ := h.hd hk
  have hw := TkK.isSign_eq hs1
  have hs := mStep_w h hk (by rw [hw]; rfl)
  unfold stepWant at hs
  rw [show hdK (Ms.ks ⟨mks, md, out, st, true⟩) = .sign 40 from e1.trans hw] at hs
  simp only [e2, e3] at hs
  rw [if_pos (by rfl)] at hs
  refine ⟨fun q => ?_, fun q => ?_⟩
  · rw [if_pos q] at hs
    exact h.stops hs
  · rw [if_neg q] at hs
    obtain ⟨k2, _, h2⟩ := next_tk hT hN hk (by rw [hw]; exact ⟨(fun q => nomatch q), (fun q => nomatch q)⟩)
    have hl := h.ln
    have hl : out.length + st.length ≤ i := hl
    have hm : md ≤ 200 := h.md
    exact h.goes hs rfl hm (by show out.length + ((3, 0) :: st).length ≤ i + 1; simp only [List.length_cons]; omega) h2 (lf_cons (by omega) h.lf)
theorem want_no (h : PM N ks m0 ⟨mks, md, out, st, true⟩ i) (hk : ks[i]? = some k) (hb : k.k.isBad = false) (hw : ∀ kd, ¬ k.k = .word kd) (hs1 : k.k.isSign 40 = false) : MEnds m0 (.error (3, k.pos)) := by
  obtain ⟨e1, e2, e3⟩ := h.hd hk
  have hs := mStep_w h hk hb
  have hs2 : stepWant ⟨mks, md, out, st, true⟩ = .inr (.error (3, k.pos)) := by
    unfold stepWant
    rw [show hdK (Ms.ks ⟨mks, md, out, st, true⟩) = k.k from e1, show hdA (Ms.ks ⟨mks, md, out, st, true⟩) = k.pos from e2]
    cases hkk : k.k with
    | word kd => exact absurd hkk (hw kd)
    | _ => rw [hkk] at hs1; dsimp only; rw [if_neg (by rw [hs1]; simp)]
  exact h.stops (hs.trans hs2)
/-- Where an operator may stand. -/
theorem mStep_o (h : PM N ks m0 ⟨mks, md, out, st, false⟩ i) (hk : ks[i]? = some k) (hb : k.k.isBad = false) : mStep ⟨mks, md, out, st, false⟩ = (if k.k.isSign 62 = true then stepOp false 1 ⟨mks, md, out, st, false⟩ else if k.k.isSign 124 = true then stepOp true 2 ⟨mks, md, out, st, false⟩ else stepClose ⟨mks, md, out, st, false⟩ (drainF true st out).1 (drainF true st out).2) := by
  unfold mStep
  simp only [(h.hd hk).1]
  rw [if_neg (by rw [hb]; simp), if_neg (by simp)]
theorem drain_len (all : Bool) : ∀ (st : List (Int × Nat)) (out : List Nd), (drainF all st out).2.length + (drainF all st out).1.length = out.length + st.length
  | [], out => by simp [drainF]
  | (k, l) :: st, out => by
    rw [drainF_cons]
    split
    · rw [drain_len all st]; simp only [List.length_append, List.length_cons, List.length_nil]; omega
    · rfl
theorem drain_mem (all : Bool) : ∀ (st : List (Int × Nat)) (out : List Nd), ∀ e ∈ (drainF all st out).1, e ∈ st
  | [], out => by simp [drainF]
  | (k, l) :: st, out => by
    rw [drainF_cons]
    split
    · intro e he; exact List.mem_cons_of_mem _ (drain_mem all st _ e he)
    · intro e he; exact he
theorem PM.left_le {wt : Bool} (h : PM N ks m0 ⟨mks, md, out, st, wt⟩ i) {st1 : List (Int × Nat)} {out1 : List Nd} (hd : drainF true st out = (st1, out1)) : ∀ e ∈ st1, e.2 ≤ 2 := fun e he => h.lf e (drain_mem true st out e (by rw [hd]; exact he))
theorem op_step (h : PM N ks m0 ⟨mks, md, out, st, false⟩ i) (hk : ks[i]? = some k) (hN : N = ks.length) (hT : Toks ks) {all : Bool} {kd : Int} (hs1 : (k.k.isSign 62 = true ∧ all = false ∧ kd = 1) ∨ (k.k.isSign 124 = true ∧ all = true ∧ kd = 2)) :
    (¬ md < 200 → MEnds m0 (.error (5, k.pos))) ∧ (md < 200 → PM N ks m0 ⟨ks.drop (i + 1), md + 1, (drainF all st out).2, (kd, 0) :: (drainF all st out).1, true⟩ (i + 1)) := by
  obtain ⟨e1, e2, e3⟩ := h.hd hk
  have hb : k.k.isBad = false ∧ ¬ k.k = .fin ∧ ¬ k.k = .bad := by
    rcases hs1 with ⟨q, _⟩ | ⟨q, _⟩ <;> (rw [TkK.isSign_eq q]; exact ⟨rfl, (fun q => nomatch q), (fun q => nomatch q)⟩)
  have hs := mStep_o h hk hb.1
  have hs2 : mStep ⟨mks, md, out, st, false⟩ = stepOp all kd ⟨mks, md, out, st, false⟩ := by
    rw [hs]
    rcases hs1 with ⟨q, rfl, rfl⟩ | ⟨q, rfl, rfl⟩
    · rw [if_pos q]
    · rw [if_neg (by rw [TkK.isSign_eq q]; decide), if_pos q]
  unfold stepOp at hs2
  simp only [e2, e3] at hs2
  refine ⟨fun q => ?_, fun q => ?_⟩
  · rw [if_neg q] at hs2
    exact h.stops hs2
  · rw [if_pos q] at hs2
    obtain ⟨k2, _, h2⟩ := next_tk hT hN hk hb.2
    have hl := h.ln
    have hl : out.length + st.length ≤ i := hl
    have hd := drain_len all st out
    exact h.goes hs2 rfl (by show md + 1 ≤ 200; omega) (by show (drainF all st out).2.length + ((kd, 0) :: (drainF all st out).1).length ≤ i + 1; simp only [List.length_cons]; omega) h2 (lf_cons (Nat.zero_le _) (fun e he => h.lf e (drain_mem all st out e he)))
theorem close_step (h : PM N ks m0 ⟨mks, md, out, st, false⟩ i) (hk : ks[i]? = some k) (hN : N = ks.length) (hT : Toks ks) (hb : k.k.isBad = false) (h1 : k.k.isSign 62 = false) (h2 : k.k.isSign 124 = false) {st1 : List (Int × Nat)} {out1 : List Nd} (hd : drainF true st out = (st1, out1)) :
    (st1 = [] → k.k = .fin → MEnds m0 (.ok out1)) ∧
    (st1 = [] → ¬ k.k = .fin → MEnds m0 (.error (3, k.pos))) ∧
    (∀ l st2, st1 = (4, l) :: st2 → 0 < l → k.k.isSign 44 = true → PM N ks m0 ⟨ks.drop (i + 1), md, out1, (4, l - 1) :: st2, true⟩ (i + 1)) ∧
    (∀ kd st2, st1 = (kd, 0) :: st2 → k.k.isSign 41 = true → PM N ks m0 ⟨ks.drop (i + 1), md, if kd = 4 then out1 ++ [leafN 16] else out1, st2, false⟩ (i + 1)) ∧
    (∀ kd l st2, st1 = (kd, l) :: st2 → ¬ (kd = 4 ∧ 0 < l ∧ k.k.isSign 44 = true) → ¬ (l = 0 ∧ k.k.isSign 41 = true) → MEnds m0 (.error (3, k.pos))) := by
  obtain ⟨e1, e2, e3⟩ := h.hd hk
  have hs := mStep_o h hk hb
  rw [if_neg (by rw [h1]; simp), if_neg (by rw [h2]; simp), hd] at hs
  have hl := h.ln
  have hl : out.length + st.length ≤ i := hl
  have hm : md ≤ 200 := h.md
  have hdl := drain_len true st out
  rw [hd] at hdl
  simp only at hdl
  have hlf := h.left_le hd
  refine ⟨fun q q1 => ?_, fun q q1 => ?_, fun l st2 q q1 q2 => ?_, fun kd st2 q q1 => ?_, fun kd l st2 q q1 q2 => ?_⟩
  · subst q
    unfold stepClose at hs
    simp only [e1, q1] at hs
    exact h.stops (hs.trans (if_pos rfl))
  · subst q
    unfold stepClose at hs
    simp only [e1, e2] at hs
    exact h.stops (hs.trans (if_neg (by intro q; cases hkk : k.k <;> rw [hkk] at q q1 <;> first | exact absurd rfl q1 | cases q)))
  · subst q
    unfold stepClose at hs
    simp only [e1, e3] at hs
    rw [if_pos ⟨trivial, q1, q2⟩] at hs
    obtain ⟨k2, _, h2⟩ := next_tk hT hN hk (by rw [TkK.isSign_eq q2]; exact ⟨(fun q => nomatch q), (fun q => nomatch q)⟩)
    simp only [List.length_cons] at hdl
    exact h.goes hs rfl hm (by show out1.length + ((4, l - 1) :: st2).length ≤ i + 1; simp only [List.length_cons]; omega) h2 (lf_cons (by have := hlf (4, l) (by simp); simp only at this; omega) (fun e he => hlf e (by simp [he])))
  · subst q
    unfold stepClose at hs
    simp only [e1, e3] at hs
    rw [if_neg (by intro q; exact absurd q.2.1 (Nat.lt_irrefl _)), if_pos ⟨trivial, q1⟩] at hs
    obtain ⟨k2, _, h2⟩ := next_tk hT hN hk (by rw [TkK.isSign_eq q1]; exact ⟨(fun q => nomatch q), (fun q => nomatch q)⟩)
    simp only [List.length_cons] at hdl
    refine h.goes hs rfl hm ?_ h2 (fun e he => hlf e (by simp [show e ∈ st2 from he]))
    show (if kd = 4 then out1 ++ [leafN 16] else out1).length + st2.length ≤ i + 1
    split
    · simp only [List.length_append, List.length_singleton]; omega
    · omega
  · subst q
    unfold stepClose at hs
    simp only [e1, e2] at hs
    rw [if_neg q1, if_neg q2] at hs
    exact h.stops hs
end
section
variable {w : World} {base g cp N : Nat} {ks : List Tk} {pi pn : Nat} {pe : Int} {pa : Nat} {st : List (Int × Nat)} {out : List Nd} {gs cs go co : Nat} {b7 b9 : Nat} {k : Tk} {e : Nd} {W : World}
/-- A leaf under way: beside what is kept, the token and the node. -/
structure PL (w : World) (base g cp N : Nat) (ks : List Tk) (pi pn : Nat) (pe : Int) (pa : Nat) (st : List (Int × Nat)) (out : List Nd) (gs cs go co : Nat) (b7 b9 : Nat) (k : Tk) (e : Nd) (W : World) : Prop where
  pb : PB w base g cp N ks pi pn pe pa st out gs cs go co W
  tb : BoxAt W (w.heap.size + 2) 80 4 b7 (tkV k)
  nb : BoxAt W (w.heap.size + 2) 65 7 b9 e.seven
  n1 : ¬ b9 = gs
  n2 : ¬ b9 = go
  n3 : ¬ b9 = b7
theorem PL.lt (h : PL w base g cp N ks pi pn pe pa st out gs cs go co b7 b9 k e W) : (w.heap.size + 2 ≤ b7 ∧ b7 < W.heap.size) ∧ (w.heap.size + 2 ≤ b9 ∧ b9 < W.heap.size) := ⟨h.tb.lt, h.nb.lt⟩
theorem PL.up (h : PL w base g cp N ks pi pn pe pa st out gs cs go co b7 b9 k e W) {W' : World} (hb : Below W.heap.size W W') : PL w base g cp N ks pi pn pe pa st out gs cs go co b7 b9 k e W' :=
  ⟨h.pb.up hb, h.tb.below hb, h.nb.below hb, h.n1, h.n2, h.n3⟩
theorem PL.setp (h : PL w base g cp N ks pi pn pe pa st out gs cs go co b7 b9 k e W) (pi' pn' : Nat) (pe' : Int) (pa' : Nat) : PL w base g cp N ks pi' pn' pe' pa' st out gs cs go co b7 b9 k e (setP W w.heap.size (.slice (some ⟨g, 0, none⟩) N cp) (.int .i64 (pi' : Int)) (.int .i64 (pn' : Int)) (.int .i64 pe') (.int .i64 (pa' : Int))) := by
  have hc : Chg (fun k => k = w.heap.size) W (setP W w.heap.size (.slice (some ⟨g, 0, none⟩) N cp) (.int .i64 (pi' : Int)) (.int .i64 (pn' : Int)) (.int .i64 pe') (.int .i64 (pa' : Int))) := chg_setP _ _ _ _ _ _ _
  have hl := h.lt
  exact ⟨h.pb.setp _ _ _ _, h.tb.chg hc (by omega), h.nb.chg hc (by omega), h.n1, h.n2, h.n3⟩
theorem PL.setn (h : PL w base g cp N ks pi pn pe pa st out gs cs go co b7 b9 k e W) (e' : Nd) : PL w base g cp N ks pi pn pe pa st out gs cs go co b7 b9 k e' (setN W b9 e') := by
  have hc : Chg (fun k => k = b9) W (setN W b9 e') := chg_setN _ _ _
  have hl := h.lt
  exact ⟨h.pb.side hc hl.2.1 h.n1 h.n2, h.tb.chg hc (fun q => h.n3 q.symm), h.nb.setN e', h.n1, h.n2, h.n3⟩
theorem wordA_if {kd : Int} (h1 : 1 ≤ kd) (h2 : kd ≤ 13) : ((wordA kd).toList == (⟨#[105, 102]⟩ : ByteArray).toList) = false := by
  rw [ByteArray.toList_eq, ByteArray.toList_eq]
  rcases cases13 h1 h2 with rfl | rfl | rfl | rfl | rfl | rfl | rfl | rfl | rfl | rfl | rfl | rfl | rfl <;> decide
theorem leafKind_word {kd : Int} (h1 : 1 ≤ kd) (h2 : kd ≤ 13) (W : World) : Calls Tryz.prog 50 #[.string (wordA kd)] W fun e w' => e = .returned (.int .i64 kd) ∧ w' = W := by
  refine (leafKind_core (wordA kd) W).mono ?_
  rintro e w' ⟨j, rfl, rfl, ⟨q1, q2, q3⟩ | ⟨_, q⟩⟩
  · have e1 := kwF_word (.inl ⟨q1, q2, q3⟩ : WordK (bl (wordA kd)) j)
    have e2 := kwF_word (.inl ⟨h1, h2, rfl⟩ : WordK (bl (wordA kd)) kd)
    rw [e1] at e2
    cases e2
    exact ⟨rfl, rfl⟩
  · exact absurd rfl (q kd h1 h2)
/-- What l5Args hands back, in one. -/
def ArgQ (g cp N nd : Nat) (ks : List Tk) (kd : Int) (i : Nat) (w : World) (e : Ending) (w' : World) : Prop := Below w.heap.size w w' ∧ ∃ (j : Nat) (c : Int) (a : Nat) (n : Nd), e = .returned (.tuple #[parV g N cp j nd c a, n.v]) ∧ Hid ((c = 0 ∧ a = 0 ∧ argsM kd (ks.drop i) = .ok (ks.drop j, n) ∧ i ≤ j ∧ j < N) ∨ (1 ≤ c ∧ argsM kd (ks.drop i) = .error (c, a)))
theorem ArgP.q {nd : Nat} {kd : Int} {i : Nat} {e : Ending} {w' : World} (h : ArgP base g cp N nd 0 ks kd i w e w') : ArgQ g cp N nd ks kd i w e w' := by
  obtain ⟨hb, ⟨j, n, h1, h2, h3, rfl⟩ | ⟨c, a, j, n, h1, h2, rfl⟩⟩ := h
  · exact ⟨hb, j, 0, 0, n, rfl, .inl ⟨rfl, rfl, h1, h2, h3⟩⟩
  · exact ⟨hb, j, c, a, n, rfl, .inr ⟨h2, h1⟩⟩
end
theorem gs_frozen {w : World} {base g cp N : Nat} {ks : List Tk} {pi pn : Nat} {pe : Int} {pa : Nat} {st : List (Int × Nat)} {out : List Nd} {gs cs go co : Nat} {W : World} (h : PB w base g cp N ks pi pn pe pa st out gs cs go co W) (j : Nat) : W.frozen? ⟨gs, j, none⟩ = false := World.ownsRow.frozenAt h.st j
theorem nd_one_new (w : World) (base : Nat) (f : Nd) (hb : base ≤ w.heap.size) : OwnNd (w.alloc (Obj.cells #[.int .i64 f.kind, .string f.s, .bool f.hi, .string f.t, .int .u64 f.lo, .int .u64 f.up, .int .i64 f.n] 65)) base w.heap.size 1 [f] :=
  World.ownsRow_lit (base := base) (e := 65) (size := 7) w #[.int .i64 f.kind, .string f.s, .bool f.hi, .string f.t, .int .u64 f.lo, .int .u64 f.up, .int .i64 f.n] 1 hb (by decide) rfl
/-- A row of one node, made of a value. -/
theorem wpList_build1Nd {ops : Array Oper} {rest : List Oper} {o : Oper} {a : Act} {w : World} {Q : Exit → Act → World → Prop} (hgd : o.guard = none) (x : Operand) (ho : o.op = .buildSlice 23 1 #[(0, x)]) (e : Nd) (hx : a.eval x = .agg #[.int .i64 e.kind, .string e.s, .bool e.hi, .string e.t, .int .u64 e.lo, .int .u64 e.up, .int .i64 e.n])
    (h : wpList Tryz.prog ops Q rest (a.put o.dst (.slice (some ⟨w.heap.size, 0, none⟩) 1 1)) (w.alloc (.cells #[.int .i64 e.kind, .string e.s, .bool e.hi, .string e.t, .int .u64 e.lo, .int .u64 e.up, .int .i64 e.n] 65))) : wpList Tryz.prog ops Q (o :: rest) a w := by
  obtain ⟨i, hi, hz0, hz1, hz2⟩ := info_parts Tryz.infoNd
  refine wpList_buildSlice hgd 23 65 1 #[(0, x)] ho _ i _ Tryz.underlying23 hi hz0 (by rw [hz1]; decide) (by rw [hz1]; decide) ?_ h
  rw [hz1, show (Array.map (fun x => (x.1, a.eval x.2)) #[(0, x)]).toList = [(0, a.eval x)] from by simp, hx]
  kernel_rfl
/-- A node stored into its box. -/
theorem step_storeNd {ops : Array Oper} {oo : Oper} {a : Act} {K : Act → World → Prop} {Q : Exit → Act → World → Prop} {E : Prop} {w : World} (hgd : oo.guard = none) (p x : Operand) (ho : oo.op = .store 65 p x) (g : Nat) (hp : a.eval p = .pointer (some ⟨g, 0, none⟩)) (e : Nd)
    (hx : a.eval x = .agg #[.int .i64 e.kind, .string e.s, .bool e.hi, .string e.t, .int .u64 e.lo, .int .u64 e.up, .int .i64 e.n]) {base : Nat} {e0 : Nd} (hB : BoxAt w base 65 7 g e0.seven)
    (h : ∀ v, K (a.put oo.dst v) (setN w g e)) : if Region.wanted oo (yielded ops a.tmps) = true then Oper.wp Tryz.prog oo a w K Q else E := by
  have hw : Region.wanted oo (yielded ops a.tmps) = true := by simp [Region.wanted, hgd]
  rw [if_pos hw]
  have d0 := hB.cell (j := 0) rfl
  have d1 := hB.cell (j := 1) rfl
  have d2 := hB.cell (j := 2) rfl
  have d3 := hB.cell (j := 3) rfl
  have d4 := hB.cell (j := 4) rfl
  have d5 := hB.cell (j := 5) rfl
  have d6 := hB.cell (j := 6) rfl
  have f0 := hB.frozen 0
  have f1 := hB.frozen 1
  have f2 := hB.frozen 2
  have f3 := hB.frozen 3
  have f4 := hB.frozen 4
  have f5 := hB.frozen 5
  have f6 := hB.frozen 6
  unfold setN at h
  unfold Oper.wp execOp
  rw [ho]
  simp only [hp, hx]
  go_simp
  exact h _
end Go.Proofs.YtgnpcenpcmdlfaaGreatDoor

