import Derived.Deep.RegionHeld3
import Derived.Deep.DeepCutAuto
import Derived.Deep.RegionWith
import Derived.Test.YtkbmdkgfgfbilaaPkAE
import Derived.Test.YtkbmdkgfgfbilaaPkAA
/-
  Nodes appended; spec.l5Join.
-/
namespace Go.Proofs.Ytkbmdkgfgfbilaa
open Go.ChangeShapes Go.WideShapes Go.ChangeAt Go.RowKit Go.Deep
set_option linter.unusedVariables false
set_option linter.unusedSimpArgs false
set_option maxRecDepth 100000

theorem cellsN_append (es fs : List Nd) : cellsN (es ++ fs) = cellsN es ++ cellsN fs := by simp [cellsN]
theorem nds_cells {w : World} {b off : Nat} {es : List Nd} (h : NdsAt w b off es) : ∀ j u, (cellsN es)[j]? = some u → w.cell? ((⟨b, off, none⟩ : Addr).add j) = some u := by
  intro j u hu
  have hj : j < es.length * 7 := by rw [← length_cellsN]; exact (List.getElem?_eq_some_iff.1 hu).1
  obtain ⟨e, he⟩ : ∃ e, es[j / 7]? = some e := ⟨_, List.getElem?_eq_getElem (by omega)⟩
  have hg := cellsN_get es (j / 7) e he (j % 7) (Nat.mod_lt _ (by omega))
  rw [show j / 7 * 7 + j % 7 = j by omega, hu] at hg
  obtain ⟨c0, c1, c2, c3, c4, c5, c6⟩ := h (j / 7) e he
  rw [Addr.add_mid, show off + j = off + j / 7 * 7 + j % 7 by omega]
  have hm : j % 7 < 7 := Nat.mod_lt _ (by omega)
  generalize j % 7 = m at *
  match m, hm, hg with
  | 0, _, hg => rw [Nat.add_zero, c0, hg]; rfl
  | 1, _, hg => rw [c1, hg]; rfl
  | 2, _, hg => rw [c2, hg]; rfl
  | 3, _, hg => rw [c3, hg]; rfl
  | 4, _, hg => rw [c4, hg]; rfl
  | 5, _, hg => rw [c5, hg]; rfl
  | 6, _, hg => rw [c6, hg]; rfl
theorem nds_one (es : List Nd) : ∀ u ∈ cellsN es, u.oneCell' = true := by
  intro u hu
  unfold cellsN at hu
  obtain ⟨e, _, he⟩ := List.mem_flatMap.1 hu
  simp at he
  rcases he with rfl | rfl | rfl | rfl | rfl | rfl | rfl <;> rfl
/-- Nodes appended to a row of the call's own. -/
theorem wpList_append_nd {ops : Array Oper} {rest : List Oper} {o : Oper} {a : Act} {Q : Exit → Act → World → Prop} (w : World) (hgd : o.guard = none) (s x : Operand)
    (ho : o.op = .call { callee := .builtin .append, args := #[s, x], argTypes := #[33, 33] })
    (base g cp n b off m cx : Nat) (fs es : List Nd) (hs : a.eval s = .slice (some ⟨g, 0, none⟩) n cp) (hx : a.eval x = .slice (some ⟨b, off, none⟩) m cx) (hn : n = fs.length) (hm : m = es.length) (hO : OwnNd w base g cp fs)
    (hc : NdsAt w b off es) (hlen : fs.length + es.length ≤ 2 ^ 30) (hbase : base ≤ w.heap.size)
    (h : ∀ g' cp' w', OwnNd w' base g' cp' (fs ++ es) → w.grownBy w' (some g) → (g' = g ∨ g' = w.heap.size) → wpList Try.prog ops Q rest (a.put o.dst (.slice (some ⟨g', 0, none⟩) (n + m) cp')) w') : wpList Try.prog ops Q (o :: rest) a w := by
  subst hn hm
  obtain ⟨i, hi, hz0, hz1, hz2⟩ := info_parts Try.infoNd
  refine wpList_append_own_at w hgd s x 33 ho base 69 i _ 7 72 Try.underlying33 hi hz0 hz1 hz2 rfl (by decide) (.slice (some ⟨g, 0, none⟩) fs.length cp) fs.length (cellsN fs) hs hO ⟨b, off, none⟩ es.length cx (cellsN es) hx (length_cellsN es) (nds_cells hc) (nds_one es) ?_ ?_ hbase ?_
  · unfold maxLen; omega
  · omega
  · intro v' w' hO' hgr hnil hat
    rcases hO'.2 with ⟨h0, _⟩ | ⟨g', cap', cur, hv, _, _, hn, hcap, _, _⟩
    · have := (hnil.1 h0).1
      cases this
    · subst hv
      refine h g' cap' w' ?_ hgr ?_
      · unfold OwnNd
        rw [List.length_append, cellsN_append]
        exact hO'
      · simp [Value.ownBlock] at hat
        exact hat
theorem flat_take {α : Type} {ns : List (List α)} {k : Nat} {y : List α} (h : ns[k]? = some y) : (ns.take (k + 1)).flatten = (ns.take k).flatten ++ y := by
  rw [List.take_add_one, h]
  simp
theorem flat_le {α : Type} (ns : List (List α)) (k : Nat) : (ns.take k).flatten.length ≤ ns.flatten.length := by
  have h : ns.flatten = (ns.take k).flatten ++ (ns.drop k).flatten := by
    rw [← List.flatten_append, List.take_append_drop]
  rw [h, List.length_append]
  omega
end Go.Proofs.Ytkbmdkgfgfbilaa

/-
  spec.l6Cat.
-/
namespace Go.Proofs.Ytkbmdkgfgfbilaa
open Go.ChangeShapes Go.WideShapes Go.ChangeAt Go.RowKit Go.Deep
set_option linter.unusedVariables false
set_option linter.unusedSimpArgs false
set_option maxRecDepth 100000

theorem ixs_one (es : List Ix) : ∀ v ∈ cellsX es, v.oneCell' = true := by
  intro v hv
  unfold cellsX at hv
  obtain ⟨e, _, h⟩ := List.mem_flatMap.1 hv
  simp only [Ix.ten, List.mem_cons, List.mem_nil_iff, or_false] at h
  rcases h with rfl | rfl | rfl | rfl | rfl | rfl | rfl | rfl | rfl | rfl | rfl <;> rfl
theorem ixs_cells {w : World} {b off : Nat} {es : List Ix} (h : IxsAt w b off es) : ∀ (j : Nat) (v : Value), (cellsX es)[j]? = some v → w.cell? ((⟨b, off, none⟩ : Addr).add j) = some v := by
  intro j v hv
  have hj := (List.getElem?_eq_some_iff.1 hv).1
  rw [length_cellsX] at hj
  obtain ⟨e, he⟩ : ∃ e, es[j / 11]? = some e := ⟨_, List.getElem?_eq_getElem (by omega)⟩
  have h1 := cellsX_get es (j / 11) e he (j % 11) (Nat.mod_lt _ (by decide))
  have ej : j / 11 * 11 + j % 11 = j := by omega
  rw [ej, hv] at h1
  obtain ⟨d0, d1, d2, d3, d4, d5, d6, d7, d8, d9, d10⟩ := h (j / 11) e he
  rw [Addr.add_mid, show off + j = off + j / 11 * 11 + j % 11 by omega]
  have hm : j % 11 < 11 := Nat.mod_lt _ (by omega)
  generalize j % 11 = m at *
  match m, hm, h1 with
  | 0, _, hg => rw [Nat.add_zero, d0, hg]; rfl
  | 1, _, hg => rw [d1, hg]; rfl
  | 2, _, hg => rw [d2, hg]; rfl
  | 3, _, hg => rw [d3, hg]; rfl
  | 4, _, hg => rw [d4, hg]; rfl
  | 5, _, hg => rw [d5, hg]; rfl
  | 6, _, hg => rw [d6, hg]; rfl
  | 7, _, hg => rw [d7, hg]; rfl
  | 8, _, hg => rw [d8, hg]; rfl
  | 9, _, hg => rw [d9, hg]; rfl
  | 10, _, hg => rw [d10, hg]; rfl
/-- Instructions appended to a row of the call's own. -/
theorem wpList_append_ix {ops : Array Oper} {rest : List Oper} {o : Oper} {a : Act} {Q : Exit → Act → World → Prop} (w : World) (hgd : o.guard = none) (s x : Operand)
    (ho : o.op = .call { callee := .builtin .append, args := #[s, x], argTypes := #[27, 27] })
    (base g cp n b off m cx : Nat) (fs es : List Ix) (hs : a.eval s = .slice (some ⟨g, 0, none⟩) n cp) (hx : a.eval x = .slice (some ⟨b, off, none⟩) m cx) (hn : n = fs.length) (hm : m = es.length) (hO : OwnX w base g cp fs)
    (hc : IxsAt w b off es) (hlen : fs.length + es.length ≤ 2 ^ 30) (hbase : base ≤ w.heap.size)
    (h : ∀ g' cp' w', OwnX w' base g' cp' (fs ++ es) → w.grownBy w' (some g) → (g' = g ∨ g' = w.heap.size) → wpList Try.prog ops Q rest (a.put o.dst (.slice (some ⟨g', 0, none⟩) (n + m) cp')) w') : wpList Try.prog ops Q (o :: rest) a w := by
  subst hn hm
  obtain ⟨i, hi, hz0, hz1, hz2⟩ := info_parts Try.infoX
  refine wpList_append_own_at w hgd s x 27 ho base 77 i _ 11 104 Try.underlying27 hi hz0 hz1 hz2 rfl (by decide) (.slice (some ⟨g, 0, none⟩) fs.length cp) fs.length (cellsX fs) hs hO ⟨b, off, none⟩ es.length cx (cellsX es) hx (length_cellsX es) (ixs_cells hc) (ixs_one es) ?_ ?_ hbase ?_
  · unfold maxLen; omega
  · omega
  · intro v' w' hO' hgr hnil hat
    rcases hO'.2 with ⟨h0, _⟩ | ⟨g', cap', cur, hv, _, _, hn, hcap, _, _⟩
    · have := (hnil.1 h0).1
      cases this
    · subst hv
      refine h g' cap' w' ?_ hgr ?_
      · unfold OwnX
        rw [List.length_append, show cellsX (fs ++ es) = cellsX fs ++ cellsX es by simp [cellsX]]
        exact hO'
      · simp [Value.ownBlock] at hat
        exact hat
set_option maxHeartbeats 4000000 in
theorem l6Cat_core (b cp : Nat) (us : List Value) (ns : List (List Ix)) (w : World) (hc : ∀ (j : Nat) (u : Value), us[j]? = some u → w.cell? ⟨b, j, none⟩ = some u) (hb : b < w.heap.size) (hl : us.length = ns.length) (hI : ∀ (j : Nat) (u : Value) (y : List Ix), us[j]? = some u → ns[j]? = some y → ∃ b' c, u = .slice (some ⟨b', 0, none⟩) y.length c ∧ IxsAt w b' 0 y ∧ b' < w.heap.size) (ht : ns.flatten.length ≤ 1000000) (hn : ns.length ≤ 1000) :
    Calls Try.prog 39 #[.slice (some ⟨b, 0, none⟩) ns.length cp] w (GeP ns.flatten w) := by
  have HH : Hid ((∀ (j : Nat) (u : Value), us[j]? = some u → w.cell? ⟨b, j, none⟩ = some u) ∧ us.length = ns.length ∧ (∀ (j : Nat) (u : Value) (y : List Ix), us[j]? = some u → ns[j]? = some y → ∃ b' c, u = .slice (some ⟨b', 0, none⟩) y.length c ∧ IxsAt w b' 0 y ∧ b' < w.heap.size) ∧ ns.flatten.length ≤ 1000000) := ⟨hc, hl, hI, ht⟩
  clear hc hl hI ht
  obtain ⟨W1, hW1⟩ : ∃ W1 : World, W1 = w.alloc (Obj.cells #[] 77) := ⟨_, rfl⟩
  have hb1 : Below w.heap.size w W1 := by rw [hW1]; exact (Below.refl _ _).alloc (Nat.le_refl _) _
  have HO1 : Hid (OwnX W1 w.heap.size w.heap.size 0 ((ns.take 0).flatten)) := by
    rw [hW1]
    exact World.ownsRow_made w #[] 0 (Nat.le_refl _) (Nat.zero_le _) (by simp)
  go_enter Try.func39, Try.ntmps39
  go_upto_region 2 with fail
  rw [← hW1]
  clear hW1
  go_wp2_with fail
  go_loopw [3, 4] (fun ov iv wr => ∃ (k g cg m : Nat), k ≤ ns.length ∧ iv = .int .i64 k ∧ ov = .slice (some ⟨g, 0, none⟩) m cg ∧ Hid (m = ((ns.take k).flatten).length ∧ OwnX wr w.heap.size g cg ((ns.take k).flatten)) ∧ Below w.heap.size w wr) (fun _ iv _ => ns.length - (intOf iv).toNat)
  case atStart => exact ⟨0, _, _, 0, Nat.zero_le _, rfl, rfl, ⟨rfl, HO1.out⟩, hb1⟩
  case round =>
    obtain ⟨k, g, cg, m, hk, rfl, rfl, HO, hbr⟩ := hrel
    have sb := hbr.size
    by_cases hlt : k < ns.length
    · have zk : (k : Int) < (ns.length : Int) := by omega
      obtain ⟨y, hy⟩ : ∃ y, ns[k]? = some y := ⟨_, List.getElem?_eq_getElem hlt⟩
      obtain ⟨u, hu⟩ : ∃ u, us[k]? = some u := ⟨_, List.getElem?_eq_getElem (by have := HH.out.2.1; omega)⟩
      obtain ⟨b', c, hv, hE, hlt'⟩ := HH.out.2.2.1 k u y hu hy
      have c0 : wr.cell? ⟨b, k, none⟩ = some (.slice (some ⟨b', 0, none⟩) y.length c) := by
        rw [hbr.cell (p := ⟨b, k, none⟩) hb, ← hv]; exact HH.out.1 k u hu
      have HY : Hid (ns[k]? = some y ∧ IxsAt wr b' 0 y ∧ ((ns.take k).flatten).length + y.length ≤ 2 ^ 30) := by
        refine ⟨hy, hE.below hbr hlt', ?_⟩
        have h1 := flat_le ns (k + 1)
        rw [flat_take hy, List.length_append] at h1
        have := HH.out.2.2.2
        omega
      clear hy hu hE hv
      go_wp2_with (at_builtin; refine wpList_append_ix _ rfl _ _ rfl w.heap.size g cg m b' 0 y.length c ((ns.take k).flatten) y rfl rfl HO.out.1 rfl HO.out.2 HY.out.2.1 HY.out.2.2 ?hb ?_)
      case hb => omega
      intro g' cp' w' hO' hgr hat
      have HO' : Hid (m + y.length = ((ns.take (k + 1)).flatten).length ∧ OwnX w' w.heap.size g' cp' ((ns.take (k + 1)).flatten)) := by
        rw [flat_take HY.out.1]
        exact ⟨by rw [List.length_append, HO.out.1], hO'⟩
      have hb' : Below w.heap.size w w' := hbr.grown hgr sb (fun j hj => by have := HO.out.2.lt.1; cases hj; omega)
      clear hO' hgr hat c0
      go_wp2_with fail
      go_roundw
      case rel => exact ⟨k + 1, g', cp', m + y.length, by omega, by go_num, by first | rfl | go_num, HO', hb'⟩
      case measure => simp [intOf]; omega
    · have zk : ¬ (k : Int) < (ns.length : Int) := by omega
      have hkl : k = ns.length := by omega
      subst hkl
      have HO2 : Hid (m = ns.flatten.length ∧ OwnX wr w.heap.size g cg ns.flatten) := by
        have := HO.out
        rw [List.take_length] at this
        exact this
      clear HO
      go_wp2_with fail
      go_ret
      exact ⟨g, cg, by rw [HO2.out.1]; rfl, HO2.out.2, hbr⟩
end Go.Proofs.Ytkbmdkgfgfbilaa

/-
  spec.l6Gen.
-/
namespace Go.Proofs.Ytkbmdkgfgfbilaa
open Go.ChangeShapes Go.WideShapes Go.ChangeAt Go.RowKit Go.Deep
set_option linter.unusedVariables false
set_option linter.unusedSimpArgs false
set_option maxRecDepth 100000

theorem OwnX.low {w : World} {base base' g cap : Nat} {es : List Ix} (h : OwnX w base g cap es) (hb : base' ≤ base) : OwnX w base' g cap es := by
  refine ⟨h.1, ?_⟩
  rcases h.2 with hn | ⟨g', cap', cur, hv, h1, rest⟩
  · exact .inl hn
  · exact .inr ⟨g', cap', cur, hv, Nat.le_trans hb h1, rest⟩
def GeC (n : Nat) : Prop := ∀ (w : World) (b o cap : Nat) (xs : List Nd) (t : CT) (s : Bool) (f : Nat), xs.length ≤ n → xs.length ≤ 200 → f + xs.length ≤ 1000 → Win w b o cap xs → TreeF xs t → Calls Try.prog 17 #[.slice (some ⟨b, o, none⟩) xs.length cap, .bool s, .int .i64 (f : Int)] w (GeP (t.gen s f) w)
/-- What a walk knows of an operand: its slice, and what the three functions say of it in every later world. -/
structure GkC (w : World) (b o l cap : Nat) (u : CT) : Prop where
  ifs : ∀ wx, Below w.heap.size w wx → Calls Try.prog 41 #[.slice (some ⟨b, o, none⟩) l cap] wx fun r w' => r = .returned (.int .i64 (u.ifs : Nat)) ∧ w' = wx
  pass : ∀ wx, Below w.heap.size w wx → Calls Try.prog 40 #[.slice (some ⟨b, o, none⟩) l cap] wx (PaP u wx)
  gen : ∀ (s : Bool) (f : Nat), f + l ≤ 1000 → ∀ wx, Below w.heap.size w wx → Calls Try.prog 17 #[.slice (some ⟨b, o, none⟩) l cap, .bool s, .int .i64 (f : Int)] wx (GeP (u.gen s f) wx)
  le : u.ifs ≤ l
theorem gkC_of {n : Nat} (H : GeC n) {w : World} {b o cap : Nat} {xs : List Nd} {t : CT} (hn : xs.length ≤ n) (h2 : xs.length ≤ 200) (hW : Win w b o cap xs) (hT : TreeF xs t) : GkC w b o xs.length cap t := by
  refine ⟨fun wx hx => ?_, pass_on (pass_all _) hn h2 hW hT, fun s f hf wx hx => H wx b o cap xs t s f hn h2 hf (hW.below hx) hT, by rw [← hT.ifs]; exact ifsL_le xs⟩
  rw [← hT.ifs]
  exact l6Ifs_core (hW.below hx) h2
/-- In a drawn region that began in W. -/
theorem GkC.pass_in {w W : World} {b o l cap : Nat} {u : CT} (h : Hid (GkC w b o l cap u)) (hW : Below w.heap.size w W) (wx : World) (hx : Below W.heap.size W wx) : Calls Try.prog 40 #[.slice (some ⟨b, o, none⟩) l cap] wx fun r w' => r = .returned (.bool u.passes) ∧ Below W.heap.size W w' ∧ (∀ b o, b < W.heap.size → w'.cell? ⟨b, o, none⟩ = W.cell? ⟨b, o, none⟩) := by
  refine (h.out.pass wx (hW.trans (hx.mono hW.size))).mono ?_
  rintro r w' ⟨h1, h2⟩
  have k := hx.trans (h2.mono hx.size)
  exact ⟨h1, k, fun b o hlt => k.cell (p := ⟨b, o, none⟩) hlt⟩
theorem GkC.ifs_in {w W : World} {b o l cap : Nat} {u : CT} (h : Hid (GkC w b o l cap u)) (hW : Below w.heap.size w W) (wx : World) (hx : Below W.heap.size W wx) : Calls Try.prog 41 #[.slice (some ⟨b, o, none⟩) l cap] wx fun r w' => r = .returned (.int .i64 (u.ifs : Nat)) ∧ w' = wx :=
  h.out.ifs wx (hW.trans (hx.mono hW.size))
def GenI (X : List Ix) (W : World) (r : Ending) (w' : World) : Prop := ∃ g cp n, r = .returned (.slice (some ⟨g, 0, none⟩) n cp) ∧ Hid (n = X.length ∧ OwnX w' W.heap.size g cp X) ∧ Below W.heap.size W w'
theorem GkC.gen_in {w W : World} {b o l cap : Nat} {u : CT} (h : Hid (GkC w b o l cap u)) (hW : Below w.heap.size w W) (s : Bool) (f : Nat) (z : Int) (hz : z = (f : Int)) (hf : f + l ≤ 1000) (wx : World) (hx : Below W.heap.size W wx) : Calls Try.prog 17 #[.slice (some ⟨b, o, none⟩) l cap, .bool s, .int .i64 z] wx (GenI (u.gen s f) W) := by
  subst hz
  refine (h.out.gen s f hf wx (hW.trans (hx.mono hW.size))).mono ?_
  rintro r w' ⟨g, cp, h1, h2, h3⟩
  exact ⟨g, cp, _, h1, ⟨rfl, OwnX.low h2 hx.size⟩, hx.trans (h3.mono hx.size)⟩
end Go.Proofs.Ytkbmdkgfgfbilaa

/-
  A region that draws its order and whose last operation stores: what is read ahead of it is taken first.
-/
namespace Go.Proofs.Ytkbmdkgfgfbilaa
open Go.ChangeShapes Go.WideShapes Go.ChangeAt Go.RowKit Go.Deep
set_option linter.unusedVariables false

section
variable {P : Program} {ops : Array Oper} {Q : Exit → Act → World → Prop} {md : Region.Mode} {S : World → Prop} {L : Nat}

/-- Whatever order is picked: 'S' holds behind every operation but number 'L'. -/
def AnyT (P : Program) (md : Region.Mode) (ops : Array Oper) (Q : Exit → Act → World → Prop) (S : World → Prop) (L : Nat) : Nat → Array Bool → Act → World → Prop
  | 0, listed, a, w => Region.ready md ops listed = [] ∧ Q .normal a w
  | fuel + 1, listed, a, w =>
    (Region.ready md ops listed = [] → Q .normal a w) ∧
    ∀ i ∈ Region.ready md ops listed, wpOp P ops Q i (fun a' w' => (i = L ∨ S w') ∧ AnyT P md ops Q S L fuel (listed.setIfInBounds i true) a' w') a w
theorem any_of_T : ∀ (fuel : Nat) (listed : Array Bool) (a : Act) (w : World), AnyT P md ops Q S L fuel listed a w → wpAny P md ops Q fuel listed a w
  | 0, _, _, _, h => h
  | fuel + 1, _, _, _, h => ⟨h.1, fun i hi => wpOp_mono (fun a' w' h' => any_of_T fuel _ a' w' h'.2) (h.2 i hi)⟩
/-- Operation 'L' waits for number 'i'. -/
def waitsT (md : Region.Mode) (ops : Array Oper) (L i : Nat) : Bool := ((ops[L]?).map (fun o => o.after.any fun e => Region.binds md e && e.on == i)).getD false
theorem anyT_first {i : Nat} {oi : Oper} {v : Value} (hi : ops[i]? = some oi) (hsel : ∀ (j : Nat) (o : Oper) cs b, ops[j]? = some o → o.op ≠ .select cs b)
    (hQ : ∀ c a w, Q (.panic c) (a.put oi.dst v) w → Q (.panic c) a w) (hL : waitsT md ops L i = true) (hne : i ≠ L) :
    ∀ (fuel : Nat) (listed : Array Bool) (a : Act) (w : World),
      (∀ j oj, ops[j]? = some oj → j ≠ i → listed.getD j true = false → (∀ e ∈ oj.after, Region.binds md e = true → e.on ≠ i) → oi.apart ops oj = true) →
      i ∈ Region.ready md ops listed → YieldsIf P ops S oi v a → S w →
      AnyT P md ops Q S L fuel (listed.setIfInBounds i true) (a.put oi.dst v) w → AnyT P md ops Q S L (fuel + 1) listed a w := by
  intro fuel
  induction fuel with
  | zero =>
    intro listed a w _ hr hy hS H
    refine ⟨fun h => (by rw [h] at hr; cases hr), fun j hj => ?_⟩
    by_cases hji : j = i
    · subst hji; exact hy.wpOp hi hS ⟨.inr hS, H⟩
    · have := ready_mono hj hji
      rw [H.1] at this
      cases this
  | succ fuel ih =>
    intro listed a w hfree hr hy hS H
    refine ⟨fun h => (by rw [h] at hr; cases hr), fun j hj => ?_⟩
    by_cases hji : j = i
    · subst hji; exact hy.wpOp hi hS ⟨.inr hS, H⟩
    · have h1 := H.2 j (ready_mono hj hji)
      obtain ⟨hjun, oj, hoj, hall⟩ := mem_ready.1 hj
      have hnot : ∀ e ∈ oj.after, Region.binds md e = true → e.on ≠ i := fun e he hb heq => by
        have h1 := hall e he hb
        have h0 := (mem_ready.1 hr).1
        rw [heq] at h1
        rcases Nat.lt_or_ge i listed.size with h' | h'
        · simp [h'] at h0 h1; rw [h0] at h1; cases h1
        · simp [Array.getElem?_eq_none h'] at h1
      have hjL : j ≠ L := fun q => by
        subst q
        unfold waitsT at hL
        rw [hoj] at hL
        simp only [Option.map_some, Option.getD_some, Array.any_eq_true] at hL
        obtain ⟨k, hk, hb⟩ := hL
        rw [Bool.and_eq_true, beq_iff_eq] at hb
        exact hnot _ (Array.getElem_mem hk) hb.1 hb.2
      have h2 := wpOp_putIf hoj (hfree j oj hoj hji hjun hnot) (fun cs b => hsel i oi cs b hi) (fun cs b => hsel j oj cs b hoj) hQ hy h1
      have hfree' : ∀ k ok, ops[k]? = some ok → k ≠ i → (listed.setIfInBounds j true).getD k true = false →
          (∀ e ∈ ok.after, Region.binds md e = true → e.on ≠ i) → oi.apart ops ok = true := fun k ok hk hki hun hno => by
        refine hfree k ok hk hki ?_ hno
        by_cases hjk : j = k
        · subst hjk; exact hjun
        · rw [getD_set_ne true hjk] at hun; exact hun
      refine wpOp_mono (fun a' w' h3 => ⟨h3.2.1, ih (listed.setIfInBounds j true) a' w' hfree' (ready_mono hr (Ne.symm hji)) h3.1 (h3.2.1.resolve_left hjL) ?_⟩) h2
      rw [Array.setIfInBounds_comm _ _ hji]
      exact h3.2.2
theorem anyT_take {i : Nat} {oi : Oper} {v : Value} {fuel : Nat} {listed : Array Bool} {a : Act} {w : World} (hi : ops[i]? = some oi)
    (hs : Region.noSelect ops = true) (hf : Region.free md ops listed i = true) (hr : (Region.ready md ops listed).contains i = true) (hL : waitsT md ops L i = true) (hne : i ≠ L)
    (hQ : ∀ c a w, Q (.panic c) (a.put oi.dst v) w → Q (.panic c) a w) (hy : YieldsIf P ops S oi v a) (hS : S w)
    (h : AnyT P md ops Q S L fuel (listed.setIfInBounds i true) (a.put oi.dst v) w) : AnyT P md ops Q S L (fuel + 1) listed a w :=
  anyT_first hi (Region.noSelect_spec hs) hQ hL hne fuel listed a w (Region.free_spec hi hf) (by simpa using hr) hy hS h
/-- One operation alone may come up. -/
theorem anyT_one {i : Nat} {o : Oper} {fuel : Nat} {listed : Array Bool} {a : Act} {w : World} (hr : Region.ready md ops listed = [i]) (ho : ops[i]? = some o)
    (h : ∀ K' : Act → World → Prop, Shut (∀ a w, (i = L ∨ S w) → AnyT P md ops Q S L fuel (listed.setIfInBounds i true) a w → K' a w) → if Region.wanted o (yielded ops a.tmps) = true then Oper.wp P o a w K' Q else K' (a.put o.dst undef) w) :
    AnyT P md ops Q S L (fuel + 1) listed a w := by
  refine ⟨fun h0 => (by rw [hr] at h0; cases h0), fun j hj => ?_⟩
  rw [hr] at hj
  simp at hj
  subst hj
  exact wpOp_step ho (fun K' hK => h K' (fun a w hS hW => hK a w ⟨hS, hW⟩))
/-- Either of two may come up. -/
theorem anyT_two {i j : Nat} {o q : Oper} {fuel : Nat} {listed : Array Bool} {a : Act} {w : World} (hr : Region.ready md ops listed = [i, j]) (ho : ops[i]? = some o) (hq : ops[j]? = some q)
    (h : ∀ K' : Act → World → Prop, Shut (∀ a w, (i = L ∨ S w) → AnyT P md ops Q S L fuel (listed.setIfInBounds i true) a w → K' a w) → if Region.wanted o (yielded ops a.tmps) = true then Oper.wp P o a w K' Q else K' (a.put o.dst undef) w)
    (h' : ∀ K' : Act → World → Prop, Shut (∀ a w, (j = L ∨ S w) → AnyT P md ops Q S L fuel (listed.setIfInBounds j true) a w → K' a w) → if Region.wanted q (yielded ops a.tmps) = true then Oper.wp P q a w K' Q else K' (a.put q.dst undef) w) :
    AnyT P md ops Q S L (fuel + 1) listed a w := by
  refine ⟨fun h0 => (by rw [hr] at h0; cases h0), fun k hk => ?_⟩
  rw [hr] at hk
  simp at hk
  rcases hk with rfl | rfl
  · exact wpOp_step ho (fun K' hK => h K' (fun a w hS hW => hK a w ⟨hS, hW⟩))
  · exact wpOp_step hq (fun K' hK => h' K' (fun a w hS hW => hK a w ⟨hS, hW⟩))
theorem anyT_done {fuel : Nat} {listed : Array Bool} {a : Act} {w : World} (hr : Region.ready md ops listed = []) (h : Q .normal a w) : AnyT P md ops Q S L fuel listed a w := by
  cases fuel with
  | zero => exact ⟨hr, h⟩
  | succ n => exact ⟨fun _ => h, by rw [hr]; simp⟩
theorem wp_region_T {id : Nat} {a : Act} {w : World} (L : Nat) (S : World → Prop) (hm : P.follows .mixedOrders = true)
    (h : AnyT P .any ops Q S L ops.size (Array.replicate ops.size false) a w.drew) : (Code.region id ops true).wp P Q a w :=
  wp_region_any hm (any_of_T _ _ _ _ h)
end
end Go.Proofs.Ytkbmdkgfgfbilaa

/-
  A region that draws its order and whose calls make memory: what is read is taken first, 'S' holds throughout.
-/
namespace Go.Proofs.Ytkbmdkgfgfbilaa
open Go.ChangeShapes Go.WideShapes Go.ChangeAt Go.RowKit Go.Deep
set_option linter.unusedVariables false

section
variable {P : Program} {ops : Array Oper} {Q : Exit → Act → World → Prop} {md : Region.Mode} {S : World → Prop} {L : Nat}
theorem anyT_firstN {i : Nat} {oi : Oper} {v : Value} (hi : ops[i]? = some oi) (hsel : ∀ (j : Nat) (o : Oper) cs b, ops[j]? = some o → o.op ≠ .select cs b)
    (hQ : ∀ c a w, Q (.panic c) (a.put oi.dst v) w → Q (.panic c) a w) (hL : ops[L]? = none) :
    ∀ (fuel : Nat) (listed : Array Bool) (a : Act) (w : World),
      (∀ j oj, ops[j]? = some oj → j ≠ i → listed.getD j true = false → (∀ e ∈ oj.after, Region.binds md e = true → e.on ≠ i) → oi.apart ops oj = true) →
      i ∈ Region.ready md ops listed → YieldsIf P ops S oi v a → S w →
      AnyT P md ops Q S L fuel (listed.setIfInBounds i true) (a.put oi.dst v) w → AnyT P md ops Q S L (fuel + 1) listed a w := by
  intro fuel
  induction fuel with
  | zero =>
    intro listed a w _ hr hy hS H
    refine ⟨fun h => (by rw [h] at hr; cases hr), fun j hj => ?_⟩
    by_cases hji : j = i
    · subst hji; exact hy.wpOp hi hS ⟨.inr hS, H⟩
    · have := ready_mono hj hji
      rw [H.1] at this
      cases this
  | succ fuel ih =>
    intro listed a w hfree hr hy hS H
    refine ⟨fun h => (by rw [h] at hr; cases hr), fun j hj => ?_⟩
    by_cases hji : j = i
    · subst hji; exact hy.wpOp hi hS ⟨.inr hS, H⟩
    · have h1 := H.2 j (ready_mono hj hji)
      obtain ⟨hjun, oj, hoj, hall⟩ := mem_ready.1 hj
      have hnot : ∀ e ∈ oj.after, Region.binds md e = true → e.on ≠ i := fun e he hb heq => by
        have h1 := hall e he hb
        have h0 := (mem_ready.1 hr).1
        rw [heq] at h1
        rcases Nat.lt_or_ge i listed.size with h' | h'
        · simp [h'] at h0 h1; rw [h0] at h1; cases h1
        · simp [Array.getElem?_eq_none h'] at h1
      have hjL : j ≠ L := fun q => by rw [q, hL] at hoj; cases hoj
      have h2 := wpOp_putIf hoj (hfree j oj hoj hji hjun hnot) (fun cs b => hsel i oi cs b hi) (fun cs b => hsel j oj cs b hoj) hQ hy h1
      have hfree' : ∀ k ok, ops[k]? = some ok → k ≠ i → (listed.setIfInBounds j true).getD k true = false →
          (∀ e ∈ ok.after, Region.binds md e = true → e.on ≠ i) → oi.apart ops ok = true := fun k ok hk hki hun hno => by
        refine hfree k ok hk hki ?_ hno
        by_cases hjk : j = k
        · subst hjk; exact hjun
        · rw [getD_set_ne true hjk] at hun; exact hun
      refine wpOp_mono (fun a' w' h3 => ⟨h3.2.1, ih (listed.setIfInBounds j true) a' w' hfree' (ready_mono hr (Ne.symm hji)) h3.1 (h3.2.1.resolve_left hjL) ?_⟩) h2
      rw [Array.setIfInBounds_comm _ _ hji]
      exact h3.2.2
theorem anyT_takeN {i : Nat} {oi : Oper} {v : Value} {fuel : Nat} {listed : Array Bool} {a : Act} {w : World} (hi : ops[i]? = some oi)
    (hs : Region.noSelect ops = true) (hf : Region.free md ops listed i = true) (hr : (Region.ready md ops listed).contains i = true) (hL : ops[L]? = none)
    (hQ : ∀ c a w, Q (.panic c) (a.put oi.dst v) w → Q (.panic c) a w) (hy : YieldsIf P ops S oi v a) (hS : S w)
    (h : AnyT P md ops Q S L fuel (listed.setIfInBounds i true) (a.put oi.dst v) w) : AnyT P md ops Q S L (fuel + 1) listed a w :=
  anyT_firstN hi (Region.noSelect_spec hs) hQ hL fuel listed a w (Region.free_spec hi hf) (by simpa using hr) hy hS h
end
end Go.Proofs.Ytkbmdkgfgfbilaa

/-
  Lists of instructions joined: what spec.l6Cat makes of a literal of slices.
-/
namespace Go.Proofs.Ytkbmdkgfgfbilaa
open Go.ChangeShapes Go.WideShapes Go.ChangeAt Go.RowKit Go.Deep
set_option linter.unusedVariables false
set_option linter.unusedSimpArgs false
set_option maxRecDepth 100000

/-- Instructions lie in a block. -/
structure Lst (w : World) (g : Nat) (X : List Ix) : Prop where
  at_ : IxsAt w g 0 X
  lt : g < w.heap.size
theorem Lst.below {w w' : World} {g : Nat} {X : List Ix} (h : Lst w g X) (hb : Below w.heap.size w w') : Lst w' g X := ⟨h.at_.below hb h.lt, Nat.lt_of_lt_of_le h.lt hb.size⟩
theorem OwnX.lst {w : World} {base g cap : Nat} {X : List Ix} (h : OwnX w base g cap X) : Lst w g X := ⟨h.at, h.lt.2⟩
inductive LstF (w : World) : List Value → List (List Ix) → Prop
  | nil : LstF w [] []
  | cons {g n c : Nat} {X : List Ix} {us : List Value} {ns : List (List Ix)} (hn : n = X.length) (h : Lst w g X) (r : LstF w us ns) : LstF w (.slice (some ⟨g, 0, none⟩) n c :: us) (X :: ns)
theorem LstF.length {w : World} {us : List Value} {ns : List (List Ix)} (h : LstF w us ns) : us.length = ns.length := by
  induction h with
  | nil => rfl
  | cons _ _ _ ih => simp [ih]
theorem LstF.nth {w : World} {us : List Value} {ns : List (List Ix)} (h : LstF w us ns) : ∀ (j : Nat) (u : Value) (y : List Ix), us[j]? = some u → ns[j]? = some y → ∃ b' c, u = .slice (some ⟨b', 0, none⟩) y.length c ∧ Lst w b' y := by
  induction h with
  | nil => intro j u y h; simp at h
  | cons hn h _ ih =>
    intro j u y hu hy
    cases j with
    | zero => simp at hu hy; subst hu hy; exact ⟨_, _, by rw [hn], h⟩
    | succ j => simp at hu hy; exact ih j u y hu hy
theorem cat_lit {w : World} {us : List Value} {ns : List (List Ix)} {cs : Array Value} {X : List Ix} {n cp T : Nat} (h : LstF w us ns) (hc : cs = us.toArray) (hX : ns.flatten = X) (hn : n = ns.length) (ht : X.length ≤ 1000000) (hl : ns.length ≤ 1000) :
    Calls Try.prog 39 #[.slice (some ⟨w.heap.size, 0, none⟩) n cp] (w.alloc (Obj.cells cs T)) (GeP X (w.alloc (Obj.cells cs T))) := by
  subst hc hX hn
  have hb : Below w.heap.size w (w.alloc (Obj.cells us.toArray T)) := (Below.refl _ _).alloc (Nat.le_refl _) _
  refine l6Cat_core w.heap.size cp us ns _ (fun j u hu => ?_) (by simp) h.length (fun j u y hu hy => ?_) ht hl
  · simp [hu]
  · obtain ⟨b', c, h1, h2⟩ := h.nth j u y hu hy
    have := h2.below hb
    exact ⟨b', c, h1, this.at_, this.lt⟩
theorem l6One_at (op : Int) (w : World) : Calls Try.prog 44 #[.int .i64 op] w fun r w' => ∃ g cp, r = .returned (.slice (some ⟨g, 0, none⟩) 1 cp) ∧ Hid (Lst w' g [opI op]) ∧ Below w.heap.size w w' := by
  refine (l6One_core op w).mono ?_
  rintro r w' ⟨g, cp, h1, h2, h3⟩
  exact ⟨g, cp, h1, h2.lst, h3⟩
end Go.Proofs.Ytkbmdkgfgfbilaa

/-
  Instructions that come in: lists of them opened, copied and compared.
-/
namespace Go.Proofs.Ytkbmdkgfgfbilaa
open Go.ChangeShapes Go.WideShapes Go.ChangeAt Go.RowKit Go.Deep
set_option linter.unusedVariables false
set_option linter.unusedSimpArgs false
set_option maxRecDepth 100000

theorem list11 {α : Type} {cs : List α} (h : cs.length = 11) : ∃ c0 c1 c2 c3 c4 c5 c6 c7 c8 c9 c10, cs = [c0, c1, c2, c3, c4, c5, c6, c7, c8, c9, c10] := by
  match cs, h with
  | [c0, c1, c2, c3, c4, c5, c6, c7, c8, c9, c10], _ => exact ⟨c0, c1, c2, c3, c4, c5, c6, c7, c8, c9, c10, rfl⟩
theorem list5x {α : Type} {cs : List α} (h : cs.length = 5) : ∃ c0 c1 c2 c3 c4, cs = [c0, c1, c2, c3, c4] := by
  match cs, h with
  | [c0, c1, c2, c3, c4], _ => exact ⟨c0, c1, c2, c3, c4, rfl⟩
/-- What is read of a slice of cells that came in. -/
def InIxs (w : World) (v : Value) (es : List Ix) : Prop :=
  (∃ a cap, v = .slice a 0 cap ∧ es = []) ∨
  ∃ b off cap, v = .slice (some ⟨b, off, none⟩) es.length cap ∧ IxsAt w b off es ∧ b < w.heap.size ∧ es.length ≤ cap ∧ cap ≤ maxLen
theorem InIxs.below {B : Nat} {w w' : World} {v : Value} {es : List Ix} (h : InIxs w v es) (hb : Below B w w') (hB : w.heap.size ≤ B) : InIxs w' v es := by
  rcases h with h | ⟨b, off, cap, hv, hE, hlt, h1, h2⟩
  · exact .inl h
  · exact .inr ⟨b, off, cap, hv, hE.below hb (by omega), by have := hb.size; omega, h1, h2⟩
theorem made_zeroX (n : Nat) : (madeCells #[.int .i64 0, .int .i64 0, .int .i64 0, .bool false, .int .i64 0, .string ⟨#[]⟩, .bool false, .string ⟨#[]⟩, .int .u64 0, .int .u64 0, .int .i64 0] (n * 11)).toList = cellsX (List.replicate n zeroI) := by
  apply List.ext_getElem?
  intro j
  by_cases hj : j < n * 11
  · have h := cellsX_get (List.replicate n zeroI) (j / 11) zeroI (by rw [List.getElem?_replicate, if_pos (by omega)]) (j % 11) (Nat.mod_lt _ (by omega))
    rw [show j / 11 * 11 + j % 11 = j by omega] at h
    rw [h]
    have h6 : j % 11 < 11 := Nat.mod_lt _ (by omega)
    simp [madeCells, hj]
    generalize j % 11 = m at *
    match m, h6 with
    | 0, _ => rfl
    | 1, _ => rfl
    | 2, _ => rfl
    | 3, _ => rfl
    | 4, _ => rfl
    | 5, _ => rfl
    | 6, _ => rfl
    | 7, _ => rfl
    | 8, _ => rfl
    | 9, _ => rfl
    | 10, _ => rfl
  · have h1 : (cellsX (List.replicate n zeroI)).length ≤ j := by rw [length_cellsX, List.length_replicate]; omega
    rw [List.getElem?_eq_none h1]
    simp [madeCells, hj]
set_option maxHeartbeats 1000000 in
theorem eqInsS_same (b off cap b' off' cap' : Nat) (es : List Ix) (w : World) (hE : IxsAt w b off es) (hE' : IxsAt w b' off' es) (hB : b < w.heap.size) (hB' : b' < w.heap.size) (hlen : es.length ≤ maxLen) :
    Calls Try.prog 53 #[.slice (some ⟨b, off, none⟩) es.length cap, .slice (some ⟨b', off', none⟩) es.length cap'] w fun e w' =>
      e = .returned (.bool true) ∧ Below w.heap.size w w' := by
  have HE : Hid (IxsAt w b off es ∧ IxsAt w b' off' es) := ⟨hE, hE'⟩
  clear hE hE'
  unfold maxLen at hlen
  go_enter Try.func53, Try.ntmps53
  go_wp2
  go_loopw [5] (fun i wr => ∃ (k : Nat), k ≤ es.length ∧ i = .int .i64 k ∧ Below w.heap.size w wr) (fun i _ => es.length - (intOf i).toNat)
  case atStart => exact ⟨0, Nat.zero_le _, rfl, Below.refl _ _⟩
  case round =>
    obtain ⟨k, hk, rfl, hb⟩ := hrel
    have hs2 := hb.size
    by_cases hlt : k < es.length
    · obtain ⟨e, he⟩ : ∃ e, es[k]? = some e := ⟨_, List.getElem?_eq_getElem hlt⟩
      obtain ⟨c0, c1, c2, c3, c4, c5, c6, c7, c8, c9, c10⟩ := HE.out.1.below hb hB k e he
      obtain ⟨d0, d1, d2, d3, d4, d5, d6, d7, d8, d9, d10⟩ := HE.out.2.below hb hB' k e he
      clear he
      go_upto_region 6 with fail
      go_cut [26] (fun s wx => s = .bool false ∧ Below w.heap.size w wx)
      case first =>
        have z2 : (k : Int) < (es.length : Int) := by omega
        go_region_with (go_at_call 68; refine (eqIns_same e _).mono ?_; rintro e' w' ⟨rfl, hbb⟩)
        all_goals go_wp2_with fail
        all_goals go_meet
        all_goals exact ⟨rfl, hb.drew.trans (hbb.mono (by simp; omega))⟩
      case rest =>
      obtain ⟨rfl, h3⟩ := hcut
      clear c0 c1 c2 c3 c4 c5 c6 c7 c8 c9 c10 d0 d1 d2 d3 d4 d5 d6 d7 d8 d9 d10
      go_wp2_with fail
      go_roundw
      case rel => exact ⟨k + 1, by omega, by go_num, h3⟩
      case measure => simp [intOf]; omega
    · go_wp2_with fail
      go_ret
      exact ⟨rfl, hb⟩
theorem eqInsS_own {w : World} {base g cp base' g' cp' : Nat} {es : List Ix} (h : OwnX w base g cp es) (h' : OwnX w base' g' cp' es) :
    Calls Try.prog 53 #[.slice (some ⟨g, 0, none⟩) es.length cp, .slice (some ⟨g', 0, none⟩) es.length cp'] w fun e w' => e = .returned (.bool true) ∧ Below w.heap.size w w' :=
  eqInsS_same g 0 cp g' 0 cp' es w h.at h'.at h.lt.2 h'.lt.2 (Nat.le_trans h.caps.1 h.caps.2)
set_option maxHeartbeats 400000 in
theorem eqInsS_zero (a a' : Option Addr) (cap cap' : Nat) (w : World) :
    Calls Try.prog 53 #[.slice a 0 cap, .slice a' 0 cap'] w fun e w' => e = .returned (.bool true) ∧ Below w.heap.size w w' := by
  go_enter Try.func53, Try.ntmps53
  go_wp2
  go_loopw [5] (fun i wr => i = .int .i64 0 ∧ Below w.heap.size w wr) (fun i _ => 0)
  case atStart => exact ⟨rfl, Below.refl _ _⟩
  case round =>
    obtain ⟨rfl, hb⟩ := hrel
    go_wp2_with fail
    go_ret
    exact ⟨rfl, hb⟩
theorem InIxs.own {w : World} {base g n cap : Nat} {es : List Ix} (h : OwnX w base g cap es) (hn : n = es.length) : InIxs w (.slice (some ⟨g, 0, none⟩) n cap) es := by
  subst hn
  exact .inr ⟨g, 0, cap, rfl, h.at, h.lt.2, h.caps.1, h.caps.2⟩
theorem eqInsS_any (u u' : Value) (es : List Ix) (w : World) (h : InIxs w u es) (h' : InIxs w u' es) :
    Calls Try.prog 53 #[u, u'] w fun e w' => e = .returned (.bool true) ∧ Below w.heap.size w w' := by
  rcases h with ⟨a, cap, rfl, rfl⟩ | ⟨b, off, cap, rfl, hE, hlt, g1, g2⟩
  · rcases h' with ⟨a', cap', rfl, _⟩ | ⟨b', off', cap', rfl, hE', hlt', g1', g2'⟩
    · exact eqInsS_zero a a' cap cap' w
    · exact eqInsS_zero a _ cap cap' w
  · rcases h' with ⟨a', cap', rfl, rfl⟩ | ⟨b', off', cap', rfl, hE', hlt', g1', g2'⟩
    · exact eqInsS_zero _ a' cap cap' w
    · exact eqInsS_same b off cap b' off' cap' es w hE hE' hlt hlt' (Nat.le_trans g1 g2)
end Go.Proofs.Ytkbmdkgfgfbilaa

/-
  Blocks of code in memory, read alone.
-/
namespace Go.Proofs.Ytkbmdkgfgfbilaa
open Go.ChangeShapes Go.WideShapes Go.ChangeAt Go.RowKit Go.Deep
set_option linter.unusedVariables false
set_option linter.unusedSimpArgs false
set_option maxRecDepth 100000

theorem InIxs.cells {w : World} {v : Value} {es : List Ix} (h : InIxs w v es) : v.cells = #[v] := by
  rcases h with ⟨a, cap, rfl, _⟩ | ⟨b, off, cap, rfl, _⟩ <;> rfl
theorem InIxs.one {w : World} {v : Value} {es : List Ix} (h : InIxs w v es) : ∃ a n c, v = .slice a n c ∧ n = es.length := by
  rcases h with ⟨a, cap, rfl, rfl⟩ | ⟨b, off, cap, rfl, _⟩ <;> exact ⟨_, _, _, rfl, rfl⟩
/-- A block of code: its slice, what it shows. -/
structure Bk where
  v : Value
  cnt : Int
  l : List Ix
abbrev Bk.val (x : Bk) : Value := .agg #[x.v, .int .i64 x.cnt]
abbrev Bk.vw (x : Bk) : Int × List Ix := (x.cnt, x.l)
abbrev Bk.two (x : Bk) : List Value := [x.v, .int .i64 x.cnt]
structure Bk.ok (x : Bk) : Prop where
  cnt : (Lit.int .i64 x.cnt).wf = true
  ins : ∀ e ∈ x.l, e.ok
def totB : List Bk → Nat
  | [] => 0
  | x :: bs => x.l.length + totB bs
theorem totB_mem {bs : List Bk} {x : Bk} (h : x ∈ bs) : x.l.length ≤ totB bs := by
  induction bs with
  | nil => cases h
  | cons a l ih =>
    rcases List.mem_cons.1 h with rfl | h
    · simp [totB]
    · have := ih h; simp only [totB]; omega
theorem totB_take {bs : List Bk} {k : Nat} {x : Bk} (h : bs[k]? = some x) : totB (bs.take (k + 1)) = totB (bs.take k) + x.l.length := by
  induction bs generalizing k with
  | nil => simp at h
  | cons a l ih =>
    cases k with
    | zero => simp at h; subst h; simp [totB]
    | succ k => simp at h; simp [totB, ih h]; omega
def BksAt (w : World) (b off : Nat) (bs : List Bk) : Prop := ∀ i x, bs[i]? = some x → w.cell? ⟨b, off + i * 2, none⟩ = some x.v ∧ w.cell? ⟨b, off + i * 2 + 1, none⟩ = some (.int .i64 x.cnt) ∧ InIxs w x.v x.l
theorem BksAt.below {w w' : World} {b off : Nat} {bs : List Bk} (h : BksAt w b off bs) (hb : Below w.heap.size w w') (hlt : b < w.heap.size) : BksAt w' b off bs := by
  intro i x hx
  obtain ⟨h0, h1, h2⟩ := h i x hx
  exact ⟨by rw [hb.cell (p := ⟨b, off + i * 2, none⟩) hlt]; exact h0, by rw [hb.cell (p := ⟨b, off + i * 2 + 1, none⟩) hlt]; exact h1, h2.below hb (Nat.le_refl _)⟩
def InBks (w : World) (v : Value) (bs : List Bk) : Prop :=
  (∃ a cap, v = .slice a 0 cap ∧ bs = []) ∨
  ∃ b off cap, v = .slice (some ⟨b, off, none⟩) bs.length cap ∧ BksAt w b off bs ∧ b < w.heap.size ∧ bs.length ≤ cap ∧ cap ≤ maxLen
theorem InBks.below {w w' : World} {v : Value} {bs : List Bk} (h : InBks w v bs) (hb : Below w.heap.size w w') : InBks w' v bs := by
  rcases h with h | ⟨b, off, cap, hv, hE, hlt, h1, h2⟩
  · exact .inl h
  · exact .inr ⟨b, off, cap, hv, hE.below hb hlt, by have := hb.size; omega, h1, h2⟩
theorem InBks.cells {w : World} {v : Value} {es : List Bk} (h : InBks w v es) : v.cells = #[v] := by
  rcases h with ⟨a, cap, rfl, _⟩ | ⟨b, off, cap, rfl, _⟩ <;> rfl
theorem InIxs.chg {S : Nat → Prop} {w w' : World} {v : Value} {l : List Ix} (h : InIxs w v l) (hc : Chg S w w') (hv : ∀ g n c, v = .slice (some g) n c → l ≠ [] → ¬ S g.block) : InIxs w' v l := by
  rcases h with h | ⟨b, off, cap, hq, hE, hlt, h1, h2⟩
  · exact .inl h
  · by_cases hn : l = []
    · subst hn
      exact .inl ⟨_, _, hq, rfl⟩
    · exact .inr ⟨b, off, cap, hq, hE.chg hc hlt (hv ⟨b, off, none⟩ _ _ hq hn), by have := hc.size; omega, h1, h2⟩

end Go.Proofs.Ytkbmdkgfgfbilaa

/-
  Blocks and code that come in: copied, compared, opened.
-/
namespace Go.Proofs.Ytkbmdkgfgfbilaa
open Go.ChangeShapes Go.WideShapes Go.ChangeAt Go.RowKit Go.Deep
set_option linter.unusedVariables false
set_option linter.unusedSimpArgs false
set_option maxRecDepth 100000

theorem OwnX.mono {w : World} {base base' g cap : Nat} {es : List Ix} (h : OwnX w base g cap es) (hb : base' ≤ base) : OwnX w base' g cap es := by
  refine ⟨h.1, ?_⟩
  rcases h.2 with hn | ⟨g', cap', cur, hv, h1, rest⟩
  · exact .inl hn
  · exact .inr ⟨g', cap', cur, hv, Nat.le_trans hb h1, rest⟩
def cellsB (bs : List Bk) : List Value := bs.flatMap Bk.two
theorem cellsB_cons (e : Bk) (es : List Bk) : cellsB (e :: es) = e.two ++ cellsB es := by simp [cellsB]
theorem length_cellsB (es : List Bk) : (cellsB es).length = es.length * 2 := by
  induction es with
  | nil => rfl
  | cons e es ih => rw [cellsB_cons, List.length_append, ih]; simp; omega
theorem cellsB_get (es : List Bk) : ∀ (k : Nat) (e : Bk), es[k]? = some e → ∀ j, j < 2 → (cellsB es)[k * 2 + j]? = e.two[j]? := by
  induction es with
  | nil => intro k e h; simp at h
  | cons f es ih =>
    intro k e h j hj
    rw [cellsB_cons]
    cases k with
    | zero =>
      simp at h; subst h
      rw [List.getElem?_append_left (by show 0 * 2 + j < 2; omega)]
      simp
    | succ k =>
      simp at h
      rw [List.getElem?_append_right (by show 2 ≤ (k + 1) * 2 + j; omega)]
      have : (k + 1) * 2 + j - f.two.length = k * 2 + j := by show (k + 1) * 2 + j - 2 = _; omega
      rw [this]; exact ih k e h j hj
theorem cellsB_set (es : List Bk) : ∀ (k : Nat) (e e' : Bk) (u : Value) (j : Nat), es[k]? = some e → j < 2 → e'.two = e.two.set j u → (cellsB es).set (k * 2 + j) u = cellsB (es.set k e') := by
  induction es with
  | nil => intro k e e' u j h; simp at h
  | cons f es ih =>
    intro k e e' u j h hj hc
    rw [cellsB_cons]
    cases k with
    | zero =>
      simp at h; subst h
      rw [List.set_append_left _ _ (by show 0 * 2 + j < 2; omega), List.set_cons_zero, cellsB_cons, hc]
      simp
    | succ k =>
      simp at h
      rw [List.set_append_right _ _ (by show 2 ≤ (k + 1) * 2 + j; omega), List.set_cons_succ, cellsB_cons]
      have : (k + 1) * 2 + j - f.two.length = k * 2 + j := by show (k + 1) * 2 + j - 2 = _; omega
      rw [this, ih k e e' u j h hj hc]
def OwnBk (w : World) (base g : Nat) (bs : List Bk) : Prop := w.ownsRow base 29 2 (.slice (some ⟨g, 0, none⟩) bs.length bs.length) bs.length (cellsB bs)
theorem OwnBk.cell {w : World} {base g : Nat} {bs : List Bk} (h : OwnBk w base g bs) {i : Nat} {x : Bk} (hx : bs[i]? = some x) : w.cell? ⟨g, i * 2, none⟩ = some x.v ∧ w.cell? ⟨g, i * 2 + 1, none⟩ = some (.int .i64 x.cnt) := by
  have hi : i < bs.length := (List.getElem?_eq_some_iff.1 hx).1
  have c := fun j (hj : j < 2) => (World.ownsRow.cellAt h (i * 2 + j) (by omega)).trans (cellsB_get bs i x hx j hj)
  exact ⟨by simpa using c 0 (by omega), by simpa using c 1 (by omega)⟩
theorem OwnBk.lt {w : World} {base g : Nat} {bs : List Bk} (h : OwnBk w base g bs) : base ≤ g ∧ g < w.heap.size := World.ownsRow.lt h g rfl
theorem OwnBk.below {w w' : World} {base g : Nat} {bs : List Bk} (h : OwnBk w base g bs) (hb : Below w.heap.size w w') : OwnBk w' base g bs := own_chg (S := fun _ => False) h (Chg.of_below hb) (fun k _ q => q)
theorem OwnBk.put {w : World} {base g : Nat} {bs : List Bk} (h : OwnBk w base g bs) (k : Nat) (f e : Bk) (hk : bs[k]? = some f) :
    OwnBk ((w.setCell ⟨g, k * 2, none⟩ e.v).setCell ⟨g, k * 2 + 1, none⟩ (.int .i64 e.cnt)) base g (bs.set k e) := by
  have hlt : k < bs.length := (List.getElem?_eq_some_iff.1 hk).1
  have h1 := (World.ownsRow.stored h (k * 2 + 0) e.v).1
  rw [cellsB_set bs k f ⟨e.v, f.cnt, f.l⟩ e.v 0 hk (by omega) rfl] at h1
  have h2 := (World.ownsRow.stored h1 (k * 2 + 1) (.int .i64 e.cnt)).1
  rw [cellsB_set (bs.set k ⟨e.v, f.cnt, f.l⟩) k ⟨e.v, f.cnt, f.l⟩ e (.int .i64 e.cnt) 1 (by simp [hlt]) (by omega) rfl, List.set_set] at h2
  unfold OwnBk
  rw [List.length_set]
  exact h2
def zeroB : Bk := ⟨.slice none 0 0, 0, []⟩
theorem Try.infoB : (Try.prog.info? 29).map (fun i => (i.zero, i.size, i.bytes)) = some (some (.agg #[.slice none 0 0, .int .i64 0]), 2, 32) := by kernel_rfl
theorem made_zeroB (n : Nat) : (madeCells #[.slice none 0 0, .int .i64 0] (n * 2)).toList = cellsB (List.replicate n zeroB) := by
  apply List.ext_getElem?
  intro j
  by_cases hj : j < n * 2
  · have h := cellsB_get (List.replicate n zeroB) (j / 2) zeroB (by rw [List.getElem?_replicate, if_pos (by omega)]) (j % 2) (Nat.mod_lt _ (by omega))
    rw [show j / 2 * 2 + j % 2 = j by omega] at h
    rw [h]
    have h6 : j % 2 < 2 := Nat.mod_lt _ (by omega)
    simp [madeCells, hj]
    generalize j % 2 = m at *
    match m, h6 with
    | 0, _ => rfl
    | 1, _ => rfl
  · have h1 : (cellsB (List.replicate n zeroB)).length ≤ j := by rw [length_cellsB, List.length_replicate]; omega
    rw [List.getElem?_eq_none h1]
    simp [madeCells, hj]
/-- Blocks copied so far: their rows lie behind the row of blocks. -/
structure CopB (G : Nat) (bs : List Bk) (k : Nat) (fs : List Bk) (wr : World) : Prop where
  len : fs.length = bs.length
  vw : (fs.take k).map Bk.vw = (bs.take k).map Bk.vw
  own : OwnBk wr G G fs
  ins : ∀ i x, i < k → fs[i]? = some x → InIxs wr x.v x.l ∧ ∀ g n c, x.v = .slice (some g) n c → G < g.block
/-- Blocks that stay whatever turns ahead of 'base'. -/
def AllBks (base : Nat) (w : World) (v : Value) (fs : List Bk) : Prop := ∀ (S : Nat → Prop) (wx : World), Chg S w wx → (∀ k, S k → k < base) → InBks wx v fs
theorem AllBks.in {base : Nat} {w : World} {v : Value} {fs : List Bk} (h : AllBks base w v fs) : InBks w v fs := h (fun _ => False) w (Chg.of_below (Below.refl _ _)) (fun k q => q.elim)
theorem CopB.in {G : Nat} {bs fs : List Bk} {wr : World} (h : CopB G bs bs.length fs wr) (hl : bs.length ≤ maxLen) : AllBks G wr (.slice (some ⟨G, 0, none⟩) bs.length bs.length) fs ∧ fs.map Bk.vw = bs.map Bk.vw := by
  have hv := h.vw
  have hlen := h.len
  rw [List.take_of_length_le (by omega), List.take_of_length_le (by omega)] at hv
  refine ⟨fun S wx hc hS => .inr ⟨G, 0, bs.length, by rw [hlen], fun i x hx => ?_, by have := hc.size; have := h.own.lt.2; omega, by omega, hl⟩, hv⟩
  have hi := (List.getElem?_eq_some_iff.1 hx).1
  rw [Nat.zero_add]
  have hn : ¬ S G := fun q => by have := hS G q; omega
  obtain ⟨h1, h2⟩ := h.ins i x (by omega) hx
  exact ⟨by rw [hc.cell (p := ⟨G, i * 2, none⟩) h.own.lt.2 hn]; exact (h.own.cell hx).1, by rw [hc.cell (p := ⟨G, i * 2 + 1, none⟩) h.own.lt.2 hn]; exact (h.own.cell hx).2, h1.chg hc (fun g n c hq _ q => by have := h2 g n c hq; have := hS _ q; omega)⟩
theorem CopB.step {G : Nat} {bs fs : List Bk} {k g : Nat} {x : Bk} {wr w2 : World} (h : CopB G bs k fs wr) (hx : bs[k]? = some x) (hb : Below wr.heap.size wr w2) (hO : OwnX w2 wr.heap.size g x.l.length x.l) :
    CopB G bs (k + 1) (fs.set k ⟨.slice (some ⟨g, 0, none⟩) x.l.length x.l.length, x.cnt, x.l⟩) ((w2.setCell ⟨G, k * 2, none⟩ (.slice (some ⟨g, 0, none⟩) x.l.length x.l.length)).setCell ⟨G, k * 2 + 1, none⟩ (.int .i64 x.cnt)) := by
  have hk := (List.getElem?_eq_some_iff.1 hx).1
  have hlen := h.len
  obtain ⟨f, hf⟩ : ∃ f, fs[k]? = some f := ⟨_, List.getElem?_eq_getElem (by omega)⟩
  have hG := h.own.lt
  have hc : Chg (fun q => q = G) w2 ((w2.setCell ⟨G, k * 2, none⟩ (.slice (some ⟨g, 0, none⟩) x.l.length x.l.length)).setCell ⟨G, k * 2 + 1, none⟩ (.int .i64 x.cnt)) := (Chg.of_set w2 G (k * 2) _ (S := fun q => q = G) rfl).trans (Chg.of_set _ G (k * 2 + 1) _ (S := fun q => q = G) rfl)
  refine ⟨by rw [List.length_set]; exact h.len, ?_, (h.own.below hb).put k f ⟨.slice (some ⟨g, 0, none⟩) x.l.length x.l.length, x.cnt, x.l⟩ hf, fun i y hi hy => ?_⟩
  · rw [List.take_add_one, List.take_add_one (l := bs), hx]
    rw [List.getElem?_set, if_pos rfl, if_pos (by omega)]
    rw [List.take_set_of_le (by omega)]
    simp only [Option.toList, List.map_append, h.vw]
    rfl
  · rw [List.getElem?_set] at hy
    by_cases e : k = i
    · subst e
      rw [if_pos rfl, if_pos (by omega)] at hy
      obtain rfl := Option.some.inj hy
      have hg := hO.lt.1
      refine ⟨InIxs.chg (InIxs.own hO rfl) hc (fun g' n c hq _ => ?_), fun g' n c hq => ?_⟩
      · cases hq
        show ¬ g = G
        omega
      · cases hq
        show G < g
        omega
    · rw [if_neg e] at hy
      obtain ⟨h1, h2⟩ := h.ins i y (by omega) hy
      refine ⟨(h1.below hb (Nat.le_refl _)).chg hc (fun g' n c hq _ => ?_), h2⟩
      have := h2 g' n c hq
      show ¬ g'.block = G
      omega
end Go.Proofs.Ytkbmdkgfgfbilaa

/-
  Blocks and code compared; code that comes in, opened.
-/
namespace Go.Proofs.Ytkbmdkgfgfbilaa
open Go.ChangeShapes Go.WideShapes Go.ChangeAt Go.RowKit Go.Deep
set_option linter.unusedVariables false
set_option linter.unusedSimpArgs false
set_option maxRecDepth 100000

set_option maxHeartbeats 400000 in
theorem eqBlock_any (x y : Bk) (w : World) (h : InIxs w x.v x.l) (h' : InIxs w y.v y.l) (hv : x.vw = y.vw) :
    Calls Try.prog 26 #[x.val, y.val] w fun e w' => e = .returned (.bool true) ∧ Below w.heap.size w w' := by
  have hu := h.cells
  have hu' := h'.cells
  obtain ⟨v, cnt, l⟩ := x
  obtain ⟨v', cnt', l'⟩ := y
  simp only [Bk.vw, Prod.mk.injEq] at hv
  obtain ⟨rfl, rfl⟩ := hv
  have HE : Hid (InIxs w v l ∧ InIxs w v' l) := ⟨h, h'⟩
  simp only at hu hu'
  clear h h'
  go_enter Try.func26, Try.ntmps26
  go_wp2_with fail
  have k0 : Below w.heap.size w ((w.alloc (Obj.cells #[v, .int .i64 cnt] 29)).alloc (Obj.cells #[v', .int .i64 cnt] 29)) := ((Below.refl _ _).alloc (Nat.le_refl _) _).alloc (by simp) _
  refine (eqInsS_any v v' l _ (HE.out.1.below k0 (Nat.le_refl _)) (HE.out.2.below k0 (Nat.le_refl _))).mono ?_
  rintro e w1 ⟨rfl, hb1⟩
  obtain ⟨hc1, hf1⟩ := bcell hb1
  go_wp2_with fail
  go_ret
  exact ⟨rfl, k0.trans (hb1.mono (by simp; omega))⟩
set_option maxHeartbeats 1000000 in
theorem eqBlockS_same (b off cap b' off' cap' : Nat) (bs bs' : List Bk) (w : World) (hE : BksAt w b off bs) (hE' : BksAt w b' off' bs') (hv : bs.map Bk.vw = bs'.map Bk.vw) (hB : b < w.heap.size) (hB' : b' < w.heap.size) (hlen : bs.length ≤ maxLen) :
    Calls Try.prog 25 #[.slice (some ⟨b, off, none⟩) bs.length cap, .slice (some ⟨b', off', none⟩) bs.length cap'] w fun e w' =>
      e = .returned (.bool true) ∧ Below w.heap.size w w' := by
  have HE : Hid (BksAt w b off bs ∧ BksAt w b' off' bs' ∧ bs.map Bk.vw = bs'.map Bk.vw) := ⟨hE, hE', hv⟩
  clear hE hE' hv
  unfold maxLen at hlen
  go_enter Try.func25, Try.ntmps25
  go_wp2
  go_loopw [5] (fun i wr => ∃ (k : Nat), k ≤ bs.length ∧ i = .int .i64 k ∧ Below w.heap.size w wr) (fun i _ => bs.length - (intOf i).toNat)
  case atStart => exact ⟨0, Nat.zero_le _, rfl, Below.refl _ _⟩
  case round =>
    obtain ⟨k, hk, rfl, hb⟩ := hrel
    have hs2 := hb.size
    by_cases hlt : k < bs.length
    · obtain ⟨x, hx⟩ : ∃ x, bs[k]? = some x := ⟨_, List.getElem?_eq_getElem hlt⟩
      have hll := congrArg List.length HE.out.2.2
      simp only [List.length_map] at hll
      obtain ⟨y, hy⟩ : ∃ y, bs'[k]? = some y := ⟨_, List.getElem?_eq_getElem (by omega)⟩
      obtain ⟨c0, c1, hI⟩ := HE.out.1.below hb hB k x hx
      obtain ⟨d0, d1, hJ⟩ := HE.out.2.1.below hb hB' k y hy
      have hvw : x.vw = y.vw := by
        have := congrArg (fun l => l[k]?) HE.out.2.2
        simp only [List.getElem?_map, hx, hy] at this
        exact Option.some.inj this
      have HX : Hid (InIxs wr x.v x.l ∧ InIxs wr y.v y.l ∧ x.vw = y.vw) := ⟨hI, hJ, hvw⟩
      have hu := hI.cells
      have hu' := hJ.cells
      clear hx hy hI hJ hvw hll
      go_upto_region 6 with fail
      go_cut [26] (fun s wx => s = .bool false ∧ Below w.heap.size w wx)
      case first =>
        have z2 : (k : Int) < (bs.length : Int) := by omega
        go_region_with (go_at_call 26; refine (eqBlock_any x y _ (HX.out.1.below (Below.refl _ _).drew (Nat.le_refl _)) (HX.out.2.1.below (Below.refl _ _).drew (Nat.le_refl _)) HX.out.2.2).mono ?_; rintro e' w' ⟨rfl, hbb⟩)
        all_goals go_wp2_with fail
        all_goals go_meet
        all_goals exact ⟨rfl, hb.drew.trans (hbb.mono (by simp; omega))⟩
      case rest =>
      obtain ⟨rfl, h3⟩ := hcut
      clear c0 c1 d0 d1
      go_wp2_with fail
      go_roundw
      case rel => exact ⟨k + 1, by omega, by go_num, h3⟩
      case measure => simp [intOf]; omega
    · go_wp2_with fail
      go_ret
      exact ⟨rfl, hb⟩
set_option maxHeartbeats 400000 in
theorem eqBlockS_zero (a a' : Option Addr) (cap cap' : Nat) (w : World) :
    Calls Try.prog 25 #[.slice a 0 cap, .slice a' 0 cap'] w fun e w' => e = .returned (.bool true) ∧ Below w.heap.size w w' := by
  go_enter Try.func25, Try.ntmps25
  go_wp2
  go_loopw [5] (fun i wr => i = .int .i64 0 ∧ Below w.heap.size w wr) (fun i _ => 0)
  case atStart => exact ⟨rfl, Below.refl _ _⟩
  case round =>
    obtain ⟨rfl, hb⟩ := hrel
    go_wp2_with fail
    go_ret
    exact ⟨rfl, hb⟩
theorem eqBlockS_any (u u' : Value) (bs bs' : List Bk) (w : World) (h : InBks w u bs) (h' : InBks w u' bs') (hv : bs.map Bk.vw = bs'.map Bk.vw) :
    Calls Try.prog 25 #[u, u'] w fun e w' => e = .returned (.bool true) ∧ Below w.heap.size w w' := by
  have hll := congrArg List.length hv
  simp only [List.length_map] at hll
  rcases h with ⟨a, cap, rfl, rfl⟩ | ⟨b, off, cap, rfl, hE, hlt, g1, g2⟩
  · rcases h' with ⟨a', cap', rfl, _⟩ | ⟨b', off', cap', rfl, hE', hlt', g1', g2'⟩
    · exact eqBlockS_zero a a' cap cap' w
    · rw [← hll]; exact eqBlockS_zero a _ cap cap' w
  · rcases h' with ⟨a', cap', rfl, rfl⟩ | ⟨b', off', cap', rfl, hE', hlt', g1', g2'⟩
    · rw [hll]; exact eqBlockS_zero _ a' cap cap' w
    · rw [← hll]; exact eqBlockS_same b off cap b' off' cap' bs bs' w hE hE' hv hlt hlt' (Nat.le_trans g1 g2)
set_option maxHeartbeats 1000000 in
theorem eqCode_any (u u' : Value) (bs bs' : List Bk) (m m' : Bk) (w : World) (h : InBks w u bs) (h' : InBks w u' bs') (hv : bs.map Bk.vw = bs'.map Bk.vw) (hm : InIxs w m.v m.l) (hm' : InIxs w m'.v m'.l) (hmv : m.vw = m'.vw) :
    Calls Try.prog 8 #[.agg #[u, m.v, .int .i64 m.cnt], .agg #[u', m'.v, .int .i64 m'.cnt]] w fun e w' => e = .returned (.bool true) ∧ Below w.heap.size w w' := by
  have HE : Hid (InBks w u bs ∧ InBks w u' bs' ∧ bs.map Bk.vw = bs'.map Bk.vw ∧ InIxs w m.v m.l ∧ InIxs w m'.v m'.l ∧ m.vw = m'.vw) := ⟨h, h', hv, hm, hm', hmv⟩
  have hu := h.cells
  have hu' := h'.cells
  have hu2 := hm.cells
  have hu2' := hm'.cells
  clear h h' hv hm hm' hmv
  obtain ⟨W0, hW0⟩ : ∃ W0 : World, W0 = (w.alloc (Obj.cells #[u, m.v, .int .i64 m.cnt] 31)).alloc (Obj.cells #[u', m'.v, .int .i64 m'.cnt] 31) := ⟨_, rfl⟩
  have k0 : Below w.heap.size w W0 := by rw [hW0]; exact ((Below.refl _ _).alloc (Nat.le_refl _) _).alloc (by simp) _
  have hz0 : W0.heap.size = w.heap.size + 1 + 1 := by rw [hW0]; simp
  have HK : Hid (∀ wx, Below W0.heap.size W0 wx → wx.cell? ⟨w.heap.size, 0, none⟩ = some u ∧ wx.cell? ⟨w.heap.size, 1, none⟩ = some m.v ∧ wx.cell? ⟨w.heap.size, 2, none⟩ = some (.int .i64 m.cnt) ∧ wx.cell? ⟨w.heap.size + 1, 0, none⟩ = some u' ∧ wx.cell? ⟨w.heap.size + 1, 1, none⟩ = some m'.v ∧ wx.cell? ⟨w.heap.size + 1, 2, none⟩ = some (.int .i64 m'.cnt)) := by
    intro wx hx
    have e1 : w.heap.size < W0.heap.size := by omega
    have e2 : w.heap.size + 1 < W0.heap.size := by omega
    rw [hx.cell (p := ⟨w.heap.size, 0, none⟩) e1, hx.cell (p := ⟨w.heap.size, 1, none⟩) e1, hx.cell (p := ⟨w.heap.size, 2, none⟩) e1, hx.cell (p := ⟨w.heap.size + 1, 0, none⟩) e2, hx.cell (p := ⟨w.heap.size + 1, 1, none⟩) e2, hx.cell (p := ⟨w.heap.size + 1, 2, none⟩) e2, hW0]
    refine ⟨?_, ?_, ?_, ?_, ?_, ?_⟩ <;> simp [go_sem]
  obtain ⟨a0, a1, a2, b0, b1, b2⟩ := HK.out W0 (Below.refl _ _)
  go_enter Try.func8, Try.ntmps8
  go_upto_region 1 with fail
  rw [← hW0]
  clear hW0
  go_wp2_with fail
  refine (eqBlockS_any u u' bs bs' _ (HE.out.1.below k0) (HE.out.2.1.below k0) HE.out.2.2.1).mono ?_
  rintro e w1 ⟨rfl, hb1⟩
  have s1 := hb1.size
  have k1 : Below w.heap.size w w1 := k0.trans (hb1.mono (by omega))
  clear a0 a1 a2 b0 b1 b2
  obtain ⟨a0, a1, a2, b0, b1, b2⟩ := HK.out w1 hb1
  go_wp2_with fail
  refine (eqBlock_any m m' _ (HE.out.2.2.2.1.below k1 (Nat.le_refl _)) (HE.out.2.2.2.2.1.below k1 (Nat.le_refl _)) HE.out.2.2.2.2.2).mono ?_
  rintro e w2 ⟨rfl, hb2⟩
  go_wp2_with fail
  go_ret
  exact ⟨rfl, k1.trans (hb2.mono (by omega))⟩

theorem list2 {α : Type} {cs : List α} (h : cs.length = 2) : ∃ c0 c1, cs = [c0, c1] := by
  match cs, h with
  | [c0, c1], _ => exact ⟨c0, c1, rfl⟩
end Go.Proofs.Ytkbmdkgfgfbilaa

/-
  Rows of instructions and of blocks that may be nil: append laws.
-/
namespace Go.Proofs.Ytkbmdkgfgfbilaa
open Go.ChangeShapes Go.WideShapes Go.ChangeAt Go.RowKit Go.Deep
set_option linter.unusedVariables false
set_option linter.unusedSimpArgs false
set_option maxRecDepth 100000

/-- A row of instructions of the call's own, or nil. -/
def RowX (w : World) (base : Nat) (v : Value) (X : List Ix) : Prop := w.ownsRow base 77 11 v X.length (cellsX X)
theorem RowX.cases {w : World} {base : Nat} {v : Value} {X : List Ix} (h : RowX w base v X) : (v = .slice none 0 0 ∧ X = []) ∨ ∃ g cp, v = .slice (some ⟨g, 0, none⟩) X.length cp ∧ OwnX w base g cp X := by
  rcases h.2 with ⟨h0, h1⟩ | ⟨g', cap', cur, hv, rest⟩
  · refine .inl ⟨h0, ?_⟩
    have : X.length = 0 := h1
    exact List.length_eq_zero_iff.1 this
  · subst hv
    exact .inr ⟨g', cap', rfl, h⟩
theorem RowX.in {w : World} {base : Nat} {v : Value} {X : List Ix} (h : RowX w base v X) : InIxs w v X := by
  rcases h.cases with ⟨rfl, rfl⟩ | ⟨g, cp, rfl, hO⟩
  · exact .inl ⟨none, 0, rfl, rfl⟩
  · exact InIxs.own hO rfl
theorem RowX.chg {S : Nat → Prop} {w w' : World} {base : Nat} {v : Value} {X : List Ix} (h : RowX w base v X) (hc : Chg S w w') (hn : ∀ k, v.ownBlock = some k → ¬ S k) : RowX w' base v X := own_chg h hc hn
theorem RowX.below {w w' : World} {base : Nat} {v : Value} {X : List Ix} (h : RowX w base v X) (hb : Below w.heap.size w w') : RowX w' base v X := h.chg (S := fun _ => False) (Chg.of_below hb) (fun _ _ q => q)
theorem RowX.low {w : World} {base base' : Nat} {v : Value} {es : List Ix} (h : RowX w base v es) (hb : base' ≤ base) : RowX w base' v es := by
  refine ⟨h.1, ?_⟩
  rcases h.2 with hn | ⟨g', cap', cur, hv, h1, rest⟩
  · exact .inl hn
  · exact .inr ⟨g', cap', cur, hv, Nat.le_trans hb h1, rest⟩
theorem rowX_nil (w : World) (base : Nat) : RowX w base (.slice none 0 0) [] := ⟨rfl, .inl ⟨rfl, rfl⟩⟩
theorem RowX.blk {w : World} {base : Nat} {v : Value} {X : List Ix} (h : RowX w base v X) {k : Nat} (hk : v.ownBlock = some k) : base ≤ k ∧ k < w.heap.size := by
  rcases h.cases with ⟨rfl, rfl⟩ | ⟨g, cp, rfl, hO⟩
  · simp [Value.ownBlock] at hk
  · simp [Value.ownBlock] at hk; subst hk; exact hO.lt
theorem RowX.slice {w : World} {base : Nat} {v : Value} {X : List Ix} (h : RowX w base v X) : ∃ a c, v = .slice a X.length c := by
  rcases h.cases with ⟨rfl, rfl⟩ | ⟨g, cp, rfl, hO⟩
  · exact ⟨_, _, rfl⟩
  · exact ⟨_, _, rfl⟩
structure AppX (w w' : World) (base : Nat) (v v' : Value) (X Y : List Ix) : Prop where
  own : RowX w' base v' (X ++ Y)
  grown : w.grownBy w' v.ownBlock
  at_ : v'.ownBlock = v.ownBlock ∨ v'.ownBlock = some w.heap.size
theorem cellsX_append (l m : List Ix) : cellsX (l ++ m) = cellsX l ++ cellsX m := by simp [cellsX]
theorem wpList_append_ixV {ops : Array Oper} {rest : List Oper} {o : Oper} {a : Act} {Q : Exit → Act → World → Prop} (w : World) (hgd : o.guard = none) (s x : Operand)
    (ho : o.op = .call { callee := .builtin .append, args := #[s, x], argTypes := #[27, 27] })
    (base : Nat) (v : Value) (b off m cx : Nat) (fs es : List Ix) (hs : a.eval s = v) (hx : a.eval x = .slice (some ⟨b, off, none⟩) m cx) (hm : m = es.length) (hO : RowX w base v fs)
    (hc : IxsAt w b off es) (hlen : fs.length + es.length ≤ 2 ^ 30) (hbase : base ≤ w.heap.size)
    (h : ∀ v' w', AppX w w' base v v' fs es → wpList Try.prog ops Q rest (a.put o.dst v') w') : wpList Try.prog ops Q (o :: rest) a w := by
  subst hm
  obtain ⟨i, hi, hz0, hz1, hz2⟩ := info_parts Try.infoX
  refine wpList_append_own_at w hgd s x 27 ho base 77 i _ 11 104 Try.underlying27 hi hz0 hz1 hz2 rfl (by decide) v fs.length (cellsX fs) hs hO ⟨b, off, none⟩ es.length cx (cellsX es) hx (length_cellsX es) (ixs_cells hc) (ixs_one es) ?_ ?_ hbase ?_
  · unfold maxLen; omega
  · omega
  · intro v' w' hO' hgr hnil hat
    exact h v' w' ⟨by unfold RowX; rw [List.length_append, cellsX_append]; exact hO', hgr, hat⟩
theorem step_append_ixV {ops : Array Oper} {oo : Oper} {a : Act} {K : Act → World → Prop} {Q : Exit → Act → World → Prop} {E : Prop} (w : World) (hgd : oo.guard = none) (s x : Operand)
    (ho : oo.op = .call { callee := .builtin .append, args := #[s, x], argTypes := #[27, 27] })
    (base : Nat) (v : Value) (b off m cx : Nat) (fs es : List Ix) (hs : a.eval s = v) (hx : a.eval x = .slice (some ⟨b, off, none⟩) m cx) (hm : m = es.length) (hO : RowX w base v fs)
    (hc : IxsAt w b off es) (hlen : fs.length + es.length ≤ 2 ^ 30) (hbase : base ≤ w.heap.size)
    (h : ∀ v' w', AppX w w' base v v' fs es → K (a.put oo.dst v') w') : if Region.wanted oo (yielded ops a.tmps) = true then Oper.wp Try.prog oo a w K Q else E := by
  have hw : Region.wanted oo (yielded ops a.tmps) = true := by simp [Region.wanted, hgd]
  rw [if_pos hw]
  subst hm
  obtain ⟨i, hi, hz0, hz1, hz2⟩ := info_parts Try.infoX
  obtain ⟨v', w', hr, hO', hgr, hnil, hat⟩ := run_append_own_at (P := Try.prog) w base 27 oo.type 77 i _ 11 104 Try.underlying27 hi hz0 hz1 hz2 rfl (by decide) v fs.length (cellsX fs) hO ⟨b, off, none⟩ es.length cx (cellsX es) (length_cellsX es) (ixs_cells hc) (ixs_one es) (by unfold maxLen; omega) (by omega) hbase
  have hfin := h v' w' ⟨by unfold RowX; rw [List.length_append, cellsX_append]; exact hO', hgr, hat⟩
  unfold Oper.wp
  simp [execOp, ho, resolve, invoke, builtin, hs, hx, hr, Result.andThen]
  exact hfin
/-- A row of blocks of the call's own, or nil. -/
def RowB (w : World) (base : Nat) (v : Value) (bs : List Bk) : Prop := w.ownsRow base 29 2 v bs.length (cellsB bs)
theorem RowB.chg {S : Nat → Prop} {w w' : World} {base : Nat} {v : Value} {X : List Bk} (h : RowB w base v X) (hc : Chg S w w') (hn : ∀ k, v.ownBlock = some k → ¬ S k) : RowB w' base v X := own_chg h hc hn
theorem RowB.below {w w' : World} {base : Nat} {v : Value} {X : List Bk} (h : RowB w base v X) (hb : Below w.heap.size w w') : RowB w' base v X := h.chg (S := fun _ => False) (Chg.of_below hb) (fun _ _ q => q)
theorem RowB.low {w : World} {base base' : Nat} {v : Value} {es : List Bk} (h : RowB w base v es) (hb : base' ≤ base) : RowB w base' v es := by
  refine ⟨h.1, ?_⟩
  rcases h.2 with hn | ⟨g', cap', cur, hv, h1, rest⟩
  · exact .inl hn
  · exact .inr ⟨g', cap', cur, hv, Nat.le_trans hb h1, rest⟩
theorem rowB_nil (w : World) (base : Nat) : RowB w base (.slice none 0 0) [] := ⟨rfl, .inl ⟨rfl, rfl⟩⟩
theorem RowB.cases {w : World} {base : Nat} {v : Value} {X : List Bk} (h : RowB w base v X) : (v = .slice none 0 0 ∧ X = []) ∨ ∃ g cp, v = .slice (some ⟨g, 0, none⟩) X.length cp ∧ base ≤ g ∧ g < w.heap.size ∧ X.length ≤ cp ∧ cp ≤ maxLen := by
  have h' := h
  rcases h.2 with ⟨h0, h1⟩ | ⟨g', cap', cur, hv, _, _, hn, hcap, _, _⟩
  · refine .inl ⟨h0, ?_⟩
    have : X.length = 0 := h1
    exact List.length_eq_zero_iff.1 this
  · subst hv
    exact .inr ⟨g', cap', rfl, (World.ownsRow.lt h' g' rfl).1, (World.ownsRow.lt h' g' rfl).2, hn, hcap⟩
theorem RowB.slice {w : World} {base : Nat} {v : Value} {X : List Bk} (h : RowB w base v X) : ∃ a c, v = .slice a X.length c := by
  rcases h.cases with ⟨rfl, rfl⟩ | ⟨g, cp, rfl, hO⟩
  · exact ⟨_, _, rfl⟩
  · exact ⟨_, _, rfl⟩
theorem RowB.blk {w : World} {base : Nat} {v : Value} {X : List Bk} (h : RowB w base v X) {k : Nat} (hk : v.ownBlock = some k) : base ≤ k ∧ k < w.heap.size := by
  rcases h.cases with ⟨rfl, rfl⟩ | ⟨g, cp, rfl, h1, h2, _⟩
  · simp [Value.ownBlock] at hk
  · simp [Value.ownBlock] at hk; subst hk; exact ⟨h1, h2⟩
theorem RowB.cell {w : World} {base g cp : Nat} {bs : List Bk} (h : RowB w base (.slice (some ⟨g, 0, none⟩) bs.length cp) bs) {i : Nat} {x : Bk} (hx : bs[i]? = some x) : w.cell? ⟨g, i * 2, none⟩ = some x.v ∧ w.cell? ⟨g, i * 2 + 1, none⟩ = some (.int .i64 x.cnt) := by
  have hi : i < bs.length := (List.getElem?_eq_some_iff.1 hx).1
  have c := fun j (hj : j < 2) => (World.ownsRow.cellAt h (i * 2 + j) (by omega)).trans (cellsB_get bs i x hx j hj)
  exact ⟨by simpa using c 0 (by omega), by simpa using c 1 (by omega)⟩
structure AppB (w w' : World) (base : Nat) (v v' : Value) (X Y : List Bk) : Prop where
  own : RowB w' base v' (X ++ Y)
  grown : w.grownBy w' v.ownBlock
  at_ : v'.ownBlock = v.ownBlock ∨ v'.ownBlock = some w.heap.size
  nil : v' = .slice none 0 0 ↔ v = .slice none 0 0 ∧ Y.length = 0
theorem cellsB_append (l m : List Bk) : cellsB (l ++ m) = cellsB l ++ cellsB m := by simp [cellsB]
def BCells (w : World) (b off : Nat) (bs : List Bk) : Prop := ∀ i x, bs[i]? = some x → w.cell? ⟨b, off + i * 2, none⟩ = some x.v ∧ w.cell? ⟨b, off + i * 2 + 1, none⟩ = some (.int .i64 x.cnt)
theorem bcells {w : World} {b off : Nat} {ps : List Bk} (h : BCells w b off ps) : ∀ j u, (cellsB ps)[j]? = some u → w.cell? ((⟨b, off, none⟩ : Addr).add j) = some u := by
  intro j u hu
  have hj : j < ps.length * 2 := by rw [← length_cellsB]; exact (List.getElem?_eq_some_iff.1 hu).1
  obtain ⟨e, he⟩ : ∃ e, ps[j / 2]? = some e := ⟨_, List.getElem?_eq_getElem (by omega)⟩
  have hg := cellsB_get ps (j / 2) e he (j % 2) (Nat.mod_lt _ (by omega))
  rw [show j / 2 * 2 + j % 2 = j by omega, hu] at hg
  obtain ⟨c0, c1⟩ := h (j / 2) e he
  rw [Addr.add_mid, show off + j = off + j / 2 * 2 + j % 2 by omega]
  have hm : j % 2 < 2 := Nat.mod_lt _ (by omega)
  generalize j % 2 = m at *
  match m, hm, hg with
  | 0, _, hg => rw [Nat.add_zero, c0, hg]; rfl
  | 1, _, hg => rw [c1, hg]; rfl
theorem one_cellsB {bs : List Bk} (h : ∀ x ∈ bs, x.v.oneCell' = true) : ∀ u ∈ cellsB bs, u.oneCell' = true := by
  intro u hu
  obtain ⟨p, hp, he⟩ := List.mem_flatMap.1 (show u ∈ bs.flatMap Bk.two from hu)
  simp at he
  rcases he with rfl | rfl
  · exact h p hp
  · rfl
theorem wpList_append_bkV {ops : Array Oper} {rest : List Oper} {o : Oper} {a : Act} {Q : Exit → Act → World → Prop} (w : World) (hgd : o.guard = none) (s x : Operand)
    (ho : o.op = .call { callee := .builtin .append, args := #[s, x], argTypes := #[26, 26] })
    (base : Nat) (v : Value) (b off m cx : Nat) (fs es : List Bk) (hs : a.eval s = v) (hx : a.eval x = .slice (some ⟨b, off, none⟩) m cx) (hm : m = es.length) (hO : RowB w base v fs)
    (hc : BCells w b off es) (h1 : ∀ x ∈ es, x.v.oneCell' = true) (hlen : fs.length + es.length ≤ 2 ^ 30) (hbase : base ≤ w.heap.size)
    (h : ∀ v' w', AppB w w' base v v' fs es → wpList Try.prog ops Q rest (a.put o.dst v') w') : wpList Try.prog ops Q (o :: rest) a w := by
  subst hm
  obtain ⟨i, hi, hz0, hz1, hz2⟩ := info_parts Try.infoB
  refine wpList_append_own_at w hgd s x 26 ho base 29 i _ 2 32 Try.underlying26 hi hz0 hz1 hz2 rfl (by decide) v fs.length (cellsB fs) hs hO ⟨b, off, none⟩ es.length cx (cellsB es) hx (length_cellsB es) (bcells hc) (one_cellsB h1) ?_ ?_ hbase ?_
  · unfold maxLen; omega
  · omega
  · intro v' w' hO' hgr hnil hat
    exact h v' w' ⟨by unfold RowB; rw [List.length_append, cellsB_append]; exact hO', hgr, hat, hnil⟩
theorem step_append_bkV {ops : Array Oper} {oo : Oper} {a : Act} {K : Act → World → Prop} {Q : Exit → Act → World → Prop} {E : Prop} (w : World) (hgd : oo.guard = none) (s x : Operand)
    (ho : oo.op = .call { callee := .builtin .append, args := #[s, x], argTypes := #[26, 26] })
    (base : Nat) (v : Value) (b off m cx : Nat) (fs es : List Bk) (hs : a.eval s = v) (hx : a.eval x = .slice (some ⟨b, off, none⟩) m cx) (hm : m = es.length) (hO : RowB w base v fs)
    (hc : BCells w b off es) (h1 : ∀ x ∈ es, x.v.oneCell' = true) (hlen : fs.length + es.length ≤ 2 ^ 30) (hbase : base ≤ w.heap.size)
    (h : ∀ v' w', AppB w w' base v v' fs es → K (a.put oo.dst v') w') : if Region.wanted oo (yielded ops a.tmps) = true then Oper.wp Try.prog oo a w K Q else E := by
  have hw : Region.wanted oo (yielded ops a.tmps) = true := by simp [Region.wanted, hgd]
  rw [if_pos hw]
  subst hm
  obtain ⟨i, hi, hz0, hz1, hz2⟩ := info_parts Try.infoB
  obtain ⟨v', w', hr, hO', hgr, hnil, hat⟩ := run_append_own_at (P := Try.prog) w base 26 oo.type 29 i _ 2 32 Try.underlying26 hi hz0 hz1 hz2 rfl (by decide) v fs.length (cellsB fs) hO ⟨b, off, none⟩ es.length cx (cellsB es) (length_cellsB es) (bcells hc) (one_cellsB h1) (by unfold maxLen; omega) (by omega) hbase
  have hfin := h v' w' ⟨by unfold RowB; rw [List.length_append, cellsB_append]; exact hO', hgr, hat, hnil⟩
  unfold Oper.wp
  simp [execOp, ho, resolve, invoke, builtin, hs, hx, hr, Result.andThen]
  exact hfin
end Go.Proofs.Ytkbmdkgfgfbilaa

/-
  The marks, looked for.
-/
namespace Go.Proofs.Ytkbmdkgfgfbilaa
open Go.ChangeShapes Go.WideShapes Go.ChangeAt Go.RowKit Go.Deep
set_option linter.unusedVariables false

theorem markText_in (W0 : World) (a : Int) (w : World) (hb : Below W0.heap.size W0 w) (h0 : 0 < a) (h1 : a ≤ 2 ^ 40) :
    Calls Try.prog 55 #[.int .i64 a] w fun e w' => e = .returned (.string (mText a.toNat)) ∧ Below W0.heap.size W0 w' := by
  refine (markText_any a w h0 h1).mono ?_
  rintro e w' ⟨he, hb'⟩
  exact ⟨he, hb.trans (hb'.mono hb.size)⟩

end Go.Proofs.Ytkbmdkgfgfbilaa

/-
  Nodes with marks: markNodeS, heldNodeS, markFilter, heldFilter.
-/
namespace Go.Proofs.Ytkbmdkgfgfbilaa
open Go.ChangeShapes Go.WideShapes Go.ChangeAt Go.RowKit Go.Deep
set_option linter.unusedVariables false
set_option linter.unusedSimpArgs false
set_option maxRecDepth 100000

/-- Whether a third mark. -/
def thirdB (k : Int) : Bool := k % 3 == 0
/-- The node that the marks from 'k' on make. -/
def mNd (k : Int) : Nd := ⟨k, mText (k + 1).toNat, thirdB (k + 1 + 1), mText (k + 1 + 1 + 1).toNat, k + 1 + 1 + 1 + 1, k + 1 + 1 + 1 + 1 + 1, k + 1 + 1 + 1 + 1 + 1 + 1⟩
/-- The first 'i' of the nodes are marked, from 'k' on. -/
def markedN (k : Int) (es : List Nd) (i : Nat) : Prop := ∀ j : Nat, j < i → es[j]? = some (mNd (k + j * 7))
theorem OwnNd.upd {w : World} {base g cap m j : Nat} {fs : List Nd} {f f' : Nd} {u : Value} (h : OwnNd w base g cap (fs.set m f)) (hm : m < fs.length) (hj : j < 7) (hc : f'.seven = f.seven.set j u) :
    OwnNd (w.setCell ⟨g, m * 7 + j, none⟩ u) base g cap (fs.set m f') := by
  have := h.set m j f f' u (by simp [hm]) hj hc
  rwa [List.set_set] at this
theorem markedN_set {k : Int} {fs : List Nd} {m : Nat} (h : markedN k fs m) (hm : m < fs.length) : markedN k (fs.set m (mNd (k + m * 7))) (m + 1) := by
  intro j hj
  by_cases e : j = m
  · subst e; simp [hm]
  · rw [List.getElem?_set_ne (by omega)]; exact h j (by omega)
set_option maxHeartbeats 2000000 in
theorem markNodeS_core (base g cap : Nat) (es : List Nd) (k : Int) (w : World) (hO : OwnNd w base g cap es) (h0 : 0 < k) (h1 : k ≤ 2 ^ 30) (hn : es.length ≤ 1048576) :
    Calls Try.prog 28 #[.slice (some ⟨g, 0, none⟩) es.length cap, .int .i64 k] w fun e w' =>
      ∃ fs, e = .returned (.int .i64 (k + es.length * 7)) ∧ OwnNd w' base g cap fs ∧ fs.length = es.length ∧ markedN k fs es.length ∧ w.grownBy w' (some g) := by
  have HO : Hid (OwnNd w base g cap es) := hO
  clear hO
  go_enter Try.func28, Try.ntmps28
  go_wp2
  go_loopw [1, 5] (fun c i wr => ∃ (m : Nat) (a : Int) (fs : List Nd), m ≤ es.length ∧ i = .int .i64 m ∧ c = .int .i64 a ∧ a = k + m * 7 ∧ OwnNd wr base g cap fs ∧ fs.length = es.length ∧ markedN k fs m ∧ w.grownBy wr (some g)) (fun _ i _ => es.length - (intOf i).toNat)
  case atStart => exact ⟨0, k, es, Nat.zero_le _, rfl, rfl, by simp, HO.out, rfl, fun j hj => by omega, grown_of_below (Below.refl _ _) _⟩
  case round =>
    obtain ⟨m, a, fs, hm, rfl, rfl, ha, hO, hfl, hmk, hgr⟩ := hrel
    have HR : Hid (a = k + m * 7 ∧ OwnNd wr base g cap fs ∧ fs.length = es.length ∧ markedN k fs m) := ⟨ha, hO, hfl, hmk⟩
    have ha0 : 0 < a := by omega
    have ha1 : a ≤ 2 ^ 31 := by omega
    have HG : Hid (w.grownBy wr (some g)) := hgr
    clear hO hfl hmk ha hgr
    by_cases hlt : m < es.length
    · obtain ⟨f, hf⟩ : ∃ f, fs[m]? = some f := ⟨_, List.getElem?_eq_getElem (by rw [HR.out.2.2.1]; exact hlt)⟩
      have HF : Hid (fs[m]? = some f ∧ m < fs.length) := ⟨hf, by rw [HR.out.2.2.1]; exact hlt⟩
      clear hf
      have c0 := (HR.out.2.1.at m f HF.out.1).1
      simp only [Nat.zero_add] at c0
      have z0 := fun j => World.ownsRow.frozenAt HR.out.2.1 j
      have H0 : Hid (OwnNd (wr.setCell ⟨g, m * 7, none⟩ (.int .i64 a)) base g cap (fs.set m { f with kind := a }) ∧ w.grownBy (wr.setCell ⟨g, m * 7, none⟩ (.int .i64 a)) (some g)) :=
        ⟨HR.out.2.1.set m 0 f { f with kind := a } (.int .i64 a) HF.out.1 (by omega) rfl, HG.out.trans (grown_set _ _ _ _)⟩
      go_wp2_with fail
      refine (markText_any (a + 1) _ (by omega) (by omega)).mono ?_
      rintro e w1 ⟨rfl, hb1⟩
      have hO1 := H0.out.1.below hb1 H0.out.1.lt.2
      obtain ⟨_, c1, c2, _⟩ := hO1.at m _ (by simp [HF.out.2]; rfl)
      simp only [Nat.zero_add] at c1 c2
      have z1 := fun j => World.ownsRow.frozenAt hO1 j
      have hO2 := (hO1.upd (j := 1) (u := .string (mText (a + 1).toNat)) (f' := { f with kind := a, s := mText (a + 1).toNat }) HF.out.2 (by omega) rfl).upd (j := 2) (u := .bool ((a + 1 + 1) % 3 == 0)) (f' := { f with kind := a, s := mText (a + 1).toNat, hi := ((a + 1 + 1) % 3 == 0) }) HF.out.2 (by omega) rfl
      have H1 : Hid (OwnNd ((w1.setCell ⟨g, m * 7 + 1, none⟩ (.string (mText (a + 1).toNat))).setCell ⟨g, m * 7 + 2, none⟩ (.bool ((a + 1 + 1) % 3 == 0))) base g cap (fs.set m { f with kind := a, s := mText (a + 1).toNat, hi := ((a + 1 + 1) % 3 == 0) }) ∧ w.grownBy ((w1.setCell ⟨g, m * 7 + 1, none⟩ (.string (mText (a + 1).toNat))).setCell ⟨g, m * 7 + 2, none⟩ (.bool ((a + 1 + 1) % 3 == 0))) (some g)) :=
        ⟨hO2, ((H0.out.2.trans (grown_of_below hb1 _)).trans (grown_set _ _ _ _)).trans (grown_set _ _ _ _)⟩
      clear hO1 hO2 hb1 c0 z0
      go_wp2_with fail
      refine (markText_any (a + 1 + 1 + 1) _ (by omega) (by omega)).mono ?_
      rintro e w2 ⟨rfl, hb2⟩
      have hO3 := H1.out.1.below hb2 H1.out.1.lt.2
      obtain ⟨_, _, _, c3, c4, c5, c6⟩ := hO3.at m _ (by simp [HF.out.2]; rfl)
      simp only [Nat.zero_add] at c3 c4 c5 c6
      have z3 := fun j => World.ownsRow.frozenAt hO3 j
      have hO4 := (((hO3.upd (j := 3) (u := .string (mText (a + 1 + 1 + 1).toNat)) (f' := { f with kind := a, s := mText (a + 1).toNat, hi := ((a + 1 + 1) % 3 == 0), t := mText (a + 1 + 1 + 1).toNat }) HF.out.2 (by omega) rfl).upd (j := 4) (u := .int .u64 (a + 1 + 1 + 1 + 1))
        (f' := { f with kind := a, s := mText (a + 1).toNat, hi := ((a + 1 + 1) % 3 == 0), t := mText (a + 1 + 1 + 1).toNat, lo := a + 1 + 1 + 1 + 1 }) HF.out.2 (by omega) rfl).upd (j := 5) (u := .int .u64 (a + 1 + 1 + 1 + 1 + 1))
        (f' := { f with kind := a, s := mText (a + 1).toNat, hi := ((a + 1 + 1) % 3 == 0), t := mText (a + 1 + 1 + 1).toNat, lo := a + 1 + 1 + 1 + 1, up := a + 1 + 1 + 1 + 1 + 1 }) HF.out.2 (by omega) rfl).upd (j := 6) (u := .int .i64 (a + 1 + 1 + 1 + 1 + 1 + 1)) (f' := mNd a) HF.out.2 (by omega) rfl
      have hG4 := ((((H1.out.2.trans (grown_of_below hb2 _)).trans (grown_set w2 g (m * 7 + 3) (.string (mText (a + 1 + 1 + 1).toNat)))).trans (grown_set _ g (m * 7 + 4) (.int .u64 (a + 1 + 1 + 1 + 1)))).trans (grown_set _ g (m * 7 + 5) (.int .u64 (a + 1 + 1 + 1 + 1 + 1)))).trans (grown_set _ g (m * 7 + 6) (.int .i64 (a + 1 + 1 + 1 + 1 + 1 + 1)))
      have H4 : Hid (_ ∧ _) := ⟨hO4, hG4⟩
      have HE : Hid (a = k + m * 7) := HR.out.1
      clear hO3 hO4 hG4 hb2 c1 c2 z1
      go_wp2_with fail
      refine ⟨⟨m + 1, a + 1 + 1 + 1 + 1 + 1 + 1 + 1, fs.set m (mNd a), by omega, by go_num, rfl, ?_, H4.out.1, by rw [List.length_set]; exact HR.out.2.2.1, ?_, H4.out.2⟩, ?_⟩
      · go_light
        have := HE.out
        omega
      · go_light
        have := markedN_set HR.out.2.2.2 HF.out.2
        rw [← HE.out] at this
        exact this
      · go_light
        simp [intOf]; omega
    · go_wp2_with fail
      go_ret
      have e1 : m = es.length := by omega
      refine ⟨fs, ?_, HR.out.2.1, HR.out.2.2.1, ?_, HG.out⟩
      · rw [HR.out.1, e1]; rfl
      · rw [← e1]; exact HR.out.2.2.2
/-- A slice of the call's own, or nil. -/
def OwnUN (w : World) (base : Nat) (u : Value) (R : List Nd) : Prop := (u = .slice none 0 0 ∧ R = []) ∨ ∃ g cp, u = .slice (some ⟨g, 0, none⟩) R.length cp ∧ OwnNd w base g cp R
theorem OwnUN.ins {w : World} {base : Nat} {u : Value} {R : List Nd} (h : OwnUN w base u R) : InNds w u R := by
  rcases h with ⟨rfl, rfl⟩ | ⟨g, cp, rfl, hO⟩
  · exact .inl ⟨_, _, rfl, rfl⟩
  · exact InNds.own hO rfl
theorem OwnUN.row {w : World} {base : Nat} {u : Value} {R : List Nd} (h : OwnUN w base u R) : ∀ g, u.ownBlock = some g → base ≤ g ∧ g < w.heap.size := by
  intro g hg
  rcases h with ⟨rfl, _⟩ | ⟨g', cp, rfl, hO⟩
  · cases hg
  · have : g' = g := Option.some.inj hg
    subst this
    exact hO.lt
theorem OwnUN.keptNe {w w' : World} {base : Nat} {u : Value} {R : List Nd} {row : Option Nat} (h : OwnUN w base u R) (hg : w.grownBy w' row) (hne : ∀ g, u.ownBlock = some g → row ≠ some g) : OwnUN w' base u R := by
  rcases h with h | ⟨g, cp, rfl, hO⟩
  · exact .inl h
  · exact .inr ⟨g, cp, rfl, World.ownsRow.kept hO hg (.inr (fun q => hne g rfl q.symm))⟩
theorem OwnUN.below {w w' : World} {base : Nat} {u : Value} {R : List Nd} (h : OwnUN w base u R) (hb : Below w.heap.size w w') : OwnUN w' base u R := h.keptNe (grown_of_below hb none) (fun g q z => by cases z)
theorem OwnUN.ownCells {w : World} {base : Nat} {u : Value} {R : List Nd} (h : OwnUN w base u R) : u.cells = #[u] := by
  rcases h with ⟨rfl, _⟩ | ⟨g, cp, rfl, _⟩ <;> rfl
set_option maxHeartbeats 400000 in
theorem markNodeS_zero (a : Option Addr) (cap : Nat) (k : Int) (w : World) :
    Calls Try.prog 28 #[.slice a 0 cap, .int .i64 k] w fun e w' => e = .returned (.int .i64 k) ∧ Below w.heap.size w w' := by
  go_enter Try.func28, Try.ntmps28
  go_wp2
  go_loopw [1, 5] (fun c i wr => c = .int .i64 k ∧ i = .int .i64 0 ∧ wr = w) (fun _ i _ => 0)
  case atStart => exact ⟨rfl, rfl, rfl⟩
  case round =>
    obtain ⟨rfl, rfl, rfl⟩ := hrel
    go_wp2_with fail
    go_ret
    exact ⟨rfl, Below.refl _ _⟩
theorem markNodeS_own (base : Nat) (u : Value) (R : List Nd) (k : Int) (w : World) (h : OwnUN w base u R) (h0 : 0 < k) (h1 : k ≤ 2 ^ 30) (hn : R.length ≤ 1048576) :
    Calls Try.prog 28 #[u, .int .i64 k] w fun e w' =>
      ∃ R', e = .returned (.int .i64 (k + R.length * 7)) ∧ OwnUN w' base u R' ∧ R'.length = R.length ∧ markedN k R' R'.length ∧ w.grownBy w' u.ownBlock := by
  rcases h with ⟨rfl, rfl⟩ | ⟨g, cp, rfl, hO⟩
  · refine (markNodeS_zero none 0 k w).mono ?_
    rintro e w' ⟨rfl, hb⟩
    exact ⟨[], by simp, .inl ⟨rfl, rfl⟩, rfl, fun j hj => by simp at hj, grown_of_below hb _⟩
  · refine (markNodeS_core base g cp R k w hO h0 h1 hn).mono ?_
    rintro e w' ⟨fs, rfl, hO', hl, hm, hg⟩
    exact ⟨fs, rfl, .inr ⟨g, cp, by rw [hl], hO'⟩, hl, by rw [hl]; exact hm, hg⟩
set_option maxHeartbeats 400000 in
theorem markFilter_own (base : Nat) (u : Value) (R : List Nd) (k : Int) (w : World) (h : OwnUN w base u R) (h0 : 0 < k) (h1 : k ≤ 2 ^ 30) (hn : R.length ≤ 1048576) :
    Calls Try.prog 10 #[.agg #[u], .int .i64 k] w fun e w' =>
      ∃ R', e = .returned (.int .i64 (k + R.length * 7)) ∧ OwnUN w' base u R' ∧ R'.length = R.length ∧ markedN k R' R'.length ∧ w.grownBy w' u.ownBlock := by
  have hu := h.ownCells
  have hb0 : Below w.heap.size w (w.alloc (Obj.cells #[u] 35)) := (Below.refl _ _).alloc (Nat.le_refl _) _
  have HU : Hid (OwnUN (w.alloc (Obj.cells #[u] 35)) base u R) := h.below hb0
  clear h
  go_enter Try.func10, Try.ntmps10
  go_wp2_with fail
  refine (markNodeS_own base u R k _ HU.out h0 h1 hn).mono ?_
  rintro e w1 ⟨R', rfl, hU', hl, hm, hb1⟩
  have HF : Hid (OwnUN w1 base u R' ∧ R'.length = R.length ∧ markedN k R' R'.length) := ⟨hU', hl, hm⟩
  clear hU' hl hm
  go_wp2_with fail
  go_ret
  exact ⟨R', rfl, HF.out.1, HF.out.2.1, HF.out.2.2, (grown_of_below hb0 _).trans hb1⟩
end Go.Proofs.Ytkbmdkgfgfbilaa

