/-
  spec.EncodeRun.
-/
import Derived.Test.YtlgeffinhbodeacQFileS
import Derived.Test.YtlgeffinhbodeacPkB
import Derived.Test.YtlgeffinhbodeacQVRun3
import Derived.Test.YtlgeffinhbodeacQRmC
namespace Go.Proofs.Ytlgeffinhbodeac
open Go.ChangeShapes Go.WideShapes Go.ChangeAt Go.RowKit Go.Deep
set_option linter.unusedVariables false
set_option linter.unusedSimpArgs false
set_option maxRecDepth 100000

/-- A row of blocks, of the call's own. -/
def OwnK (w : World) (base g cp : Nat) (l : List Rm) : Prop := w.ownsRow base 26 1 (.slice (some ⟨g, 0, none⟩) l.length cp) l.length (l.map Rm.u)
theorem OwnK.lt {w : World} {base g cp : Nat} {l : List Rm} (h : OwnK w base g cp l) : base ≤ g ∧ g < w.heap.size := World.ownsRow.lt h g rfl
theorem OwnK.chg {S : Nat → Prop} {w w' : World} {base g cp : Nat} {l : List Rm} (h : OwnK w base g cp l) (hc : Chg S w w') (hn : ¬ S g) : OwnK w' base g cp l := own_chg h hc (fun k q => by simp [Value.ownBlock] at q; subst q; exact hn)
theorem OwnK.cell {w : World} {base g cp : Nat} {l : List Rm} (h : OwnK w base g cp l) {k : Nat} {r : Rm} (hr : l[k]? = some r) : w.cell? ⟨g, k, none⟩ = some r.u := by
  have hk := (List.getElem?_eq_some_iff.1 hr).1
  rw [World.ownsRow.cellAt h k (by omega), List.getElem?_map, hr]; rfl
theorem rmu_one (l : List Rm) : ∀ u ∈ l.map Rm.u, u.oneCell' = true := by
  intro u hu
  obtain ⟨r, _, rfl⟩ := List.mem_map.1 hu
  rfl
theorem Try.infoEnts : (Try.prog.info? 26).map (fun i => (i.zero, i.size, i.bytes)) = some (some (.slice none 0 0), 1, 24) := by kernel_rfl
theorem wpList_append_blocks {ops : Array Oper} {rest : List Oper} {o : Oper} {a : Act} {Q : Exit → Act → World → Prop} (w : World) (hgd : o.guard = none) (s x : Operand)
    (ho : o.op = .call { callee := .builtin .append, args := #[s, x], argTypes := #[98, 98] })
    (base g cp n b m cx : Nat) (l k : List Rm) (hs : a.eval s = .slice (some ⟨g, 0, none⟩) n cp) (hx : a.eval x = .slice (some ⟨b, 0, none⟩) m cx) (hn : n = l.length) (hm : m = k.length) (hO : OwnK w base g cp l)
    (hc : ∀ i r, k[i]? = some r → w.cell? ⟨b, i, none⟩ = some r.u) (hlen : l.length + k.length ≤ 2 ^ 30) (hbase : base ≤ w.heap.size)
    (h : ∀ g' cp' w', OwnK w' base g' cp' (l ++ k) → w.grownBy w' (some g) → (g' = g ∨ g' = w.heap.size) → wpList Try.prog ops Q rest (a.put o.dst (.slice (some ⟨g', 0, none⟩) (n + m) cp')) w') : wpList Try.prog ops Q (o :: rest) a w := by
  subst hn hm
  obtain ⟨i, hi, hz0, hz1, hz2⟩ := info_parts Try.infoEnts
  refine wpList_append_own_at w hgd s x 98 ho base 26 i _ 1 24 Try.underlying98 hi hz0 hz1 hz2 rfl (by decide) (.slice (some ⟨g, 0, none⟩) l.length cp) l.length (l.map Rm.u) hs hO ⟨b, 0, none⟩ k.length cx (k.map Rm.u) hx (by simp) ?_ (rmu_one k) ?_ ?_ hbase ?_
  · intro j u hu
    rw [List.getElem?_map] at hu
    cases hk : k[j]? with
    | none => rw [hk] at hu; cases hu
    | some r =>
      rw [hk] at hu
      simp at hu
      rw [Addr.add_mid, Nat.zero_add, hc j r hk, ← hu]
  · unfold maxLen; omega
  · omega
  · intro v' w' hO' hgr hnil hat
    rcases hO'.2 with ⟨h0, _⟩ | ⟨g', cap', cur, hv, _, _, hn, hcap, _, _⟩
    · have := (hnil.1 h0).1
      cases this
    · subst hv
      refine h g' cap' w' ?_ hgr ?_
      · unfold OwnK
        rw [List.length_append, List.map_append]
        exact hO'
      · simp [Value.ownBlock] at hat
        exact hat

def lenOf6 : Value → Nat
  | .slice _ m _ => m
  | _ => 0
/-- The loop of the blocks. -/
structure EInv (w0 : World) (p : Nat) (es : List Ent) (b o q : Nat) (vs : List Ent) (g cp : Nat) (l : List Rm) (wr : World) : Prop where
  row : OwnK wr w0.heap.size g cp l
  ats : ∀ r ∈ l, r.at w0
  below : Below w0.heap.size w0 wr
  rest : EntsAt w0 b o vs
  cap : vs.length ≤ q ∧ q ≤ maxLen
  cut : esM l ++ chunks p vs = chunks p es
  len : l.length + vs.length ≤ es.length
theorem EInv.step {w0 W1 wr w1 : World} {p : Nat} {es : List Ent} {b o q : Nat} {vs : List Ent} {g cp g' cp' : Nat} {l : List Rm} (h : EInv w0 p es b o q vs g cp l wr) (hp : 0 < p) (hlt : p < vs.length) (hb : b < w0.heap.size)
    (h1 : Below wr.heap.size wr W1) (hO : OwnK w1 w0.heap.size g' cp' (l ++ [⟨b, o, q, vs.take p⟩])) (hgr : W1.grownBy w1 (some g)) : EInv w0 p es b (o + p * 6) (q - p) (vs.drop p) g' cp' (l ++ [⟨b, o, q, vs.take p⟩]) w1 := by
  have hc := h.cap
  have hg := h.row.lt
  have hs := h.below.size
  have hs1 := h1.size
  refine ⟨hO, ?_, (h.below.trans (h1.mono hs)).grown hgr (by omega) (fun k hk => by cases hk; exact hg.1), ?_, ⟨by simp; omega, by omega⟩, ?_, by have := h.len; simp; omega⟩
  · intro r hr
    rcases List.mem_append.1 hr with hr | hr
    · exact h.ats r hr
    · simp at hr
      subst hr
      refine ⟨?_, hb, by simp; omega, hc.2⟩
      intro i e he
      refine h.rest i e ?_
      by_cases hi : i < p
      · rwa [List.getElem?_take_of_lt hi] at he
      · have := (List.getElem?_eq_some_iff.1 he).1
        simp at this
        omega
  · intro i e he
    rw [List.getElem?_drop] at he
    have := h.rest (p + i) e he
    rw [show o + (p + i) * 6 = o + p * 6 + i * 6 by omega] at this
    exact this
  · rw [← h.cut, chunks_more hlt hp]
    simp [esM]
theorem EInv.last {w0 W1 wr w1 : World} {p : Nat} {es : List Ent} {b o q : Nat} {vs : List Ent} {g cp g' cp' : Nat} {l : List Rm} (h : EInv w0 p es b o q vs g cp l wr) (hlt : ¬ p < vs.length) (h0 : 0 < vs.length) (hb : b < w0.heap.size)
    (h1 : Below wr.heap.size wr W1) (hO : OwnK w1 w0.heap.size g' cp' (l ++ [⟨b, o, q, vs⟩])) (hgr : W1.grownBy w1 (some g)) : (∀ r ∈ l ++ [⟨b, o, q, vs⟩], r.at w0) ∧ esM (l ++ [⟨b, o, q, vs⟩]) = chunks p es ∧ Below w0.heap.size w0 w1 := by
  have hc := h.cap
  have hg := h.row.lt
  have hs := h.below.size
  have hs1 := h1.size
  refine ⟨?_, ?_, (h.below.trans (h1.mono hs)).grown hgr (by omega) (fun k hk => by cases hk; exact hg.1)⟩
  · intro r hr
    rcases List.mem_append.1 hr with hr | hr
    · exact h.ats r hr
    · simp at hr
      subst hr
      exact ⟨h.rest, hb, hc.1, hc.2⟩
  · rw [← h.cut, chunks_last hlt h0]
    simp [esM]

set_option maxHeartbeats 8000000 in
theorem specEnc_core (b off cap : Nat) (es : List Ent) (per : Int) (w : World) (hE : EntsAt w b off es) (hok : ∀ e ∈ es, e.ok) (hB : b < w.heap.size) (hlen : es.length ≤ cap) (hcap : cap ≤ maxLen) :
    Calls Try.prog 22 #[.agg #[.slice (some ⟨b, off, none⟩) es.length cap], .int .i64 per] w fun r w' =>
      ∃ (g cp : Nat) (xs : List UInt8), r = .returned (.slice (some ⟨g, 0, none⟩) xs.length cp) ∧ OwnY w' w.heap.size g cp xs ∧ EncOf es per xs ∧ Below w.heap.size w w' := by
  obtain ⟨W0, hW0⟩ : ∃ W0 : World, W0 = w.alloc (Obj.cells #[.slice (some ⟨b, off, none⟩) es.length cap] 50) := ⟨_, rfl⟩
  have hb0 : Below w.heap.size w W0 := by rw [hW0]; exact (Below.refl _ _).alloc (Nat.le_refl _) _
  have hz0 : W0.heap.size = w.heap.size + 1 := by rw [hW0]; simp
  have HC0 : Hid (W0.cell? ⟨w.heap.size, 0, none⟩ = some (.slice (some ⟨b, off, none⟩) es.length cap)) := by rw [hW0]; show (w.alloc _).cell? _ = _; simp
  have HE : Hid (EntsAt W0 b off es ∧ (∀ e ∈ es, e.ok) ∧ es.length ≤ cap ∧ cap ≤ maxLen) := ⟨hE.below hb0 hB, hok, hlen, hcap⟩
  clear hE hok hlen hcap
  go_enter Try.func22, Try.ntmps22
  go_upto_region 1 with fail
  rw [← hW0]
  clear hW0
  have q := HC0.out
  go_wp2_with fail
  clear q
  refine (specValidRun_core b off cap es W0 HE.out.1 HE.out.2.1 (by omega) HE.out.2.2.1 HE.out.2.2.2).mono ?_
  rintro e w1 ⟨ok, rfl, hgood, hb1⟩
  have s1 := hb1.size
  have k1 : Below w.heap.size w w1 := hb0.trans (hb1.mono (by omega))
  have HG : Hid (ok = true ↔ GoodR es) := hgood
  clear hgood
  by_cases hgd : ok = true ∧ 1 ≤ per ∧ per ≤ 1000
  case neg =>
    have HN : Hid (¬ (GoodR es ∧ 1 ≤ per ∧ per ≤ 1000)) := fun q => hgd ⟨HG.out.2 q.1, q.2⟩
    cases ok
    · go_wp2_with fail
      go_ret
      exact ⟨w1.heap.size, 0, [], rfl, (ownY_new w1 (Nat.le_refl _)).mono (by omega), ⟨fun q => absurd q HN.out, fun _ => rfl⟩, k1.alloc (by omega) _⟩
    · by_cases hp1 : per < 1
      · go_wp2_with fail
        go_ret
        exact ⟨w1.heap.size, 0, [], rfl, (ownY_new w1 (Nat.le_refl _)).mono (by omega), ⟨fun q => absurd q HN.out, fun _ => rfl⟩, k1.alloc (by omega) _⟩
      · have hp2 : 1000 < per := Int.not_le.1 (fun h => hgd ⟨rfl, by omega, h⟩)
        go_wp2_with fail
        go_ret
        exact ⟨w1.heap.size, 0, [], rfl, (ownY_new w1 (Nat.le_refl _)).mono (by omega), ⟨fun q => absurd q HN.out, fun _ => rfl⟩, k1.alloc (by omega) _⟩
  case pos =>
    obtain ⟨rfl, hp1, hp2⟩ := hgd
    have hG : GoodR es := HG.out.1 rfl
    have HGR : Hid (GoodR es) := hG
    have hesl : es.length ≤ 10000 := hG.1.1
    have n1 : ¬ per < 1 := by omega
    have n2 : ¬ 1000 < per := by omega
    clear hG HG
    obtain ⟨p, hp⟩ : ∃ p : Nat, per = (p : Int) := ⟨per.toNat, by omega⟩
    subst hp
    obtain ⟨W2, hW2⟩ : ∃ W2 : World, W2 = w1.alloc (Obj.cells #[] 26) := ⟨_, rfl⟩
    have hb2 : Below w1.heap.size w1 W2 := by rw [hW2]; exact (Below.refl _ _).alloc (Nat.le_refl _) _
    have hz2 : W2.heap.size = w1.heap.size + 1 := by rw [hW2]; simp
    have HI2 : Hid (EInv w1 p es b off cap es w1.heap.size 0 [] W2) := by
      refine ⟨?_, fun r hr => by simp at hr, hb2, HE.out.1.below hb1 (by omega), ⟨HE.out.2.2.1, HE.out.2.2.2⟩, rfl, by simp⟩
      rw [hW2]
      exact World.ownsRow_made w1 #[] 0 (Nat.le_refl _) (Nat.zero_le _) (by simp)
    have q1 : W2.cell? ⟨w.heap.size, 0, none⟩ = some (.slice (some ⟨b, off, none⟩) es.length cap) := by
      rw [hb2.cell (p := ⟨w.heap.size, 0, none⟩) (by show w.heap.size < w1.heap.size; omega), hb1.cell (p := ⟨w.heap.size, 0, none⟩) (by show w.heap.size < W0.heap.size; omega)]; exact HC0.out
    have HC2 : Hid (W2.cell? ⟨w.heap.size, 0, none⟩ = some (.slice (some ⟨b, off, none⟩) es.length cap)) := q1
    clear q1
    go_upto_region 4 with fail
    rw [← hW2]
    clear hW2
    have q1 := HC2.out
    go_upto_region 5 with fail
    clear q1
    go_loopw [5, 6] (fun x s wr => ∃ (o m q g cp : Nat) (vs : List Ent) (l : List Rm), x = .slice (some ⟨g, 0, none⟩) l.length cp ∧ s = .slice (some ⟨b, o, none⟩) m q ∧ m = vs.length ∧ EInv w1 p es b o q vs g cp l wr) (fun _ s _ => lenOf6 s)
    case atStart => exact ⟨off, _, cap, _, 0, es, [], rfl, rfl, rfl, HI2.out⟩
    case round =>
      obtain ⟨o, m, q, g, cp, vs, l, rfl, rfl, hm, hI⟩ := hrel
      have HI : Hid (EInv w1 p es b o q vs g cp l wr ∧ m = vs.length) := ⟨hI, hm⟩
      have hq : m ≤ q ∧ q ≤ maxLen := by rw [hm]; exact hI.cap
      have hll : l.length + m ≤ 10000 := by have := hI.len; omega
      have HQ : Hid (m ≤ q ∧ q ≤ maxLen) := hq
      have sr := hI.below.size
      clear hI hm hq
      by_cases hlt : p < m
      · have z1 : (p : Int) < (m : Int) := by omega
        have z2 : p ≤ q := by have := HQ.out; omega
        have z3 : ¬ p = q := by have := HQ.out; omega
        have z4 : p ≤ m := by omega
        obtain ⟨W3, hW3⟩ : ∃ W3 : World, W3 = wr.alloc (Obj.cells #[.slice (some ⟨b, o, none⟩) p q] 26) := ⟨_, rfl⟩
        have hb3 : Below wr.heap.size wr W3 := by rw [hW3]; exact (Below.refl _ _).alloc (Nat.le_refl _) _
        have hz3 : W3.heap.size = wr.heap.size + 1 := by rw [hW3]; simp
        have htk : (vs.take p).length = p := by rw [List.length_take, ← HI.out.2]; omega
        have HO3 : Hid (OwnK W3 w1.heap.size g cp l ∧ W3.cell? ⟨wr.heap.size, 0, none⟩ = some (.slice (some ⟨b, o, none⟩) p q)) := ⟨HI.out.1.row.chg (Chg.of_below hb3) (S := fun _ => False) (fun q => q), by rw [hW3]; simp⟩
        go_wp2_with (at_builtin; rw [← hW3]; refine wpList_append_blocks _ rfl _ _ rfl w1.heap.size g cp l.length wr.heap.size 1 1 l [⟨b, o, q, vs.take p⟩] rfl rfl rfl rfl ?hO ?hc ?hl ?hb ?_)
        case hO => exact HO3.out.1
        case hc =>
          intro i r hr
          cases i with
          | zero =>
            simp at hr
            subst hr
            show W3.cell? ⟨wr.heap.size, 0, none⟩ = some (.slice (some ⟨b, o, none⟩) (vs.take p).length q)
            rw [htk]; exact HO3.out.2
          | succ i => simp at hr
        case hl => simp; omega
        case hb => omega
        intro g' cp' w4 hO4 hgr4 hat4
        rw [← hW3] at hgr4
        have HI4 : Hid (EInv w1 p es b (o + p * 6) (q - p) (vs.drop p) g' cp' (l ++ [⟨b, o, q, vs.take p⟩]) w4 ∧ m - p = (vs.drop p).length) := ⟨HI.out.1.step (by omega) (by rw [← HI.out.2]; exact hlt) (by omega) hb3 hO4 hgr4, by rw [List.length_drop, ← HI.out.2]⟩
        clear hO4 hgr4 hat4 hW3 HO3 hb3 hz3 htk
        go_wp2_with fail
        exact ⟨⟨o + p * 6, m - p, q - p, g', cp', vs.drop p, l ++ [⟨b, o, q, vs.take p⟩], by simp, by trivial, HI4.out.2, HI4.out.1⟩, by simp [lenOf6]; omega⟩
      · have z1 : ¬ (p : Int) < (m : Int) := by omega
        have HFin : Hid ((∀ c ∈ chunks p es, OkB c) ∧ (chunks p es).flatten.length ≤ 10000) := ⟨chunks_ok HGR.out.1.2 HE.out.2.1, by rw [chunks_flatten p _ es (Nat.le_refl _)]; exact hesl⟩
        go_upto_region 8 with fail
        go_upto_if 37 with fail
        go_cut [5] (fun s wx => ∃ (g cp : Nat) (l : List Rm), s = .slice (some ⟨g, 0, none⟩) l.length cp ∧ RmsAt wx g 0 l ∧ esM l = chunks p es ∧ Below w1.heap.size w1 wx ∧ g < wx.heap.size)
        case first =>
          by_cases h0 : m = 0
          · have z0 : ¬ (0 : Int) < (m : Int) := by omega
            have HR : Hid (RmsAt wr g 0 l ∧ esM l = chunks p es ∧ Below w1.heap.size w1 wr ∧ g < wr.heap.size) := by
              refine ⟨?_, ?_, HI.out.1.below, HI.out.1.row.lt.2⟩
              · intro i r hr
                rw [Nat.zero_add]
                exact ⟨HI.out.1.row.cell hr, (HI.out.1.ats r (List.mem_of_getElem? hr)).chg (Chg.of_below HI.out.1.below) (S := fun _ => False) (fun q => q)⟩
              · have := HI.out.1.cut
                rw [List.length_eq_zero_iff.1 (show vs.length = 0 by rw [← HI.out.2]; exact h0), chunks_nil, List.append_nil] at this
                exact this
            clear h0
            go_wp2_with fail
            go_meet
            exact ⟨g, cp, l, rfl, HR.out⟩
          · have z0 : (0 : Int) < (m : Int) := by omega
            obtain ⟨W3, hW3⟩ : ∃ W3 : World, W3 = wr.alloc (Obj.cells #[.slice (some ⟨b, o, none⟩) m q] 26) := ⟨_, rfl⟩
            have hb3 : Below wr.heap.size wr W3 := by rw [hW3]; exact (Below.refl _ _).alloc (Nat.le_refl _) _
            have hz3 : W3.heap.size = wr.heap.size + 1 := by rw [hW3]; simp
            have HO3 : Hid (OwnK W3 w1.heap.size g cp l ∧ W3.cell? ⟨wr.heap.size, 0, none⟩ = some (.slice (some ⟨b, o, none⟩) m q)) := ⟨HI.out.1.row.chg (Chg.of_below hb3) (S := fun _ => False) (fun q => q), by rw [hW3]; simp⟩
            go_wp2_with (at_builtin; rw [← hW3]; refine wpList_append_blocks _ rfl _ _ rfl w1.heap.size g cp l.length wr.heap.size 1 1 l [⟨b, o, q, vs⟩] rfl rfl rfl rfl ?hO ?hc ?hl ?hb ?_)
            case hO => first | exact HO3.out.1 | (rw [← hW3]; exact HO3.out.1)
            case hc =>
              try rw [← hW3]
              intro i r hr
              cases i with
              | zero =>
                simp at hr
                subst hr
                first
                  | (show W3.cell? ⟨wr.heap.size, 0, none⟩ = some (.slice (some ⟨b, o, none⟩) vs.length q); rw [← HI.out.2]; exact HO3.out.2)
                  | (show some (Value.slice (some ⟨b, o, none⟩) m q) = some (Value.slice (some ⟨b, o, none⟩) vs.length q); rw [← HI.out.2])
              | succ i => simp at hr
            case hl => first | omega | (simp; omega)
            case hb => first | omega | (rw [← hW3]; omega)
            intro g' cp' w4 hO4 hgr4 hat4
            try rw [← hW3] at hgr4
            obtain ⟨l1, l2, l3⟩ := HI.out.1.last (by rw [← HI.out.2]; exact hlt) (by rw [← HI.out.2]; omega) (by omega) hb3 hO4 hgr4
            obtain ⟨l', hl'⟩ : ∃ l' : List Rm, l' = l ++ [⟨b, o, q, vs⟩] := ⟨_, rfl⟩
            have hln : l.length + 1 = l'.length := by rw [hl', List.length_append]; rfl
            rw [← hl'] at l1 l2 hO4
            have HR : Hid (RmsAt w4 g' 0 l' ∧ esM l' = chunks p es ∧ Below w1.heap.size w1 w4 ∧ g' < w4.heap.size) := by
              refine ⟨?_, l2, l3, hO4.lt.2⟩
              intro i r hr
              rw [Nat.zero_add]
              exact ⟨hO4.cell hr, (l1 r (List.mem_of_getElem? hr)).chg (Chg.of_below l3) (S := fun _ => False) (fun q => q)⟩
            rw [hln]
            clear hO4 hgr4 hat4 hW3 HO3 hb3 hz3 l1 l2 l3 hl' hln h0
            go_wp2_with fail
            go_meet
            exact ⟨g', cp', l', rfl, HR.out⟩
        case rest =>
        obtain ⟨gk, ck, lk, rfl, r1, r2, r3, r4⟩ := hcut
        have HRk : Hid (RmsAt wc gk 0 lk ∧ esM lk = chunks p es) := ⟨r1, r2⟩
        clear r1 r2
        go_wp2_with fail
        refine (l2File_core gk 0 ck lk wc HRk.out.1 (by rw [HRk.out.2]; exact HFin.out.1) r4 (by rw [HRk.out.2]; exact HFin.out.2)).mono ?_
        rintro e w5 ⟨g5, c5, rfl, hO5, hb5⟩
        rw [HRk.out.2] at hO5 ⊢
        have sc := r3.size
        go_wp2_with fail
        go_ret
        refine ⟨g5, c5, _, rfl, hO5.mono (by omega), ⟨fun _ => rfl, fun q => absurd ⟨HGR.out, hp1, hp2⟩ q⟩, ?_⟩
        exact (k1.trans (r3.mono (by omega))).trans (hb5.mono (by omega))
end Go.Proofs.Ytlgeffinhbodeac
