import Derived.Deep.QuietTactic
import Derived.BigQuiet
import Derived.Maps.RangeWalk
import Derived.Maps.OwnSet
import Derived.Maps.OwnOps
import Derived.DeepKeys4
import Derived.Test.YtnncedndlhfdkabPkAA
/-
  Runs that are valid: the loops of spec.ValidRun, impl.validWrites, impl.ValidRun.
-/
namespace Go.Proofs.Ytnncedndlhfdkab
open Go.ChangeShapes Go.WideShapes Go.ChangeAt Go.RowKit Go.Deep
set_option linter.unusedVariables false

/-- All of them are valid, and not too many. -/
def GoodW (es : List Ent) : Prop := es.length ≤ 10000 ∧ ∀ e ∈ es, e.vld = true
/-- Each may stand right before the next. -/
def Pairs (es : List Ent) : Prop := ∀ i p e, es[i]? = some p → es[i + 1]? = some e → okPair p e = true
def GoodR (es : List Ent) : Prop := GoodW es ∧ Pairs es

theorem iffF {p : Prop} (h : ¬ p) : (false = true ↔ p) := ⟨fun x => Bool.noConfusion x, fun x => absurd x h⟩
theorem iffT {p : Prop} (h : p) : (true = true ↔ p) := ⟨fun _ => h, fun _ => rfl⟩
theorem vld_of_take {es : List Ent} {k : Nat} {e : Ent} (h : ∀ x ∈ es.take k, x.vld = true) (he : es[k]? = some e) (hv : e.vld = true) : ∀ x ∈ es.take (k + 1), x.vld = true := by
  intro x hx
  rw [List.take_add_one, he] at hx
  simp at hx
  rcases hx with hx | rfl
  · exact h x hx
  · exact hv

set_option maxHeartbeats 400000 in
theorem validWrites_core (b off cap : Nat) (es : List Ent) (w : World) (hE : EntsAt w b off es) (hok : ∀ e ∈ es, e.ok) (hB : b < w.heap.size) (hlen : es.length ≤ cap) (hcap : cap ≤ maxLen) :
    Calls Try.prog 38 #[.slice (some ⟨b, off, none⟩) es.length cap] w fun e w' =>
      ∃ r : Bool, e = .returned (.bool r) ∧ (r = true ↔ GoodW es) ∧ Below w.heap.size w w' := by
  have HE : Hid (EntsAt w b off es) := hE
  have HO : Hid (∀ e ∈ es, e.ok) := hok
  clear hE hok
  unfold maxLen at hcap
  by_cases hbig : 10000 < es.length
  · have H : Hid (¬ GoodW es) := fun h => by have := h.1; omega
    go_enter Try.func38, Try.ntmps38
    go_wp2
    go_ret
    exact ⟨_, rfl, iffF H.out, Below.refl _ _⟩
  go_enter Try.func38, Try.ntmps38
  go_wp2
  go_loopw [10] (fun i wr => ∃ (k : Nat), k ≤ es.length ∧ i = .int .i64 k ∧ (∀ x ∈ es.take k, x.vld = true) ∧ Below w.heap.size w wr) (fun i _ => es.length - (intOf i).toNat)
  case atStart => exact ⟨0, Nat.zero_le _, rfl, by simp, Below.refl _ _⟩
  case round =>
    obtain ⟨k, hk, rfl, hv, hb⟩ := hrel
    have HV : Hid (∀ x ∈ es.take k, x.vld = true) := hv
    clear hv
    by_cases hlt : k < es.length
    · obtain ⟨e, he⟩ : ∃ e, es[k]? = some e := ⟨_, List.getElem?_eq_getElem hlt⟩
      obtain ⟨c0, c1, c2, c3, c4, c5⟩ := (HE.out.below hb hB) k e he
      have HK : Hid (e.ok ∧ es[k]? = some e) := ⟨HO.out e (List.mem_of_getElem? he), he⟩
      clear he
      go_wp2_with fail
      refine (implValid_core e.row e.fam e.qual e.val e.ts e.kind _ HK.out.1.row HK.out.1.fam HK.out.1.qual HK.out.1.val).mono ?_
      rintro e' w1 ⟨rfl, hb1⟩
      have hb2 := (hb.alloc hb.size (Obj.cells #[.string e.row, .string e.fam, .string e.qual, .int .u64 e.ts, .int .i64 e.kind, .string e.val] 62)).trans (hb1.mono (by have := hb.size; simp; omega))
      clear c0 c1 c2 c3 c4 c5 hb1
      cases hv : vE e.row e.fam e.qual e.kind e.val
      · have H : Hid (¬ GoodW es) := fun h => by
          have := h.2 e (List.mem_of_getElem? HK.out.2)
          unfold Ent.vld at this
          rw [hv] at this
          cases this
        go_wp2_with fail
        go_ret
        exact ⟨_, rfl, iffF H.out, hb2⟩
      · have H : Hid (∀ x ∈ es.take (k + 1), x.vld = true) := vld_of_take HV.out HK.out.2 hv
        go_wp2_with fail
        go_roundw
        case rel => exact ⟨k + 1, by omega, by go_num, H.out, hb2⟩
        case measure => simp [intOf]; omega
    · go_wp2
      go_ret
      refine ⟨_, rfl, ⟨fun _ => ⟨by omega, fun e he => ?_⟩, fun _ => rfl⟩, hb⟩
      have := HV.out
      rw [List.take_of_length_le (by omega)] at this
      exact this e he

theorem pairs_short {es : List Ent} (h : es.length ≤ 1) : Pairs es := by
  intro i p e h1 h2
  have := (List.getElem?_eq_some_iff.1 h2).1
  omega

/-- The pairs below place 'k'. -/
def PairsTo (es : List Ent) (k : Nat) : Prop := ∀ i p e, i + 1 < k → es[i]? = some p → es[i + 1]? = some e → okPair p e = true
theorem pairsTo_succ {es : List Ent} {m : Nat} {p e : Ent} (h : PairsTo es (m + 1)) (hp : es[m]? = some p) (he : es[m + 1]? = some e) (ho : okPair p e = true) : PairsTo es (m + 1 + 1) := by
  intro i p' e' hi h1 h2
  by_cases hm : i = m
  · subst hm
    rw [hp] at h1; rw [he] at h2
    simp at h1 h2
    subst h1 h2
    exact ho
  · exact h i p' e' (by omega) h1 h2
theorem pairs_of_to {es : List Ent} {k : Nat} (h : PairsTo es k) (hk : es.length ≤ k) : Pairs es := by
  intro i p e h1 h2
  have := (List.getElem?_eq_some_iff.1 h2).1
  exact h i p e (by omega) h1 h2

set_option maxHeartbeats 1000000 in
theorem implValidRun_core (b off cap : Nat) (es : List Ent) (w : World) (hE : EntsAt w b off es) (hok : ∀ e ∈ es, e.ok) (hB : b < w.heap.size) (hlen : es.length ≤ cap) (hcap : cap ≤ maxLen) :
    Calls Try.prog 11 #[.agg #[.slice (some ⟨b, off, none⟩) es.length cap]] w fun e w' =>
      ∃ r : Bool, e = .returned (.bool r) ∧ (r = true ↔ GoodR es) ∧ Below w.heap.size w w' := by
  obtain ⟨W0, hW0⟩ : ∃ W0 : World, W0 = w.alloc (Obj.cells #[.slice (some ⟨b, off, none⟩) es.length cap] 29) := ⟨_, rfl⟩
  have hb0 : Below w.heap.size w W0 := by rw [hW0]; exact (Below.refl _ _).alloc (Nat.le_refl _) _
  have hz0 : w.heap.size < W0.heap.size := by rw [hW0]; simp
  have ca : W0.cell? ⟨w.heap.size, 0, none⟩ = some (.slice (some ⟨b, off, none⟩) es.length cap) := by rw [hW0]; simp
  have HE : Hid (EntsAt W0 b off es) := hE.below hb0 hB
  have HO : Hid (∀ e ∈ es, e.ok) := hok
  have HC : Hid (cap ≤ maxLen) := hcap
  clear hE hok
  unfold maxLen at hcap
  go_enter Try.func11, Try.ntmps11
  go_wp2_with fail
  rw [← hW0]
  refine (validWrites_core b off cap es _ HE.out HO.out (by omega) hlen HC.out).mono ?_
  rintro e w1 ⟨r, rfl, hr, hb1⟩
  have HR : Hid (r = true ↔ GoodW es) := hr
  clear hr hW0
  have k1 := hb0.trans (hb1.mono (by omega))
  have ca1 : w1.cell? ⟨w.heap.size, 0, none⟩ = some (.slice (some ⟨b, off, none⟩) es.length cap) := by rw [hb1.cell (p := ⟨w.heap.size, 0, none⟩) hz0]; exact ca
  cases r
  · go_wp2_with fail
    go_ret
    exact ⟨_, rfl, iffF (fun h => Bool.noConfusion (HR.out.2 h.1)), k1⟩
  have HR1 : Hid (GoodW es) := HR.out.1 rfl
  clear HR
  go_wp2_with fail
  go_loopw [3] (fun i wr => ∃ (k : Nat), 1 ≤ k ∧ i = .int .i64 k ∧ PairsTo es k ∧ Below w1.heap.size w1 wr) (fun i _ => es.length - (intOf i).toNat)
  case atStart => exact ⟨1, Nat.le_refl _, rfl, fun i p e hi => by omega, Below.refl _ _⟩
  case round =>
    obtain ⟨k, hk, rfl, hP, hb⟩ := hrel
    have HP : Hid (PairsTo es k) := hP
    clear hP
    have hs1 := hb1.size
    have hs2 := hb.size
    have car : wr.cell? ⟨w.heap.size, 0, none⟩ = some (.slice (some ⟨b, off, none⟩) es.length cap) := by rw [hb.cell (p := ⟨w.heap.size, 0, none⟩) (by show w.heap.size < _; omega)]; exact ca1
    obtain ⟨m, rfl⟩ : ∃ m, k = m + 1 := ⟨k - 1, by omega⟩
    by_cases hlt : m + 1 < es.length
    · obtain ⟨p, hp⟩ : ∃ e, es[m]? = some e := ⟨_, List.getElem?_eq_getElem (by omega)⟩
      obtain ⟨e, he⟩ : ∃ e, es[m + 1]? = some e := ⟨_, List.getElem?_eq_getElem hlt⟩
      have HEr := (HE.out.below hb1 (by omega)).below hb (by omega)
      obtain ⟨c0, c1, c2, c3, c4, c5⟩ := HEr m p hp
      obtain ⟨d0, d1, d2, d3, d4, d5⟩ := HEr (m + 1) e he
      have HK : Hid (es[m]? = some p ∧ es[m + 1]? = some e) := ⟨hp, he⟩
      clear hp he HEr
      go_upto_region 6 with fail
      go_cut [27] (fun s wx => s = .bool (!okPair p e) ∧ Below w1.heap.size w1 wx)
      case first =>
        have hw : IntKind.i64.wrap (m : Int) = (m : Int) := Go.IntWalk.i64_in _ (by omega)
        have z1 : (0 : Int) ≤ (m : Int) := by omega
        have z2 : (m : Int) < (es.length : Int) := by omega
        have z3 : (m : Int) + 1 < (es.length : Int) := by omega
        go_region_with (go_at_call 39; refine (mayPrecede_any p e _).mono ?_; rintro e' w' ⟨rfl, hbb⟩)
        all_goals go_wp2_with fail
        all_goals go_meet
        all_goals exact ⟨rfl, hb.drew.trans (hbb.mono (by simp; omega))⟩
      case rest =>
      obtain ⟨rfl, h3⟩ := hcut
      clear c0 c1 c2 c3 c4 c5 d0 d1 d2 d3 d4 d5
      cases ho : okPair p e
      · have H : Hid (¬ GoodR es) := fun h => by
          have := h.2 m p e HK.out.1 HK.out.2
          rw [ho] at this; cases this
        go_wp2_with fail
        go_ret
        exact ⟨_, rfl, iffF H.out, k1.trans (h3.mono (by omega))⟩
      · have H : Hid (PairsTo es (m + 1 + 1)) := pairsTo_succ HP.out HK.out.1 HK.out.2 ho
        go_wp2_with fail
        go_roundw
        case rel => exact ⟨m + 1 + 1, by omega, by go_num, H.out, h3⟩
        case measure => simp [intOf]; omega
    · go_wp2_with fail
      go_ret
      exact ⟨_, rfl, iffT ⟨HR1.out, pairs_of_to HP.out (by omega)⟩, k1.trans (hb.mono (by omega))⟩
end Go.Proofs.Ytnncedndlhfdkab

/-
  spec.l1Into: an entry laid into an ordered list.
-/
namespace Go.Proofs.Ytnncedndlhfdkab
open Go.ChangeShapes Go.WideShapes Go.ChangeAt Go.RowKit Go.Deep
set_option linter.unusedVariables false

/-- One entry appended to a row of the call's own. -/
theorem wpList_append_ent {ops : Array Oper} {rest : List Oper} {o : Oper} {a : Act} {Q : Exit → Act → World → Prop} (w : World) (hgd : o.guard = none) (s x : Operand)
    (ho : o.op = .call { callee := .builtin .append, args := #[s, x], argTypes := #[27, 27] })
    (base g cp n blk : Nat) (fs : List Ent) (e : Ent) (hs : a.eval s = .slice (some ⟨g, 0, none⟩) n cp) (hx : a.eval x = .slice (some ⟨blk, 0, none⟩) 1 1) (hn : n = fs.length) (hO : OwnE w base g cp fs)
    (hc : EntsAt w blk 0 [e]) (hlen : fs.length ≤ 2 ^ 30) (hbase : base ≤ w.heap.size)
    (h : ∀ g' cp' w', OwnE w' base g' cp' (fs ++ [e]) → w.grownBy w' (some g) → wpList Try.prog ops Q rest (a.put o.dst (.slice (some ⟨g', 0, none⟩) (n + 1) cp')) w') : wpList Try.prog ops Q (o :: rest) a w := by
  obtain ⟨i, hi, hz0, hz1, hz2⟩ := info_parts Try.infoEnt
  subst hn
  obtain ⟨c0, c1, c2, c3, c4, c5⟩ := hc 0 e rfl
  refine wpList_append_own w hgd s x 27 ho base 62 i _ 6 80 Try.underlying27 hi hz0 hz1 hz2 rfl (by decide) (.slice (some ⟨g, 0, none⟩) fs.length cp) fs.length (cellsE fs) hs hO ⟨blk, 0, none⟩ 1 1 (cellsE [e]) hx rfl ?_ ?_ ?_ ?_ hbase ?_
  · intro j u hu
    have hj : j < 6 := by
      have := (List.getElem?_eq_some_iff.1 hu).1
      rw [length_cellsE] at this
      simpa using this
    rw [Addr.add_mid, Nat.zero_add]
    simp only [Nat.zero_mul, Nat.zero_add] at c0 c1 c2 c3 c4 c5
    match j, hj, hu with
    | 0, _, hu => simp [cellsE] at hu; rw [← hu]; exact c0
    | 1, _, hu => simp [cellsE] at hu; rw [← hu]; exact c1
    | 2, _, hu => simp [cellsE] at hu; rw [← hu]; exact c2
    | 3, _, hu => simp [cellsE] at hu; rw [← hu]; exact c3
    | 4, _, hu => simp [cellsE] at hu; rw [← hu]; exact c4
    | 5, _, hu => simp [cellsE] at hu; rw [← hu]; exact c5
  · intro u hu
    simp [cellsE] at hu
    rcases hu with rfl | rfl | rfl | rfl | rfl | rfl <;> rfl
  · unfold maxLen; omega
  · omega
  · intro v' w' hown hgr hnil
    rw [← cellsE_append] at hown
    have hlen' : (fs ++ [e]).length = fs.length + 1 := by simp
    rcases hown.2 with ⟨hv, _⟩ | ⟨g', cap', cur, hv, h1, h2, h3⟩
    · have := (hnil.1 hv).1
      simp at this
    · subst hv
      exact h g' cap' w' (by unfold OwnE; rw [hlen']; exact hown) hgr

/-- An entry laid into an ordered list, in the place of one with the same key. -/
def intoG (e : Ent) : List Ent → Bool → List Ent
  | [], done => if done then [] else [e]
  | x :: r, done =>
    if keyCmp x e = -1 then x :: intoG e r done
    else if keyCmp x e = 0 then (if done then intoG e r true else e :: intoG e r true)
    else (if done then x :: intoG e r true else e :: x :: intoG e r true)
def into (L : List Ent) (e : Ent) : List Ent := intoG e L false

theorem length_intoG (e : Ent) : ∀ (L : List Ent) (d : Bool), (intoG e L d).length ≤ L.length + 1
  | [], d => by unfold intoG; split <;> simp
  | x :: r, d => by
    have h1 := length_intoG e r d
    have h2 := length_intoG e r true
    have h3 : ∀ (L : List Ent), (intoG e L true).length ≤ L.length := by
      intro L
      induction L with
      | nil => simp [intoG]
      | cons y s ih =>
        unfold intoG
        split
        · simp; omega
        · split
          · simp; omega
          · simp; omega
    have h4 := h3 r
    unfold intoG
    split
    · simp; omega
    · split
      · split <;> simp <;> omega
      · split <;> simp <;> omega

set_option maxHeartbeats 2000000 in
theorem into_core (b off cap : Nat) (L : List Ent) (e : Ent) (w : World) (hE : EntsAt w b off L) (hB : b < w.heap.size) (hlen : L.length ≤ 1048576) :
    Calls Try.prog 50 #[.slice (some ⟨b, off, none⟩) L.length cap, e.v] w fun r w' =>
      ∃ g cp, r = .returned (.slice (some ⟨g, 0, none⟩) (into L e).length cp) ∧ OwnE w' w.heap.size g cp (into L e) ∧ Below w.heap.size w w' := by
  unfold Ent.v
  obtain ⟨W0, hW0⟩ : ∃ W0 : World, W0 = w.alloc (Obj.cells #[.string e.row, .string e.fam, .string e.qual, .int .u64 e.ts, .int .i64 e.kind, .string e.val] 62) := ⟨_, rfl⟩
  have hb0 : Below w.heap.size w W0 := by rw [hW0]; exact (Below.refl _ _).alloc (Nat.le_refl _) _
  have hz0 : W0.heap.size = w.heap.size + 1 := by rw [hW0]; simp
  have HX : Hid (EntsAt W0 w.heap.size 0 [e]) := by
    show EntsAt W0 w.heap.size 0 [e]
    intro j f hf
    obtain rfl : j = 0 := by
      have := (List.getElem?_eq_some_iff.1 hf).1
      simpa using this
    simp at hf
    subst hf
    rw [hW0]
    simp
  have HE : Hid (EntsAt W0 b off L) := hE.below hb0 hB
  have HS : Hid (OwnE (W0.alloc (Obj.cells #[] 62)) (w.heap.size + 1) (w.heap.size + 1) 0 []) := by
    show OwnE (W0.alloc (Obj.cells #[] 62)) (w.heap.size + 1) (w.heap.size + 1) 0 []
    rw [← hz0]
    exact World.ownsRow_made W0 #[] 0 (Nat.le_refl _) (Nat.zero_le _) (by simp)
  clear hE
  have HZ : Hid (W0.heap.size = w.heap.size + 1) := hz0
  have hz1 : w.heap.size < W0.heap.size := by omega
  have hz2 : W0.heap.size ≤ w.heap.size + 1 := by omega
  clear hz0
  go_enter Try.func50, Try.ntmps50
  go_wp2_with fail
  rw [← hW0]
  clear hW0
  go_loopw [5, 6, 7] (fun o d i wr => ∃ (k g cp : Nat) (fs : List Ent) (dn : Bool), k ≤ L.length ∧ i = .int .i64 k ∧ d = .bool dn ∧ o = .slice (some ⟨g, 0, none⟩) fs.length cp ∧ fs ++ intoG e (L.drop k) dn = into L e ∧ OwnE wr (w.heap.size + 1) g cp fs ∧ Below W0.heap.size W0 wr) (fun _ _ i _ => L.length - (intOf i).toNat)
  case atStart => exact ⟨0, _, 0, [], false, Nat.zero_le _, rfl, rfl, rfl, rfl, HS.out, (Below.refl _ _).alloc (Nat.le_refl _) _⟩
  case round =>
    obtain ⟨k, g, cp, fs, dn, hk, rfl, rfl, rfl, hin, hO, hb⟩ := hrel
    have hfl : fs.length ≤ 1048577 := by
      have h1 := congrArg List.length hin
      have h2 := length_intoG e L false
      rw [List.length_append] at h1
      unfold into at h1
      omega
    have HI : Hid (fs ++ intoG e (L.drop k) dn = into L e) := hin
    have HO : Hid (OwnE wr (w.heap.size + 1) g cp fs) := hO
    have hg := hO.lt
    have hs := hb.size
    clear hin hO
    by_cases hlt : k < L.length
    · obtain ⟨x, hx⟩ : ∃ x, L[k]? = some x := ⟨_, List.getElem?_eq_getElem hlt⟩
      have hdr : L.drop k = x :: L.drop (k + 1) := by
        rw [List.drop_eq_getElem_cons hlt]
        rw [List.getElem?_eq_getElem hlt] at hx
        simp at hx
        rw [hx]
      have HD : Hid (L.drop k = x :: L.drop (k + 1)) := hdr
      clear hdr
      have hec : ∀ wx, Below W0.heap.size W0 wx → EntsAt wx b off L ∧ EntsAt wx w.heap.size 0 [e] := fun wx h => ⟨HE.out.below h (by omega), HX.out.below h (by omega)⟩
      have HEC : Hid (∀ wx, Below W0.heap.size W0 wx → EntsAt wx b off L ∧ EntsAt wx w.heap.size 0 [e]) := hec
      clear hec
      obtain ⟨c0, c1, c2, c3, c4, c5⟩ := (HEC.out wr hb).1 k x hx
      obtain ⟨d0, d1, d2, d3, d4, d5⟩ := (HEC.out wr hb).2 0 e rfl
      simp only [Nat.zero_add, Nat.zero_mul] at d0 d1 d2 d3 d4 d5
      have HXK : Hid (L[k]? = some x) := hx
      clear hx
      have z2 : (k : Int) < (L.length : Int) := by omega
      go_upto_region 6 with fail
      go_cut [8] (fun s wx => s = .int .i64 (keyCmp x e) ∧ Below wr.heap.size wr wx)
      case first =>
        go_region_with (go_at_call 36; refine (specCompareKeys_any x e _).mono ?_; rintro e' w' ⟨rfl, hbb⟩)
        all_goals go_wp2_with fail
        all_goals go_meet
        all_goals exact ⟨rfl, ((Below.refl _ _).drew).trans (hbb.mono (by simp))⟩
      case rest =>
      obtain ⟨rfl, h3⟩ := hcut
      have hb3 := hb.trans (h3.mono hb.size)
      have HO3 : Hid (OwnE wc (w.heap.size + 1) g cp fs) := HO.out.below h3 hg.2
      have hs3 := h3.size
      clear c0 c1 c2 c3 c4 c5 d0 d1 d2 d3 d4 d5
      obtain ⟨c0, c1, c2, c3, c4, c5⟩ := (HEC.out wc hb3).1 k x HXK.out
      obtain ⟨d0, d1, d2, d3, d4, d5⟩ := (HEC.out wc hb3).2 0 e rfl
      simp only [Nat.zero_add, Nat.zero_mul] at d0 d1 d2 d3 d4 d5
      have ent_new : ∀ (wx : World) (f : Ent), EntsAt (wx.alloc (Obj.cells #[.string f.row, .string f.fam, .string f.qual, .int .u64 f.ts, .int .i64 f.kind, .string f.val] 62)) wx.heap.size 0 [f] := by
        intro wx f j y hy
        obtain rfl : j = 0 := by
          have := (List.getElem?_eq_some_iff.1 hy).1
          simpa using this
        simp at hy
        subst hy
        simp
      have HN : Hid (∀ (wx : World) (f : Ent), EntsAt (wx.alloc (Obj.cells #[.string f.row, .string f.fam, .string f.qual, .int .u64 f.ts, .int .i64 f.kind, .string f.val] 62)) wx.heap.size 0 [f]) := ent_new
      clear ent_new
      rcases keyCmp_vals x e with hc | hc | hc
      · have HC : Hid (keyCmp x e = -1) := hc
        go_wp2_with (at_builtin; refine wpList_append_ent _ rfl _ _ rfl (w.heap.size + 1) g cp _ _ fs x rfl rfl rfl ?hO ?hc ?hl ?hb ?_)
        case hO => exact HO3.out.below ((Below.refl _ _).alloc (Nat.le_refl _) _) (by omega)
        case hc => exact HN.out wc x
        case hl => omega
        case hb => simp; omega
        intro g' cp' w' hO' hgr
        have HO' : Hid (OwnE w' (w.heap.size + 1) g' cp' (fs ++ [x])) := hO'
        have hb' : Below W0.heap.size W0 w' := (hb3.alloc hb3.size _).grown hgr (by simp; omega) (fun j hj => by cases hj; omega)
        clear hO' hgr
        go_wp2_with fail
        go_roundw
        case rel =>
          go_light
          refine ⟨k + 1, g', cp', fs ++ [x], dn, by omega, by go_num, rfl, by simp, ?_, HO'.out, hb'⟩
          have h := HI.out
          rw [HD.out] at h
          rw [← h]
          simp [intoG, HC.out]
        case measure => go_light; simp [intOf]; omega
      · have HC : Hid (keyCmp x e = 0) := hc
        cases dn
        · go_wp2_with (at_builtin; refine wpList_append_ent _ rfl _ _ rfl (w.heap.size + 1) g cp _ _ (fs) e rfl rfl rfl ?hO ?hc ?hl ?hb ?_)
          case hO => exact HO3.out.below ((Below.refl _ _).alloc (Nat.le_refl _) _) (by omega)
          case hc => exact HN.out wc e
          case hl => omega
          case hb => simp; omega
          intro g' cp' w' hO' hgr
          have HO' : Hid (OwnE w' (w.heap.size + 1) g' cp' (fs ++ [e])) := hO'
          have hb' : Below W0.heap.size W0 w' := (hb3.alloc hb3.size _).grown hgr (by simp; omega) (fun j hj => by cases hj; omega)
          clear hO' hgr
          go_wp2_with fail
          go_roundw
          case rel =>
            go_light
            refine ⟨k + 1, g', cp', fs ++ [e], true, by omega, by go_num, rfl, by simp, ?_, HO'.out, hb'⟩
            have h := HI.out
            rw [HD.out] at h
            rw [← h]
            simp [intoG, HC.out]
          case measure => go_light; simp [intOf]; omega
        · go_wp2_with fail
          go_roundw
          case rel =>
            go_light
            refine ⟨k + 1, g, cp, fs, true, by omega, by go_num, rfl, by simp, ?_, HO3.out, hb3⟩
            have h := HI.out
            rw [HD.out] at h
            rw [← h]
            simp [intoG, HC.out]
          case measure => go_light; simp [intOf]; omega
      · have HC : Hid (keyCmp x e = 1) := hc
        cases dn
        · go_wp2_with (at_builtin; refine wpList_append_ent _ rfl _ _ rfl (w.heap.size + 1) g cp _ _ (fs) e rfl rfl rfl ?hO ?hc ?hl ?hb ?_)
          case hO => exact HO3.out.below ((Below.refl _ _).alloc (Nat.le_refl _) _) (by omega)
          case hc => exact HN.out wc e
          case hl => omega
          case hb => simp; omega
          intro g1 cp1 w1 hO1 hgr1
          have HO1 : Hid (OwnE w1 (w.heap.size + 1) g1 cp1 (fs ++ [e])) := hO1
          have hb1 : Below W0.heap.size W0 w1 := (hb3.alloc hb3.size _).grown hgr1 (by simp; omega) (fun j hj => by cases hj; omega)
          have hg1 := hO1.lt
          have hs1 := hb1.size
          clear hO1 hgr1 c0 c1 c2 c3 c4 c5
          obtain ⟨c0, c1, c2, c3, c4, c5⟩ := (HEC.out w1 hb1).1 k x HXK.out
          go_wp2_with (at_builtin; refine wpList_append_ent _ rfl _ _ rfl (w.heap.size + 1) g1 cp1 _ _ (fs ++ [e]) x rfl rfl (by simp) ?hO ?hc ?hl ?hb ?_)
          case hO => exact HO1.out.below ((Below.refl _ _).alloc (Nat.le_refl _) _) hg1.2
          case hc => exact HN.out w1 x
          case hl => simp; omega
          case hb => simp; omega
          intro g' cp' w' hO' hgr
          have HO' : Hid (OwnE w' (w.heap.size + 1) g' cp' (fs ++ [e, x])) := hO'
          have hb' : Below W0.heap.size W0 w' := (hb1.alloc hb1.size _).grown hgr (by simp; omega) (fun j hj => by cases hj; omega)
          clear hO' hgr
          go_wp2_with fail
          go_roundw
          case rel =>
            go_light
            refine ⟨k + 1, g', cp', fs ++ [e, x], true, by omega, by go_num, rfl, by simp, ?_, HO'.out, hb'⟩
            have h := HI.out
            rw [HD.out] at h
            rw [← h]
            simp [intoG, HC.out]
          case measure => go_light; simp [intOf]; omega
        · go_wp2_with (at_builtin; refine wpList_append_ent _ rfl _ _ rfl (w.heap.size + 1) g cp _ _ (fs) x rfl rfl rfl ?hO ?hc ?hl ?hb ?_)
          case hO => exact HO3.out.below ((Below.refl _ _).alloc (Nat.le_refl _) _) (by omega)
          case hc => exact HN.out wc x
          case hl => omega
          case hb => simp; omega
          intro g' cp' w' hO' hgr
          have HO' : Hid (OwnE w' (w.heap.size + 1) g' cp' (fs ++ [x])) := hO'
          have hb' : Below W0.heap.size W0 w' := (hb3.alloc hb3.size _).grown hgr (by simp; omega) (fun j hj => by cases hj; omega)
          clear hO' hgr
          go_wp2_with fail
          go_roundw
          case rel =>
            go_light
            refine ⟨k + 1, g', cp', fs ++ [x], true, by omega, by go_num, rfl, by simp, ?_, HO'.out, hb'⟩
            have h := HI.out
            rw [HD.out] at h
            rw [← h]
            simp [intoG, HC.out]
          case measure => go_light; simp [intOf]; omega
    · have hdr : L.drop k = [] := List.drop_eq_nil_of_le (by omega)
      have HD : Hid (L.drop k = []) := hdr
      clear hdr
      have hkk : k = L.length := by omega
      cases dn
      · obtain ⟨d0, d1, d2, d3, d4, d5⟩ := HX.out.below hb (by omega) 0 e rfl
        simp only [Nat.zero_add, Nat.zero_mul] at d0 d1 d2 d3 d4 d5
        have HF : Hid (fs ++ [e] = into L e) := by
          have h := HI.out
          rw [HD.out] at h
          exact h
        go_wp2_with (at_builtin; refine wpList_append_ent _ rfl _ _ rfl (w.heap.size + 1) g cp _ _ fs e rfl rfl rfl ?hO ?hc ?hl ?hb ?_)
        case hO => exact HO.out.below ((Below.refl _ _).alloc (Nat.le_refl _) _) (by omega)
        case hc =>
          intro j y hy
          obtain rfl : j = 0 := by
            have := (List.getElem?_eq_some_iff.1 hy).1
            simpa using this
          simp at hy
          subst hy
          simp
        case hl => omega
        case hb => simp; omega
        intro g' cp' w' hO' hgr
        have HO' : Hid (OwnE w' (w.heap.size + 1) g' cp' (fs ++ [e])) := hO'
        have hb' : Below W0.heap.size W0 w' := (hb.alloc hb.size _).grown hgr (by simp; omega) (fun j hj => by cases hj; omega)
        clear hO' hgr
        go_wp2_with fail
        go_ret
        refine ⟨g', cp', ?_, ?_, hb0.trans (hb'.mono (by omega))⟩
        · rw [← HF.out]; simp
        · rw [← HF.out]; exact HO'.out.mono (by omega)
      · have HF : Hid (fs = into L e) := by
          have h := HI.out
          rw [HD.out] at h
          show fs = into L e
          simpa [intoG] using h
        go_wp2_with fail
        go_ret
        refine ⟨g, cp, ?_, ?_, hb0.trans (hb.mono (by omega))⟩
        · rw [← HF.out]; rfl
        · rw [← HF.out]; exact HO.out.mono (by omega)
end Go.Proofs.Ytnncedndlhfdkab

/-
  The order of keys is a strict order; ordered lists with the same members are one.
-/
namespace Go.Proofs.Ytnncedndlhfdkab
set_option linter.unusedVariables false

theorem cmpB_zero : ∀ a b : List UInt8, Lib.compareBytes a b = 0 ↔ a = b
  | [], [] => by simp [Lib.compareBytes]
  | [], _ :: _ => by simp [Lib.compareBytes]
  | _ :: _, [] => by simp [Lib.compareBytes]
  | a :: x, b :: y => by
    unfold Lib.compareBytes
    by_cases h1 : a < b
    · rw [if_pos h1]
      constructor
      · intro h; cases h
      · intro h
        simp at h
        rw [h.1] at h1
        simp at h1
    · rw [if_neg h1]
      by_cases h2 : b < a
      · rw [if_pos h2]
        constructor
        · intro h; cases h
        · intro h
          simp at h
          rw [h.1] at h2
          simp at h2
      · rw [if_neg h2, cmpB_zero x y]
        have hab : a = b := by
          rw [UInt8.lt_iff_toNat_lt] at h1 h2
          exact UInt8.toNat_inj.1 (by omega)
        simp [hab]
theorem cmpB_neg : ∀ a b : List UInt8, Lib.compareBytes b a = -Lib.compareBytes a b
  | [], [] => by simp [Lib.compareBytes]
  | [], _ :: _ => by simp [Lib.compareBytes]
  | _ :: _, [] => by simp [Lib.compareBytes]
  | a :: x, b :: y => by
    unfold Lib.compareBytes
    have := cmpB_neg x y
    simp only [UInt8.lt_iff_toNat_lt]
    by_cases h1 : a.toNat < b.toNat
    · have h2 : ¬ b.toNat < a.toNat := by omega
      simp [h1, h2]
    · by_cases h2 : b.toNat < a.toNat
      · simp [h1, h2]
      · simp [h1, h2, this]
theorem cmpB_trans : ∀ a b c : List UInt8, Lib.compareBytes a b = -1 → Lib.compareBytes b c = -1 → Lib.compareBytes a c = -1
  | [], [], _ => by simp [Lib.compareBytes]
  | [], _ :: _, [] => by simp [Lib.compareBytes]
  | [], _ :: _, _ :: _ => by simp [Lib.compareBytes]
  | _ :: _, [], _ => by simp [Lib.compareBytes]
  | _ :: _, _ :: _, [] => by simp [Lib.compareBytes]
  | a :: x, b :: y, c :: z => by
    have ih := cmpB_trans x y z
    unfold Lib.compareBytes
    simp only [UInt8.lt_iff_toNat_lt]
    intro h1 h2
    by_cases h3 : a.toNat < c.toNat
    · simp [h3]
    · by_cases p1 : a.toNat < b.toNat
      · by_cases p2 : b.toNat < c.toNat
        · omega
        · by_cases p3 : c.toNat < b.toNat
          · simp [p2, p3] at h2
          · omega
      · by_cases p2 : b.toNat < a.toNat
        · simp [p1, p2] at h1
        · by_cases q1 : b.toNat < c.toNat
          · omega
          · by_cases q2 : c.toNat < b.toNat
            · simp [q1, q2] at h2
            · simp [p1, p2] at h1
              simp [q1, q2] at h2
              have r1 : ¬ c.toNat < a.toNat := by omega
              simp [h3, r1]
              exact ih h1 h2

theorem cB_zero {a b : ByteArray} : cB a b = 0 ↔ a = b := by
  unfold cB
  rw [cmpB_zero]
  constructor
  · intro h; cases a; cases b; simp at h; simpa using h
  · intro h; rw [h]
theorem cB_neg (a b : ByteArray) : cB b a = -cB a b := cmpB_neg _ _
theorem cB_trans {a b c : ByteArray} (h : cB a b = -1) (k : cB b c = -1) : cB a c = -1 := cmpB_trans _ _ _ h k

theorem tsCmp_neg (a b : Int) : tsCmp b a = -tsCmp a b := by
  unfold tsCmp; repeat' split
  all_goals omega
theorem kindCmp_neg (a b : Int) : kindCmp b a = -kindCmp a b := by
  unfold kindCmp; repeat' split
  all_goals omega
theorem firstOf_neg (a b : Int) : firstOf (-a) (-b) = -firstOf a b := by
  unfold firstOf
  by_cases h : a = 0
  · simp [h]
  · simp [h]
theorem keyCmp_neg (a b : Ent) : keyCmp b a = -keyCmp a b := by
  unfold keyCmp
  rw [cB_neg a.row b.row, cB_neg a.fam b.fam, cB_neg a.qual b.qual, kindCmp_neg a.kind b.kind, tsCmp_neg a.ts b.ts, firstOf_neg, firstOf_neg, firstOf_neg, firstOf_neg]

/-- 'firstOf' of two three-valued comparisons that are each an order. -/
theorem firstOf_trans {a b c a' b' c' : Int} (h0 : a = 0 → b = 0 → c = 0) (h1 : a = -1 → b = -1 → c = -1) (h2 : a = -1 → b = 0 → c = -1) (h3 : a = 0 → b = -1 → c = -1)
    (ta : tri a) (tb : tri b) (k : a' = -1 → b' = -1 → c' = -1) (x : firstOf a a' = -1) (y : firstOf b b' = -1) : firstOf c c' = -1 := by
  unfold firstOf at *
  unfold tri at *
  by_cases ha : a = 0
  · rw [if_pos ha] at x
    by_cases hb : b = 0
    · rw [if_pos hb] at y
      rw [if_pos (h0 ha hb)]; exact k x y
    · rw [if_neg hb] at y
      have := h3 ha y
      rw [if_neg (by omega)]; exact this
  · rw [if_neg ha] at x
    by_cases hb : b = 0
    · have := h2 x hb
      rw [if_neg (by omega)]; exact this
    · rw [if_neg hb] at y
      have := h1 x y
      rw [if_neg (by omega)]; exact this
theorem cB_pack (a b c : ByteArray) : (cB a b = 0 → cB b c = 0 → cB a c = 0) ∧ (cB a b = -1 → cB b c = -1 → cB a c = -1) ∧ (cB a b = -1 → cB b c = 0 → cB a c = -1) ∧ (cB a b = 0 → cB b c = -1 → cB a c = -1) := by
  refine ⟨fun h k => ?_, fun h k => cB_trans h k, fun h k => ?_, fun h k => ?_⟩
  · rw [cB_zero] at *; rw [h, k]
  · rw [cB_zero] at k; rw [← k]; exact h
  · rw [cB_zero] at h; rw [h]; exact k
theorem keyCmp_trans {a b c : Ent} (h : keyCmp a b = -1) (k : keyCmp b c = -1) : keyCmp a c = -1 := by
  obtain ⟨r0, r1, r2, r3⟩ := cB_pack a.row b.row c.row
  obtain ⟨f0, f1, f2, f3⟩ := cB_pack a.fam b.fam c.fam
  obtain ⟨q0, q1, q2, q3⟩ := cB_pack a.qual b.qual c.qual
  refine firstOf_trans r0 r1 r2 r3 (cB_vals _ _) (cB_vals _ _) (fun h k => ?_) h k
  refine firstOf_trans f0 f1 f2 f3 (cB_vals _ _) (cB_vals _ _) (fun h k => ?_) h k
  refine firstOf_trans q0 q1 q2 q3 (cB_vals _ _) (cB_vals _ _) (fun h k => ?_) h k
  refine firstOf_trans ?_ ?_ ?_ ?_ (tri_kind _ _) (tri_kind _ _) (fun h k => ?_) h k
  · unfold kindCmp; (repeat' split) <;> omega
  · unfold kindCmp; (repeat' split) <;> omega
  · unfold kindCmp; (repeat' split) <;> omega
  · unfold kindCmp; (repeat' split) <;> omega
  · unfold tsCmp at *
    (repeat' split at h) <;> (repeat' split at k) <;> (repeat' split) <;> omega
theorem keyCmp_self (a : Ent) : keyCmp a a = 0 := by
  have := keyCmp_neg a a
  omega

/-- Ordered, no key twice. -/
def Ord (l : List Ent) : Prop := l.Pairwise fun a b => keyCmp a b = -1
theorem ord_ext : ∀ {l m : List Ent}, Ord l → Ord m → (∀ x, x ∈ l ↔ x ∈ m) → l = m
  | [], [], _, _, _ => rfl
  | [], b :: m, _, _, h => by have := (h b).2 (by simp); simp at this
  | a :: l, [], _, _, h => by have := (h a).1 (by simp); simp at this
  | a :: l, b :: m, hl, hm, h => by
    have hl' := List.pairwise_cons.1 hl
    have hm' := List.pairwise_cons.1 hm
    have hab : a = b := by
      rcases List.mem_cons.1 ((h a).1 (by simp)) with e | e
      · exact e
      · rcases List.mem_cons.1 ((h b).2 (by simp)) with e' | e'
        · exact e'.symm
        · have h1 := hm'.1 a e
          have h2 := hl'.1 b e'
          have := keyCmp_neg a b
          omega
    subst hab
    congr 1
    refine ord_ext hl'.2 hm'.2 (fun x => ⟨fun hx => ?_, fun hx => ?_⟩)
    · rcases List.mem_cons.1 ((h x).1 (List.mem_cons_of_mem _ hx)) with e | e
      · subst e
        have := hl'.1 x hx
        rw [keyCmp_self] at this
        omega
      · exact e
    · rcases List.mem_cons.1 ((h x).2 (List.mem_cons_of_mem _ hx)) with e | e
      · subst e
        have := hm'.1 x hx
        rw [keyCmp_self] at this
        omega
      · exact e

theorem firstOf_zero {a b : Int} : firstOf a b = 0 ↔ a = 0 ∧ b = 0 := by
  unfold firstOf
  by_cases h : a = 0
  · simp [h]
  · simp [h]
theorem kindCmp_zero {a b : Int} : kindCmp a b = 0 ↔ (a = 2 ↔ b = 2) := by
  unfold kindCmp
  by_cases h : a = 2 <;> by_cases k : b = 2 <;> simp [h, k]
theorem tsCmp_zero {a b : Int} : tsCmp a b = 0 ↔ a = b := by
  unfold tsCmp
  (repeat' split) <;> omega
theorem keyCmp_zero {a b : Ent} : keyCmp a b = 0 ↔ a.row = b.row ∧ a.fam = b.fam ∧ a.qual = b.qual ∧ (a.kind = 2 ↔ b.kind = 2) ∧ a.ts = b.ts := by
  unfold keyCmp
  rw [firstOf_zero, firstOf_zero, firstOf_zero, firstOf_zero, cB_zero, cB_zero, cB_zero, kindCmp_zero, tsCmp_zero]
theorem kindCmp_congr {a b c : Int} (h : a = 2 ↔ b = 2) : kindCmp a c = kindCmp b c := by
  unfold kindCmp
  by_cases k : a = 2
  · rw [if_pos k, if_pos (h.1 k)]
  · rw [if_neg k, if_neg (fun x => k (h.2 x))]
theorem keyCmp_congr {a b c : Ent} (h : keyCmp a b = 0) : keyCmp a c = keyCmp b c := by
  obtain ⟨h1, h2, h3, h4, h5⟩ := keyCmp_zero.1 h
  unfold keyCmp
  rw [h1, h2, h3, h5, kindCmp_congr h4]

theorem intoG_true (e : Ent) : ∀ L : List Ent, (∀ x ∈ L, keyCmp e x = -1) → intoG e L true = L
  | [], _ => rfl
  | x :: r, h => by
    have h1 := h x (by simp)
    have h2 := keyCmp_neg e x
    have h3 : keyCmp x e = 1 := by omega
    unfold intoG
    rw [if_neg (by omega), if_neg (by omega), if_pos rfl, intoG_true e r (fun y hy => h y (List.mem_cons_of_mem _ hy))]
theorem into_spec (e : Ent) : ∀ L : List Ent, Ord L → Ord (intoG e L false) ∧ ∀ x, x ∈ intoG e L false ↔ x = e ∨ (x ∈ L ∧ keyCmp x e ≠ 0)
  | [], _ => ⟨by simp [intoG, Ord], fun x => by simp [intoG]⟩
  | x :: r, h => by
    have h' := List.pairwise_cons.1 h
    obtain ⟨ih1, ih2⟩ := into_spec e r h'.2
    rcases keyCmp_vals x e with hc | hc | hc
    · have e1 : intoG e (x :: r) false = x :: intoG e r false := by simp [intoG, hc]
      rw [e1]
      refine ⟨List.pairwise_cons.2 ⟨fun y hy => ?_, ih1⟩, fun y => ?_⟩
      · rcases (ih2 y).1 hy with rfl | ⟨hy, _⟩
        · exact hc
        · exact h'.1 y hy
      · rw [List.mem_cons, ih2, List.mem_cons]
        constructor
        · rintro (rfl | rfl | ⟨h1, h2⟩)
          · exact .inr ⟨.inl rfl, by omega⟩
          · exact .inl rfl
          · exact .inr ⟨.inr h1, h2⟩
        · rintro (rfl | ⟨rfl | h1, h2⟩)
          · exact .inr (.inl rfl)
          · exact .inl rfl
          · exact .inr (.inr ⟨h1, h2⟩)
    · have hr : ∀ y ∈ r, keyCmp e y = -1 := fun y hy => by rw [← keyCmp_congr hc]; exact h'.1 y hy
      have e1 : intoG e (x :: r) false = e :: r := by
        simp [intoG, hc, intoG_true e r hr]
      rw [e1]
      refine ⟨List.pairwise_cons.2 ⟨hr, h'.2⟩, fun y => ?_⟩
      rw [List.mem_cons, List.mem_cons]
      constructor
      · rintro (rfl | h1)
        · exact .inl rfl
        · have h2 := hr y h1
          have h3 := keyCmp_neg e y
          exact .inr ⟨.inr h1, by omega⟩
      · rintro (rfl | ⟨rfl | h1, h2⟩)
        · exact .inl rfl
        · exact absurd hc h2
        · exact .inr h1
    · have hx : keyCmp e x = -1 := by
        have := keyCmp_neg x e
        omega
      have hr : ∀ y ∈ r, keyCmp e y = -1 := fun y hy => keyCmp_trans hx (h'.1 y hy)
      have e1 : intoG e (x :: r) false = e :: x :: r := by
        simp [intoG, hc, intoG_true e r hr]
      rw [e1]
      refine ⟨List.pairwise_cons.2 ⟨fun y hy => ?_, h⟩, fun y => ?_⟩
      · rcases List.mem_cons.1 hy with rfl | hy
        · exact hx
        · exact hr y hy
      · rw [List.mem_cons]
        constructor
        · rintro (rfl | h1)
          · exact .inl rfl
          · refine .inr ⟨h1, ?_⟩
            have h3 := keyCmp_neg e y
            rcases List.mem_cons.1 h1 with rfl | h1
            · omega
            · have := hr y h1
              omega
        · rintro (rfl | ⟨h1, _⟩)
          · exact .inl rfl
          · exact .inr h1
end Go.Proofs.Ytnncedndlhfdkab

/-
  spec.l1Stands, spec.l1GoodWrites.
-/
namespace Go.Proofs.Ytnncedndlhfdkab
open Go.ChangeShapes Go.WideShapes Go.ChangeAt Go.RowKit Go.Deep
set_option linter.unusedVariables false

/-- Does the later write 'v' do away with 'e'? -/
def kills (v e : Ent) : Bool := sameCol v e && (if (v.kind == 2) = true then decide (e.ts ≤ v.ts) else (v.ts == e.ts))
/-- No write behind place 'i' does away with the one there. -/
def Stands (ws : List Ent) (i : Nat) : Prop := ∀ j v e, i < j → ws[j]? = some v → ws[i]? = some e → kills v e = false
def StandsTo (ws : List Ent) (i k : Nat) : Prop := ∀ j v e, i < j → j < k → ws[j]? = some v → ws[i]? = some e → kills v e = false
theorem standsTo_succ {ws : List Ent} {i k : Nat} {v e : Ent} (h : StandsTo ws i k) (hv : ws[k]? = some v) (he : ws[i]? = some e) (hk : kills v e = false) : StandsTo ws i (k + 1) := by
  intro j v' e' h1 h2 h3 h4
  by_cases hj : j = k
  · subst hj
    rw [hv] at h3; rw [he] at h4
    simp at h3 h4
    subst h3 h4
    exact hk
  · exact h j v' e' h1 (by omega) h3 h4

set_option maxHeartbeats 2000000 in
theorem stands_core (b off cap : Nat) (ws : List Ent) (i : Nat) (e : Ent) (w : World) (hE : EntsAt w b off ws) (hB : b < w.heap.size) (hi : ws[i]? = some e) (hlen : ws.length ≤ 1048576) :
    Calls Try.prog 49 #[.slice (some ⟨b, off, none⟩) ws.length cap, .int .i64 i] w fun r w' =>
      ∃ s : Bool, r = .returned (.bool s) ∧ (s = true ↔ Stands ws i) ∧ Below w.heap.size w w' := by
  have hil : i < ws.length := (List.getElem?_eq_some_iff.1 hi).1
  have HE : Hid (EntsAt w b off ws) := hE
  have HI : Hid (ws[i]? = some e) := hi
  clear hE hi
  go_enter Try.func49, Try.ntmps49
  go_wp2
  go_loopw [5] (fun c wr => ∃ k : Nat, i < k ∧ c = .int .i64 k ∧ StandsTo ws i k ∧ Below w.heap.size w wr) (fun c _ => ws.length - (intOf c).toNat)
  case atStart => exact ⟨i + 1, by omega, by go_num, fun j v e h1 h2 => by omega, Below.refl _ _⟩
  case round =>
    obtain ⟨k, hk, rfl, hst, hb⟩ := hrel
    have HS : Hid (StandsTo ws i k) := hst
    clear hst
    have hs := hb.size
    by_cases hlt : k < ws.length
    · obtain ⟨v, hv⟩ : ∃ v, ws[k]? = some v := ⟨_, List.getElem?_eq_getElem hlt⟩
      have HV : Hid (ws[k]? = some v) := hv
      obtain ⟨c0, c1, c2, c3, c4, c5⟩ := (HE.out.below hb hB) k v hv
      obtain ⟨d0, d1, d2, d3, d4, d5⟩ := (HE.out.below hb hB) i e HI.out
      clear hv
      obtain ⟨W1, hW1⟩ : ∃ W1 : World, W1 = wr.alloc (Obj.cells #[.string v.row, .string v.fam, .string v.qual, .int .u64 v.ts, .int .i64 v.kind, .string v.val] 62) := ⟨_, rfl⟩
      have hb1 : Below wr.heap.size wr W1 := by rw [hW1]; exact (Below.refl _ _).alloc (Nat.le_refl _) _
      have hz1 : wr.heap.size < W1.heap.size := by rw [hW1]; simp
      have HV1 : Hid (EntsAt W1 wr.heap.size 0 [v]) := by
        show EntsAt W1 wr.heap.size 0 [v]
        intro j y hy
        obtain rfl : j = 0 := by
          have := (List.getElem?_eq_some_iff.1 hy).1
          simpa using this
        simp at hy
        subst hy
        rw [hW1]
        simp
      have zi : (i : Int) < (ws.length : Int) := by omega
      go_upto_region 5 with fail
      rw [← hW1]
      clear hW1 c0 c1 c2 c3 c4 c5 d0 d1 d2 d3 d4 d5
      obtain ⟨c0, c1, c2, c3, c4, c5⟩ := HV1.out 0 v rfl
      obtain ⟨d0, d1, d2, d3, d4, d5⟩ := ((HE.out.below hb hB).below hb1 (by omega)) i e HI.out
      simp only [Nat.zero_add, Nat.zero_mul] at c0 c1 c2 c3 c4 c5
      go_cut [24] (fun s wx => s = .bool (sameCol v e) ∧ Below W1.heap.size W1 wx)
      case first =>
        go_region_with (go_at_call 37; refine (sameColumn_any v e _).mono ?_; rintro e' w' ⟨rfl, hbb⟩)
        all_goals go_wp2_with fail
        all_goals go_meet
        all_goals exact ⟨rfl, ((Below.refl _ _).drew).trans (hbb.mono (by simp))⟩
      case rest =>
      obtain ⟨rfl, h3⟩ := hcut
      have hs3 := h3.size
      have hb3 : Below w.heap.size w wc := (hb.trans (hb1.mono (by omega))).trans (h3.mono (by omega))
      clear c0 c1 c2 c3 c4 c5 d0 d1 d2 d3 d4 d5
      obtain ⟨c0, c1, c2, c3, c4, c5⟩ := (HV1.out.below h3 (by omega)) 0 v rfl
      obtain ⟨d0, d1, d2, d3, d4, d5⟩ := (HE.out.below hb3 hB) i e HI.out
      simp only [Nat.zero_add, Nat.zero_mul] at c0 c1 c2 c3 c4 c5
      have fin : ∀ (wx : World), Below w.heap.size w wx → kills v e = true → (∃ s : Bool, Ending.returned (.bool false) = .returned (.bool s) ∧ (s = true ↔ Stands ws i) ∧ Below w.heap.size w wx) := by
        intro wx hx hkl
        refine ⟨false, rfl, iffF (fun h => ?_), hx⟩
        have := h k v e hk HV.out HI.out
        rw [hkl] at this
        cases this
      have HFin : Hid (∀ (wx : World), Below w.heap.size w wx → kills v e = true → (∃ s : Bool, Ending.returned (.bool false) = .returned (.bool s) ∧ (s = true ↔ Stands ws i) ∧ Below w.heap.size w wx)) := fin
      clear fin
      cases hsc : sameCol v e
      · have HN : Hid (StandsTo ws i (k + 1)) := standsTo_succ HS.out HV.out HI.out (by unfold kills; rw [hsc]; rfl)
        go_wp2_with fail
        go_roundw
        case rel => exact ⟨k + 1, by omega, by go_num, HN.out, hb3⟩
        case measure => go_light; simp [intOf]; omega
      · cases g2 : (v.kind == 2)
        · have g2' : (v.kind != 2) = true := by
            simp at g2 ⊢; exact g2
          cases ge : (v.ts == e.ts)
          · have HN : Hid (StandsTo ws i (k + 1)) := standsTo_succ HS.out HV.out HI.out (by unfold kills; rw [hsc, g2]; simpa using ge)
            go_upto_region 6 with fail
            go_quiet (fail)
            go_upto_region 8 with fail
            go_quiet (fail)
            go_wp2_with fail
            go_roundw
            case rel => exact ⟨k + 1, by omega, by go_num, HN.out, below_drewN hb3 _⟩
            case measure => go_light; simp [intOf]; omega
          · have HK : Hid (kills v e = true) := by show kills v e = true; unfold kills; rw [hsc, g2]; simpa using ge
            go_upto_region 6 with fail
            go_quiet (fail)
            go_upto_region 8 with fail
            go_quiet (fail)
            go_wp2_with fail
            go_ret
            exact HFin.out _ (below_drewN (below_drewN hb3 _) _) HK.out
        · have g2' : (v.kind != 2) = false := by
            simp at g2 ⊢; exact g2
          by_cases ge : e.ts ≤ v.ts
          · have HK : Hid (kills v e = true) := by show kills v e = true; unfold kills; rw [hsc, g2]; simpa using ge
            go_upto_region 6 with fail
            go_quiet (fail)
            go_wp2_with fail
            go_ret
            exact HFin.out _ (below_drewN hb3 _) HK.out
          · have HN : Hid (StandsTo ws i (k + 1)) := standsTo_succ HS.out HV.out HI.out (by unfold kills; rw [hsc, g2]; simpa using ge)
            go_upto_region 6 with fail
            go_quiet (fail)
            go_upto_region 8 with fail
            go_quiet (fail)
            go_wp2_with fail
            go_roundw
            case rel => exact ⟨k + 1, by omega, by go_num, HN.out, below_drewN hb3 _⟩
            case measure => go_light; simp [intOf]; omega
    · go_wp2_with fail
      go_ret
      refine ⟨true, rfl, iffT (fun j v e h1 h2 h3 => ?_), hb⟩
      have := (List.getElem?_eq_some_iff.1 h2).1
      exact HS.out j v e h1 (by omega) h2 h3

set_option maxHeartbeats 400000 in
theorem goodWrites_core (b off cap : Nat) (es : List Ent) (w : World) (hE : EntsAt w b off es) (hok : ∀ e ∈ es, e.ok) (hB : b < w.heap.size) (hlen : es.length ≤ 1048576) :
    Calls Try.prog 48 #[.slice (some ⟨b, off, none⟩) es.length cap] w fun e w' =>
      ∃ r : Bool, e = .returned (.bool r) ∧ (r = true ↔ GoodW es) ∧ Below w.heap.size w w' := by
  have HE : Hid (EntsAt w b off es) := hE
  have HO : Hid (∀ e ∈ es, e.ok) := hok
  clear hE hok
  by_cases hbig : 10000 < es.length
  · have H : Hid (¬ GoodW es) := fun h => by have := h.1; omega
    go_enter Try.func48, Try.ntmps48
    go_wp2
    go_ret
    exact ⟨_, rfl, iffF H.out, Below.refl _ _⟩
  go_enter Try.func48, Try.ntmps48
  go_wp2
  go_loopw [3] (fun i wr => ∃ (k : Nat), k ≤ es.length ∧ i = .int .i64 k ∧ (∀ x ∈ es.take k, x.vld = true) ∧ Below w.heap.size w wr) (fun i _ => es.length - (intOf i).toNat)
  case atStart => exact ⟨0, Nat.zero_le _, rfl, by simp, Below.refl _ _⟩
  case round =>
    obtain ⟨k, hk, rfl, hv, hb⟩ := hrel
    have HV : Hid (∀ x ∈ es.take k, x.vld = true) := hv
    clear hv
    by_cases hlt : k < es.length
    · obtain ⟨e, he⟩ : ∃ e, es[k]? = some e := ⟨_, List.getElem?_eq_getElem hlt⟩
      obtain ⟨c0, c1, c2, c3, c4, c5⟩ := (HE.out.below hb hB) k e he
      have HK : Hid (e.ok ∧ es[k]? = some e) := ⟨HO.out e (List.mem_of_getElem? he), he⟩
      clear he
      go_wp2_with fail
      refine (specValid_core e.row e.fam e.qual e.val e.ts e.kind _ HK.out.1.row HK.out.1.fam HK.out.1.qual HK.out.1.val).mono ?_
      rintro e' w1 ⟨rfl, hb1⟩
      have hb2 := hb.trans (hb1.mono hb.size)
      clear c0 c1 c2 c3 c4 c5 hb1
      cases hv : vE e.row e.fam e.qual e.kind e.val
      · have H : Hid (¬ GoodW es) := fun h => by
          have := h.2 e (List.mem_of_getElem? HK.out.2)
          unfold Ent.vld at this
          rw [hv] at this
          cases this
        go_wp2_with fail
        go_ret
        exact ⟨_, rfl, iffF H.out, hb2⟩
      · have H : Hid (∀ x ∈ es.take (k + 1), x.vld = true) := vld_of_take HV.out HK.out.2 hv
        go_wp2_with fail
        go_roundw
        case rel => exact ⟨k + 1, by omega, by go_num, H.out, hb2⟩
        case measure => go_light; simp [intOf]; omega
    · go_wp2
      go_ret
      refine ⟨_, rfl, iffT ⟨by omega, fun e he => ?_⟩, hb⟩
      have := HV.out
      rw [List.take_of_length_le (by omega)] at this
      exact this e he
end Go.Proofs.Ytnncedndlhfdkab

/-
  What a run keeps of a list of writes, as a property; it determines the run.
-/
namespace Go.Proofs.Ytnncedndlhfdkab
set_option linter.unusedVariables false

theorem toList_inj {a b : ByteArray} (h : a.toList = b.toList) : a = b := by
  rw [ByteArray.toList_eq, ByteArray.toList_eq] at h
  cases a; cases b
  simp at h
  simpa using h
theorem sameCol_iff {a b : Ent} : sameCol a b = true ↔ a.row = b.row ∧ a.fam = b.fam ∧ a.qual = b.qual := by
  unfold sameCol
  simp only [Bool.and_eq_true, beq_iff_eq]
  constructor
  · rintro ⟨h1, h2, h3⟩; exact ⟨toList_inj h1, toList_inj h2, toList_inj h3⟩
  · rintro ⟨h1, h2, h3⟩; rw [h1, h2, h3]; exact ⟨rfl, rfl, rfl⟩
theorem size_zero_eq {a b : ByteArray} (h : a.size = 0) (k : b.size = 0) : a = b := by
  obtain ⟨⟨l⟩⟩ := a
  obtain ⟨⟨m⟩⟩ := b
  cases l with
  | nil => cases m with
    | nil => rfl
    | cons y m => simp [ByteArray.size] at k
  | cons x l => simp [ByteArray.size] at h
theorem vld_val {e : Ent} (h : e.vld = true) (k : e.kind = 2) : e.val.size = 0 := by
  unfold Ent.vld vE at h
  have := of_decide_eq_true h
  omega

/-- No delete of the same column has a larger timestamp. -/
def Largest (ws : List Ent) (e : Ent) : Prop := ∀ v ∈ ws, v.kind = 2 → sameCol v e = true → v.ts ≤ e.ts
def Keep (ws : List Ent) (i : Nat) (e : Ent) : Prop := (¬ e.kind = 2 ∧ Stands ws i) ∨ (e.kind = 2 ∧ Largest ws e)
def KeepTo (ws : List Ent) (k : Nat) (x : Ent) : Prop := ∃ i, i < k ∧ ws[i]? = some x ∧ Keep ws i x
/-- 'R' is what the first 'k' writes leave in the run of 'ws'. -/
def Kept (ws : List Ent) (k : Nat) (R : List Ent) : Prop := Ord R ∧ (∀ x, x ∈ R ↔ KeepTo ws k x)

theorem keep_uniq {ws : List Ent} (hv : ∀ x ∈ ws, x.vld = true) {i k : Nat} {x e : Ent} (hik : i < k) (hx : ws[i]? = some x) (he : ws[k]? = some e) (kx : Keep ws i x) (ke : Keep ws k e) (hz : keyCmp x e = 0) : x = e := by
  obtain ⟨h1, h2, h3, h4, h5⟩ := keyCmp_zero.1 hz
  rcases kx with ⟨hn, hs⟩ | ⟨h2k, _⟩
  · have := hs k e x hik he hx
    unfold kills at this
    rw [sameCol_iff.2 ⟨h1.symm, h2.symm, h3.symm⟩] at this
    have hn' : (e.kind == 2) = false := by simp; exact fun q => hn (h4.2 q)
    rw [hn', if_neg (by simp), h5] at this
    simp at this
  · have h2e := h4.1 h2k
    have v1 := vld_val (hv x (List.mem_of_getElem? hx)) h2k
    have v2 := vld_val (hv e (List.mem_of_getElem? he)) h2e
    obtain ⟨r, f, q, t, kk, v⟩ := x
    obtain ⟨r', f', q', t', kk', v'⟩ := e
    simp only at *
    subst h1 h2 h3 h5 h2k h2e
    rw [size_zero_eq v1 v2]

theorem kept_zero (ws : List Ent) : Kept ws 0 [] := ⟨List.Pairwise.nil, fun x => ⟨fun h => by simp at h, fun ⟨i, hi, _⟩ => by omega⟩⟩
theorem kept_skip {ws : List Ent} {k : Nat} {e : Ent} {R : List Ent} (h : Kept ws k R) (he : ws[k]? = some e) (hk : ¬ Keep ws k e) : Kept ws (k + 1) R := by
  refine ⟨h.1, fun x => (h.2 x).trans ⟨fun ⟨i, hi, h1, h2⟩ => ⟨i, by omega, h1, h2⟩, fun ⟨i, hi, h1, h2⟩ => ?_⟩⟩
  by_cases hik : i = k
  · subst hik
    rw [he] at h1
    simp at h1
    subst h1
    exact absurd h2 hk
  · exact ⟨i, by omega, h1, h2⟩
theorem kept_step {ws : List Ent} (hv : ∀ x ∈ ws, x.vld = true) {k : Nat} {e : Ent} {R : List Ent} (h : Kept ws k R) (he : ws[k]? = some e) (hk : Keep ws k e) : Kept ws (k + 1) (into R e) := by
  obtain ⟨h1, h2⟩ := into_spec e R h.1
  refine ⟨h1, fun x => (h2 x).trans ⟨?_, ?_⟩⟩
  · rintro (rfl | ⟨hx, _⟩)
    · exact ⟨k, by omega, he, hk⟩
    · obtain ⟨i, hi, a, b⟩ := (h.2 x).1 hx
      exact ⟨i, by omega, a, b⟩
  · rintro ⟨i, hi, a, b⟩
    by_cases hik : i = k
    · subst hik
      rw [he] at a
      simp at a
      exact .inl a.symm
    · by_cases hz : keyCmp x e = 0
      · exact .inl (keep_uniq hv (by omega) a he b hk hz)
      · exact .inr ⟨(h.2 x).2 ⟨i, by omega, a, b⟩, hz⟩
theorem kept_uniq {ws : List Ent} {k : Nat} {R S : List Ent} (h : Kept ws k R) (g : Kept ws k S) : R = S :=
  ord_ext h.1 g.1 (fun x => (h.2 x).trans (g.2 x).symm)
theorem length_into (L : List Ent) (e : Ent) : (into L e).length ≤ L.length + 1 := length_intoG e L false
end Go.Proofs.Ytnncedndlhfdkab

/-
  spec.BuildRun.
-/
namespace Go.Proofs.Ytnncedndlhfdkab
open Go.ChangeShapes Go.WideShapes Go.ChangeAt Go.RowKit Go.Deep
set_option linter.unusedVariables false

theorem ent_new (wx : World) (f : Ent) : EntsAt (wx.alloc (Obj.cells #[.string f.row, .string f.fam, .string f.qual, .int .u64 f.ts, .int .i64 f.kind, .string f.val] 62)) wx.heap.size 0 [f] := by
  intro j y hy
  obtain rfl : j = 0 := by
    have := (List.getElem?_eq_some_iff.1 hy).1
    simpa using this
  simp at hy
  subst hy
  simp

theorem OwnE.setBelow {w : World} {base g cap : Nat} {es : List Ent} (h : OwnE w base g cap es) (a : Addr) (ha : a.block < base) (u : Value) : OwnE (w.setCell a u) base g cap es := ownsRow_setCell_below h ha u

/-- The deletes of the column among the first 'j'. -/
def LargestTo (ws : List Ent) (e : Ent) (j : Nat) : Prop := ∀ i v, i < j → ws[i]? = some v → v.kind = 2 → sameCol v e = true → v.ts ≤ e.ts
theorem largest_of_to {ws : List Ent} {e : Ent} {j : Nat} (h : LargestTo ws e j) (hj : ws.length ≤ j) : Largest ws e := by
  intro v hv h1 h2
  obtain ⟨i, hi⟩ := List.getElem?_of_mem hv
  exact h i v (by have := (List.getElem?_eq_some_iff.1 hi).1; omega) hi h1 h2
theorem largestTo_succ {ws : List Ent} {e v : Ent} {j : Nat} (h : LargestTo ws e j) (hv : ws[j]? = some v) (hk : v.kind = 2 → sameCol v e = true → v.ts ≤ e.ts) : LargestTo ws e (j + 1) := by
  intro i u hi hu h1 h2
  by_cases e1 : i = j
  · subst e1
    rw [hv] at hu
    simp at hu
    subst hu
    exact hk h1 h2
  · exact h i u (by omega) hu h1 h2
theorem largestTo_bad {ws : List Ent} {e v : Ent} {j k : Nat} (hv : ws[j]? = some v) (h1 : v.kind = 2) (h2 : sameCol v e = true) (h3 : ¬ v.ts ≤ e.ts) (hk : j < k) : ¬ LargestTo ws e k := fun h => h3 (h j v hk hv h1 h2)
theorem largestTo_mono {ws : List Ent} {e : Ent} {j k : Nat} (h : LargestTo ws e k) (hj : j ≤ k) : LargestTo ws e j := fun i v hi => h i v (by omega)

set_option maxHeartbeats 4000000 in
theorem specBuild_core (b off cap : Nat) (ws : List Ent) (w : World) (hE : EntsAt w b off ws) (hok : ∀ e ∈ ws, e.ok) (hB : b < w.heap.size) (hlen : ws.length ≤ 1048576) :
    Calls Try.prog 19 #[.slice (some ⟨b, off, none⟩) ws.length cap] w fun r w' =>
      ∃ (g cp : Nat) (R : List Ent), r = .returned (.agg #[.slice (some ⟨g, 0, none⟩) R.length cp]) ∧ OwnE w' w.heap.size g cp R ∧ Below w.heap.size w w' ∧ R.length ≤ ws.length ∧ (GoodW ws → Kept ws ws.length R) ∧ (¬ GoodW ws → R = []) := by
  have HE : Hid (EntsAt w b off ws) := hE
  have HO : Hid (∀ e ∈ ws, e.ok) := hok
  clear hE hok
  obtain ⟨W0, hW0⟩ : ∃ W0 : World, W0 = (w.alloc (Obj.cells #[.slice none 0 0] 29)).alloc (Obj.cells #[] 62) := ⟨_, rfl⟩
  have hb0 : Below w.heap.size w W0 := by rw [hW0]; exact ((Below.refl _ _).alloc (Nat.le_refl _) _).alloc (by simp) _
  have hz0 : w.heap.size + 1 < W0.heap.size := by rw [hW0]; simp
  have ca : W0.cell? ⟨w.heap.size, 0, none⟩ = some (.slice none 0 0) := by rw [hW0]; simp
  have cf : W0.frozen? ⟨w.heap.size, 0, none⟩ = false := by rw [hW0]; simp
  have HS : Hid (OwnE W0 (w.heap.size + 1) (w.heap.size + 1) 0 []) := by
    show OwnE W0 (w.heap.size + 1) (w.heap.size + 1) 0 []
    have h := World.ownsRow_made (base := w.heap.size + 1) (e := 62) (size := 6) (w.alloc (Obj.cells #[.slice none 0 0] 29)) #[] 0 (by simp) (Nat.zero_le _) (by simp)
    rw [hW0]
    have h3 : ((w.alloc (Obj.cells #[.slice none 0 0] 29)).alloc (Obj.cells #[] 62)).ownsRow (w.heap.size + 1) 62 6 (.slice (some ⟨w.heap.size + 1, 0, none⟩) 0 0) 0 [] := by simpa using h
    exact h3
  have HE0 : Hid (EntsAt W0 b off ws) := HE.out.below hb0 hB
  go_enter Try.func19, Try.ntmps19
  go_wp2_with fail
  rw [← hW0]
  clear hW0
  refine (goodWrites_core b off cap ws _ HE0.out HO.out (by omega) hlen).mono ?_
  rintro e w1 ⟨r, rfl, hr, hb1⟩
  have HR : Hid (r = true ↔ GoodW ws) := hr
  clear hr
  have hs1 := hb1.size
  have ca1 : w1.cell? ⟨w.heap.size, 0, none⟩ = some (.slice none 0 0) := by rw [hb1.cell (p := ⟨w.heap.size, 0, none⟩) (by show w.heap.size < _; omega)]; exact ca
  have cf1 : w1.frozen? ⟨w.heap.size, 0, none⟩ = false := by rw [hb1.frozen (p := ⟨w.heap.size, 0, none⟩) (by show w.heap.size < _; omega)]; exact cf
  have HS1 : Hid (OwnE w1 (w.heap.size + 1) (w.heap.size + 1) 0 []) := HS.out.below hb1 (by omega)
  have HE1 : Hid (EntsAt w1 b off ws) := HE0.out.below hb1 (by omega)
  have k1 : Below w.heap.size w w1 := hb0.trans (hb1.mono (by omega))
  cases r
  · have HN : Hid (¬ GoodW ws) := fun h => Bool.noConfusion (HR.out.2 h)
    go_wp2_with fail
    refine bodyPost_ret (v := .agg #[.slice (some ⟨w.heap.size + 1, 0, none⟩) 0 0]) (by simp [results, Try.results19, go_sem, ca1]) rfl ⟨_, _, [], rfl, ?_, k1.setCell (by show w.heap.size ≤ w.heap.size; omega) _, by simp, fun h => absurd h HN.out, fun _ => rfl⟩
    exact (HS1.out.setBelow ⟨w.heap.size, 0, none⟩ (by show w.heap.size < _; omega) _).mono (by omega)
  have HG : Hid (GoodW ws) := HR.out.1 rfl
  clear HR
  go_wp2_with fail
  go_loopw [3, 4] (fun o i wr => ∃ (k g cp : Nat) (R : List Ent), k ≤ ws.length ∧ i = .int .i64 k ∧ o = .slice (some ⟨g, 0, none⟩) R.length cp ∧ OwnE wr (w.heap.size + 1) g cp R ∧ Kept ws k R ∧ R.length ≤ k ∧ Below w1.heap.size w1 wr) (fun _ i _ => ws.length - (intOf i).toNat)
  case atStart => exact ⟨0, _, 0, [], Nat.zero_le _, rfl, rfl, HS1.out, kept_zero ws, Nat.le_refl _, Below.refl _ _⟩
  case round =>
    obtain ⟨k, g, cp, R, hk, rfl, rfl, hO, hK, hRl, hb⟩ := hrel
    obtain ⟨wo, rfl⟩ : ∃ wo : World, wo = wr := ⟨_, rfl⟩
    have HK : Hid (OwnE wo (w.heap.size + 1) g cp R ∧ Kept ws k R) := ⟨hO, hK⟩
    have hg := hO.lt
    have hs := hb.size
    clear hO hK
    by_cases hlt : k < ws.length
    · obtain ⟨e, he⟩ : ∃ e, ws[k]? = some e := ⟨_, List.getElem?_eq_getElem hlt⟩
      have HEo : Hid (EntsAt wo b off ws) := HE1.out.below hb (by omega)
      obtain ⟨c0, c1, c2, c3, c4, c5⟩ := HEo.out k e he
      have HKe : Hid (ws[k]? = some e) := he
      clear he
      obtain ⟨W1, hW1⟩ : ∃ W1 : World, W1 = wo.alloc (Obj.cells #[.string e.row, .string e.fam, .string e.qual, .int .u64 e.ts, .int .i64 e.kind, .string e.val] 62) := ⟨_, rfl⟩
      have hbW : Below wo.heap.size wo W1 := by rw [hW1]; exact (Below.refl _ _).alloc (Nat.le_refl _) _
      have hzW : wo.heap.size < W1.heap.size := by rw [hW1]; simp
      have HN1 : Hid (EntsAt W1 wo.heap.size 0 [e]) := by show EntsAt W1 wo.heap.size 0 [e]; rw [hW1]; exact ent_new wo e
      have HEW : Hid (EntsAt W1 b off ws) := HEo.out.below hbW (by omega)
      cases g2 : (e.kind != 2)
      · have hk2 : e.kind = 2 := by simpa using g2
        have HK2 : Hid (e.kind = 2) := hk2
        clear hk2
        go_wp2_with fail
        rw [← hW1]
        clear hW1 c0 c1 c2 c3 c4 c5
        go_loopw [6, 7] (fun l i wr => ∃ (j : Nat) (lb : Bool), j ≤ ws.length ∧ i = .int .i64 j ∧ l = .bool lb ∧ (lb = true ↔ LargestTo ws e j) ∧ Below W1.heap.size W1 wr) (fun _ i _ => ws.length - (intOf i).toNat)
        case atStart => exact ⟨0, true, Nat.zero_le _, rfl, rfl, iffT (fun i v hi => by omega), Below.refl _ _⟩
        case round =>
          obtain ⟨j, lb, hj, rfl, rfl, hl, hbi⟩ := hrel
          have HL : Hid (lb = true ↔ LargestTo ws e j) := hl
          clear hl
          have hsi := hbi.size
          have hzw : wo.heap.size < wr.heap.size := by omega
          by_cases hjl : j < ws.length
          · obtain ⟨v, hv⟩ : ∃ v, ws[j]? = some v := ⟨_, List.getElem?_eq_getElem hjl⟩
            obtain ⟨c0, c1, c2, c3, c4, c5⟩ := HEW.out.below hbi (by omega) j v hv
            obtain ⟨d0, d1, d2, d3, d4, d5⟩ := HN1.out.below hbi (by omega) 0 e rfl
            simp only [Nat.zero_add, Nat.zero_mul] at d0 d1 d2 d3 d4 d5
            have HVj : Hid (ws[j]? = some v) := hv
            clear hv
            have hb7 : Below W1.heap.size W1 (wr.alloc (Obj.cells #[.string v.row, .string v.fam, .string v.qual, .int .u64 v.ts, .int .i64 v.kind, .string v.val] 62)) := hbi.alloc hbi.size _
            cases gv : (v.kind == 2)
            · have HL' : Hid (lb = true ↔ LargestTo ws e (j + 1)) := ⟨fun h => largestTo_succ (HL.out.1 h) HVj.out (fun q => by simp at gv; exact absurd q gv), fun h => HL.out.2 (largestTo_mono h (by omega))⟩
              go_wp2_with fail
              go_roundw
              case rel => exact ⟨j + 1, lb, by omega, by go_num, rfl, HL'.out, hb7⟩
              case measure => go_light; simp [intOf]; omega
            · have HV2 : Hid (v.kind = 2) := by show v.kind = 2; simpa using gv
              go_wp2_with fail
              refine (sameColumn_any v e _).mono ?_
              rintro e' w8 ⟨rfl, hb8⟩
              have hb9 := hb7.trans (hb8.mono (by simp; omega))
              obtain ⟨hc8, hf8⟩ := bcell hb8
              have hs8 := hb8.size
              have cw : ∀ o, w8.cell? ⟨wo.heap.size, o, none⟩ = wr.cell? ⟨wo.heap.size, o, none⟩ := fun o => by
                rw [hc8 _ _ (by simp; omega), World.cell?_alloc_past _ _ _ hzw]
              cases hsc : sameCol v e
              · have HL' : Hid (lb = true ↔ LargestTo ws e (j + 1)) := ⟨fun h => largestTo_succ (HL.out.1 h) HVj.out (fun _ q => by rw [hsc] at q; cases q), fun h => HL.out.2 (largestTo_mono h (by omega))⟩
                go_wp2_with fail
                go_roundw
                case rel => exact ⟨j + 1, lb, by omega, by go_num, rfl, HL'.out, hb9⟩
                case measure => go_light; simp [intOf]; omega
              · by_cases ht : e.ts < v.ts
                · have HL' : Hid (false = true ↔ LargestTo ws e (j + 1)) := iffF (largestTo_bad HVj.out HV2.out hsc (by omega) (by omega))
                  go_wp2_with fail
                  go_roundw
                  case rel => exact ⟨j + 1, false, by omega, by go_num, rfl, HL'.out, hb9⟩
                  case measure => go_light; simp [intOf]; omega
                · have HL' : Hid (lb = true ↔ LargestTo ws e (j + 1)) := ⟨fun h => largestTo_succ (HL.out.1 h) HVj.out (fun _ _ => by omega), fun h => HL.out.2 (largestTo_mono h (by omega))⟩
                  go_wp2_with fail
                  go_roundw
                  case rel => exact ⟨j + 1, lb, by omega, by go_num, rfl, HL'.out, hb9⟩
                  case measure => go_light; simp [intOf]; omega
          · have HLL : Hid (lb = true ↔ Largest ws e) := ⟨fun h => largest_of_to (HL.out.1 h) (by omega), fun h => HL.out.2 (fun i v hi hv => h v (List.mem_of_getElem? hv))⟩
            have hb3 : Below w1.heap.size w1 wr := (hb.trans (hbW.mono (by omega))).trans (hbi.mono (by omega))
            have HK3 : Hid (OwnE wr (w.heap.size + 1) g cp R) := (HK.out.1.below hbW hg.2).below hbi (by omega)
            cases lb
            · have HS' : Hid (Kept ws (k + 1) R) := kept_skip HK.out.2 HKe.out (fun h => by
                rcases h with h | h
                · exact h.1 HK2.out
                · exact Bool.noConfusion (HLL.out.2 h.2))
              go_wp2_with fail
              go_roundw
              case rel => exact ⟨k + 1, g, cp, R, by omega, by go_num, rfl, HK3.out, HS'.out, by omega, hb3⟩
              case measure => go_light; simp [intOf]; omega
            · have HS' : Hid (Kept ws (k + 1) (into R e)) := kept_step HG.out.2 HK.out.2 HKe.out (.inr ⟨HK2.out, HLL.out.1 rfl⟩)
              obtain ⟨d0, d1, d2, d3, d4, d5⟩ := HN1.out.below hbi (by omega) 0 e rfl
              simp only [Nat.zero_add, Nat.zero_mul] at d0 d1 d2 d3 d4 d5
              go_wp2_with fail
              refine (into_core g 0 cp R e _ HK3.out.at (by have := HK3.out.lt; omega) (by omega)).mono ?_
              rintro e' w3 ⟨g', cp', rfl, hO', hb4⟩
              have HO' : Hid (OwnE w3 wr.heap.size g' cp' (into R e)) := hO'
              have hlen' := length_into R e
              have hb5 := hb3.trans (hb4.mono (by omega))
              clear hO'
              go_wp2_with fail
              go_roundw
              case rel => exact ⟨k + 1, g', cp', into R e, by omega, by go_num, rfl, HO'.out.mono (by omega), HS'.out, by omega, hb5⟩
              case measure => go_light; simp [intOf]; omega
      · have HK2 : Hid (¬ e.kind = 2) := by show ¬ e.kind = 2; simpa using g2
        go_wp2_with fail
        rw [← hW1]
        clear hW1 c0 c1 c2 c3 c4 c5
        refine (stands_core b off cap ws k e _ HEW.out (by omega) HKe.out hlen).mono ?_
        rintro e' w2 ⟨s, rfl, hst, hb2⟩
        have HST : Hid (s = true ↔ Stands ws k) := hst
        clear hst
        have hs2 := hb2.size
        have hb3 : Below w1.heap.size w1 w2 := (hb.trans (hbW.mono (by omega))).trans (hb2.mono (by omega))
        have HK3 : Hid (OwnE w2 (w.heap.size + 1) g cp R) := (HK.out.1.below hbW hg.2).below hb2 (by omega)
        cases s
        · have HS' : Hid (Kept ws (k + 1) R) := kept_skip HK.out.2 HKe.out (fun h => by
            rcases h with h | h
            · exact Bool.noConfusion (HST.out.2 h.2)
            · exact HK2.out h.1)
          go_wp2_with fail
          go_roundw
          case rel => exact ⟨k + 1, g, cp, R, by omega, by go_num, rfl, HK3.out, HS'.out, by omega, hb3⟩
          case measure => go_light; simp [intOf]; omega
        · have HS' : Hid (Kept ws (k + 1) (into R e)) := kept_step HG.out.2 HK.out.2 HKe.out (.inl ⟨HK2.out, HST.out.1 rfl⟩)
          obtain ⟨d0, d1, d2, d3, d4, d5⟩ := HN1.out.below hb2 (by omega) 0 e rfl
          simp only [Nat.zero_add, Nat.zero_mul] at d0 d1 d2 d3 d4 d5
          go_wp2_with fail
          refine (into_core g 0 cp R e _ HK3.out.at (by have := HK3.out.lt; omega) (by omega)).mono ?_
          rintro e' w3 ⟨g', cp', rfl, hO', hb4⟩
          have HO' : Hid (OwnE w3 w2.heap.size g' cp' (into R e)) := hO'
          have hlen' := length_into R e
          have hb5 := hb3.trans (hb4.mono (by omega))
          clear hO'
          go_wp2_with fail
          go_roundw
          case rel => exact ⟨k + 1, g', cp', into R e, by omega, by go_num, rfl, HO'.out.mono (by omega), HS'.out, by omega, hb5⟩
          case measure => go_light; simp [intOf]; omega
    · have hkk : k = ws.length := by omega
      have ca2 : wo.cell? ⟨w.heap.size, 0, none⟩ = some (.slice none 0 0) := by rw [hb.cell (p := ⟨w.heap.size, 0, none⟩) (by show w.heap.size < _; omega)]; exact ca1
      have cf2 : wo.frozen? ⟨w.heap.size, 0, none⟩ = false := by rw [hb.frozen (p := ⟨w.heap.size, 0, none⟩) (by show w.heap.size < _; omega)]; exact cf1
      have HKK : Hid (Kept ws ws.length R) := by show Kept ws ws.length R; rw [← hkk]; exact HK.out.2
      go_wp2_with fail
      refine bodyPost_ret (v := .agg #[.slice (some ⟨g, 0, none⟩) R.length cp]) (by simp [results, Try.results19, go_sem, ca2]) rfl ⟨_, _, R, rfl, ?_, (k1.trans (hb.mono (by omega))).setCell (by show w.heap.size ≤ w.heap.size; omega) _, by omega, fun _ => HKK.out, fun h => absurd HG.out h⟩
      exact (HK.out.1.setBelow ⟨w.heap.size, 0, none⟩ (by show w.heap.size < _; omega) _).mono (by omega)
end Go.Proofs.Ytnncedndlhfdkab

/-
  The maps of impl.gatherColumns: by column (a struct of three texts), and by timestamp.
-/
namespace Go.Proofs.Ytnncedndlhfdkab
open Go.ChangeShapes Go.WideShapes Go.ChangeAt Go.RowKit Go.Deep Go.Maps
set_option linter.unusedVariables false
set_option maxRecDepth 100000

theorem mapLaid : laidOutB Try.prog = true := by kernel_rfl
theorem rowCol : (84 : TypeId) < Try.prog.types.size := of_decide_eq_true (by kernel_rfl)
theorem wideCol : (match Try.prog.underlying 84 with | some (.array _ _) | some (.struct _) => true | _ => false) = true := by kernel_rfl
theorem lawCol : Keyed Try.prog 84 := Keyed.of_law (deep_law_laid mapLaid (m := 2) (by omega) rowCol (by kernel_rfl) wideCol)
theorem lawTs : Keyed Try.prog 60 := int_keyed Try.underlying60

abbrev colV (r f q : ByteArray) : Value := .agg #[.string r, .string f, .string q]
/-- What a column reads as. -/
def colL (r f q : ByteArray) : Lit := .string (keyBytes [.string r.data.toList, .string f.data.toList, .string q.data.toList])
theorem typesSome : ∃ n, Try.prog.types.size = n + 1 := ⟨Try.prog.types.size - 1, by have h : (84 : Nat) < Try.prog.types.size := rowCol; omega⟩
theorem keyCol {r f q : ByteArray} (hr : r.size ≤ maxLen) (hf : f.size ≤ maxLen) (hq : q.size ≤ maxLen) : keyOf Try.prog 84 (colV r f q) = some (colL r f q) := by
  have h1 : Try.prog.keyType 84 = true := by kernel_rfl
  have h2 : Try.prog.cellsOf 84 = 3 := by kernel_rfl
  obtain ⟨n, hn⟩ := typesSome
  unfold keyOf
  rw [Try.underlying84]
  simp only [h1, Value.formed, Try.underlying84, h2, hn]
  simp [Program.keyLits, Try.underlying84, Try.underlying9, h2, Try.cellsStr, Value.cells, hr, hf, hq, colL]
theorem keyTs {t : Int} (h : (Lit.int .u64 t).wf = true) : keyOf Try.prog 60 (.int .u64 t) = some (.int .u64 t) := keyOf_int_mk Try.underlying60 h

/-- An element reads as its own value. -/
def Rh : Value → Option (DataW Value × List MemPlace) := fun v => some (.held v, [])
theorem Rh_eq {v : Value} {x : DataW Value} {ps : List MemPlace} (h : Rh v = some (x, ps)) : x = .held v ∧ ps = [] := by
  unfold Rh at h
  simp at h
  exact ⟨h.1.symm, h.2⟩

/-- Block 'b' is a map from timestamps to entries: the function 'f'. -/
def Inn (w : World) (b n : Nat) (f : Int → Option Ent) : Prop :=
  ∃ D, w.ownsMap Try.prog 60 Rh b n D ∧ ∀ t, (Lit.int .u64 t).wf = true → (f t = none ∧ Maps.has D (.int .u64 t) = false) ∨ ∃ e, f t = some e ∧ Maps.has D (.int .u64 t) = true ∧ ∀ z, D.atKey (.int .u64 t) z = .held e.v
theorem Inn.lt {w : World} {b n : Nat} {f : Int → Option Ent} (h : Inn w b n f) : b < w.heap.size := by
  obtain ⟨D, h, _⟩ := h
  exact h.lt
theorem Inn.kept {w w' : World} {b n : Nat} {f : Int → Option Ent} {row : Option Nat} (h : Inn w b n f) (hg : w.grownBy w' row) (hne : some b ≠ row) : Inn w' b n f := by
  obtain ⟨D, h, k⟩ := h
  exact ⟨D, h.kept hg hne, k⟩
theorem Inn.mono {w : World} {b n n' : Nat} {f : Int → Option Ent} (h : Inn w b n f) (hn : n ≤ n') : Inn w b n' f := by
  obtain ⟨D, h, k⟩ := h
  exact ⟨D, h.mono hn, k⟩
theorem Inn.setCell {w : World} {b n : Nat} {f : Int → Option Ent} (h : Inn w b n f) {a : Addr} (ha : b ≠ a.block) (u : Value) : Inn (w.setCell a u) b n f := by
  obtain ⟨D, h, k⟩ := h
  exact ⟨D, h.setCell ha u, k⟩
theorem grown_setNew {w w' : World} {row : Option Nat} (h : w.grownBy w' row) {a : Addr} (ha : w.heap.size ≤ a.block) (u : Value) : w.grownBy (w'.setCell a u) row := by
  have k := (Below.refl a.block w').setCell (Nat.le_refl _) (p := a) u
  exact ⟨k.os.trans h.os, k.tape.trans h.tape, k.output.trans h.output, Nat.le_trans h.size k.size, fun j hj hne => (Below.heap_setCell w' a u j (by omega)).trans (h.block j hj hne)⟩
theorem below4 (w : World) (a b c d : Obj) : Below w.heap.size w ((((w.alloc a).alloc b).alloc c).alloc d) := ((((Below.refl _ _).alloc (Nat.le_refl _) _).alloc (by simp) _).alloc (by simp; omega) _).alloc (by simp; omega) _
theorem Inn.made (w : World) : Inn (w.alloc (.map #[] 0)) w.heap.size 0 (fun _ => none) :=
  ⟨.map [], World.ownsMap_made w Try.prog 60 Rh, fun t _ => .inl ⟨rfl, rfl⟩⟩

set_option maxHeartbeats 1000000 in
theorem withEarlier_del (d : Bool) (u : Int) (m : Option Nat) (e : Ent) (w : World) (hk : e.kind = 2) :
    Calls Try.prog 73 #[.agg #[.bool d, .int .u64 u, .map m], e.v] w fun r w' =>
      r = .returned (.agg #[.bool true, .int .u64 (max u e.ts), .map m]) ∧ Below w.heap.size w w' := by
  have g2 : (e.kind == 2) = true := by simp [hk]
  clear hk
  unfold Ent.v
  go_enter Try.func73, Try.ntmps73
  go_wp2
  refine bodyPost_ret (v := .agg #[.bool true, .int .u64 (max u e.ts), .map m]) (by simp [results, Try.results73, go_sem]) rfl ⟨rfl, ?_⟩
  exact (((Below.refl _ _).alloc (Nat.le_refl _) _).alloc (by simp) _).alloc (by simp; omega) _

set_option maxHeartbeats 1000000 in
theorem withEarlier_gone (u : Int) (m : Option Nat) (e : Ent) (w : World) (hk : ¬ e.kind = 2) (hu : e.ts ≤ u) :
    Calls Try.prog 73 #[.agg #[.bool true, .int .u64 u, .map m], e.v] w fun r w' =>
      r = .returned (.agg #[.bool true, .int .u64 u, .map m]) ∧ Below w.heap.size w w' := by
  have g2 : (e.kind == 2) = false := by simp [hk]
  clear hk
  unfold Ent.v
  go_enter Try.func73, Try.ntmps73
  go_wp2
  refine bodyPost_ret (v := .agg #[.bool true, .int .u64 u, .map m]) (by simp [results, Try.results73, go_sem]) rfl ⟨rfl, ?_⟩
  exact (((Below.refl _ _).alloc (Nat.le_refl _) _).alloc (by simp) _).alloc (by simp; omega) _

theorem zeroE6 (w : World) : (zeroValue 62).run Try.prog w = .ok (.agg #[.string ⟨#[]⟩, .string ⟨#[]⟩, .string ⟨#[]⟩, .int .u64 0, .int .i64 0, .string ⟨#[]⟩]) w := by kernel_rfl
/-- 'v, ok := m[t]' in a map of entries. -/
theorem Inn.look {w : World} {b n : Nat} {f : Int → Option Ent} (h : Inn w b n f) {t : Int} (ht : (Lit.int .u64 t).wf = true) :
    ∃ v : Ent, (Instr.lookup 85 (.map (some b)) (.int .u64 t) true).run Try.prog w = .ok (.tuple #[v.v, .bool (f t).isSome]) w := by
  obtain ⟨D, hD, hv⟩ := h
  obtain ⟨v, ps, hrun, hR⟩ := hD.look_ok lawTs Try.underlying85 (zeroE6 w) (zd := .held zeroE.v) (zp := []) rfl (keyTs ht)
  have hR' := (Rh_eq hR).1
  rcases hv t ht with ⟨h1, h2⟩ | ⟨e, h1, h2, h3⟩
  · rw [Maps.atKey_of_not_has h2] at hR'
    simp only [DataW.held.injEq] at hR'
    rw [← hR', h2] at hrun
    exact ⟨zeroE, by rw [h1]; exact hrun⟩
  · rw [h3] at hR'
    simp only [DataW.held.injEq] at hR'
    rw [← hR', h2] at hrun
    exact ⟨e, by rw [h1]; exact hrun⟩
theorem Inn.put {w : World} {b n : Nat} {f : Int → Option Ent} (h : Inn w b n f) (hn : n < maxLen) (e : Ent) (ht : (Lit.int .u64 e.ts).wf = true) :
    ∃ w', (Instr.mapUpdate 85 (.map (some b)) (.int .u64 e.ts) e.v).run Try.prog w = .ok () w' ∧ Inn w' b (n + 1) (fun t => if t = e.ts then some e else f t) ∧ w.grownBy w' (some b) := by
  obtain ⟨D, hD, hv⟩ := h
  obtain ⟨w', hrun, ho, hg⟩ := hD.update lawTs Try.underlying85 hn (keyTs ht) (val := e.v) (d := .held e.v) (ps := []) rfl
  refine ⟨w', hrun, ⟨_, ho, fun t hw => ?_⟩, hg⟩
  by_cases he : t = e.ts
  · subst he
    refine .inr ⟨e, by simp, Maps.has_put_same hD.isMap (lawTs.key (keyTs ht)) _, fun z => Maps.atKey_put_same hD.isMap (lawTs.key (keyTs ht)) _ z⟩
  · have hne : (Lit.int .u64 t) ≠ (Lit.int .u64 e.ts) := fun q => he (by injection q)
    rcases hv t hw with ⟨h1, h2⟩ | ⟨e', h1, h2, h3⟩
    · exact .inl ⟨by simp [he, h1], by rw [Maps.has_put_other hne]; exact h2⟩
    · exact .inr ⟨e', by simp [he, h1], by rw [Maps.has_put_other hne]; exact h2, fun z => by rw [Maps.atKey_put_other hne]; exact h3 z⟩

set_option maxHeartbeats 1000000 in
set_option maxRecDepth 100000 in
theorem withEarlier_old (d : Bool) (u : Int) (b n : Nat) (f : Int → Option Ent) (e : Ent) (w : World) (hk : ¬ e.kind = 2) (hu : d = true → ¬ e.ts ≤ u) (hI : Inn w b n f) (hn : n < maxLen) (hw : (Lit.int .u64 e.ts).wf = true) :
    Calls Try.prog 73 #[.agg #[.bool d, .int .u64 u, .map (some b)], e.v] w fun r w' =>
      r = .returned (.agg #[.bool d, .int .u64 u, .map (some b)]) ∧ Inn w' b (n + 1) (fun t => if t = e.ts then (if (f t).isSome then f t else some e) else f t) ∧ w.grownBy w' (some b) := by
  have g2 : (e.kind == 2) = false := by simp [hk]
  have hb := hI.lt
  have HI : Hid (Inn w b n f ∧ n < maxLen ∧ (Lit.int .u64 e.ts).wf = true) := ⟨hI, hn, hw⟩
  clear hk hI hn hw
  have hnil : ∀ wx, (binOp .eql 85 (.map (some b)) (.map none)).run Try.prog wx = .ok (.bool false) wx :=
    fun wx => run_eql_map_nil wx _ _ _ (some b) Try.underlying85
  have hbox : Below w.heap.size w (((w.alloc (Obj.cells #[.bool d, .int .u64 u, .map (some b)] 87)).alloc (Obj.cells #[.string e.row, .string e.fam, .string e.qual, .int .u64 e.ts, .int .i64 e.kind, .string e.val] 62)).alloc (Obj.cells #[.bool false, .int .u64 0, .map none] 87)) :=
    (((Below.refl _ _).alloc (Nat.le_refl _) _).alloc (by simp) _).alloc (by simp; omega) _
  have hIb := HI.out.1.kept (row := none) ⟨hbox.os, hbox.tape, hbox.output, hbox.size, fun k hk _ => hbox.block k hk⟩ (by simp)
  obtain ⟨v, hlook⟩ := hIb.look HI.out.2.2
  have HIb : Hid (Inn (((w.alloc (Obj.cells #[.bool d, .int .u64 u, .map (some b)] 87)).alloc (Obj.cells #[.string e.row, .string e.fam, .string e.qual, .int .u64 e.ts, .int .i64 e.kind, .string e.val] 62)).alloc (Obj.cells #[.bool false, .int .u64 0, .map none] 87)) b n f) := hIb
  clear hIb hbox
  have hIc := HIb.out.kept (row := none) (World.grownBy_alloc _ (Obj.cells #[.string v.row, .string v.fam, .string v.qual, .int .u64 v.ts, .int .i64 v.kind, .string v.val] 62) none) (by simp)
  obtain ⟨w4, hput, hI4, hg4⟩ := hIc.put HI.out.2.1 e HI.out.2.2
  have hbx : Below w.heap.size w ((((w.alloc (Obj.cells #[.bool d, .int .u64 u, .map (some b)] 87)).alloc (Obj.cells #[.string e.row, .string e.fam, .string e.qual, .int .u64 e.ts, .int .i64 e.kind, .string e.val] 62)).alloc (Obj.cells #[.bool false, .int .u64 0, .map none] 87)).alloc (Obj.cells #[.string v.row, .string v.fam, .string v.qual, .int .u64 v.ts, .int .i64 v.kind, .string v.val] 62)) := ((((Below.refl _ _).alloc (Nat.le_refl _) _).alloc (by simp) _).alloc (by simp; omega) _).alloc (by simp; omega) _
  have hs4 := hg4.size
  simp at hs4
  have hbl : ∀ j, j ≠ b → j < w.heap.size + 4 → w4.heap[j]? = ((((w.alloc (Obj.cells #[.bool d, .int .u64 u, .map (some b)] 87)).alloc (Obj.cells #[.string e.row, .string e.fam, .string e.qual, .int .u64 e.ts, .int .i64 e.kind, .string e.val] 62)).alloc (Obj.cells #[.bool false, .int .u64 0, .map none] 87)).alloc (Obj.cells #[.string v.row, .string v.fam, .string v.qual, .int .u64 v.ts, .int .i64 v.kind, .string v.val] 62)).heap[j]? := fun j h1 h2 => hg4.block j (by simp; omega) (fun q => h1 (by injection q))
  have c40 : ∀ o, w4.cell? ⟨w.heap.size, o, none⟩ = ((((w.alloc (Obj.cells #[.bool d, .int .u64 u, .map (some b)] 87)).alloc (Obj.cells #[.string e.row, .string e.fam, .string e.qual, .int .u64 e.ts, .int .i64 e.kind, .string e.val] 62)).alloc (Obj.cells #[.bool false, .int .u64 0, .map none] 87)).alloc (Obj.cells #[.string v.row, .string v.fam, .string v.qual, .int .u64 v.ts, .int .i64 v.kind, .string v.val] 62)).cell? ⟨w.heap.size, o, none⟩ := fun o => World.cell?_of_block (hbl _ (by show w.heap.size ≠ b; omega) (by show w.heap.size < _; omega))
  have c42 : ∀ o, w4.cell? ⟨w.heap.size + 1 + 1, o, none⟩ = ((((w.alloc (Obj.cells #[.bool d, .int .u64 u, .map (some b)] 87)).alloc (Obj.cells #[.string e.row, .string e.fam, .string e.qual, .int .u64 e.ts, .int .i64 e.kind, .string e.val] 62)).alloc (Obj.cells #[.bool false, .int .u64 0, .map none] 87)).alloc (Obj.cells #[.string v.row, .string v.fam, .string v.qual, .int .u64 v.ts, .int .i64 v.kind, .string v.val] 62)).cell? ⟨w.heap.size + 1 + 1, o, none⟩ := fun o => World.cell?_of_block (hbl _ (by show w.heap.size + 1 + 1 ≠ b; omega) (by show w.heap.size + 1 + 1 < _; omega))
  have f42 : ∀ o, w4.frozen? ⟨w.heap.size + 1 + 1, o, none⟩ = ((((w.alloc (Obj.cells #[.bool d, .int .u64 u, .map (some b)] 87)).alloc (Obj.cells #[.string e.row, .string e.fam, .string e.qual, .int .u64 e.ts, .int .i64 e.kind, .string e.val] 62)).alloc (Obj.cells #[.bool false, .int .u64 0, .map none] 87)).alloc (Obj.cells #[.string v.row, .string v.fam, .string v.qual, .int .u64 v.ts, .int .i64 v.kind, .string v.val] 62)).frozen? ⟨w.heap.size + 1 + 1, o, none⟩ := fun o => World.frozen?_of_block (hbl _ (by show w.heap.size + 1 + 1 ≠ b; omega) (by show w.heap.size + 1 + 1 < _; omega))
  have H4 : Hid (Inn w4 b (n + 1) (fun t => if t = e.ts then some e else f t) ∧ w.grownBy w4 (some b)) :=
    ⟨hI4, ⟨hg4.os.trans hbx.os, hg4.tape.trans hbx.tape, hg4.output.trans hbx.output, by omega, fun j hj hne => (hg4.block j (by simp; omega) hne).trans (hbx.block j hj)⟩⟩
  clear hIc hI4 hg4 hbl hbx
  unfold Ent.v at *
  cases hf : (f e.ts).isSome
  · rw [hf] at hlook
    have HF : Hid ((f e.ts).isSome = false) := hf
    clear hf
    cases d
    · clear hu
      go_enter Try.func73, Try.ntmps73
      go_wp2_with fail
      refine bodyPost_ret (v := .agg #[.bool false, .int .u64 u, .map (some b)]) (by simp [results, Try.results73, go_sem, c42]) rfl ⟨rfl, ?_, ?_⟩
      · rw [show (fun t => if t = e.ts then (if (f t).isSome then f t else some e) else f t) = (fun t => if t = e.ts then some e else f t) from funext fun t => by
          by_cases q : t = e.ts
          · subst q; simp [HF.out]
          · simp [q]]
        exact ((H4.out.1.setCell (by show b ≠ w.heap.size + 1 + 1; omega) _).setCell (by show b ≠ w.heap.size + 1 + 1; omega) _).setCell (by show b ≠ w.heap.size + 1 + 1; omega) _
      · exact grown_setNew (grown_setNew (grown_setNew H4.out.2 (by show w.heap.size ≤ w.heap.size + 1 + 1; omega) _) (by show w.heap.size ≤ w.heap.size + 1 + 1; omega) _) (by show w.heap.size ≤ w.heap.size + 1 + 1; omega) _
    · have hu' : ¬ e.ts ≤ u := hu rfl
      clear hu
      go_enter Try.func73, Try.ntmps73
      go_wp2_with fail
      refine bodyPost_ret (v := .agg #[.bool true, .int .u64 u, .map (some b)]) (by simp [results, Try.results73, go_sem, c42]) rfl ⟨rfl, ?_, ?_⟩
      · rw [show (fun t => if t = e.ts then (if (f t).isSome then f t else some e) else f t) = (fun t => if t = e.ts then some e else f t) from funext fun t => by
          by_cases q : t = e.ts
          · subst q; simp [HF.out]
          · simp [q]]
        exact ((H4.out.1.setCell (by show b ≠ w.heap.size + 1 + 1; omega) _).setCell (by show b ≠ w.heap.size + 1 + 1; omega) _).setCell (by show b ≠ w.heap.size + 1 + 1; omega) _
      · exact grown_setNew (grown_setNew (grown_setNew H4.out.2 (by show w.heap.size ≤ w.heap.size + 1 + 1; omega) _) (by show w.heap.size ≤ w.heap.size + 1 + 1; omega) _) (by show w.heap.size ≤ w.heap.size + 1 + 1; omega) _
  · rw [hf] at hlook
    have HF : Hid ((f e.ts).isSome = true) := hf
    clear hf hput c40 c42 f42
    cases d
    · clear hu
      go_enter Try.func73, Try.ntmps73
      go_wp2_with fail
      refine bodyPost_ret (v := .agg #[.bool false, .int .u64 u, .map (some b)]) (by simp [results, Try.results73, go_sem]) rfl ⟨rfl, ?_, ?_⟩
      · rw [show (fun t => if t = e.ts then (if (f t).isSome then f t else some e) else f t) = f from funext fun t => by
          by_cases q : t = e.ts
          · subst q; simp [HF.out]
          · simp [q]]
        exact (HI.out.1.kept (row := none) (grown_of_below (below4 w _ _ _ _) none) (by simp)).mono (by omega)
      · exact grown_of_below (below4 w _ _ _ _) _
    · have hu' : ¬ e.ts ≤ u := hu rfl
      clear hu
      go_enter Try.func73, Try.ntmps73
      go_wp2_with fail
      refine bodyPost_ret (v := .agg #[.bool true, .int .u64 u, .map (some b)]) (by simp [results, Try.results73, go_sem]) rfl ⟨rfl, ?_, ?_⟩
      · rw [show (fun t => if t = e.ts then (if (f t).isSome then f t else some e) else f t) = f from funext fun t => by
          by_cases q : t = e.ts
          · subst q; simp [HF.out]
          · simp [q]]
        exact (HI.out.1.kept (row := none) (grown_of_below (below4 w _ _ _ _) none) (by simp)).mono (by omega)
      · exact grown_of_below (below4 w _ _ _ _) _

set_option maxHeartbeats 1000000 in
set_option maxRecDepth 100000 in
theorem withEarlier_new (d : Bool) (u : Int) (e : Ent) (w : World) (hk : ¬ e.kind = 2) (hu : d = true → ¬ e.ts ≤ u) (hw : (Lit.int .u64 e.ts).wf = true) :
    Calls Try.prog 73 #[.agg #[.bool d, .int .u64 u, .map none], e.v] w fun r w' =>
      ∃ b, r = .returned (.agg #[.bool d, .int .u64 u, .map (some b)]) ∧ w.heap.size ≤ b ∧ Inn w' b 1 (fun t => if t = e.ts then some e else none) ∧ Below w.heap.size w w' := by
  have g2 : (e.kind == 2) = false := by simp [hk]
  have HI : Hid ((Lit.int .u64 e.ts).wf = true) := hw
  clear hk hw
  have hnil : ∀ wx, (binOp .eql 85 (.map none) (.map none)).run Try.prog wx = .ok (.bool true) wx :=
    fun wx => run_eql_map_nil wx _ _ _ none Try.underlying85
  have hmm := @run_makeMap Try.prog
  have hI4 : Inn ((((w.alloc (Obj.cells #[.bool d, .int .u64 u, .map (some (w.heap.size + 1 + 1 + 1))] 87)).alloc (Obj.cells #[.string e.row, .string e.fam, .string e.qual, .int .u64 e.ts, .int .i64 e.kind, .string e.val] 62)).alloc (Obj.cells #[.bool false, .int .u64 0, .map none] 87)).alloc (Obj.map #[] 0)) (w.heap.size + 1 + 1 + 1) 0 (fun _ => none) := by
    have h := Inn.made (((w.alloc (Obj.cells #[.bool d, .int .u64 u, .map (some (w.heap.size + 1 + 1 + 1))] 87)).alloc (Obj.cells #[.string e.row, .string e.fam, .string e.qual, .int .u64 e.ts, .int .i64 e.kind, .string e.val] 62)).alloc (Obj.cells #[.bool false, .int .u64 0, .map none] 87))
    have hz : (((w.alloc (Obj.cells #[.bool d, .int .u64 u, .map (some (w.heap.size + 1 + 1 + 1))] 87)).alloc (Obj.cells #[.string e.row, .string e.fam, .string e.qual, .int .u64 e.ts, .int .i64 e.kind, .string e.val] 62)).alloc (Obj.cells #[.bool false, .int .u64 0, .map none] 87)).heap.size = w.heap.size + 1 + 1 + 1 := by simp
    rw [hz] at h
    exact h
  obtain ⟨v, hlook⟩ := hI4.look HI.out
  have hI5 := hI4.kept (row := none) (World.grownBy_alloc _ (Obj.cells #[.string v.row, .string v.fam, .string v.qual, .int .u64 v.ts, .int .i64 v.kind, .string v.val] 62) none) (by simp)
  obtain ⟨w6, hput, hI6, hg6⟩ := hI5.put (by unfold maxLen; omega) e HI.out
  have hbx : Below w.heap.size w (((((w.alloc (Obj.cells #[.bool d, .int .u64 u, .map (some (w.heap.size + 1 + 1 + 1))] 87)).alloc (Obj.cells #[.string e.row, .string e.fam, .string e.qual, .int .u64 e.ts, .int .i64 e.kind, .string e.val] 62)).alloc (Obj.cells #[.bool false, .int .u64 0, .map none] 87)).alloc (Obj.map #[] 0)).alloc (Obj.cells #[.string v.row, .string v.fam, .string v.qual, .int .u64 v.ts, .int .i64 v.kind, .string v.val] 62)) := (below4 w _ _ _ _).alloc (by simp; omega) _
  have hs6 := hg6.size
  simp at hs6
  have hbl : ∀ j, j ≠ w.heap.size + 1 + 1 + 1 → j < w.heap.size + 5 → w6.heap[j]? = (((((w.alloc (Obj.cells #[.bool d, .int .u64 u, .map (some (w.heap.size + 1 + 1 + 1))] 87)).alloc (Obj.cells #[.string e.row, .string e.fam, .string e.qual, .int .u64 e.ts, .int .i64 e.kind, .string e.val] 62)).alloc (Obj.cells #[.bool false, .int .u64 0, .map none] 87)).alloc (Obj.map #[] 0)).alloc (Obj.cells #[.string v.row, .string v.fam, .string v.qual, .int .u64 v.ts, .int .i64 v.kind, .string v.val] 62)).heap[j]? := fun j h1 h2 => hg6.block j (by simp; omega) (fun q => h1 (by injection q))
  have c60 : ∀ o, w6.cell? ⟨w.heap.size, o, none⟩ = (((((w.alloc (Obj.cells #[.bool d, .int .u64 u, .map (some (w.heap.size + 1 + 1 + 1))] 87)).alloc (Obj.cells #[.string e.row, .string e.fam, .string e.qual, .int .u64 e.ts, .int .i64 e.kind, .string e.val] 62)).alloc (Obj.cells #[.bool false, .int .u64 0, .map none] 87)).alloc (Obj.map #[] 0)).alloc (Obj.cells #[.string v.row, .string v.fam, .string v.qual, .int .u64 v.ts, .int .i64 v.kind, .string v.val] 62)).cell? ⟨w.heap.size, o, none⟩ := fun o => World.cell?_of_block (hbl _ (by show w.heap.size ≠ _; omega) (by show w.heap.size < _; omega))
  have c62 : ∀ o, w6.cell? ⟨w.heap.size + 1 + 1, o, none⟩ = (((((w.alloc (Obj.cells #[.bool d, .int .u64 u, .map (some (w.heap.size + 1 + 1 + 1))] 87)).alloc (Obj.cells #[.string e.row, .string e.fam, .string e.qual, .int .u64 e.ts, .int .i64 e.kind, .string e.val] 62)).alloc (Obj.cells #[.bool false, .int .u64 0, .map none] 87)).alloc (Obj.map #[] 0)).alloc (Obj.cells #[.string v.row, .string v.fam, .string v.qual, .int .u64 v.ts, .int .i64 v.kind, .string v.val] 62)).cell? ⟨w.heap.size + 1 + 1, o, none⟩ := fun o => World.cell?_of_block (hbl _ (by show w.heap.size + 1 + 1 ≠ _; omega) (by show w.heap.size + 1 + 1 < _; omega))
  have f62 : ∀ o, w6.frozen? ⟨w.heap.size + 1 + 1, o, none⟩ = (((((w.alloc (Obj.cells #[.bool d, .int .u64 u, .map (some (w.heap.size + 1 + 1 + 1))] 87)).alloc (Obj.cells #[.string e.row, .string e.fam, .string e.qual, .int .u64 e.ts, .int .i64 e.kind, .string e.val] 62)).alloc (Obj.cells #[.bool false, .int .u64 0, .map none] 87)).alloc (Obj.map #[] 0)).alloc (Obj.cells #[.string v.row, .string v.fam, .string v.qual, .int .u64 v.ts, .int .i64 v.kind, .string v.val] 62)).frozen? ⟨w.heap.size + 1 + 1, o, none⟩ := fun o => World.frozen?_of_block (hbl _ (by show w.heap.size + 1 + 1 ≠ _; omega) (by show w.heap.size + 1 + 1 < _; omega))
  have H6 : Hid (Inn w6 (w.heap.size + 1 + 1 + 1) 1 (fun t => if t = e.ts then some e else none) ∧ Below w.heap.size w w6) :=
    ⟨hI6, ⟨hg6.os.trans hbx.os, hg6.tape.trans hbx.tape, hg6.output.trans hbx.output, by omega, fun j hj => (hg6.block j (by simp; omega) (fun q => by injection q; omega)).trans (hbx.block j hj)⟩⟩
  clear hI4 hI5 hI6 hg6 hbl hbx
  unfold Ent.v at *
  cases d
  · clear hu
    go_enter Try.func73, Try.ntmps73
    go_wp2_with fail
    refine bodyPost_ret (v := .agg #[.bool false, .int .u64 u, .map (some (w.heap.size + 1 + 1 + 1))]) (by simp [results, Try.results73, go_sem, c62]) rfl ⟨_, rfl, by omega, ?_, ?_⟩
    · exact ((H6.out.1.setCell (by show w.heap.size + 1 + 1 + 1 ≠ w.heap.size + 1 + 1; omega) _).setCell (by show w.heap.size + 1 + 1 + 1 ≠ w.heap.size + 1 + 1; omega) _).setCell (by show w.heap.size + 1 + 1 + 1 ≠ w.heap.size + 1 + 1; omega) _
    · exact ((H6.out.2.setCell (by show w.heap.size ≤ w.heap.size + 1 + 1; omega) _).setCell (by show w.heap.size ≤ w.heap.size + 1 + 1; omega) _).setCell (by show w.heap.size ≤ w.heap.size + 1 + 1; omega) _
  · have hu' : ¬ e.ts ≤ u := hu rfl
    clear hu
    go_enter Try.func73, Try.ntmps73
    go_wp2_with fail
    refine bodyPost_ret (v := .agg #[.bool true, .int .u64 u, .map (some (w.heap.size + 1 + 1 + 1))]) (by simp [results, Try.results73, go_sem, c62]) rfl ⟨_, rfl, by omega, ?_, ?_⟩
    · exact ((H6.out.1.setCell (by show w.heap.size + 1 + 1 + 1 ≠ w.heap.size + 1 + 1; omega) _).setCell (by show w.heap.size + 1 + 1 + 1 ≠ w.heap.size + 1 + 1; omega) _).setCell (by show w.heap.size + 1 + 1 + 1 ≠ w.heap.size + 1 + 1; omega) _
    · exact ((H6.out.2.setCell (by show w.heap.size ≤ w.heap.size + 1 + 1; omega) _).setCell (by show w.heap.size ≤ w.heap.size + 1 + 1; omega) _).setCell (by show w.heap.size ≤ w.heap.size + 1 + 1; omega) _
end Go.Proofs.Ytnncedndlhfdkab

