/-
  (impl.seqNode).prefix, impl.PrefixOf.
-/
import Derived.Test.YthkmecppjhcidaaPl
import Derived.Test.YthkmecppjhcidaaPxU
import Derived.Test.YthkmecppjhcidaaBysA
namespace Go.Proofs.Ythkmecppjhcidaa
open Go.ChangeShapes Go.WideShapes Go.ChangeAt Go.RowKit Go.Deep
set_option linter.unusedVariables false
set_option linter.unusedSimpArgs false
set_option maxRecDepth 100000

theorem pb_assert (b : UInt8) (w : World) : (Instr.typeAssert (byteV b) 88 90 true).run Try.prog w = .ok (.tuple #[.agg #[.int .u8 (b.toNat : Int)], .bool true]) w := by kernel_rfl
theorem pb_other {T : Nat} (hT : T = 105 ∨ T = 99 ∨ T = 65) (cs : Array Value) (w : World) : (Instr.typeAssert (.iface T (.agg cs)) 88 90 true).run Try.prog w = .ok (.tuple #[.agg #[.int .u8 0], .bool false]) w := by
  rcases hT with rfl | rfl | rfl <;> kernel_rfl
theorem conv_ownY {w : World} {base g cap : Nat} {zs : List UInt8} (h : OwnY w base g cap zs) : (convert 30 9 (.slice (some ⟨g, 0, none⟩) zs.length cap)).run Try.prog w = .ok (.string ⟨zs.toArray⟩) w := by
  refine run_convert_bytes_back (P := Try.prog) w 30 9 5 ⟨g, 0, none⟩ cap zs Try.underlying30 Try.underlying5 Try.underlying9 ?_
  intro i hi
  have := World.ownsRow.cellAt h i (by omega)
  rw [Addr.add_mid, Nat.zero_add, this, List.getElem?_map, List.getElem?_eq_getElem hi]
  rfl
/-- A node that is a byte, and one that is not. -/
theorem NodeOk.kind {w : World} {lo : Nat → Prop} {t : Pat} {v : Value} (h : NodeOk w lo t v) : (∃ b, t = .byte b ∧ v = byteV b) ∨ (¬ isByte t ∧ ∃ T cs, v = .iface T (.agg cs) ∧ (T = 105 ∨ T = 99 ∨ T = 65)) := by
  obtain ⟨n, hn⟩ := h
  cases n with
  | zero => exact hn.elim
  | succ n =>
    cases t with
    | byte b => exact .inl ⟨b, rfl, hn⟩
    | cls f => exact .inr ⟨fun h => h, _, _, hn, .inl rfl⟩
    | rep t o r => obtain ⟨u, h1, _⟩ := hn; exact .inr ⟨fun h => h, _, _, h1, .inr (.inl rfl)⟩
    | alt os => obtain ⟨u, h1, _⟩ := hn; exact .inr ⟨fun h => h, _, _, h1, .inr (.inr rfl)⟩
/-- A seq's nodes, one by one. -/
theorem SeqAt.nth {w : World} {R : Nat → Prop} {ts : List Pat} {u : Value} (h : SeqAt w R ts u) : ∃ a cp, u = .slice a ts.length cp ∧ ∀ k t, ts[k]? = some t → ∃ gs v, a = some ⟨gs, 0, none⟩ ∧ gs < w.heap.size ∧ w.cell? ⟨gs, k, none⟩ = some v ∧ NodeOk w R t v := by
  obtain ⟨n, h | ⟨g, cp, us, h1, h2, h3, h4⟩⟩ := h
  · obtain ⟨rfl, rfl⟩ := h
    exact ⟨none, 0, rfl, fun k t ht => by simp at ht⟩
  · refine ⟨_, cp, h1, fun k t ht => ?_⟩
    have hk := (List.getElem?_eq_some_iff.1 ht).1
    obtain ⟨v, hv⟩ : ∃ v, us[k]? = some v := ⟨_, List.getElem?_eq_getElem (by omega)⟩
    exact ⟨g, v, rfl, h3.lt, h3.val k v hv, n, h4 k v t hv ht⟩
/-- The state of the loop of prefix. -/
structure PxJ (w : World) (ts : List Pat) (k g cp : Nat) (xs : List UInt8) (wr : World) : Prop where
  len : xs.length = k
  pre : prefM ts = (xs ++ (prefM (ts.drop k)).1, (prefM (ts.drop k)).2)
  own : OwnY wr (w.heap.size + 2) g cp xs
  res : BoxAt wr w.heap.size 51 2 (w.heap.size + 1) [.string ⟨#[]⟩, .bool false]
  below : Below w.heap.size w wr
def set2 (w : World) (g : Nat) (a b : Value) : World := (w.setCell ⟨g, 0, none⟩ a).setCell ⟨g, 1, none⟩ b
theorem set2_cells {w : World} {base t g : Nat} {x y : Value} (h : BoxAt w base t 2 g [x, y]) (a b : Value) : BoxAt (set2 w g a b) base t 2 g [a, b] := ((h.set 0 a).set 1 b)

set_option maxHeartbeats 8000000 in
theorem prefix_core {w : World} {R : Nat → Prop} {ts : List Pat} {u : Value} (h : SeqAt w R ts u) (hl : ts.length ≤ 1000) : Calls Try.prog 40 #[.agg #[u]] w fun e w' => e = .returned (.agg #[.string ⟨(prefM ts).1.toArray⟩, .bool (prefM ts).2]) ∧ Below w.heap.size w w' := by
  obtain ⟨a, cp, rfl, hn⟩ := h.nth
  have HN : Hid (∀ k t, ts[k]? = some t → ∃ gs v, a = some ⟨gs, 0, none⟩ ∧ gs < w.heap.size ∧ w.cell? ⟨gs, k, none⟩ = some v ∧ NodeOk w R t v) := hn
  clear h hn
  obtain ⟨n, hnn⟩ : ∃ n, n = ts.length := ⟨_, rfl⟩
  have HL : Hid (n = ts.length) := hnn
  rw [← hnn] at hl ⊢
  clear hnn
  obtain ⟨W0, hW0⟩ : ∃ W0 : World, W0 = ((w.alloc (Obj.cells #[.slice a n cp] 73)).alloc (Obj.cells #[.string ⟨#[]⟩, .bool false] 51)).alloc (Obj.cells #[] 5) := ⟨_, rfl⟩
  have HW0 : Hid (PxJ w ts 0 (w.heap.size + 2) 0 [] W0 ∧ W0.cell? ⟨w.heap.size, 0, none⟩ = some (.slice a n cp)) := by
    obtain ⟨V, hV⟩ : ∃ V : World, V = (w.alloc (Obj.cells #[.slice a n cp] 73)).alloc (Obj.cells #[.string ⟨#[]⟩, .bool false] 51) := ⟨_, rfl⟩
    have hz : V.heap.size = w.heap.size + 2 := by rw [hV]; simp
    have hbV : Below w.heap.size w V := by rw [hV]; exact ((Below.refl _ _).alloc (Nat.le_refl _) _).alloc (by simp) _
    have b1 : BoxAt V w.heap.size 73 1 w.heap.size [.slice a n cp] := by rw [hV]; exact BoxAt.ofHeap (vs := #[.slice a n cp]) (heap_alloc2_old w _ _) (Nat.le_refl _) rfl
    have b2 : BoxAt V w.heap.size 51 2 (w.heap.size + 1) [.string ⟨#[]⟩, .bool false] := by rw [hV]; exact BoxAt.ofHeap (vs := #[.string ⟨#[]⟩, .bool false]) (heap_alloc2_new w _ _) (by omega) rfl
    have hb0 : Below V.heap.size V W0 := by rw [hW0, ← hV]; exact (Below.refl _ _).alloc (Nat.le_refl _) _
    refine ⟨⟨rfl, by simp, ?_, b2.below hb0, hbV.trans (hb0.mono (by omega))⟩, (b1.below hb0).cell (j := 0) rfl⟩
    rw [hW0, ← hV, ← hz]
    exact ownY_new V (Nat.le_refl _)
  go_enter Try.func40, Try.ntmps40
  go_upto_region 2 with fail
  rw [← hW0]
  clear hW0
  have c0 := HW0.out.2
  go_wp2_with fail
  clear c0
  go_loopw [3, 12] (fun o i wr => ∃ (k g cq : Nat) (xs : List UInt8), k ≤ n ∧ i = .int .i64 (k : Int) ∧ o = .slice (some ⟨g, 0, none⟩) k cq ∧ PxJ w ts k g cq xs wr) (fun _ i _ => n - (intOf i).toNat)
  case atStart => exact ⟨0, _, 0, [], Nat.zero_le _, rfl, rfl, HW0.out.1⟩
  case round =>
    obtain ⟨k, g, cq, xs, hk, rfl, rfl, hJ⟩ := hrel
    have HJ : Hid (PxJ w ts k g cq xs wr) := hJ
    have hgl := hJ.own.lt
    have hxl := hJ.len
    have hsz := hJ.below.size
    have r0 := hJ.res.cell (j := 0) rfl
    have r1 := hJ.res.cell (j := 1) rfl
    have f0 := hJ.res.frozen 0
    have f1 := hJ.res.frozen 1
    clear hJ HW0
    by_cases hlt : k < n
    · have zk : (k : Int) < (n : Int) := by omega
      obtain ⟨t, ht⟩ : ∃ t, ts[k]? = some t := ⟨_, List.getElem?_eq_getElem (by have := HL.out; omega)⟩
      obtain ⟨gs, v, rfl, hgs, hv, hN⟩ := HN.out k t ht
      have hv2 : wr.cell? ⟨gs, k, none⟩ = some v := by
        rw [(Chg.of_below HJ.out.below (S := fun _ => False)).cell (p := ⟨gs, k, none⟩) hgs (fun q => q)]; exact hv
      have hdrop : ts.drop k = t :: ts.drop (k + 1) := by
        rw [List.drop_eq_getElem_cons (by have := HL.out; omega)]
        congr 1
        exact Option.some.inj ((List.getElem?_eq_getElem (by have := HL.out; omega)).symm.trans ht)
      have HD : Hid (ts.drop k = t :: ts.drop (k + 1)) := hdrop
      clear hv hdrop ht
      rcases hN.kind with ⟨b, rfl, rfl⟩ | ⟨hnb, T, cs, rfl, hT⟩
      · have ha := pb_assert b
        clear hN
        have HP : Hid (prefM ts = ((xs ++ [b]) ++ (prefM (ts.drop (k + 1))).1, (prefM (ts.drop (k + 1))).2)) := by
          show prefM ts = _
          rw [HJ.out.pre, HD.out]; simp [prefM]
        obtain ⟨W5, hW5⟩ : ∃ W5 : World, W5 = wr.alloc (Obj.cells #[.int .u8 (b.toNat : Int)] 90) := ⟨_, rfl⟩
        have hb5 : Below wr.heap.size wr W5 := by rw [hW5]; exact (Below.refl _ _).alloc (Nat.le_refl _) _
        have hz5 : W5.heap.size = wr.heap.size + 1 := by rw [hW5]; simp
        have HJ5 : Hid (PxJ w ts k g cq xs W5) := ⟨HJ.out.len, HJ.out.pre, HJ.out.own.below hb5, HJ.out.res.below hb5, HJ.out.below.trans (hb5.mono hsz)⟩
        have b5 : W5.cell? ⟨wr.heap.size, 0, none⟩ = some (.int .u8 (b.toNat : Int)) := by
          rw [hW5]; exact (boxAt_new wr (base := 0) (t := 90) (sz := 1) #[.int .u8 (b.toNat : Int)] (Nat.zero_le _) rfl).cell (j := 0) rfl
        go_upto_region 6 with fail
        rw [← hW5]
        clear hW5 hv2 r0 r1 f0 f1 ha HJ
        obtain ⟨W6, hW6⟩ : ∃ W6 : World, W6 = W5.alloc (Obj.cells #[.int .u8 (b.toNat : Int)] 5) := ⟨_, rfl⟩
        have hb6 : Below W5.heap.size W5 W6 := by rw [hW6]; exact (Below.refl _ _).alloc (Nat.le_refl _) _
        have hz6 : W6.heap.size = W5.heap.size + 1 := by rw [hW6]; simp
        have HJ6 : Hid (PxJ w ts k g cq xs W6 ∧ BysAt W6 (wr.heap.size + 1) 0 [b]) := by
          refine ⟨⟨HJ5.out.len, HJ5.out.pre, HJ5.out.own.below hb6, HJ5.out.res.below hb6, HJ5.out.below.trans (hb6.mono (by omega))⟩, ?_⟩
          rw [hW6, ← hz5]
          exact (ownY_one W5 (Nat.le_refl _) b rfl).at
        go_wp2_with (at_builtin; rw [← hW6]; refine wpList_append_bys _ rfl _ _ rfl (w.heap.size + 2) g cq k (wr.heap.size + 1) 0 1 1 xs [b] rfl rfl ?hn rfl ?hO ?hc ?hl ?hb ?_)
        case hn => exact hxl.symm
        case hO => exact HJ6.out.1.own
        case hc => exact HJ6.out.2
        case hl => simp; omega
        case hb => omega
        intro g' cp' w' hO' hgr hat
        rw [← hW6] at hgr
        have HJ7 : Hid (PxJ w ts (k + 1) g' cp' (xs ++ [b]) w') := by
          have hC : Chg (fun j => j = g) W6 w' := Chg.of_grown hgr (fun j hj => by cases hj; rfl)
          refine ⟨by simp [hxl], HP.out, hO', HJ6.out.1.res.chg hC (by omega), ?_⟩
          exact Chg.below HJ6.out.1.below hC HJ6.out.1.below.size (fun j q => by omega)
        clear hO' hgr hat hW6 b5
        go_wp2_with fail
        go_roundw
        case rel => exact ⟨k + 1, g', cp', xs ++ [b], by omega, by go_num, rfl, HJ7.out⟩
        case measure => simp [intOf]; omega
      · have ha := pb_other hT cs
        have HP : Hid (prefM ts = (xs, false)) := by
          show prefM ts = _
          rw [HJ.out.pre, HD.out, prefM_not hnb]; simp
        obtain ⟨W5, hW5⟩ : ∃ W5 : World, W5 = wr.alloc (Obj.cells #[.int .u8 0] 90) := ⟨_, rfl⟩
        have hb5 : Below wr.heap.size wr W5 := by rw [hW5]; exact (Below.refl _ _).alloc (Nat.le_refl _) _
        have HJ5 : Hid (PxJ w ts k g cq xs W5) := ⟨HJ.out.len, HJ.out.pre, HJ.out.own.below hb5, HJ.out.res.below hb5, HJ.out.below.trans (hb5.mono hsz)⟩
        go_upto_region 6 with fail
        rw [← hW5]
        clear hW5 hv2 r0 r1 f0 f1 ha HJ hN hnb hT
        have hcv := conv_ownY HJ5.out.own
        rw [hxl] at hcv
        have r0 := HJ5.out.res.cell (j := 0) rfl
        have r1 := HJ5.out.res.cell (j := 1) rfl
        have f0 := HJ5.out.res.frozen 0
        have f1 := HJ5.out.res.frozen 1
        obtain ⟨W6, hW6⟩ : ∃ W6 : World, W6 = set2 W5 (w.heap.size + 1) (.string ⟨xs.toArray⟩) (.bool false) := ⟨_, rfl⟩
        have HW6 : Hid (BoxAt W6 w.heap.size 51 2 (w.heap.size + 1) [.string ⟨xs.toArray⟩, .bool false] ∧ Below w.heap.size w W6) := by
          rw [hW6]; exact ⟨set2_cells HJ5.out.res _ _, below_set (below_set HJ5.out.below (by omega) 0 _) (by omega) 1 _⟩
        have p0 := HW6.out.1.cell (j := 0) rfl
        have p1 := HW6.out.1.cell (j := 1) rfl
        unfold set2 at hW6
        go_wp2_with fail
        rw [← hW6]
        rw [HP.out]
        refine bodyPost_ret (v := .agg #[.string ⟨xs.toArray⟩, .bool false]) (by simp [results, Try.results40, go_sem, p0, p1]) rfl ⟨rfl, HW6.out.2⟩
    · have zk : ¬ (k : Int) < (n : Int) := by omega
      have HP : Hid (prefM ts = (xs, true)) := by
        show prefM ts = _
        rw [HJ.out.pre, List.drop_eq_nil_of_le (by have := HL.out; omega)]; simp [prefM]
      have hcv := conv_ownY HJ.out.own
      rw [hxl] at hcv
      obtain ⟨W6, hW6⟩ : ∃ W6 : World, W6 = set2 wr (w.heap.size + 1) (.string ⟨xs.toArray⟩) (.bool true) := ⟨_, rfl⟩
      have HW6 : Hid (BoxAt W6 w.heap.size 51 2 (w.heap.size + 1) [.string ⟨xs.toArray⟩, .bool true] ∧ Below w.heap.size w W6) := by
        rw [hW6]; exact ⟨set2_cells HJ.out.res _ _, below_set (below_set HJ.out.below (by omega) 0 _) (by omega) 1 _⟩
      have p0 := HW6.out.1.cell (j := 0) rfl
      have p1 := HW6.out.1.cell (j := 1) rfl
      unfold set2 at hW6
      go_wp2_with fail
      rw [← hW6]
      rw [HP.out]
      refine bodyPost_ret (v := .agg #[.string ⟨xs.toArray⟩, .bool true]) (by simp [results, Try.results40, go_sem, p0, p1]) rfl ⟨rfl, HW6.out.2⟩

theorem AltAt.nth {w : World} {R : Nat → Prop} {os : List (List Pat)} {u : Value} (h : AltAt w R os u) : ∃ g cp, u = .slice (some ⟨g, 0, none⟩) os.length cp ∧ g < w.heap.size ∧ ∀ k ts, os[k]? = some ts → ∃ v, w.cell? ⟨g, k, none⟩ = some v ∧ SeqAt w R ts v := by
  obtain ⟨n, g, cp, us, h1, h2, h3, h4⟩ := h
  refine ⟨g, cp, h1, h3.lt, fun k ts ht => ?_⟩
  have hk := (List.getElem?_eq_some_iff.1 ht).1
  obtain ⟨v, hv⟩ : ∃ v, us[k]? = some v := ⟨_, List.getElem?_eq_getElem (by omega)⟩
  exact ⟨v, h3.val k v hv, n, h4 k v ts hv ht⟩
theorem pref_is (p : ByteArray) (hp : p.size ≤ maxLen) : (checkM (sb p)).1 = 0 → ∃ os, AltOk (sb p) 0 0 p.size os := by
  intro h
  obtain ⟨e, w', fr, ⟨u, _, _, (⟨_, os, h1, _⟩ | ⟨h1, _⟩)⟩, _⟩ := readPattern_core p default hp []
  · exact ⟨os, h1⟩
  · exact absurd h h1
/-- What PrefixOf of a pattern comes to. -/
def PrefIs (p : ByteArray) (r : List UInt8 × Bool) : Prop := (¬ (checkM (sb p)).1 = 0 → r = ([], false)) ∧ ((checkM (sb p)).1 = 0 → ∀ os, AltOk (sb p) 0 0 p.size os → r = prefOf os)
theorem prefIs_some (p : ByteArray) (hp : p.size ≤ maxLen) : ∃ r, PrefIs p r := by
  by_cases h : (checkM (sb p)).1 = 0
  · obtain ⟨os, ho⟩ := pref_is p hp h
    refine ⟨prefOf os, fun q => absurd h q, fun _ us hu => prefOf_one (by rw [sb_len]; exact ho) (by rw [sb_len]; exact hu)⟩
  · exact ⟨_, fun _ => rfl, fun q => absurd q h⟩
theorem seqG_len {A : List UInt8 → Pat → Prop} (hA : ∀ xs t, A xs t → 0 < xs.length) : ∀ {ts : List Pat} {xs : List UInt8}, SeqG A ts xs → ts.length ≤ xs.length
  | [], _, _ => Nat.zero_le _
  | _ :: ts, _, ⟨ys, zs, h1, ⟨us, ops, a, h2, h3, _⟩, h4⟩ => by
    have := seqG_len hA h4
    have := hA _ _ h3
    rw [h1, h2]
    simp
    omega

set_option maxHeartbeats 8000000 in
theorem implPrefix_core (p : ByteArray) (w : World) (hpm : p.size ≤ maxLen) (r : List UInt8 × Bool) (hr : PrefIs p r) : Calls Try.prog 27 #[.string p] w fun e w' => e = .returned (.agg #[.string ⟨r.1.toArray⟩, .bool r.2]) ∧ Below w.heap.size w w' := by
  have HR : Hid (PrefIs p r) := hr
  clear hr
  obtain ⟨W0, hW0⟩ : ∃ W0 : World, W0 = w.alloc (Obj.cells #[.string ⟨#[]⟩, .bool false] 51) := ⟨_, rfl⟩
  have HW0 : Hid (BoxAt W0 w.heap.size 51 2 w.heap.size [.string ⟨#[]⟩, .bool false] ∧ Below w.heap.size w W0) := by
    rw [hW0]; exact ⟨boxAt_new w _ (Nat.le_refl _) rfl, (Below.refl _ _).alloc (Nat.le_refl _) _⟩
  obtain ⟨c, hc⟩ : ∃ c, c = (checkM (sb p)).1 := ⟨_, rfl⟩
  obtain ⟨k, hk⟩ : ∃ k, k = (checkM (sb p)).2 := ⟨_, rfl⟩
  have HC : Hid (c = (checkM (sb p)).1) := hc
  go_enter Try.func27, Try.ntmps27
  go_upto_region 1 with fail
  rw [← hW0]
  clear hW0
  go_wp2_with fail
  refine (readPattern_core p W0 hpm).mono ?_
  rintro e w1 ⟨u, rfl, hb1, hu⟩
  rw [← hc, ← hk]
  have HU : Hid (((checkM (sb p)).1 = 0 ∧ ∃ os, AltOk (sb p) 0 0 p.size os ∧ AltAt w1 (Bet W0.heap.size w1.heap.size) os u) ∨ (¬ (checkM (sb p)).1 = 0 ∧ u = .slice none 0 0)) := hu
  obtain ⟨ua, un, uc, rfl⟩ : ∃ a n cp, u = .slice a n cp := by
    rcases hu with ⟨_, os, _, hU⟩ | ⟨_, rfl⟩
    · obtain ⟨g, n, cp, rfl⟩ := hU.slice; exact ⟨_, _, _, rfl⟩
    · exact ⟨_, _, _, rfl⟩
  clear hu hc hk
  have h1 := HW0.out.2.size
  have h2 := hb1.size
  obtain ⟨W2, hW2⟩ : ∃ W2 : World, W2 = (w1.alloc (Obj.cells #[.slice ua un uc] 65)).alloc (Obj.cells #[.int .i64 c, .int .i64 (k : Int)] 46) := ⟨_, rfl⟩
  have hb2 : Below w1.heap.size w1 W2 := by rw [hW2]; exact ((Below.refl _ _).alloc (Nat.le_refl _) _).alloc (by simp) _
  have HW2 : Hid (BoxAt W2 w.heap.size 51 2 w.heap.size [.string ⟨#[]⟩, .bool false] ∧ BoxAt W2 w.heap.size 46 2 (w1.heap.size + 1) [.int .i64 c, .int .i64 (k : Int)] ∧ BoxAt W2 w.heap.size 65 1 w1.heap.size [.slice ua un uc] ∧ Below w.heap.size w W2) := by
    refine ⟨(HW0.out.1.below hb1).below hb2, ?_, ?_, (HW0.out.2.trans (hb1.mono h1)).trans (hb2.mono (by omega))⟩
    · rw [hW2]
      exact BoxAt.ofHeap (vs := #[.int .i64 c, .int .i64 (k : Int)]) (heap_alloc2_new w1 _ _) (by omega) rfl
    · rw [hW2]
      exact BoxAt.ofHeap (vs := #[.slice ua un uc]) (heap_alloc2_old w1 _ _) (by omega) rfl
  have HU2 : Hid (((checkM (sb p)).1 = 0 ∧ ∃ os, AltOk (sb p) 0 0 p.size os ∧ AltAt W2 (Bet W0.heap.size w1.heap.size) os (.slice ua un uc)) ∨ (¬ (checkM (sb p)).1 = 0 ∧ Value.slice ua un uc = .slice none 0 0)) := by
    rcases HU.out with ⟨q, os, ho, hU⟩ | q
    · exact .inl ⟨q, os, ho, hU.move (S := fun _ => False) (Chg.of_below hb2) (fun q hq => hq.elim) (fun q _ z => z)⟩
    · exact .inr q
  clear hb1 hb2 HW0 HU
  go_upto_region 2 with fail
  rw [← hW2]
  clear hW2
  have b0 := HW2.out.2.1.cell (j := 0) rfl
  have a0 := HW2.out.2.2.1.cell (j := 0) rfl
  have r0 := HW2.out.1.cell (j := 0) rfl
  have r1 := HW2.out.1.cell (j := 1) rfl
  have f0 := HW2.out.1.frozen 0
  have f1 := HW2.out.1.frozen 1
  have hzero : ∀ (hz : ¬ c = 0 ∨ ¬ (un : Int) = 1), r = ([], false) := fun hz => by
    rcases HU2.out with ⟨q, os, ho, hU⟩ | ⟨q, hn⟩
    · obtain ⟨g, cp, e, _, _⟩ := hU.nth
      simp at e
      have := HR.out.2 q os ho
      rw [this]
      have hc0 : c = 0 := by rw [HC.out]; exact q
      rcases os with _ | ⟨o1, _ | ⟨o2, os⟩⟩
      · rfl
      · exfalso
        simp at e
        rcases hz with hz | hz
        · exact hz hc0
        · exact hz (by rw [e.2.1]; rfl)
      · rfl
    · exact HR.out.1 q
  by_cases hz : ¬ c = 0 ∨ ¬ (un : Int) = 1
  · have e := hzero hz
    subst e
    clear hzero
    obtain ⟨W6, hW6⟩ : ∃ W6 : World, W6 = set2 W2 w.heap.size (.string ⟨#[]⟩) (.bool false) := ⟨_, rfl⟩
    have HW6 : Hid (BoxAt W6 w.heap.size 51 2 w.heap.size [.string ⟨#[]⟩, .bool false] ∧ Below w.heap.size w W6) := by
      rw [hW6]; exact ⟨set2_cells HW2.out.1 _ _, below_set (below_set HW2.out.2.2.2 (Nat.le_refl _) 0 _) (Nat.le_refl _) 1 _⟩
    have p0 := HW6.out.1.cell (j := 0) rfl
    have p1 := HW6.out.1.cell (j := 1) rfl
    unfold set2 at hW6
    by_cases hc0 : c = 0
    · have hun : ¬ (un : Int) = 1 := hz.elim (fun q => absurd hc0 q) (fun q => q)
      have zun : ((un : Int) != 1) = true := by simpa using hun
      subst hc0
      clear hz
      go_wp2_with fail
      rw [← hW6]
      refine bodyPost_ret (v := .agg #[.string ⟨#[]⟩, .bool false]) (by simp [results, Try.results27, go_sem, p0, p1]) rfl ⟨rfl, HW6.out.2⟩
    · have zc : (c != 0) = true := by simpa using hc0
      clear hz
      go_wp2_with fail
      rw [← hW6]
      refine bodyPost_ret (v := .agg #[.string ⟨#[]⟩, .bool false]) (by simp [results, Try.results27, go_sem, p0, p1]) rfl ⟨rfl, HW6.out.2⟩
  · have hc0 : c = 0 := Classical.not_not.1 (fun q => hz (.inl q))
    have hun : (un : Int) = 1 := Classical.not_not.1 (fun q => hz (.inr q))
    clear hz hzero
    have q0 : (checkM (sb p)).1 = 0 := by rw [← HC.out]; exact hc0
    obtain ⟨g, ts, v, rfl, hgv, hS, hP, hl⟩ : ∃ g ts v, ua = some ⟨g, 0, none⟩ ∧ W2.cell? ⟨g, 0, none⟩ = some v ∧ SeqAt W2 (Bet W0.heap.size w1.heap.size) ts v ∧ r = prefM ts ∧ ts.length ≤ 1000 := by
      rcases HU2.out with ⟨q, os, ho, hU⟩ | ⟨q, hn⟩
      · obtain ⟨g, cp, e, _, hn⟩ := hU.nth
        simp at e
        obtain ⟨ts, rfl⟩ : ∃ ts, os = [ts] := by
          rcases os with _ | ⟨o1, _ | ⟨o2, os⟩⟩
          · exfalso; simp at e; omega
          · exact ⟨o1, rfl⟩
          · exfalso; simp at e; omega
        obtain ⟨v, hv, hS⟩ := hn 0 ts rfl
        refine ⟨g, ts, v, e.1, hv, hS, HR.out.2 q _ ho, ?_⟩
        obtain ⟨n, hg⟩ := ho.gr
        have h3 := seqG_len (fun xs t (z : AtomG n xs t) => by obtain ⟨c, ys, e, _⟩ := z.first; rw [e]; simp) hg
        have h4 := cut_len (p := sb p) (i := 0) (k := p.size) (by rw [sb_len]; exact Nat.le_refl _)
        have h5 : p.size ≤ 200 := by
          apply Classical.byContradiction
          intro h6
          unfold checkM at q0
          rw [if_pos (by rw [sb_len]; omega)] at q0
          exact absurd q0 (by decide)
        omega
      · exact absurd q0 q
    obtain ⟨va, vn, vc, rfl⟩ := hS.slice
    have HS : Hid (SeqAt W2 (Bet W0.heap.size w1.heap.size) ts (.slice va vn vc)) := hS
    clear hS HU2
    subst hc0
    obtain rfl : un = 1 := by omega
    clear hun q0
    go_wp2_with fail
    refine (prefix_core HS.out hl).mono ?_
    rintro e w5 ⟨rfl, hb5⟩
    subst hP
    have s2 := HW2.out.2.2.2.size
    have HW5 : Hid (BoxAt w5 w.heap.size 51 2 w.heap.size [.string ⟨#[]⟩, .bool false] ∧ Below w.heap.size w w5) := ⟨HW2.out.1.below hb5, HW2.out.2.2.2.trans (hb5.mono s2)⟩
    clear hgv b0 a0 r0 r1 f0 f1 hb5
    have r0 := HW5.out.1.cell (j := 0) rfl
    have r1 := HW5.out.1.cell (j := 1) rfl
    have f0 := HW5.out.1.frozen 0
    have f1 := HW5.out.1.frozen 1
    obtain ⟨x, hx⟩ : ∃ x : ByteArray, x = ⟨(prefM ts).1.toArray⟩ := ⟨_, rfl⟩
    obtain ⟨y, hy⟩ : ∃ y : Bool, y = (prefM ts).2 := ⟨_, rfl⟩
    rw [← hx, ← hy]
    obtain ⟨W6, hW6⟩ : ∃ W6 : World, W6 = set2 w5 w.heap.size (.string x) (.bool y) := ⟨_, rfl⟩
    have HW6 : Hid (BoxAt W6 w.heap.size 51 2 w.heap.size [.string x, .bool y] ∧ Below w.heap.size w W6) := by
      rw [hW6]; exact ⟨set2_cells HW5.out.1 _ _, below_set (below_set HW5.out.2 (Nat.le_refl _) 0 _) (Nat.le_refl _) 1 _⟩
    have p0 := HW6.out.1.cell (j := 0) rfl
    have p1 := HW6.out.1.cell (j := 1) rfl
    unfold set2 at hW6
    subst hx hy
    go_wp2_with fail
    rw [← hW6]
    refine bodyPost_ret (v := .agg #[.string ⟨(prefM ts).1.toArray⟩, .bool (prefM ts).2]) (by simp [results, Try.results27, go_sem, p0, p1]) rfl ⟨rfl, HW6.out.2⟩
end Go.Proofs.Ythkmecppjhcidaa
