import Derived.Deep.CutBlock
import Derived.Test.YtgnpcenpcmdlfaaGreatDoorZkAN
import Derived.Test.YtgnpcenpcmdlfaaGreatDoorRPqK
import Derived.Test.YtgnpcenpcmdlfaaGreatDoorRFpE
/-
  spec.l5Lex.
-/
namespace Go.Proofs.YtgnpcenpcmdlfaaGreatDoor
open Go.ChangeShapes Go.WideShapes Go.ChangeAt Go.RowKit Go.Deep
set_option linter.unusedVariables false
set_option linter.unusedSimpArgs false
set_option maxRecDepth 100000

def LxP (t : List UInt8) (w : World) (e : Ending) (w' : World) : Prop := ∃ g cp ks, e = .returned (.slice (some ⟨g, 0, none⟩) (ks : List Tk).length cp) ∧ LexR t 0 ks ∧ OwnTk w' w.heap.size g cp ks ∧ Below w.heap.size w w'
structure LxJ (t : List UInt8) (w : World) (i m g cp : Nat) (out : List Tk) (wr : World) : Prop where
  pre : ∀ ks, LexR (t.drop i) i ks → LexR t 0 (out ++ ks)
  own : OwnTk wr w.heap.size g cp out
  below : Below w.heap.size w wr
  len : m = out.length
theorem LxJ.space {t : List UInt8} {w : World} {i m g cp : Nat} {out : List Tk} {wr wr' : World} (h : LxJ t w i m g cp out wr) (hx : t[i]? = some 32) (hb : Below wr.heap.size wr wr') : LxJ t w (i + 1) m g cp out wr' :=
  ⟨fun ks hk => h.pre ks (by rw [dropT_cons hx]; exact .space hk), h.own.below hb, h.below.trans (hb.mono h.below.size), h.len⟩
theorem LxJ.tok {t : List UInt8} {w : World} {i m g cp : Nat} {out : List Tk} {wr : World} (h : LxJ t w i m g cp out wr) {x : UInt8} (hx : t[i]? = some x) (hn : ¬ x = 32) {k : TkK} {n : Nat} (ht : tokF (t.drop i) = some (k, n)) {g' cp' m' : Nat} {w' : World} (ho : OwnTk w' w.heap.size g' cp' (out ++ [⟨k, i⟩])) (hb : Below w.heap.size w w') (hm : m' = m + 1) : LxJ t w (i + n) m' g' cp' (out ++ [⟨k, i⟩]) w' := by
  refine ⟨fun ks hk => ?_, ho, hb, by rw [hm, h.len]; simp⟩
  rw [List.append_assoc]
  refine h.pre _ ?_
  rw [dropT_cons hx] at ht ⊢
  refine .tok hn ht ?_
  rw [← dropT_cons hx, List.drop_drop]
  exact hk
theorem LxJ.bad {t : List UInt8} {w : World} {i m g cp : Nat} {out : List Tk} {wr : World} (h : LxJ t w i m g cp out wr) {x : UInt8} (hx : t[i]? = some x) (hn : ¬ x = 32) (ht : tokF (t.drop i) = none) {g' cp' m' : Nat} {w' : World} (ho : OwnTk w' w.heap.size g' cp' (out ++ [⟨.bad, i⟩])) (hb : Below w.heap.size w w') (hm : m' = m + 1) : LxP t w (.returned (.slice (some ⟨g', 0, none⟩) m' cp')) w' := by
  refine ⟨g', cp', out ++ [⟨.bad, i⟩], by rw [hm, h.len]; simp, h.pre _ ?_, ho, hb⟩
  rw [dropT_cons hx] at ht ⊢
  exact .bad hn ht
theorem LxJ.fin {t : List UInt8} {w : World} {i m g cp : Nat} {out : List Tk} {wr : World} (h : LxJ t w i m g cp out wr) (hi : i = t.length) {g' cp' m' : Nat} {w' : World} (ho : OwnTk w' w.heap.size g' cp' (out ++ [⟨.fin, i⟩])) (hb : Below w.heap.size w w') (hm : m' = m + 1) : LxP t w (.returned (.slice (some ⟨g', 0, none⟩) m' cp')) w' := by
  refine ⟨g', cp', out ++ [⟨.fin, i⟩], by rw [hm, h.len]; simp, h.pre _ ?_, ho, hb⟩
  rw [hi, List.drop_length]
  exact .fin
set_option maxHeartbeats 16000000 in
theorem l5Lex_core (b off cap : Nat) (t : List UInt8) (w : World) (h : BysAt w b off t) (hb : b < w.heap.size) (hl : t.length ≤ 100000) (hc : t.length ≤ cap) (hcm : cap ≤ maxLen) :
    Calls Tryz.prog 22 #[.slice (some ⟨b, off, none⟩) t.length cap] w (LxP t w) := by
  have HT : Hid (BysAt w b off t) := h
  unfold maxLen at hcm
  obtain ⟨n, hn⟩ : ∃ n, n = t.length := ⟨_, rfl⟩
  have HN : Hid (n = t.length) := hn
  rw [← hn] at hl hc ⊢
  clear hn h
  obtain ⟨W0, hW0⟩ : ∃ W0 : World, W0 = w.alloc (Obj.cells #[] 80) := ⟨_, rfl⟩
  have HW0 : Hid (LxJ t w 0 0 w.heap.size 0 [] W0) := by
    rw [hW0]; exact ⟨fun ks hk => by simpa using hk, ownG_new w (Nat.le_refl _), (Below.refl _ _).alloc (Nat.le_refl _) _, rfl⟩
  go_enter Tryz.func22, Tryz.ntmps22
  go_upto_region 2 with fail
  rw [← hW0]
  clear hW0
  go_wp2_with fail
  go_loopw [3, 4] (fun ov iv wr => ∃ (i m g cp : Nat) (out : List Tk), iv = .int .i64 (i : Int) ∧ i ≤ n ∧ m ≤ i ∧ ov = .slice (some ⟨g, 0, none⟩) m cp ∧ LxJ t w i m g cp out wr) (fun _ iv _ => n - (intOf iv).toNat)
  case atStart => exact ⟨0, 0, w.heap.size, 0, [], rfl, Nat.zero_le _, Nat.le_refl _, rfl, HW0.out⟩
  case round =>
    clear HW0
    obtain ⟨i, m, g, cp, out, rfl, hi, hmi, rfl, hJ⟩ := hrel
    have HJ : Hid (LxJ t w i m g cp out wr) := hJ
    have hgl := hJ.own.lt
    have sr := hJ.below.size
    clear hJ
    have hlm : out.length ≤ 1000000 := by have := HJ.out.len; omega
    by_cases hin : i < n
    case neg => as_aux_lemma =>
      have zi : ¬ (i : Int) < (n : Int) := by omega
      obtain rfl : i = n := by omega
      obtain ⟨W2, hW2⟩ : ∃ W2 : World, W2 = wr.alloc (Obj.cells #[.int .i64 5, .int .u64 0, .string ⟨#[]⟩, .int .i64 (i : Int)] 80) := ⟨_, rfl⟩
      have hb2 : Below wr.heap.size wr W2 := by rw [hW2]; exact (Below.refl _ _).alloc (Nat.le_refl _) _
      have s2 := hb2.size
      have HW2 : Hid (OwnTk W2 w.heap.size g cp out ∧ Below w.heap.size w W2 ∧ ∀ j u, (tkV ⟨.fin, i⟩)[j]? = some u → W2.cell? ⟨wr.heap.size, j, none⟩ = some u) := by
        refine ⟨HJ.out.own.below hb2, HJ.out.below.trans (hb2.mono (by omega)), ?_⟩
        rw [hW2]
        exact alloc_cells wr _ _
      clear hb2
      go_wp2_with (at_builtin; (try rw [← hW2]); refine wpList_append_Tk _ rfl _ _ rfl w.heap.size g cp m wr.heap.size 1 out ⟨.fin, i⟩ rfl rfl HJ.out.len HW2.out.1 HW2.out.2.2 hlm ?hb ?_)
      case hb => omega
      intro g' cp' w' hO' hgr hat
      have hgr2 : W2.grownBy w' (some g) := by first | exact hgr | (rw [hW2]; exact hgr)
      have HA : Hid (OwnTk w' w.heap.size g' cp' (out ++ [⟨.fin, i⟩]) ∧ Below w.heap.size w w') := ⟨hO', HW2.out.2.1.grown hgr2 (by omega) (fun j hj => by cases hj; exact hgl.1)⟩
      clear hO' hgr hgr2 hat hW2
      have HR : Hid (LxP t w (.returned (.slice (some ⟨g', 0, none⟩) (m + 1) cp')) w') := HJ.out.fin HN.out HA.out.1 HA.out.2 rfl
      clear HA
      go_wp2_with fail
      go_ret
      exact HR.out
    case pos =>
    have zi : (i : Int) < (n : Int) := by omega
    obtain ⟨x, hx⟩ : ∃ x, t[i]? = some x := ⟨_, List.getElem?_eq_getElem (by have := HN.out; omega)⟩
    have HX : Hid (t[i]? = some x) := hx
    have cx0 : wr.cell? ⟨b, off + i, none⟩ = some (.int .u8 (x.toNat : Int)) := by
      rw [HJ.out.below.cell (p := ⟨b, off + i, none⟩) hb]; exact HT.out i x hx
    have hx8 : x.toNat < 256 := x.toNat_lt
    obtain ⟨W1, hW1⟩ : ∃ W1 : World, W1 = wr.alloc (Obj.cells #[.int .i64 6, .int .u64 0, .string ⟨#[]⟩, .int .i64 (i : Int)] 80) := ⟨_, rfl⟩
    have hb1 : Below wr.heap.size wr W1 := by rw [hW1]; exact (Below.refl _ _).alloc (Nat.le_refl _) _
    have hz1 : wr.heap.size < W1.heap.size := by rw [hW1]; simp
    have HJ1 : Hid (LxJ t w i m g cp out W1 ∧ BoxAt W1 w.heap.size 80 4 wr.heap.size [.int .i64 6, .int .u64 0, .string ⟨#[]⟩, .int .i64 (i : Int)] ∧ Below wr.heap.size wr W1) := by
      refine ⟨⟨HJ.out.pre, HJ.out.own.below hb1, HJ.out.below.trans (hb1.mono sr), HJ.out.len⟩, ?_, hb1⟩
      rw [hW1]; exact boxAt_new wr _ sr rfl
    have s1 : w.heap.size ≤ W1.heap.size := by omega
    have HC : Hid (∀ k y, t[k]? = some y → W1.cell? ⟨b, off + k, none⟩ = some (.int .u8 (y.toNat : Int))) := fun k y hk => by
      rw [HJ1.out.1.below.cell (p := ⟨b, off + k, none⟩) hb]; exact HT.out k y hk
    have HB1 : Hid (BysAt W1 b off t) := fun k y hk => HC.out k y hk
    clear hx hb1
    go_upto_region 8 with fail
    rw [← hW1]
    clear hW1 cx0
    have cx := HC.out i x HX.out
    have o0 := HJ1.out.2.1.cell (j := 0) rfl
    have o1 := HJ1.out.2.1.cell (j := 1) rfl
    have o2 := HJ1.out.2.1.cell (j := 2) rfl
    have o3 := HJ1.out.2.1.cell (j := 3) rfl
    by_cases h32 : x.toNat = 32
    · as_aux_lemma =>
      have z32 : ((x.toNat : Int) == 32) = true := by have : (x.toNat : Int) = 32 := (by omega); simp [this]
      have HR : Hid (LxJ t w (i + 1) m g cp out W1) := HJ.out.space (by rw [HX.out]; congr 1; exact UInt8.toNat_inj.1 h32) HJ1.out.2.2
      clear h32
      go_wp2_with fail
      go_roundw
      case rel => exact ⟨i + 1, m, g, cp, out, by go_num, by omega, by omega, rfl, HR.out⟩
      case measure => simp [intOf]; omega
    have z32 : ((x.toNat : Int) == 32) = false := by have : ¬ (x.toNat : Int) = 32 := (by omega); simp [this]
    have Hn32 : Hid (¬ x = 32) := u8_ne h32
    clear h32
    go_upto_region 10 with fail
    go_cut [37] (fun c wx => c = .bool (isLet x) ∧ wx = W1)
    case first =>
      by_cases h1 : 97 ≤ x.toNat
      · have z1 : (97 : Int) ≤ (x.toNat : Int) := by omega
        by_cases h2 : x.toNat ≤ 122
        · have z2 : (x.toNat : Int) ≤ 122 := by omega
          have HM : Hid (isLet x = true) := (isLet_iff x).2 ⟨h1, h2⟩
          go_wp2_with fail
          go_meet
          exact ⟨by rw [HM.out], rfl⟩
        · have z2 : ¬ (x.toNat : Int) ≤ 122 := by omega
          have HM : Hid (isLet x = false) := by
            show _ = _
            have : ¬ isLet x = true := by rw [isLet_iff]; exact fun q => h2 q.2
            simpa using this
          go_wp2_with fail
          go_meet
          exact ⟨by rw [HM.out], rfl⟩
      · have z1 : ¬ (97 : Int) ≤ (x.toNat : Int) := by omega
        have HM : Hid (isLet x = false) := by
          show _ = _
          have : ¬ isLet x = true := by rw [isLet_iff]; exact fun q => h1 q.1
          simpa using this
        go_wp2_with fail
        go_meet
        exact ⟨by rw [HM.out], rfl⟩
    case rest =>
    obtain ⟨rfl, hwc⟩ := hcut
    rw [hwc]
    clear hwc
    cases hlet : isLet x
    case true => as_aux_lemma =>
      have HTk' : Hid (tokF (t.drop i) = (kwF ((t.drop i).takeWhile isLet)).map (fun k => (.word k, ((t.drop i).takeWhile isLet).length))) := tok_let HX.out hlet
      have HL0 : Hid (isLet x = true) := hlet
      clear hlet
      go_upto_block 2 with fail
      go_cut [7] (fun jv wx => ∃ (j : Nat), jv = .int .i64 (j : Int) ∧ i < j ∧ j ≤ n ∧ Hid ((t.drop i).takeWhile isLet = (t.drop i).take (j - i)) ∧ wx = W1)
      case first =>
        go_wp2_with fail
        go_loopw [7] (fun jv wx => ∃ (j : Nat), jv = .int .i64 (j : Int) ∧ i ≤ j ∧ j ≤ n ∧ (∀ k y, i ≤ k → k < j → t[k]? = some y → isLet y = true) ∧ wx = W1) (fun jv _ => n - (intOf jv).toNat)
        case atStart => exact ⟨i, rfl, Nat.le_refl _, hi, fun k y h1 h2 => by omega, rfl⟩
        case round =>
          obtain ⟨j, rfl, hij, hjn, hA0, hwx⟩ := hrel
          rw [hwx]
          clear hwx
          have HA0 : Hid (∀ k y, i ≤ k → k < j → t[k]? = some y → isLet y = true) := hA0
          clear hA0
          by_cases hj : j < n
          · have zj : (j : Int) < (n : Int) := by omega
            obtain ⟨y, hy⟩ : ∃ y, t[j]? = some y := ⟨_, List.getElem?_eq_getElem (by have := HN.out; omega)⟩
            have cy := HC.out j y hy
            by_cases hy1 : 97 ≤ y.toNat ∧ y.toNat ≤ 122
            · have y97 : (97 : Int) ≤ (y.toNat : Int) := by omega
              have y122 : (y.toNat : Int) ≤ 122 := by omega
              have HY : Hid (∀ k z, i ≤ k → k < j + 1 → t[k]? = some z → isLet z = true) := fun k z h1 h2 h3 => by
                by_cases q : k < j
                · exact HA0.out k z h1 q h3
                · obtain rfl : k = j := by omega
                  rw [hy] at h3
                  cases h3
                  exact (isLet_iff y).2 hy1
              clear hy
              go_wp2_with fail
              go_roundw
              case rel => exact ⟨j + 1, by go_num, by omega, by omega, HY.out, by first | rfl | trivial⟩
              case measure => simp [intOf]; omega
            · have HM : Hid (∃ (j' : Nat), Value.int .i64 (j : Int) = .int .i64 (j' : Int) ∧ i < j' ∧ j' ≤ n ∧ Hid ((t.drop i).takeWhile isLet = (t.drop i).take (j' - i)) ∧ W1 = W1) := by
                have hne : ¬ isLet y = true := by rw [isLet_iff]; exact hy1
                refine ⟨j, rfl, ?_, hjn, tw_at hij (by have := HN.out; omega) HA0.out (fun z hz => ?_), rfl⟩
                · rcases Nat.lt_or_ge i j with q | q
                  · exact q
                  · obtain rfl : i = j := by omega
                    rw [HX.out] at hy
                    cases hy
                    exact absurd HL0.out hne
                · rw [hy] at hz
                  cases hz
                  simpa using hne
              clear hy
              by_cases hy2 : 97 ≤ y.toNat
              · have y97 : (97 : Int) ≤ (y.toNat : Int) := by omega
                have y122 : ¬ (y.toNat : Int) ≤ 122 := by omega
                clear hy1 hy2
                go_wp2_with fail
                go_meet
                obtain ⟨j', e1, e2, e3, e4, _⟩ := HM.out
                exact ⟨j', e1, e2, e3, e4, rfl⟩
              · have y97 : ¬ (97 : Int) ≤ (y.toNat : Int) := by omega
                clear hy1 hy2
                go_wp2_with fail
                go_meet
                obtain ⟨j', e1, e2, e3, e4, _⟩ := HM.out
                exact ⟨j', e1, e2, e3, e4, rfl⟩
          · have zj : ¬ (j : Int) < (n : Int) := by omega
            have HM : Hid (∃ (j' : Nat), Value.int .i64 (j : Int) = .int .i64 (j' : Int) ∧ i < j' ∧ j' ≤ n ∧ Hid ((t.drop i).takeWhile isLet = (t.drop i).take (j' - i)) ∧ W1 = W1) :=
              ⟨j, rfl, by omega, hjn, tw_at hij (by have := HN.out; omega) HA0.out (fun z hz => by rw [List.getElem?_eq_none (by have := HN.out; omega)] at hz; cases hz), rfl⟩
            go_wp2_with fail
            go_meet
            obtain ⟨j', e1, e2, e3, e4, _⟩ := HM.out
            exact ⟨j', e1, e2, e3, e4, rfl⟩
      case rest =>
      obtain ⟨j, rfl, hij, hjn, HTw, hwc⟩ := hcut
      rw [hwc]
      clear hwc
      obtain ⟨wd, hwd⟩ : ∃ wd, wd = (t.drop i).take (j - i) := ⟨_, rfl⟩
      have hwl : wd.length = j - i := by rw [hwd, List.length_take, List.length_drop]; have := HN.out; omega
      have hcv := conv_win HB1.out i (j - i) (cap - i) (by have := HN.out; omega)
      rw [← hwd] at hcv
      have HWd : Hid ((t.drop i).takeWhile isLet = wd ∧ wd.length = j - i) := ⟨HTw.out.trans hwd.symm, hwl⟩
      have HK := known_core (strL wd) W1
      clear hwl hwd HTw
      have hz3 : ¬ cap = i := by omega
      go_wp2_with fail
      refine HK.mono ?_
      rintro e w2 ⟨kb, rfl, hw2, hkb⟩
      rw [hw2]
      clear hw2 HK hcv
      rw [bl_strL] at hkb
      cases kb
      case false =>
        have HTn : Hid (tokF (t.drop i) = none) := by
          show _ = _
          rw [HTk'.out, HWd.out.1]
          cases hq : kwF wd with
          | none => rfl
          | some k => exact absurd (hkb.2 ⟨k, hq⟩) (by simp)
        clear hkb
        obtain ⟨W2, hW2⟩ : ∃ W2 : World, W2 = W1.alloc (Obj.cells #[.int .i64 6, .int .u64 0, .string ⟨#[]⟩, .int .i64 (i : Int)] 80) := ⟨_, rfl⟩
        have hb2 : Below W1.heap.size W1 W2 := by rw [hW2]; exact (Below.refl _ _).alloc (Nat.le_refl _) _
        have s2 := hb2.size
        have HW2 : Hid (OwnTk W2 w.heap.size g cp out ∧ Below w.heap.size w W2 ∧ ∀ j u, (tkV ⟨.bad, i⟩)[j]? = some u → W2.cell? ⟨W1.heap.size, j, none⟩ = some u) := by
          refine ⟨HJ1.out.1.own.below hb2, HJ1.out.1.below.trans (hb2.mono (by omega)), ?_⟩
          rw [hW2]
          exact alloc_cells W1 _ _
        clear hb2
        go_wp2_with (at_builtin; (try rw [← hW2]); refine wpList_append_Tk _ rfl _ _ rfl w.heap.size g cp m W1.heap.size 1 out ⟨.bad, i⟩ rfl rfl HJ.out.len HW2.out.1 HW2.out.2.2 hlm ?hb ?_)
        case hb => omega
        intro g' cp' w' hO' hgr hat
        have hgr2 : W2.grownBy w' (some g) := by first | exact hgr | (rw [hW2]; exact hgr)
        have HA : Hid (OwnTk w' w.heap.size g' cp' (out ++ [⟨.bad, i⟩]) ∧ Below w.heap.size w w') := ⟨hO', HW2.out.2.1.grown hgr2 (by omega) (fun j hj => by cases hj; exact hgl.1)⟩
        clear hO' hgr hgr2 hat hW2
        have HR : Hid (LxP t w (.returned (.slice (some ⟨g', 0, none⟩) (m + 1) cp')) w') := HJ.out.bad HX.out Hn32.out HTn.out HA.out.1 HA.out.2 rfl
        clear HA
        go_wp2_with fail
        go_ret
        exact HR.out
      case true =>
        obtain ⟨k, hk⟩ := hkb.1 rfl
        have HTs : Hid (tokF (t.drop i) = some (.word k, j - i) ∧ wordT k = strL wd) := by
          refine ⟨?_, wordT_of hk⟩
          rw [HTk'.out, HWd.out.1, hk, ← HWd.out.2]; rfl
        have Htv : Hid (tkV ⟨.word k, i⟩ = [.int .i64 1, .int .u64 0, .string (strL wd), .int .i64 (i : Int)]) := by show _ = _; rw [← HTs.out.2]; rfl
        clear hkb hk
        obtain ⟨W2, hW2⟩ : ∃ W2 : World, W2 = W1.alloc (Obj.cells #[.int .i64 1, .int .u64 0, .string (strL wd), .int .i64 (i : Int)] 80) := ⟨_, rfl⟩
        have hb2 : Below W1.heap.size W1 W2 := by rw [hW2]; exact (Below.refl _ _).alloc (Nat.le_refl _) _
        have s2 := hb2.size
        have HW2 : Hid (OwnTk W2 w.heap.size g cp out ∧ Below w.heap.size w W2 ∧ ∀ j u, (tkV ⟨.word k, i⟩)[j]? = some u → W2.cell? ⟨W1.heap.size, j, none⟩ = some u) := by
          refine ⟨HJ1.out.1.own.below hb2, HJ1.out.1.below.trans (hb2.mono (by omega)), ?_⟩
          rw [hW2]
          rw [Htv.out]; exact alloc_cells W1 _ _
        clear hb2
        go_wp2_with (at_builtin; (try rw [← hW2]); refine wpList_append_Tk _ rfl _ _ rfl w.heap.size g cp m W1.heap.size 1 out ⟨.word k, i⟩ rfl rfl HJ.out.len HW2.out.1 HW2.out.2.2 hlm ?hb ?_)
        case hb => omega
        intro g' cp' w' hO' hgr hat
        have hgr2 : W2.grownBy w' (some g) := by first | exact hgr | (rw [hW2]; exact hgr)
        have HA : Hid (OwnTk w' w.heap.size g' cp' (out ++ [⟨.word k, i⟩]) ∧ Below w.heap.size w w') := ⟨hO', HW2.out.2.1.grown hgr2 (by omega) (fun j hj => by cases hj; exact hgl.1)⟩
        clear hO' hgr hgr2 hat hW2
        have HR : Hid (LxJ t w (i + (j - i)) (m + 1) g' cp' (out ++ [⟨.word k, i⟩]) w') := HJ.out.tok HX.out Hn32.out HTs.out.1 HA.out.1 HA.out.2 rfl
        clear HA
        go_wp2_with fail
        go_roundw
        case rel => exact ⟨j, m + 1, g', cp', out ++ [⟨.word k, i⟩], rfl, by omega, by omega, rfl, by have h9 := HR.out; rw [show i + (j - i) = j by omega] at h9; exact h9⟩
        case measure => simp [intOf]; omega
    case false =>
    have Hnl : Hid (¬ isLet x = true) := by show ¬ _; rw [hlet]; simp
    clear hlet
    go_upto_region 17 with fail
    go_cut [81] (fun c wx => c = .bool (isDig x) ∧ wx = W1)
    case first =>
      by_cases h1 : 48 ≤ x.toNat
      · have z1 : (48 : Int) ≤ (x.toNat : Int) := by omega
        by_cases h2 : x.toNat ≤ 57
        · have z2 : (x.toNat : Int) ≤ 57 := by omega
          have HM : Hid (isDig x = true) := (isDig_iff x).2 ⟨h1, h2⟩
          go_wp2_with fail
          go_meet
          exact ⟨by rw [HM.out], rfl⟩
        · have z2 : ¬ (x.toNat : Int) ≤ 57 := by omega
          have HM : Hid (isDig x = false) := by
            show _ = _
            have : ¬ isDig x = true := by rw [isDig_iff]; exact fun q => h2 q.2
            simpa using this
          go_wp2_with fail
          go_meet
          exact ⟨by rw [HM.out], rfl⟩
      · have z1 : ¬ (48 : Int) ≤ (x.toNat : Int) := by omega
        have HM : Hid (isDig x = false) := by
          show _ = _
          have : ¬ isDig x = true := by rw [isDig_iff]; exact fun q => h1 q.1
          simpa using this
        go_wp2_with fail
        go_meet
        exact ⟨by rw [HM.out], rfl⟩
    case rest =>
    obtain ⟨rfl, hwc⟩ := hcut
    rw [hwc]
    clear hwc
    cases hdig : isDig x
    case true => as_aux_lemma =>
      have HTk' : Hid (tokF (t.drop i) = (numM ((t.drop i).takeWhile isDig)).map (fun (n : Nat) => (TkK.num (n : Int), ((t.drop i).takeWhile isDig).length))) := tok_dig HX.out Hnl.out hdig
      have HL0 : Hid (isDig x = true) := hdig
      clear hdig
      go_upto_block 4 with fail
      go_cut [7] (fun jv wx => ∃ (j : Nat), jv = .int .i64 (j : Int) ∧ i < j ∧ j ≤ n ∧ Hid ((t.drop i).takeWhile isDig = (t.drop i).take (j - i)) ∧ wx = W1)
      case first =>
        go_wp2_with fail
        go_loopw [7] (fun jv wx => ∃ (j : Nat), jv = .int .i64 (j : Int) ∧ i ≤ j ∧ j ≤ n ∧ (∀ k y, i ≤ k → k < j → t[k]? = some y → isDig y = true) ∧ wx = W1) (fun jv _ => n - (intOf jv).toNat)
        case atStart => exact ⟨i, rfl, Nat.le_refl _, hi, fun k y h1 h2 => by omega, rfl⟩
        case round =>
          obtain ⟨j, rfl, hij, hjn, hA0, hwx⟩ := hrel
          rw [hwx]
          clear hwx
          have HA0 : Hid (∀ k y, i ≤ k → k < j → t[k]? = some y → isDig y = true) := hA0
          clear hA0
          by_cases hj : j < n
          · have zj : (j : Int) < (n : Int) := by omega
            obtain ⟨y, hy⟩ : ∃ y, t[j]? = some y := ⟨_, List.getElem?_eq_getElem (by have := HN.out; omega)⟩
            have cy := HC.out j y hy
            by_cases hy1 : 48 ≤ y.toNat ∧ y.toNat ≤ 57
            · have y97 : (48 : Int) ≤ (y.toNat : Int) := by omega
              have y122 : (y.toNat : Int) ≤ 57 := by omega
              have HY : Hid (∀ k z, i ≤ k → k < j + 1 → t[k]? = some z → isDig z = true) := fun k z h1 h2 h3 => by
                by_cases q : k < j
                · exact HA0.out k z h1 q h3
                · obtain rfl : k = j := by omega
                  rw [hy] at h3
                  cases h3
                  exact (isDig_iff y).2 hy1
              clear hy
              go_wp2_with fail
              go_roundw
              case rel => exact ⟨j + 1, by go_num, by omega, by omega, HY.out, by first | rfl | trivial⟩
              case measure => simp [intOf]; omega
            · have HM : Hid (∃ (j' : Nat), Value.int .i64 (j : Int) = .int .i64 (j' : Int) ∧ i < j' ∧ j' ≤ n ∧ Hid ((t.drop i).takeWhile isDig = (t.drop i).take (j' - i)) ∧ W1 = W1) := by
                have hne : ¬ isDig y = true := by rw [isDig_iff]; exact hy1
                refine ⟨j, rfl, ?_, hjn, tw_at hij (by have := HN.out; omega) HA0.out (fun z hz => ?_), rfl⟩
                · rcases Nat.lt_or_ge i j with q | q
                  · exact q
                  · obtain rfl : i = j := by omega
                    rw [HX.out] at hy
                    cases hy
                    exact absurd HL0.out hne
                · rw [hy] at hz
                  cases hz
                  simpa using hne
              clear hy
              by_cases hy2 : 48 ≤ y.toNat
              · have y97 : (48 : Int) ≤ (y.toNat : Int) := by omega
                have y122 : ¬ (y.toNat : Int) ≤ 57 := by omega
                clear hy1 hy2
                go_wp2_with fail
                go_meet
                obtain ⟨j', e1, e2, e3, e4, _⟩ := HM.out
                exact ⟨j', e1, e2, e3, e4, rfl⟩
              · have y97 : ¬ (48 : Int) ≤ (y.toNat : Int) := by omega
                clear hy1 hy2
                go_wp2_with fail
                go_meet
                obtain ⟨j', e1, e2, e3, e4, _⟩ := HM.out
                exact ⟨j', e1, e2, e3, e4, rfl⟩
          · have zj : ¬ (j : Int) < (n : Int) := by omega
            have HM : Hid (∃ (j' : Nat), Value.int .i64 (j : Int) = .int .i64 (j' : Int) ∧ i < j' ∧ j' ≤ n ∧ Hid ((t.drop i).takeWhile isDig = (t.drop i).take (j' - i)) ∧ W1 = W1) :=
              ⟨j, rfl, by omega, hjn, tw_at hij (by have := HN.out; omega) HA0.out (fun z hz => by rw [List.getElem?_eq_none (by have := HN.out; omega)] at hz; cases hz), rfl⟩
            go_wp2_with fail
            go_meet
            obtain ⟨j', e1, e2, e3, e4, _⟩ := HM.out
            exact ⟨j', e1, e2, e3, e4, rfl⟩
      case rest =>
      obtain ⟨j, rfl, hij, hjn, HTw, hwc⟩ := hcut
      rw [hwc]
      clear hwc
      obtain ⟨wd, hwd⟩ : ∃ wd, wd = (t.drop i).take (j - i) := ⟨_, rfl⟩
      have hwl : wd.length = j - i := by rw [hwd, List.length_take, List.length_drop]; have := HN.out; omega
      have HWd : Hid ((t.drop i).takeWhile isDig = wd ∧ wd.length = j - i) := ⟨HTw.out.trans hwd.symm, hwl⟩
      have HK : Hid (Calls Tryz.prog 53 #[.slice (some ⟨b, off + i, none⟩) (j - i) (cap - i)] W1 (DgP wd W1)) := by
        have hby : BysAt W1 b (off + i) wd := fun k y hk => by
          rw [hwd, List.getElem?_take] at hk
          split at hk
          · rw [List.getElem?_drop] at hk
            rw [Nat.add_assoc]
            exact HB1.out (i + k) y hk
          · cases hk
        have h9 := digNum_core b (off + i) (cap - i) wd W1 hby (by omega) (fun y hy => by
          rw [← HWd.out.1] at hy
          exact List.all_eq_true.1 (List.all_takeWhile (p := isDig) (l := t.drop i)) y hy) (by omega) (by omega)
        rw [hwl] at h9
        exact h9
      clear hwl hwd HTw
      have hz3 : ¬ cap = i := by omega
      have zij : (i : Int) ≤ (j : Int) := by omega
      have zjc : (j : Int) ≤ (cap : Int) := by omega
      go_wp2_with fail
      refine HK.out.mono ?_
      rintro e w2 ⟨hw2, (⟨v, hv, rfl⟩ | ⟨hv, rfl⟩)⟩
      · rw [hw2]
        clear hw2 HK
        have HTs : Hid (tokF (t.drop i) = some (.num (v : Int), j - i) ∧ True) := by
          refine ⟨?_, trivial⟩
          rw [HTk'.out, HWd.out.1, hv, ← HWd.out.2]; rfl
        have Htv : Hid (tkV ⟨.num (v : Int), i⟩ = [.int .i64 2, .int .u64 (v : Int), .string ⟨#[]⟩, .int .i64 (i : Int)]) := rfl
        clear hv
        obtain ⟨W2, hW2⟩ : ∃ W2 : World, W2 = W1.alloc (Obj.cells #[.int .i64 2, .int .u64 (v : Int), .string ⟨#[]⟩, .int .i64 (i : Int)] 80) := ⟨_, rfl⟩
        have hb2 : Below W1.heap.size W1 W2 := by rw [hW2]; exact (Below.refl _ _).alloc (Nat.le_refl _) _
        have s2 := hb2.size
        have HW2 : Hid (OwnTk W2 w.heap.size g cp out ∧ Below w.heap.size w W2 ∧ ∀ j u, (tkV ⟨.num (v : Int), i⟩)[j]? = some u → W2.cell? ⟨W1.heap.size, j, none⟩ = some u) := by
          refine ⟨HJ1.out.1.own.below hb2, HJ1.out.1.below.trans (hb2.mono (by omega)), ?_⟩
          rw [hW2]
          rw [Htv.out]; exact alloc_cells W1 _ _
        clear hb2
        go_wp2_with (at_builtin; (try rw [← hW2]); refine wpList_append_Tk _ rfl _ _ rfl w.heap.size g cp m W1.heap.size 1 out ⟨.num (v : Int), i⟩ rfl rfl HJ.out.len HW2.out.1 HW2.out.2.2 hlm ?hb ?_)
        case hb => omega
        intro g' cp' w' hO' hgr hat
        have hgr2 : W2.grownBy w' (some g) := by first | exact hgr | (rw [hW2]; exact hgr)
        have HA : Hid (OwnTk w' w.heap.size g' cp' (out ++ [⟨.num (v : Int), i⟩]) ∧ Below w.heap.size w w') := ⟨hO', HW2.out.2.1.grown hgr2 (by omega) (fun j hj => by cases hj; exact hgl.1)⟩
        clear hO' hgr hgr2 hat hW2
        have HR : Hid (LxJ t w (i + (j - i)) (m + 1) g' cp' (out ++ [⟨.num (v : Int), i⟩]) w') := HJ.out.tok HX.out Hn32.out HTs.out.1 HA.out.1 HA.out.2 rfl
        clear HA
        go_wp2_with fail
        go_roundw
        case rel => exact ⟨j, m + 1, g', cp', out ++ [⟨.num (v : Int), i⟩], rfl, by omega, by omega, rfl, by have h9 := HR.out; rw [show i + (j - i) = j by omega] at h9; exact h9⟩
        case measure => simp [intOf]; omega
      · rw [hw2]
        clear hw2 HK
        have HTn : Hid (tokF (t.drop i) = none) := by
          show _ = _
          rw [HTk'.out, HWd.out.1, hv]; rfl
        clear hv
        obtain ⟨W2, hW2⟩ : ∃ W2 : World, W2 = W1.alloc (Obj.cells #[.int .i64 6, .int .u64 0, .string ⟨#[]⟩, .int .i64 (i : Int)] 80) := ⟨_, rfl⟩
        have hb2 : Below W1.heap.size W1 W2 := by rw [hW2]; exact (Below.refl _ _).alloc (Nat.le_refl _) _
        have s2 := hb2.size
        have HW2 : Hid (OwnTk W2 w.heap.size g cp out ∧ Below w.heap.size w W2 ∧ ∀ j u, (tkV ⟨.bad, i⟩)[j]? = some u → W2.cell? ⟨W1.heap.size, j, none⟩ = some u) := by
          refine ⟨HJ1.out.1.own.below hb2, HJ1.out.1.below.trans (hb2.mono (by omega)), ?_⟩
          rw [hW2]
          exact alloc_cells W1 _ _
        clear hb2
        go_wp2_with (at_builtin; (try rw [← hW2]); refine wpList_append_Tk _ rfl _ _ rfl w.heap.size g cp m W1.heap.size 1 out ⟨.bad, i⟩ rfl rfl HJ.out.len HW2.out.1 HW2.out.2.2 hlm ?hb ?_)
        case hb => omega
        intro g' cp' w' hO' hgr hat
        have hgr2 : W2.grownBy w' (some g) := by first | exact hgr | (rw [hW2]; exact hgr)
        have HA : Hid (OwnTk w' w.heap.size g' cp' (out ++ [⟨.bad, i⟩]) ∧ Below w.heap.size w w') := ⟨hO', HW2.out.2.1.grown hgr2 (by omega) (fun j hj => by cases hj; exact hgl.1)⟩
        clear hO' hgr hgr2 hat hW2
        have HR : Hid (LxP t w (.returned (.slice (some ⟨g', 0, none⟩) (m + 1) cp')) w') := HJ.out.bad HX.out Hn32.out HTn.out HA.out.1 HA.out.2 rfl
        clear HA
        go_wp2_with fail
        go_ret
        exact HR.out
    case false =>
    have Hnd : Hid (¬ isDig x = true) := by show ¬ _; rw [hdig]; simp
    clear hdig
    by_cases h34 : x.toNat = 34
    · as_aux_lemma =>
      have z34 : ((x.toNat : Int) == 34) = true := by have : (x.toNat : Int) = 34 := (by omega); simp [this]
      have HX34 : Hid (t[i]? = some 34) := by show _ = _; rw [HX.out]; congr 1; exact UInt8.toNat_inj.1 h34
      have HK : Hid (Calls Tryz.prog 54 #[.slice (some ⟨b, off, none⟩) n cap, .int .i64 (i : Int)] W1 (QuoP t i W1)) := by
        have h9 := l5Quoted_core b off cap t i W1 HB1.out (by omega) (by have := HN.out; omega) (by have := HN.out; omega)
        rw [← HN.out] at h9
        exact h9
      clear h34
      go_wp2_with fail
      refine HK.out.mono ?_
      rintro e w2 ⟨ok, st, kk, rfl, Hb2, hq⟩
      have hz2 := Hb2.out.size
      have HJ2 : Hid (LxJ t w i m g cp out w2 ∧ BoxAt w2 w.heap.size 80 4 wr.heap.size [.int .i64 6, .int .u64 0, .string ⟨#[]⟩, .int .i64 (i : Int)]) :=
        ⟨⟨HJ1.out.1.pre, HJ1.out.1.own.below Hb2.out, HJ1.out.1.below.trans (Hb2.out.mono HJ1.out.1.below.size), HJ1.out.1.len⟩, HJ1.out.2.1.below Hb2.out⟩
      clear o0 o1 o2 o3 cx HK
      rcases hq with ⟨rfl, c, nn, hq, rfl, rfl⟩ | ⟨rfl, hq⟩
      · have HTs : Hid (tokF (t.drop i) = some (.str (strL c), nn + 1) ∧ nn ≤ n - (i + 1)) := by
          refine ⟨by rw [tok_str HX34.out, hq]; rfl, ?_⟩
          have h9 : strM (t.drop (i + 1)) = some (c, nn) := by
            unfold quF at hq
            cases hs : strM (t.drop (i + 1)) with
            | none => rw [hs] at hq; cases hq
            | some z =>
              rw [hs] at hq
              obtain ⟨c', n'⟩ := z
              dsimp only at hq
              split at hq
              · exact hq
              · cases hq
          have h8 := strM_len _ _ (Nat.le_refl _) _ h9
          rw [List.length_drop] at h8
          have := HN.out
          omega
        have hnn : nn ≤ n - (i + 1) := HTs.out.2
        have Htv : Hid (tkV ⟨.str (strL c), i⟩ = [.int .i64 3, .int .u64 0, .string (strL c), .int .i64 (i : Int)]) := rfl
        have HJ1 : Hid (LxJ t w i m g cp out w2 ∧ True) := ⟨HJ2.out.1, trivial⟩
        have s1 : w.heap.size ≤ w2.heap.size := by omega
        clear hq
        obtain ⟨W2, hW2⟩ : ∃ W2 : World, W2 = w2.alloc (Obj.cells #[.int .i64 3, .int .u64 0, .string (strL c), .int .i64 (i : Int)] 80) := ⟨_, rfl⟩
        have hb2 : Below w2.heap.size w2 W2 := by rw [hW2]; exact (Below.refl _ _).alloc (Nat.le_refl _) _
        have s2 := hb2.size
        have HW2 : Hid (OwnTk W2 w.heap.size g cp out ∧ Below w.heap.size w W2 ∧ ∀ j u, (tkV ⟨.str (strL c), i⟩)[j]? = some u → W2.cell? ⟨w2.heap.size, j, none⟩ = some u) := by
          refine ⟨HJ1.out.1.own.below hb2, HJ1.out.1.below.trans (hb2.mono (by omega)), ?_⟩
          rw [hW2]
          rw [Htv.out]; exact alloc_cells w2 _ _
        clear hb2
        go_wp2_with (at_builtin; (try rw [← hW2]); refine wpList_append_Tk _ rfl _ _ rfl w.heap.size g cp m w2.heap.size 1 out ⟨.str (strL c), i⟩ rfl rfl HJ.out.len HW2.out.1 HW2.out.2.2 hlm ?hb ?_)
        case hb => omega
        intro g' cp' w' hO' hgr hat
        have hgr2 : W2.grownBy w' (some g) := by first | exact hgr | (rw [hW2]; exact hgr)
        have HA : Hid (OwnTk w' w.heap.size g' cp' (out ++ [⟨.str (strL c), i⟩]) ∧ Below w.heap.size w w') := ⟨hO', HW2.out.2.1.grown hgr2 (by omega) (fun j hj => by cases hj; exact hgl.1)⟩
        clear hO' hgr hgr2 hat hW2
        have HR : Hid (LxJ t w (i + (nn + 1)) (m + 1) g' cp' (out ++ [⟨.str (strL c), i⟩]) w') := HJ.out.tok HX.out Hn32.out HTs.out.1 HA.out.1 HA.out.2 rfl
        clear HA
        go_wp2_with fail
        go_roundw
        case rel => exact ⟨i + (nn + 1), m + 1, g', cp', out ++ [⟨.str (strL c), i⟩], by (first | rfl | go_num | (congr 1; omega)), by omega, by omega, rfl, HR.out⟩
        case measure => simp [intOf]; omega
      · have HTn : Hid (tokF (t.drop i) = none) := by show _ = _; rw [tok_str HX34.out, hq]; rfl
        have HJ1 : Hid (LxJ t w i m g cp out w2 ∧ True) := ⟨HJ2.out.1, trivial⟩
        have s1 : w.heap.size ≤ w2.heap.size := by omega
        have o0 := HJ2.out.2.cell (j := 0) rfl
        have o1 := HJ2.out.2.cell (j := 1) rfl
        have o2 := HJ2.out.2.cell (j := 2) rfl
        have o3 := HJ2.out.2.cell (j := 3) rfl
        clear hq
        obtain ⟨W2, hW2⟩ : ∃ W2 : World, W2 = w2.alloc (Obj.cells #[.int .i64 6, .int .u64 0, .string ⟨#[]⟩, .int .i64 (i : Int)] 80) := ⟨_, rfl⟩
        have hb2 : Below w2.heap.size w2 W2 := by rw [hW2]; exact (Below.refl _ _).alloc (Nat.le_refl _) _
        have s2 := hb2.size
        have HW2 : Hid (OwnTk W2 w.heap.size g cp out ∧ Below w.heap.size w W2 ∧ ∀ j u, (tkV ⟨.bad, i⟩)[j]? = some u → W2.cell? ⟨w2.heap.size, j, none⟩ = some u) := by
          refine ⟨HJ1.out.1.own.below hb2, HJ1.out.1.below.trans (hb2.mono (by omega)), ?_⟩
          rw [hW2]
          exact alloc_cells w2 _ _
        clear hb2
        go_wp2_with (at_builtin; (try rw [← hW2]); refine wpList_append_Tk _ rfl _ _ rfl w.heap.size g cp m w2.heap.size 1 out ⟨.bad, i⟩ rfl rfl HJ.out.len HW2.out.1 HW2.out.2.2 hlm ?hb ?_)
        case hb => omega
        intro g' cp' w' hO' hgr hat
        have hgr2 : W2.grownBy w' (some g) := by first | exact hgr | (rw [hW2]; exact hgr)
        have HA : Hid (OwnTk w' w.heap.size g' cp' (out ++ [⟨.bad, i⟩]) ∧ Below w.heap.size w w') := ⟨hO', HW2.out.2.1.grown hgr2 (by omega) (fun j hj => by cases hj; exact hgl.1)⟩
        clear hO' hgr hgr2 hat hW2
        have HR : Hid (LxP t w (.returned (.slice (some ⟨g', 0, none⟩) (m + 1) cp')) w') := HJ.out.bad HX.out Hn32.out HTn.out HA.out.1 HA.out.2 rfl
        clear HA
        go_wp2_with fail
        go_ret
        exact HR.out
    have z34 : ((x.toNat : Int) == 34) = false := by have : ¬ (x.toNat : Int) = 34 := (by omega); simp [this]
    have HTk : Hid (tokF (t.drop i) = if x = 46 ∧ t[i + 1]? = some 46 then some (.sign 46, 2) else if x = 40 ∨ x = 41 ∨ x = 44 ∨ x = 62 ∨ x = 124 then some (.sign x, 1) else none) := tok_rest HX.out Hnl.out Hnd.out (u8_ne h34)
    have hn34 := h34
    clear h34
    go_upto_region 30 with fail
    go_cut [160] (fun c wx => c = .bool (decide (x = 46 ∧ t[i + 1]? = some 46)) ∧ wx = W1)
    case first => as_aux_lemma =>
      by_cases h46 : x.toNat = 46
      · have hx46 : x = 46 := UInt8.toNat_inj.1 h46
        have z46 : ((x.toNat : Int) == 46) = true := by have : (x.toNat : Int) = 46 := (by omega); simp [this]
        by_cases hi1 : i + 1 < n
        · have zi1 : (i : Int) + 1 < (n : Int) := by omega
          obtain ⟨y, hy⟩ : ∃ y, t[i + 1]? = some y := ⟨_, List.getElem?_eq_getElem (by have := HN.out; omega)⟩
          have cy := HC.out (i + 1) y hy
          by_cases hy46 : y.toNat = 46
          · have zy : ((y.toNat : Int) == 46) = true := by have : (y.toNat : Int) = 46 := (by omega); simp [this]
            have HM : Hid (decide (x = 46 ∧ t[i + 1]? = some 46) = true) := decide_eq_true ⟨hx46, by rw [hy]; congr 1; exact UInt8.toNat_inj.1 hy46⟩
            clear hy hy46 h46 hx46
            go_wp2_with fail
            go_meet
            exact ⟨by rw [HM.out], rfl⟩
          · have zy : ((y.toNat : Int) == 46) = false := by have : ¬ (y.toNat : Int) = 46 := (by omega); simp [this]
            have HM : Hid (decide (x = 46 ∧ t[i + 1]? = some 46) = false) := decide_eq_false (fun q => by rw [hy] at q; cases q.2; exact hy46 rfl)
            clear hy hy46 h46 hx46
            go_wp2_with fail
            go_meet
            exact ⟨by rw [HM.out], rfl⟩
        · have zi1 : ¬ (i : Int) + 1 < (n : Int) := by omega
          have HM : Hid (decide (x = 46 ∧ t[i + 1]? = some 46) = false) := decide_eq_false (fun q => by rw [List.getElem?_eq_none (by have := HN.out; omega)] at q; cases q.2)
          clear h46 hx46
          go_wp2_with fail
          go_meet
          exact ⟨by rw [HM.out], rfl⟩
      · have z46 : ((x.toNat : Int) == 46) = false := by have : ¬ (x.toNat : Int) = 46 := (by omega); simp [this]
        have HM : Hid (decide (x = 46 ∧ t[i + 1]? = some 46) = false) := decide_eq_false (fun q => h46 (by rw [q.1]; rfl))
        clear h46
        go_wp2_with fail
        go_meet
        exact ⟨by rw [HM.out], rfl⟩
    case rest =>
    obtain ⟨rfl, hwc⟩ := hcut
    rw [hwc]
    clear hwc
    cases hdd : decide (x = 46 ∧ t[i + 1]? = some 46)
    case true => as_aux_lemma =>
      have hdd' := of_decide_eq_true hdd
      have HTs : Hid (tokF (t.drop i) = some (.sign 46, 2) ∧ i + 1 < n) := ⟨by rw [HTk.out, if_pos hdd'], by have := (List.getElem?_eq_some_iff.1 hdd'.2).1; have := HN.out; omega⟩
      have hi1 : i + 1 < n := HTs.out.2
      have Htv : Hid (tkV ⟨.sign 46, i⟩ = [.int .i64 4, .int .u64 0, .string ⟨#[46, 46]⟩, .int .i64 (i : Int)]) := rfl
      clear hdd hdd' hn34
      obtain ⟨W2, hW2⟩ : ∃ W2 : World, W2 = W1.alloc (Obj.cells #[.int .i64 4, .int .u64 0, .string ⟨#[46, 46]⟩, .int .i64 (i : Int)] 80) := ⟨_, rfl⟩
      have hb2 : Below W1.heap.size W1 W2 := by rw [hW2]; exact (Below.refl _ _).alloc (Nat.le_refl _) _
      have s2 := hb2.size
      have HW2 : Hid (OwnTk W2 w.heap.size g cp out ∧ Below w.heap.size w W2 ∧ ∀ j u, (tkV ⟨.sign 46, i⟩)[j]? = some u → W2.cell? ⟨W1.heap.size, j, none⟩ = some u) := by
        refine ⟨HJ1.out.1.own.below hb2, HJ1.out.1.below.trans (hb2.mono (by omega)), ?_⟩
        rw [hW2]
        rw [Htv.out]; exact alloc_cells W1 _ _
      clear hb2
      go_wp2_with (at_builtin; (try rw [← hW2]); refine wpList_append_Tk _ rfl _ _ rfl w.heap.size g cp m W1.heap.size 1 out ⟨.sign 46, i⟩ rfl rfl HJ.out.len HW2.out.1 HW2.out.2.2 hlm ?hb ?_)
      case hb => omega
      intro g' cp' w' hO' hgr hat
      have hgr2 : W2.grownBy w' (some g) := by first | exact hgr | (rw [hW2]; exact hgr)
      have HA : Hid (OwnTk w' w.heap.size g' cp' (out ++ [⟨.sign 46, i⟩]) ∧ Below w.heap.size w w') := ⟨hO', HW2.out.2.1.grown hgr2 (by omega) (fun j hj => by cases hj; exact hgl.1)⟩
      clear hO' hgr hgr2 hat hW2
      have HR : Hid (LxJ t w (i + 2) (m + 1) g' cp' (out ++ [⟨.sign 46, i⟩]) w') := HJ.out.tok HX.out Hn32.out HTs.out.1 HA.out.1 HA.out.2 rfl
      clear HA
      go_wp2_with fail
      go_roundw
      case rel => exact ⟨i + 2, m + 1, g', cp', out ++ [⟨.sign 46, i⟩], by go_num, by omega, by omega, rfl, HR.out⟩
      case measure => simp [intOf]; omega
    case false =>
    have HTk2 : Hid (tokF (t.drop i) = if x = 40 ∨ x = 41 ∨ x = 44 ∨ x = 62 ∨ x = 124 then some (.sign x, 1) else none) := by show _ = _; rw [HTk.out, if_neg (of_decide_eq_false hdd)]
    clear hdd
    go_upto_region 33 with fail
    go_cut [185] (fun c wx => c = .bool (decide (x = 40 ∨ x = 41 ∨ x = 44 ∨ x = 62 ∨ x = 124)) ∧ wx = W1)
    case first => as_aux_lemma =>
      by_cases h40 : x.toNat = 40
      · have hxc : x = 40 := UInt8.toNat_inj.1 h40
        have y40 : ((x.toNat : Int) == 40) = true := by have : (x.toNat : Int) = 40 := (by omega); simp [this]
        have HM : Hid (decide (x = 40 ∨ x = 41 ∨ x = 44 ∨ x = 62 ∨ x = 124) = true) := decide_eq_true (.inl hxc)
        clear hxc h40
        go_wp2_with fail
        go_meet
        exact ⟨by rw [HM.out], rfl⟩
      by_cases h41 : x.toNat = 41
      · have hxc : x = 41 := UInt8.toNat_inj.1 h41
        have y40 : ((x.toNat : Int) == 40) = false := by have : ¬ (x.toNat : Int) = 40 := (by omega); simp [this]
        have y41 : ((x.toNat : Int) == 41) = true := by have : (x.toNat : Int) = 41 := (by omega); simp [this]
        have HM : Hid (decide (x = 40 ∨ x = 41 ∨ x = 44 ∨ x = 62 ∨ x = 124) = true) := decide_eq_true (.inr (.inl hxc))
        clear hxc h40 h41
        go_wp2_with fail
        go_meet
        exact ⟨by rw [HM.out], rfl⟩
      by_cases h44 : x.toNat = 44
      · have hxc : x = 44 := UInt8.toNat_inj.1 h44
        have y40 : ((x.toNat : Int) == 40) = false := by have : ¬ (x.toNat : Int) = 40 := (by omega); simp [this]
        have y41 : ((x.toNat : Int) == 41) = false := by have : ¬ (x.toNat : Int) = 41 := (by omega); simp [this]
        have y44 : ((x.toNat : Int) == 44) = true := by have : (x.toNat : Int) = 44 := (by omega); simp [this]
        have HM : Hid (decide (x = 40 ∨ x = 41 ∨ x = 44 ∨ x = 62 ∨ x = 124) = true) := decide_eq_true (.inr (.inr (.inl hxc)))
        clear hxc h40 h41 h44
        go_wp2_with fail
        go_meet
        exact ⟨by rw [HM.out], rfl⟩
      by_cases h62 : x.toNat = 62
      · have hxc : x = 62 := UInt8.toNat_inj.1 h62
        have y40 : ((x.toNat : Int) == 40) = false := by have : ¬ (x.toNat : Int) = 40 := (by omega); simp [this]
        have y41 : ((x.toNat : Int) == 41) = false := by have : ¬ (x.toNat : Int) = 41 := (by omega); simp [this]
        have y44 : ((x.toNat : Int) == 44) = false := by have : ¬ (x.toNat : Int) = 44 := (by omega); simp [this]
        have y62 : ((x.toNat : Int) == 62) = true := by have : (x.toNat : Int) = 62 := (by omega); simp [this]
        have HM : Hid (decide (x = 40 ∨ x = 41 ∨ x = 44 ∨ x = 62 ∨ x = 124) = true) := decide_eq_true (.inr (.inr (.inr (.inl hxc))))
        clear hxc h40 h41 h44 h62
        go_wp2_with fail
        go_meet
        exact ⟨by rw [HM.out], rfl⟩
      by_cases h124 : x.toNat = 124
      · have hxc : x = 124 := UInt8.toNat_inj.1 h124
        have y40 : ((x.toNat : Int) == 40) = false := by have : ¬ (x.toNat : Int) = 40 := (by omega); simp [this]
        have y41 : ((x.toNat : Int) == 41) = false := by have : ¬ (x.toNat : Int) = 41 := (by omega); simp [this]
        have y44 : ((x.toNat : Int) == 44) = false := by have : ¬ (x.toNat : Int) = 44 := (by omega); simp [this]
        have y62 : ((x.toNat : Int) == 62) = false := by have : ¬ (x.toNat : Int) = 62 := (by omega); simp [this]
        have y124 : ((x.toNat : Int) == 124) = true := by have : (x.toNat : Int) = 124 := (by omega); simp [this]
        have HM : Hid (decide (x = 40 ∨ x = 41 ∨ x = 44 ∨ x = 62 ∨ x = 124) = true) := decide_eq_true (.inr (.inr (.inr (.inr hxc))))
        clear hxc h40 h41 h44 h62 h124
        go_wp2_with fail
        go_meet
        exact ⟨by rw [HM.out], rfl⟩
      have y40 : ((x.toNat : Int) == 40) = false := by have : ¬ (x.toNat : Int) = 40 := (by omega); simp [this]
      have y41 : ((x.toNat : Int) == 41) = false := by have : ¬ (x.toNat : Int) = 41 := (by omega); simp [this]
      have y44 : ((x.toNat : Int) == 44) = false := by have : ¬ (x.toNat : Int) = 44 := (by omega); simp [this]
      have y62 : ((x.toNat : Int) == 62) = false := by have : ¬ (x.toNat : Int) = 62 := (by omega); simp [this]
      have y124 : ((x.toNat : Int) == 124) = false := by have : ¬ (x.toNat : Int) = 124 := (by omega); simp [this]
      have HM : Hid (decide (x = 40 ∨ x = 41 ∨ x = 44 ∨ x = 62 ∨ x = 124) = false) := decide_eq_false (fun q => by rcases q with q | q | q | q | q <;> first | exact u8_ne h40 q | exact u8_ne h41 q | exact u8_ne h44 q | exact u8_ne h62 q | exact u8_ne h124 q)
      clear h40 h41 h44 h62 h124
      go_wp2_with fail
      go_meet
      exact ⟨by rw [HM.out], rfl⟩
    case rest =>
    obtain ⟨rfl, hwc⟩ := hcut
    rw [hwc]
    clear hwc
    cases hsg : decide (x = 40 ∨ x = 41 ∨ x = 44 ∨ x = 62 ∨ x = 124)
    case true => as_aux_lemma =>
      have hsg' := of_decide_eq_true hsg
      have HTs : Hid (tokF (t.drop i) = some (.sign x, 1) ∧ True) := ⟨by rw [HTk2.out, if_pos hsg'], trivial⟩
      have Hst : Hid (strL ((t.drop i).take 1) = ⟨#[x]⟩) := by show _ = _; rw [dropT_cons HX.out]; rfl
      have Htv : Hid (tkV ⟨.sign x, i⟩ = [.int .i64 4, .int .u64 0, .string ⟨#[x]⟩, .int .i64 (i : Int)]) := by
        show _ = _
        have : tkT (.sign x) = ⟨#[x]⟩ := if_neg (by rcases hsg' with rfl | rfl | rfl | rfl | rfl <;> decide)
        unfold tkV
        rw [this]
        rfl
      have hcv := conv_win HB1.out i 1 (cap - i) (by have := HN.out; omega)
      rw [Hst.out] at hcv
      have hz3 : ¬ cap = i := by omega
      have zic : (i : Int) + 1 ≤ (cap : Int) := by omega
      clear hsg hsg' hn34
      obtain ⟨W2, hW2⟩ : ∃ W2 : World, W2 = W1.alloc (Obj.cells #[.int .i64 4, .int .u64 0, .string ⟨#[x]⟩, .int .i64 (i : Int)] 80) := ⟨_, rfl⟩
      have hb2 : Below W1.heap.size W1 W2 := by rw [hW2]; exact (Below.refl _ _).alloc (Nat.le_refl _) _
      have s2 := hb2.size
      have HW2 : Hid (OwnTk W2 w.heap.size g cp out ∧ Below w.heap.size w W2 ∧ ∀ j u, (tkV ⟨.sign x, i⟩)[j]? = some u → W2.cell? ⟨W1.heap.size, j, none⟩ = some u) := by
        refine ⟨HJ1.out.1.own.below hb2, HJ1.out.1.below.trans (hb2.mono (by omega)), ?_⟩
        rw [hW2]
        rw [Htv.out]; exact alloc_cells W1 _ _
      clear hb2
      go_wp2_with (at_builtin; (try rw [← hW2]); refine wpList_append_Tk _ rfl _ _ rfl w.heap.size g cp m W1.heap.size 1 out ⟨.sign x, i⟩ rfl rfl HJ.out.len HW2.out.1 HW2.out.2.2 hlm ?hb ?_)
      case hb => omega
      intro g' cp' w' hO' hgr hat
      have hgr2 : W2.grownBy w' (some g) := by first | exact hgr | (rw [hW2]; exact hgr)
      have HA : Hid (OwnTk w' w.heap.size g' cp' (out ++ [⟨.sign x, i⟩]) ∧ Below w.heap.size w w') := ⟨hO', HW2.out.2.1.grown hgr2 (by omega) (fun j hj => by cases hj; exact hgl.1)⟩
      clear hO' hgr hgr2 hat hW2
      have HR : Hid (LxJ t w (i + 1) (m + 1) g' cp' (out ++ [⟨.sign x, i⟩]) w') := HJ.out.tok HX.out Hn32.out HTs.out.1 HA.out.1 HA.out.2 rfl
      clear HA
      go_wp2_with fail
      go_roundw
      case rel => exact ⟨i + 1, m + 1, g', cp', out ++ [⟨.sign x, i⟩], by go_num, by omega, by omega, rfl, HR.out⟩
      case measure => simp [intOf]; omega
    case false =>
    have HTn : Hid (tokF (t.drop i) = none) := by show _ = _; rw [HTk2.out, if_neg (of_decide_eq_false hsg)]
    clear hsg hn34
    obtain ⟨W2, hW2⟩ : ∃ W2 : World, W2 = W1.alloc (Obj.cells #[.int .i64 6, .int .u64 0, .string ⟨#[]⟩, .int .i64 (i : Int)] 80) := ⟨_, rfl⟩
    have hb2 : Below W1.heap.size W1 W2 := by rw [hW2]; exact (Below.refl _ _).alloc (Nat.le_refl _) _
    have s2 := hb2.size
    have HW2 : Hid (OwnTk W2 w.heap.size g cp out ∧ Below w.heap.size w W2 ∧ ∀ j u, (tkV ⟨.bad, i⟩)[j]? = some u → W2.cell? ⟨W1.heap.size, j, none⟩ = some u) := by
      refine ⟨HJ1.out.1.own.below hb2, HJ1.out.1.below.trans (hb2.mono (by omega)), ?_⟩
      rw [hW2]
      exact alloc_cells W1 _ _
    clear hb2
    go_wp2_with (at_builtin; (try rw [← hW2]); refine wpList_append_Tk _ rfl _ _ rfl w.heap.size g cp m W1.heap.size 1 out ⟨.bad, i⟩ rfl rfl HJ.out.len HW2.out.1 HW2.out.2.2 hlm ?hb ?_)
    case hb => omega
    intro g' cp' w' hO' hgr hat
    have hgr2 : W2.grownBy w' (some g) := by first | exact hgr | (rw [hW2]; exact hgr)
    have HA : Hid (OwnTk w' w.heap.size g' cp' (out ++ [⟨.bad, i⟩]) ∧ Below w.heap.size w w') := ⟨hO', HW2.out.2.1.grown hgr2 (by omega) (fun j hj => by cases hj; exact hgl.1)⟩
    clear hO' hgr hgr2 hat hW2
    have HR : Hid (LxP t w (.returned (.slice (some ⟨g', 0, none⟩) (m + 1) cp')) w') := HJ.out.bad HX.out Hn32.out HTn.out HA.out.1 HA.out.2 rfl
    clear HA
    go_wp2_with fail
    go_ret
    exact HR.out
end Go.Proofs.YtgnpcenpcmdlfaaGreatDoor

/-
  spec.ParseFilter.
-/
namespace Go.Proofs.YtgnpcenpcmdlfaaGreatDoor
open Go.ChangeShapes Go.WideShapes Go.ChangeAt Go.RowKit Go.Deep
set_option linter.unusedVariables false
set_option linter.unusedSimpArgs false
set_option maxRecDepth 100000

/-- What spec.ParseFilter hands back. -/
def SfR (base : Nat) (t : List UInt8) (v : Value) (w' : World) : Prop := ∃ (c a : Int) (nv : Value), v = .agg #[.int .i64 c, .int .i64 a, nv] ∧
  ((4000 < t.length ∧ c = 1 ∧ a = 0 ∧ nv = .slice none 0 0) ∨
   (t.length ≤ 4000 ∧ ∃ ks, LexR t 0 ks ∧ ((∃ (ns : List Nd) (go co : Nat), MEnds (⟨ks, 0, [], [], true⟩ : Ms) (.ok ns) ∧ c = 0 ∧ a = 0 ∧ nv = .slice (some ⟨go, 0, none⟩) ns.length co ∧ OwnNd w' base go co ns) ∨ (∃ p : Nat, MEnds (⟨ks, 0, [], [], true⟩ : Ms) (.error (c, p)) ∧ a = (p : Int) ∧ 1 ≤ c ∧ nv = .slice none 0 0))))
def SfP (t : List UInt8) (w : World) (e : Ending) (w' : World) : Prop := ∃ v, e = .returned v ∧ Below w.heap.size w w' ∧ SfR w.heap.size t v w'
set_option maxHeartbeats 8000000 in
theorem specParse_core {b off n cap : Nat} {t : List UInt8} {w : World} (hT : BysAt w b off t) (hb : b < w.heap.size) (hn : n = t.length) (hl : n ≤ 2 ^ 40) (hc : n ≤ cap) (hcm : cap ≤ maxLen) :
    Calls Tryz.prog 6 #[.slice (some ⟨b, off, none⟩) n cap] w (SfP t w) := by
  obtain ⟨W0, hW0⟩ : ∃ W0 : World, W0 = w.alloc (Obj.cells #[.int .i64 0, .int .i64 0, .slice none 0 0] 27) := ⟨_, rfl⟩
  have b0 : Below w.heap.size w W0 := by rw [hW0]; exact (Below.refl _ _).alloc (Nat.le_refl _) _
  have HB0 : Hid (BoxAt W0 w.heap.size 27 3 w.heap.size [.int .i64 0, .int .i64 0, .slice none 0 0] ∧ Below w.heap.size w W0 ∧ W0.heap.size = w.heap.size + 1) := ⟨by rw [hW0]; exact boxAt_new w _ (Nat.le_refl _) rfl, b0, by rw [hW0]; simp⟩
  have HT : Hid (BysAt W0 b off t ∧ b < W0.heap.size ∧ n = t.length ∧ n ≤ cap ∧ cap ≤ maxLen) := ⟨hT.below b0 hb, by have := b0.size; omega, hn, hc, hcm⟩
  clear hT hn hc hcm b0
  by_cases h4 : 4000 < n
  · have z4 : (4000 : Int) < (n : Int) := by omega
    obtain ⟨W9, hW9⟩ : ∃ V : World, V = ((W0.setCell ⟨w.heap.size, 0, none⟩ (.int .i64 1)).setCell ⟨w.heap.size, 1, none⟩ (.int .i64 0)).setCell ⟨w.heap.size, 2, none⟩ (.slice none 0 0) := ⟨_, rfl⟩
    have HR : Hid (BoxAt W9 w.heap.size 27 3 w.heap.size [.int .i64 1, .int .i64 0, .slice none 0 0] ∧ Below w.heap.size w W9) := by
      rw [hW9]
      exact ⟨((HB0.out.1.set 0 _).set 1 _).set 2 _, below_set (below_set (below_set HB0.out.2.1 (Nat.le_refl _) 0 _) (Nat.le_refl _) 1 _) (Nat.le_refl _) 2 _⟩
    have p0 := HR.out.1.cell (j := 0) rfl
    have p1 := HR.out.1.cell (j := 1) rfl
    have p2 := HR.out.1.cell (j := 2) rfl
    have a0 := HB0.out.1.cell (j := 0) rfl
    have a1 := HB0.out.1.cell (j := 1) rfl
    have a2 := HB0.out.1.cell (j := 2) rfl
    have f0 := HB0.out.1.frozen 0
    have f1 := HB0.out.1.frozen 1
    have f2 := HB0.out.1.frozen 2
    go_enter Tryz.func6, Tryz.ntmps6
    go_upto_region 2 with fail
    rw [← hW0]
    clear hW0
    go_wp2_with fail
    rw [← hW9]
    exact bodyPost_ret (v := .agg #[.int .i64 1, .int .i64 0, .slice none 0 0]) (by simp [results, Tryz.results6, go_sem, p0, p1, p2]) rfl ⟨_, rfl, HR.out.2, 1, 0, _, rfl, .inl ⟨by have := HT.out.2.2.1; omega, rfl, rfl, rfl⟩⟩
  · have z4 : ¬ (4000 : Int) < (n : Int) := by omega
    have HLx : Hid (Calls Tryz.prog 22 #[.slice (some ⟨b, off, none⟩) n cap] W0 (LxP t W0)) := by
      have h9 := l5Lex_core b off cap t W0 HT.out.1 HT.out.2.1 (by have := HT.out.2.2.1; omega) (by have := HT.out.2.2; omega) HT.out.2.2.2.2
      rw [← HT.out.2.2.1] at h9
      exact h9
    go_enter Tryz.func6, Tryz.ntmps6
    go_upto_region 3 with fail
    rw [← hW0]
    clear hW0
    go_wp2_with fail
    refine HLx.out.mono ?_
    clear HLx
    rintro e w1 ⟨g, cp, ks, rfl, hlex, hO, hb1⟩
    obtain ⟨N, hN⟩ : ∃ N, N = ks.length := ⟨_, rfl⟩
    rw [← hN]
    have hks : N ≤ 100000 := by
      have h1 := hlex.len.1
      have h2 := HT.out.2.2.1
      omega
    have HPr : Hid (Calls Tryz.prog 21 #[parV g N cp 0 0 0 0] w1 (ParP w1 g cp N (⟨ks, 0, [], [], true⟩ : Ms))) := l5Parse_core hO hN hks hlex.toks
    have H1 : Hid (LexR t 0 ks ∧ BoxAt w1 w.heap.size 27 3 w.heap.size [.int .i64 0, .int .i64 0, .slice none 0 0] ∧ Below w.heap.size w w1 ∧ w.heap.size < w1.heap.size) := ⟨hlex, HB0.out.1.below hb1, HB0.out.2.1.trans (hb1.mono HB0.out.2.1.size), by have := hb1.size; have := HB0.out.2.2; omega⟩
    clear hlex hO hb1 hN hks
    go_wp2_with fail
    refine HPr.out.mono ?_
    clear HPr
    rintro e w2 ⟨hb2, ⟨pi, pn, pa, ns, go, co, hM, hO, rfl⟩ | ⟨pi, pn, c, a, oa, on, oc, hM, hc1, rfl⟩⟩
    · obtain ⟨nl, hnl⟩ : ∃ nl, nl = ns.length := ⟨_, rfl⟩
      rw [← hnl]
      obtain ⟨W3, hW3⟩ : ∃ V : World, V = w2.alloc (Obj.cells #[.slice (some ⟨g, 0, none⟩) N cp, .int .i64 (pi : Int), .int .i64 (pn : Int), .int .i64 0, .int .i64 (pa : Int)] 41) := ⟨_, rfl⟩
      obtain ⟨pb, hpb⟩ : ∃ pb, pb = w2.heap.size := ⟨_, rfl⟩
      have hb3 : Below w2.heap.size w2 W3 := by rw [hW3]; exact (Below.refl _ _).alloc (Nat.le_refl _) _
      have H3 : Hid (BoxAt W3 w.heap.size 27 3 w.heap.size [.int .i64 0, .int .i64 0, .slice none 0 0] ∧ Below w.heap.size w W3 ∧ OwnNd W3 w1.heap.size go co ns ∧ BoxAt W3 w.heap.size 41 5 pb [.slice (some ⟨g, 0, none⟩) N cp, .int .i64 (pi : Int), .int .i64 (pn : Int), .int .i64 0, .int .i64 (pa : Int)]) :=
        ⟨(H1.out.2.1.below hb2).below hb3, (H1.out.2.2.1.trans (hb2.mono H1.out.2.2.1.size)).trans (hb3.mono (by have := hb2.size; have := H1.out.2.2.2; omega)), hO.below hb3 hO.lt.2, by rw [hpb, hW3]; exact boxAt_new w2 _ (by have := hb2.size; have := H1.out.2.2.2; omega) rfl⟩
      obtain ⟨W9, hW9⟩ : ∃ V : World, V = ((W3.setCell ⟨w.heap.size, 0, none⟩ (.int .i64 0)).setCell ⟨w.heap.size, 1, none⟩ (.int .i64 0)).setCell ⟨w.heap.size, 2, none⟩ (.slice (some ⟨go, 0, none⟩) nl co) := ⟨_, rfl⟩
      have HR : Hid (BoxAt W9 w.heap.size 27 3 w.heap.size [.int .i64 0, .int .i64 0, .slice (some ⟨go, 0, none⟩) nl co] ∧ SfP t w (.returned (.agg #[.int .i64 0, .int .i64 0, .slice (some ⟨go, 0, none⟩) nl co])) W9) := by
        have hs := H1.out.2.2.2
        refine ⟨by rw [hW9]; exact ((H3.out.1.set 0 _).set 1 _).set 2 _, _, rfl, by rw [hW9]; exact below_set (below_set (below_set H3.out.2.1 (Nat.le_refl _) 0 _) (Nat.le_refl _) 1 _) (Nat.le_refl _) 2 _, 0, 0, _, rfl, .inr ⟨by have := HT.out.2.2.1; omega, ks, H1.out.1, .inl ⟨ns, go, co, hM, rfl, rfl, by rw [hnl], ?_⟩⟩⟩
        rw [hW9]
        exact OwnNd.mono (ownsRow_setCell_below (ownsRow_setCell_below (ownsRow_setCell_below H3.out.2.2.1 hs _) hs _) hs _) (by omega)
      have p0 := HR.out.1.cell (j := 0) rfl
      have p1 := HR.out.1.cell (j := 1) rfl
      have p2 := HR.out.1.cell (j := 2) rfl
      have a0 := H3.out.1.cell (j := 0) rfl
      have a1 := H3.out.1.cell (j := 1) rfl
      have a2 := H3.out.1.cell (j := 2) rfl
      have f0 := H3.out.1.frozen 0
      have f1 := H3.out.1.frozen 1
      have f2 := H3.out.1.frozen 2
      have x3 := H3.out.2.2.2.cell (j := 3) rfl
      clear hM hO hb2 hb3 hnl
      go_upto_region 4 with fail
      rw [← hW3, ← hpb]
      clear hW3 hpb
      go_wp2_with fail
      rw [← hW9]
      exact bodyPost_ret (v := .agg #[.int .i64 0, .int .i64 0, .slice (some ⟨go, 0, none⟩) nl co]) (by simp [results, Tryz.results6, go_sem, p0, p1, p2]) rfl HR.out.2
    · obtain ⟨W3, hW3⟩ : ∃ V : World, V = w2.alloc (Obj.cells #[.slice (some ⟨g, 0, none⟩) N cp, .int .i64 (pi : Int), .int .i64 (pn : Int), .int .i64 c, .int .i64 (a : Int)] 41) := ⟨_, rfl⟩
      obtain ⟨pb, hpb⟩ : ∃ pb, pb = w2.heap.size := ⟨_, rfl⟩
      have hb3 : Below w2.heap.size w2 W3 := by rw [hW3]; exact (Below.refl _ _).alloc (Nat.le_refl _) _
      have zc : (c == 0) = false := by rw [beq_eq_false_iff_ne]; omega
      have H3 : Hid (BoxAt W3 w.heap.size 27 3 w.heap.size [.int .i64 0, .int .i64 0, .slice none 0 0] ∧ Below w.heap.size w W3 ∧ BoxAt W3 w.heap.size 41 5 pb [.slice (some ⟨g, 0, none⟩) N cp, .int .i64 (pi : Int), .int .i64 (pn : Int), .int .i64 c, .int .i64 (a : Int)]) :=
        ⟨(H1.out.2.1.below hb2).below hb3, (H1.out.2.2.1.trans (hb2.mono H1.out.2.2.1.size)).trans (hb3.mono (by have := hb2.size; have := H1.out.2.2.2; omega)), by rw [hpb, hW3]; exact boxAt_new w2 _ (by have := hb2.size; have := H1.out.2.2.2; omega) rfl⟩
      obtain ⟨W9, hW9⟩ : ∃ V : World, V = ((W3.setCell ⟨w.heap.size, 0, none⟩ (.int .i64 c)).setCell ⟨w.heap.size, 1, none⟩ (.int .i64 (a : Int))).setCell ⟨w.heap.size, 2, none⟩ (.slice none 0 0) := ⟨_, rfl⟩
      have HR : Hid (BoxAt W9 w.heap.size 27 3 w.heap.size [.int .i64 c, .int .i64 (a : Int), .slice none 0 0] ∧ SfP t w (.returned (.agg #[.int .i64 c, .int .i64 (a : Int), .slice none 0 0])) W9) := by
        exact ⟨by rw [hW9]; exact ((H3.out.1.set 0 _).set 1 _).set 2 _, _, rfl, by rw [hW9]; exact below_set (below_set (below_set H3.out.2.1 (Nat.le_refl _) 0 _) (Nat.le_refl _) 1 _) (Nat.le_refl _) 2 _, c, a, _, rfl, .inr ⟨by have := HT.out.2.2.1; omega, ks, H1.out.1, .inr ⟨a, hM, rfl, hc1, rfl⟩⟩⟩
      have p0 := HR.out.1.cell (j := 0) rfl
      have p1 := HR.out.1.cell (j := 1) rfl
      have p2 := HR.out.1.cell (j := 2) rfl
      have a0 := H3.out.1.cell (j := 0) rfl
      have a1 := H3.out.1.cell (j := 1) rfl
      have a2 := H3.out.1.cell (j := 2) rfl
      have f0 := H3.out.1.frozen 0
      have f1 := H3.out.1.frozen 1
      have f2 := H3.out.1.frozen 2
      have x3 := H3.out.2.2.cell (j := 3) rfl
      have x4 := H3.out.2.2.cell (j := 4) rfl
      clear hM hc1 hb2 hb3
      go_upto_region 4 with fail
      rw [← hW3, ← hpb]
      clear hW3 hpb
      go_wp2_with fail
      rw [← hW9]
      exact bodyPost_ret (v := .agg #[.int .i64 c, .int .i64 (a : Int), .slice none 0 0]) (by simp [results, Tryz.results6, go_sem, p0, p1, p2]) rfl HR.out.2
end Go.Proofs.YtgnpcenpcmdlfaaGreatDoor

/-
  (*impl.filterParser).behind: ranges; every word.
-/
namespace Go.Proofs.YtgnpcenpcmdlfaaGreatDoor
open Go.ChangeShapes Go.WideShapes Go.ChangeAt Go.RowKit Go.Deep
set_option linter.unusedVariables false
set_option linter.unusedSimpArgs false
set_option maxRecDepth 100000

theorem argP_8 (s : Ps) : liftP s (rangeF 8 true s.ks) = argP 8 s := by
  rw [argP_lift]
  rfl
set_option maxHeartbeats 8000000 in
theorem behind_8 {base g b off n cap : Nat} {t : List UInt8} {d : Nat} {s : Ps} {k : Tk} {ks : List Tk} {p : Nat} {nv : Value} {w : World} (hS : FpS base b off n cap t w) (h : Fp base g b off n cap t d s k ks p nv w) : Calls Tryz.prog 117 #[.pointer (some ⟨g, 0, none⟩), .int .i64 8] w (BehP base g b off n cap t d (fun r => r = argP 8 s) nv w) := by
  obtain ⟨W0, hW0⟩ : ∃ W0 : World, W0 = w.alloc (Obj.cells #[.int .i64 0, .string ⟨#[]⟩, .bool false, .string ⟨#[]⟩, .int .u64 0, .int .u64 0, .int .i64 0] 65) := ⟨_, rfl⟩
  have b3 : Below w.heap.size w W0 := by rw [hW0]; exact (Below.refl _ _).alloc (Nat.le_refl _) _
  have b1 : BoxAt W0 w.heap.size 65 7 w.heap.size [.int .i64 0, .string ⟨#[]⟩, .bool false, .string ⟨#[]⟩, .int .u64 0, .int .u64 0, .int .i64 0] := by rw [hW0]; exact boxAt_new w _ (Nat.le_refl _) rfl
  have hbs : Below base w W0 := b3.mono hS.sz
  have hnl := h.nlt
  have HW0 : Hid (BoxAt W0 w.heap.size 65 7 w.heap.size [.int .i64 0, .string ⟨#[]⟩, .bool false, .string ⟨#[]⟩, .int .u64 0, .int .u64 0, .int .i64 0] ∧ Fp base g b off n cap t d s k ks p nv W0 ∧ FpS base b off n cap t W0 ∧ Chg (fun q => q = g ∨ nv.ownBlock = some q) w W0 ∧ (∀ q, nv.ownBlock = some q → q < w.heap.size) ∧ s.ks = k :: ks) := ⟨b1, h.below b3, hS.up hbs, Chg.of_below b3, fun q hq => (hnl q hq).2, h.eq⟩
  have hgl := h.fs.lt
  have HEn : Hid (Calls Tryz.prog 129 #[.pointer (some ⟨g, 0, none⟩), .int .i64 8, .int .u8 34] W0 (BehP base g b off n cap t d (fun r => r = liftP s (rangeF 8 true s.ks)) nv W0)) := fends_core HW0.out.2.2.1 HW0.out.2.1 true 8 34 rfl
  have hsz0 : w.heap.size < W0.heap.size := by rw [hW0]; simp
  clear h hS b1 b3 hbs hnl
  go_enter Tryz.func117, Tryz.ntmps117
  go_upto_region 2 with fail
  rw [← hW0]
  clear hW0
  go_wp2_with fail
  refine HEn.out.mono ?_
  clear HEn
  rintro e w3 ⟨Hc3, (⟨s1, nd, hs1, rfl, k2, ks2, p2, nv3, hF3, hn3⟩ | ⟨c, a, hs1, rfl⟩)⟩
  case inr =>
    have HD : Hid (BehP base g b off n cap t d (fun r => r = argP 8 s) nv w (Pf c (a : Int)) w3) := ⟨Chg.comp HW0.out.2.2.2.1 Hc3.out (fun q _ z => z), .inr ⟨c, a, hs1.trans (argP_8 s), rfl⟩⟩
    clear hs1
    exact ⟨rfl, HD.out⟩
  have hBx := HW0.out.1.chg Hc3.out (fun z => by
    rcases z with z | z
    · omega
    · have := HW0.out.2.2.2.2.1 _ z; omega)
  have HF3 : Hid (Fp base g b off n cap t d s1 k2 ks2 p2 nv3 w3 ∧ argP 8 s = .ok (s1, nd) ∧ Chg (fun q => q = g ∨ nv.ownBlock = some q) w w3 ∧ (∀ q, nv3.ownBlock = some q → (nv.ownBlock = some q ∨ w.heap.size ≤ q) ∧ ¬ q = w.heap.size)) := ⟨hF3, ((argP_8 s).symm.trans hs1.symm), Chg.comp HW0.out.2.2.2.1 Hc3.out (fun q _ z => z), fun q hq => by
    rcases hn3 q hq with y | y
    · have := HW0.out.2.2.2.2.1 q y
      exact ⟨.inl y, by omega⟩
    · exact ⟨.inr (by omega), by omega⟩⟩
  clear hs1 hF3 hn3
  obtain ⟨nk, ns, nh, nt, nl, nu, nn⟩ := nd
  have hvv : (⟨nk, ns, nh, nt, nl, nu, nn⟩ : Nd).v = .agg #[.int .i64 nk, .string ns, .bool nh, .string nt, .int .u64 nl, .int .u64 nu, .int .i64 nn] := rfl
  rw [hvv]
  have l0 := hBx.cell (j := 0) rfl
  have l1 := hBx.cell (j := 1) rfl
  have l2 := hBx.cell (j := 2) rfl
  have l3 := hBx.cell (j := 3) rfl
  have l4 := hBx.cell (j := 4) rfl
  have l5 := hBx.cell (j := 5) rfl
  have l6 := hBx.cell (j := 6) rfl
  have f0 := hBx.frozen 0
  have f1 := hBx.frozen 1
  have f2 := hBx.frozen 2
  have f3 := hBx.frozen 3
  have f4 := hBx.frozen 4
  have f5 := hBx.frozen 5
  have f6 := hBx.frozen 6
  obtain ⟨W9, hW9⟩ : ∃ V : World, V = setN w3 w.heap.size ((⟨nk, ns, nh, nt, nl, nu, nn⟩ : Nd)) := ⟨_, rfl⟩
  have hB9 := hBx.setN ((⟨nk, ns, nh, nt, nl, nu, nn⟩ : Nd))
  rw [← hW9] at hB9
  have hc9 : Chg (fun q => q = w.heap.size) w3 W9 := by rw [hW9]; exact chg_setN _ _ _
  have HR : Hid (BehP base g b off n cap t d (fun r => r = argP 8 s) nv w (.returned ((⟨nk, ns, nh, nt, nl, nu, nn⟩ : Nd)).v) W9) := BehP.box (s1 := s1) HF3.out.2.1.symm HF3.out.1 HF3.out.2.2.1 (fun q hq => (HF3.out.2.2.2 q hq).1) hc9 (by omega) (fun q hq => (HF3.out.2.2.2 q hq).2)
  have q0 := hB9.cell (j := 0) rfl
  have q1 := hB9.cell (j := 1) rfl
  have q2 := hB9.cell (j := 2) rfl
  have q3 := hB9.cell (j := 3) rfl
  have q4 := hB9.cell (j := 4) rfl
  have q5 := hB9.cell (j := 5) rfl
  have q6 := hB9.cell (j := 6) rfl
  unfold setN at hW9
  simp only [leafN, patN, cntN, noS] at hW9 q0 q1 q2 q3 q4 q5 q6
  clear hB9 hc9
  go_wp2_with fail
  rw [← hW9]
  exact bodyPost_ret (v := ((⟨nk, ns, nh, nt, nl, nu, nn⟩ : Nd)).v) (by simp [results, Tryz.results117, go_sem, q0, q1, q2, q3, q4, q5, q6, leafN, patN, cntN, noS]) rfl HR.out
theorem argP_9 (s : Ps) : liftP s (rangeF 9 true s.ks) = argP 9 s := by
  rw [argP_lift]
  rfl
set_option maxHeartbeats 8000000 in
theorem behind_9 {base g b off n cap : Nat} {t : List UInt8} {d : Nat} {s : Ps} {k : Tk} {ks : List Tk} {p : Nat} {nv : Value} {w : World} (hS : FpS base b off n cap t w) (h : Fp base g b off n cap t d s k ks p nv w) : Calls Tryz.prog 117 #[.pointer (some ⟨g, 0, none⟩), .int .i64 9] w (BehP base g b off n cap t d (fun r => r = argP 9 s) nv w) := by
  obtain ⟨W0, hW0⟩ : ∃ W0 : World, W0 = w.alloc (Obj.cells #[.int .i64 0, .string ⟨#[]⟩, .bool false, .string ⟨#[]⟩, .int .u64 0, .int .u64 0, .int .i64 0] 65) := ⟨_, rfl⟩
  have b3 : Below w.heap.size w W0 := by rw [hW0]; exact (Below.refl _ _).alloc (Nat.le_refl _) _
  have b1 : BoxAt W0 w.heap.size 65 7 w.heap.size [.int .i64 0, .string ⟨#[]⟩, .bool false, .string ⟨#[]⟩, .int .u64 0, .int .u64 0, .int .i64 0] := by rw [hW0]; exact boxAt_new w _ (Nat.le_refl _) rfl
  have hbs : Below base w W0 := b3.mono hS.sz
  have hnl := h.nlt
  have HW0 : Hid (BoxAt W0 w.heap.size 65 7 w.heap.size [.int .i64 0, .string ⟨#[]⟩, .bool false, .string ⟨#[]⟩, .int .u64 0, .int .u64 0, .int .i64 0] ∧ Fp base g b off n cap t d s k ks p nv W0 ∧ FpS base b off n cap t W0 ∧ Chg (fun q => q = g ∨ nv.ownBlock = some q) w W0 ∧ (∀ q, nv.ownBlock = some q → q < w.heap.size) ∧ s.ks = k :: ks) := ⟨b1, h.below b3, hS.up hbs, Chg.of_below b3, fun q hq => (hnl q hq).2, h.eq⟩
  have hgl := h.fs.lt
  have HEn : Hid (Calls Tryz.prog 129 #[.pointer (some ⟨g, 0, none⟩), .int .i64 9, .int .u8 34] W0 (BehP base g b off n cap t d (fun r => r = liftP s (rangeF 9 true s.ks)) nv W0)) := fends_core HW0.out.2.2.1 HW0.out.2.1 true 9 34 rfl
  have hsz0 : w.heap.size < W0.heap.size := by rw [hW0]; simp
  clear h hS b1 b3 hbs hnl
  go_enter Tryz.func117, Tryz.ntmps117
  go_upto_region 2 with fail
  rw [← hW0]
  clear hW0
  go_wp2_with fail
  refine HEn.out.mono ?_
  clear HEn
  rintro e w3 ⟨Hc3, (⟨s1, nd, hs1, rfl, k2, ks2, p2, nv3, hF3, hn3⟩ | ⟨c, a, hs1, rfl⟩)⟩
  case inr =>
    have HD : Hid (BehP base g b off n cap t d (fun r => r = argP 9 s) nv w (Pf c (a : Int)) w3) := ⟨Chg.comp HW0.out.2.2.2.1 Hc3.out (fun q _ z => z), .inr ⟨c, a, hs1.trans (argP_9 s), rfl⟩⟩
    clear hs1
    exact ⟨rfl, HD.out⟩
  have hBx := HW0.out.1.chg Hc3.out (fun z => by
    rcases z with z | z
    · omega
    · have := HW0.out.2.2.2.2.1 _ z; omega)
  have HF3 : Hid (Fp base g b off n cap t d s1 k2 ks2 p2 nv3 w3 ∧ argP 9 s = .ok (s1, nd) ∧ Chg (fun q => q = g ∨ nv.ownBlock = some q) w w3 ∧ (∀ q, nv3.ownBlock = some q → (nv.ownBlock = some q ∨ w.heap.size ≤ q) ∧ ¬ q = w.heap.size)) := ⟨hF3, ((argP_9 s).symm.trans hs1.symm), Chg.comp HW0.out.2.2.2.1 Hc3.out (fun q _ z => z), fun q hq => by
    rcases hn3 q hq with y | y
    · have := HW0.out.2.2.2.2.1 q y
      exact ⟨.inl y, by omega⟩
    · exact ⟨.inr (by omega), by omega⟩⟩
  clear hs1 hF3 hn3
  obtain ⟨nk, ns, nh, nt, nl, nu, nn⟩ := nd
  have hvv : (⟨nk, ns, nh, nt, nl, nu, nn⟩ : Nd).v = .agg #[.int .i64 nk, .string ns, .bool nh, .string nt, .int .u64 nl, .int .u64 nu, .int .i64 nn] := rfl
  rw [hvv]
  have l0 := hBx.cell (j := 0) rfl
  have l1 := hBx.cell (j := 1) rfl
  have l2 := hBx.cell (j := 2) rfl
  have l3 := hBx.cell (j := 3) rfl
  have l4 := hBx.cell (j := 4) rfl
  have l5 := hBx.cell (j := 5) rfl
  have l6 := hBx.cell (j := 6) rfl
  have f0 := hBx.frozen 0
  have f1 := hBx.frozen 1
  have f2 := hBx.frozen 2
  have f3 := hBx.frozen 3
  have f4 := hBx.frozen 4
  have f5 := hBx.frozen 5
  have f6 := hBx.frozen 6
  obtain ⟨W9, hW9⟩ : ∃ V : World, V = setN w3 w.heap.size ((⟨nk, ns, nh, nt, nl, nu, nn⟩ : Nd)) := ⟨_, rfl⟩
  have hB9 := hBx.setN ((⟨nk, ns, nh, nt, nl, nu, nn⟩ : Nd))
  rw [← hW9] at hB9
  have hc9 : Chg (fun q => q = w.heap.size) w3 W9 := by rw [hW9]; exact chg_setN _ _ _
  have HR : Hid (BehP base g b off n cap t d (fun r => r = argP 9 s) nv w (.returned ((⟨nk, ns, nh, nt, nl, nu, nn⟩ : Nd)).v) W9) := BehP.box (s1 := s1) HF3.out.2.1.symm HF3.out.1 HF3.out.2.2.1 (fun q hq => (HF3.out.2.2.2 q hq).1) hc9 (by omega) (fun q hq => (HF3.out.2.2.2 q hq).2)
  have q0 := hB9.cell (j := 0) rfl
  have q1 := hB9.cell (j := 1) rfl
  have q2 := hB9.cell (j := 2) rfl
  have q3 := hB9.cell (j := 3) rfl
  have q4 := hB9.cell (j := 4) rfl
  have q5 := hB9.cell (j := 5) rfl
  have q6 := hB9.cell (j := 6) rfl
  unfold setN at hW9
  simp only [leafN, patN, cntN, noS] at hW9 q0 q1 q2 q3 q4 q5 q6
  clear hB9 hc9
  go_wp2_with fail
  rw [← hW9]
  exact bodyPost_ret (v := ((⟨nk, ns, nh, nt, nl, nu, nn⟩ : Nd)).v) (by simp [results, Tryz.results117, go_sem, q0, q1, q2, q3, q4, q5, q6, leafN, patN, cntN, noS]) rfl HR.out
theorem argP_10 (s : Ps) : liftP s (rangeF 10 false s.ks) = argP 10 s := by
  rw [argP_lift]
  rfl
set_option maxHeartbeats 8000000 in
theorem behind_10 {base g b off n cap : Nat} {t : List UInt8} {d : Nat} {s : Ps} {k : Tk} {ks : List Tk} {p : Nat} {nv : Value} {w : World} (hS : FpS base b off n cap t w) (h : Fp base g b off n cap t d s k ks p nv w) : Calls Tryz.prog 117 #[.pointer (some ⟨g, 0, none⟩), .int .i64 10] w (BehP base g b off n cap t d (fun r => r = argP 10 s) nv w) := by
  obtain ⟨W0, hW0⟩ : ∃ W0 : World, W0 = w.alloc (Obj.cells #[.int .i64 0, .string ⟨#[]⟩, .bool false, .string ⟨#[]⟩, .int .u64 0, .int .u64 0, .int .i64 0] 65) := ⟨_, rfl⟩
  have b3 : Below w.heap.size w W0 := by rw [hW0]; exact (Below.refl _ _).alloc (Nat.le_refl _) _
  have b1 : BoxAt W0 w.heap.size 65 7 w.heap.size [.int .i64 0, .string ⟨#[]⟩, .bool false, .string ⟨#[]⟩, .int .u64 0, .int .u64 0, .int .i64 0] := by rw [hW0]; exact boxAt_new w _ (Nat.le_refl _) rfl
  have hbs : Below base w W0 := b3.mono hS.sz
  have hnl := h.nlt
  have HW0 : Hid (BoxAt W0 w.heap.size 65 7 w.heap.size [.int .i64 0, .string ⟨#[]⟩, .bool false, .string ⟨#[]⟩, .int .u64 0, .int .u64 0, .int .i64 0] ∧ Fp base g b off n cap t d s k ks p nv W0 ∧ FpS base b off n cap t W0 ∧ Chg (fun q => q = g ∨ nv.ownBlock = some q) w W0 ∧ (∀ q, nv.ownBlock = some q → q < w.heap.size) ∧ s.ks = k :: ks) := ⟨b1, h.below b3, hS.up hbs, Chg.of_below b3, fun q hq => (hnl q hq).2, h.eq⟩
  have hgl := h.fs.lt
  have HEn : Hid (Calls Tryz.prog 129 #[.pointer (some ⟨g, 0, none⟩), .int .i64 10, .int .u8 48] W0 (BehP base g b off n cap t d (fun r => r = liftP s (rangeF 10 false s.ks)) nv W0)) := fends_core HW0.out.2.2.1 HW0.out.2.1 false 10 48 rfl
  have hsz0 : w.heap.size < W0.heap.size := by rw [hW0]; simp
  clear h hS b1 b3 hbs hnl
  go_enter Tryz.func117, Tryz.ntmps117
  go_upto_region 2 with fail
  rw [← hW0]
  clear hW0
  go_wp2_with fail
  refine HEn.out.mono ?_
  clear HEn
  rintro e w3 ⟨Hc3, (⟨s1, nd, hs1, rfl, k2, ks2, p2, nv3, hF3, hn3⟩ | ⟨c, a, hs1, rfl⟩)⟩
  case inr =>
    have HD : Hid (BehP base g b off n cap t d (fun r => r = argP 10 s) nv w (Pf c (a : Int)) w3) := ⟨Chg.comp HW0.out.2.2.2.1 Hc3.out (fun q _ z => z), .inr ⟨c, a, hs1.trans (argP_10 s), rfl⟩⟩
    clear hs1
    exact ⟨rfl, HD.out⟩
  have hBx := HW0.out.1.chg Hc3.out (fun z => by
    rcases z with z | z
    · omega
    · have := HW0.out.2.2.2.2.1 _ z; omega)
  have HF3 : Hid (Fp base g b off n cap t d s1 k2 ks2 p2 nv3 w3 ∧ argP 10 s = .ok (s1, nd) ∧ Chg (fun q => q = g ∨ nv.ownBlock = some q) w w3 ∧ (∀ q, nv3.ownBlock = some q → (nv.ownBlock = some q ∨ w.heap.size ≤ q) ∧ ¬ q = w.heap.size)) := ⟨hF3, ((argP_10 s).symm.trans hs1.symm), Chg.comp HW0.out.2.2.2.1 Hc3.out (fun q _ z => z), fun q hq => by
    rcases hn3 q hq with y | y
    · have := HW0.out.2.2.2.2.1 q y
      exact ⟨.inl y, by omega⟩
    · exact ⟨.inr (by omega), by omega⟩⟩
  clear hs1 hF3 hn3
  obtain ⟨nk, ns, nh, nt, nl, nu, nn⟩ := nd
  have hvv : (⟨nk, ns, nh, nt, nl, nu, nn⟩ : Nd).v = .agg #[.int .i64 nk, .string ns, .bool nh, .string nt, .int .u64 nl, .int .u64 nu, .int .i64 nn] := rfl
  rw [hvv]
  have l0 := hBx.cell (j := 0) rfl
  have l1 := hBx.cell (j := 1) rfl
  have l2 := hBx.cell (j := 2) rfl
  have l3 := hBx.cell (j := 3) rfl
  have l4 := hBx.cell (j := 4) rfl
  have l5 := hBx.cell (j := 5) rfl
  have l6 := hBx.cell (j := 6) rfl
  have f0 := hBx.frozen 0
  have f1 := hBx.frozen 1
  have f2 := hBx.frozen 2
  have f3 := hBx.frozen 3
  have f4 := hBx.frozen 4
  have f5 := hBx.frozen 5
  have f6 := hBx.frozen 6
  obtain ⟨W9, hW9⟩ : ∃ V : World, V = setN w3 w.heap.size ((⟨nk, ns, nh, nt, nl, nu, nn⟩ : Nd)) := ⟨_, rfl⟩
  have hB9 := hBx.setN ((⟨nk, ns, nh, nt, nl, nu, nn⟩ : Nd))
  rw [← hW9] at hB9
  have hc9 : Chg (fun q => q = w.heap.size) w3 W9 := by rw [hW9]; exact chg_setN _ _ _
  have HR : Hid (BehP base g b off n cap t d (fun r => r = argP 10 s) nv w (.returned ((⟨nk, ns, nh, nt, nl, nu, nn⟩ : Nd)).v) W9) := BehP.box (s1 := s1) HF3.out.2.1.symm HF3.out.1 HF3.out.2.2.1 (fun q hq => (HF3.out.2.2.2 q hq).1) hc9 (by omega) (fun q hq => (HF3.out.2.2.2 q hq).2)
  have q0 := hB9.cell (j := 0) rfl
  have q1 := hB9.cell (j := 1) rfl
  have q2 := hB9.cell (j := 2) rfl
  have q3 := hB9.cell (j := 3) rfl
  have q4 := hB9.cell (j := 4) rfl
  have q5 := hB9.cell (j := 5) rfl
  have q6 := hB9.cell (j := 6) rfl
  unfold setN at hW9
  simp only [leafN, patN, cntN, noS] at hW9 q0 q1 q2 q3 q4 q5 q6
  clear hB9 hc9
  go_wp2_with fail
  rw [← hW9]
  exact bodyPost_ret (v := ((⟨nk, ns, nh, nt, nl, nu, nn⟩ : Nd)).v) (by simp [results, Tryz.results117, go_sem, q0, q1, q2, q3, q4, q5, q6, leafN, patN, cntN, noS]) rfl HR.out
/-- What stands behind a word. -/
def BehR (F : Ps → PR Ps → Prop) (d : Nat) (kd : Int) (s : Ps) (r : PR (Ps × Nd)) : Prop := if kd = 16 then ((∃ s1, BranR F d s (.ok s1) ∧ r = .ok (s1, leafN 16)) ∨ (∃ e, BranR F d s (.error e) ∧ r = .error e)) else r = argP kd s
theorem BehP.mono {base g b off n cap : Nat} {t : List UInt8} {d : Nat} {A A2 : PR (Ps × Nd) → Prop} {nv : Value} {w w' : World} {e : Ending} (h : BehP base g b off n cap t d A nv w e w') (hA : ∀ r, A r → A2 r) : BehP base g b off n cap t d A2 nv w e w' := by
  obtain ⟨h1, ⟨s1, nd, h2, h3⟩ | ⟨c, a, h2, h3⟩⟩ := h
  · exact ⟨h1, .inl ⟨s1, nd, hA _ h2, h3⟩⟩
  · exact ⟨h1, .inr ⟨c, a, hA _ h2, h3⟩⟩
theorem behind_any {base g b off n cap : Nat} {t : List UInt8} {d : Nat} {s : Ps} {k : Tk} {ks : List Tk} {p : Nat} {nv : Value} {w : World} (hS : FpS base b off n cap t w) (h : Fp base g b off n cap t d s k ks p nv w) {F : Ps → PR Ps → Prop} (HF : 0 < d → OprC base g b off n cap t (d - 1) 26 F) {kd : Int} (hkd : (TkK.word kd).good) : Calls Tryz.prog 117 #[.pointer (some ⟨g, 0, none⟩), .int .i64 kd] w (BehP base g b off n cap t d (BehR F d kd s) nv w) := by
  have h1 : kd = 16 ∨ kd = 1 ∨ kd = 2 ∨ kd = 3 ∨ kd = 4 ∨ kd = 5 ∨ kd = 6 ∨ kd = 7 ∨ kd = 8 ∨ kd = 9 ∨ kd = 10 ∨ kd = 11 ∨ kd = 12 ∨ kd = 13 := by
    unfold TkK.good at hkd
    omega
  rcases h1 with rfl | rfl | rfl | rfl | rfl | rfl | rfl | rfl | rfl | rfl | rfl | rfl | rfl | rfl
  · exact (behind_16 hS h HF).mono (fun e w' q => q.mono (fun r z => by unfold BehR; rw [if_pos rfl]; exact z))
  · exact (behind_1 hS h).mono (fun e w' q => q.mono (fun r z => by unfold BehR; rw [if_neg (by decide)]; exact z))
  · exact (behind_2 hS h).mono (fun e w' q => q.mono (fun r z => by unfold BehR; rw [if_neg (by decide)]; exact z))
  · exact (behind_3 hS h).mono (fun e w' q => q.mono (fun r z => by unfold BehR; rw [if_neg (by decide)]; exact z))
  · exact (behind_4 hS h).mono (fun e w' q => q.mono (fun r z => by unfold BehR; rw [if_neg (by decide)]; exact z))
  · exact (behind_5 hS h).mono (fun e w' q => q.mono (fun r z => by unfold BehR; rw [if_neg (by decide)]; exact z))
  · exact (behind_6 hS h).mono (fun e w' q => q.mono (fun r z => by unfold BehR; rw [if_neg (by decide)]; exact z))
  · exact (behind_7 hS h).mono (fun e w' q => q.mono (fun r z => by unfold BehR; rw [if_neg (by decide)]; exact z))
  · exact (behind_8 hS h).mono (fun e w' q => q.mono (fun r z => by unfold BehR; rw [if_neg (by decide)]; exact z))
  · exact (behind_9 hS h).mono (fun e w' q => q.mono (fun r z => by unfold BehR; rw [if_neg (by decide)]; exact z))
  · exact (behind_10 hS h).mono (fun e w' q => q.mono (fun r z => by unfold BehR; rw [if_neg (by decide)]; exact z))
  · exact (behind_11 hS h).mono (fun e w' q => q.mono (fun r z => by unfold BehR; rw [if_neg (by decide)]; exact z))
  · exact (behind_12 hS h).mono (fun e w' q => q.mono (fun r z => by unfold BehR; rw [if_neg (by decide)]; exact z))
  · exact (behind_13 hS h).mono (fun e w' q => q.mono (fun r z => by unfold BehR; rw [if_neg (by decide)]; exact z))
end Go.Proofs.YtgnpcenpcmdlfaaGreatDoor

