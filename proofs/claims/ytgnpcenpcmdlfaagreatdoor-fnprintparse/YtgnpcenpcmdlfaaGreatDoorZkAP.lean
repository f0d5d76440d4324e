import Derived.Deep.CutBlock
import Derived.Test.YtgnpcenpcmdlfaaGreatDoorZkAO
import Derived.Test.YtgnpcenpcmdlfaaGreatDoorZkAM
/-
  (*impl.filterScanner).str.
-/
namespace Go.Proofs.YtgnpcenpcmdlfaaGreatDoor
open Go.ChangeShapes Go.WideShapes Go.ChangeAt Go.RowKit Go.Deep
set_option linter.unusedVariables false
set_option linter.unusedSimpArgs false
set_option maxRecDepth 100000

def SstP (base g b off n cap i : Nat) (vs : List Value) (l : List UInt8) (w : World) (e : Ending) (w' : World) : Prop := Hid (Chg (fun k => k = g) w w') ∧ ((∃ (c : List UInt8) (k : Nat), quF l = some (c, k) ∧ e = .returned (.string (strL c)) ∧ FsAt w' base g b off n cap (i + 1 + k) vs) ∨ (quF l = none ∧ e = Pf 2 i))
/-- What is left of a text, as a slice. -/
def RstV (b off n cap j : Nat) (v : Value) : Prop := ∃ a c, v = .slice a (n - j) c ∧ n - j ≤ c ∧ (j < n → a = some ⟨b, off + j, none⟩ ∧ c = cap - j)
structure SstJ (w : World) (base g b off n cap i : Nat) (vs : List Value) (t : List UInt8) (j m gc cp : Nat) (X : List UInt8) (wr : World) : Prop where
  fs : FsAt wr base g b off n cap i vs
  bys : BysAt wr b off t
  qu : QuS t i j X
  wb : WrB wr w.heap.size gc cp X
  below : Below w.heap.size w wr
  len : m = X.length
  bl : b < wr.heap.size
theorem SstJ.up {w : World} {base g b off n cap i : Nat} {vs : List Value} {t : List UInt8} {j m gc cp : Nat} {X : List UInt8} {wr wr' : World} (h : SstJ w base g b off n cap i vs t j m gc cp X wr) (hb : Below wr.heap.size wr wr') : SstJ w base g b off n cap i vs t j m gc cp X wr' :=
  ⟨BoxAt.below h.fs hb, fun k y hk => by rw [hb.cell (p := ⟨b, off + k, none⟩) h.bl]; exact h.bys k y hk, h.qu, h.wb.below hb, h.below.trans (hb.mono h.below.size), h.len, by have := hb.size; have := h.bl; omega⟩
theorem escM_len {l : List UInt8} {y : UInt8} {k : Nat} (h : escM l = some (y, k)) : 1 ≤ k ∧ k ≤ l.length := by
  match l with
  | [] => cases h
  | [a] => cases h
  | a :: c :: r =>
    unfold escM at h
    dsimp only at h
    split at h
    · cases h; simp
    · split at h
      · match r with
        | [] => cases h
        | [u] => cases h
        | u :: v :: r =>
          dsimp only at h
          cases h1 : hexV u with
          | none => rw [h1] at h; cases h
          | some p =>
            cases h2 : hexV v with
            | none => rw [h1, h2] at h; cases h
            | some q => rw [h1, h2] at h; cases h; simp
      · cases h
def rvLen : Value → Nat
  | .slice _ n _ => n
  | _ => 0
set_option maxHeartbeats 16000000 in
theorem str_core {base g b off n cap i : Nat} {vs : List Value} {w : World} {t : List UInt8} (h : FsAt w base g b off n cap i vs) (hT : BysAt w b off t) (hb : b < w.heap.size) (hn : n = t.length) (hl : n ≤ 100000) (hc : n ≤ cap) (hcm : cap ≤ maxLen) (hi : i < n) :
    Calls Tryz.prog 59 #[.pointer (some ⟨g, 0, none⟩)] w (SstP base g b off n cap i vs (t.drop (i + 1)) w) := by
  have HN : Hid (n = t.length) := hn
  have hgl := h.lt
  unfold maxLen at hcm
  obtain ⟨W0, hW0⟩ : ∃ W0 : World, W0 = w.alloc (Obj.cells #[] 5) := ⟨_, rfl⟩
  have hb0 : Below w.heap.size w W0 := by rw [hW0]; exact (Below.refl _ _).alloc (Nat.le_refl _) _
  have HW0 : Hid (SstJ w base g b off n cap i vs t (i + 1) 0 w.heap.size 0 [] W0 ∧ Below w.heap.size w W0) := by
    refine ⟨⟨BoxAt.below h hb0, fun k y hk => by rw [hb0.cell (p := ⟨b, off + k, none⟩) hb]; exact hT k y hk, QuS.start t i, ?_, hb0, rfl, by have := hb0.size; omega⟩, hb0⟩
    rw [hW0]; exact (ownY_new w (Nat.le_refl _)).wr
  have c0 := HW0.out.1.fs.cell (j := 0) rfl
  have c1 := HW0.out.1.fs.cell (j := 1) rfl
  clear h hT hn hb0
  go_enter Tryz.func59, Tryz.ntmps59
  go_wp2_with fail
  go_step3
  go_wp2_with fail
  rw [← hW0]
  clear hW0
  have zi1 : (i : Int) + 1 ≤ (n : Int) := by omega
  have znc : (n : Int) ≤ (cap : Int) := by omega
  have hw1 : IntKind.i64.wrap ((i : Int) + 1) = (i : Int) + 1 := wrap64 (by omega) (by omega)
  have hi1 : (0 : Int) ≤ (i : Int) + 1 := by omega
  have ht1 : ((i : Int) + 1).toNat = i + 1 := by omega
  go_quiet (fail)
  obtain ⟨W1, hW1⟩ : ∃ W1 : World, W1 = W0.drewN nq := ⟨_, rfl⟩
  have HW1 : Hid (SstJ w base g b off n cap i vs t (i + 1) 0 w.heap.size 0 [] W1) := by
    have hbq : Below W0.heap.size W0 W1 := by rw [hW1]; exact below_drewN (Below.refl _ _) _
    exact HW0.out.1.up hbq
  obtain ⟨a, ha⟩ : ∃ a : Option Addr, (if cap = i + 1 then (some ⟨b, off, none⟩ : Option Addr) else some ⟨b, off + (i + 1), none⟩) = a := ⟨_, rfl⟩
  have HAd : Hid (i + 1 < n → a = some ⟨b, off + (i + 1), none⟩) := fun q => by rw [← ha, if_neg (by omega)]
  rw [← hW1, ha]
  clear hW1 ha c0 c1 HW0
  go_wp2_with fail
  go_step3
  go_wp2_with fail
  go_loopw [3, 4] (fun cv rv wr => ∃ (j m gc cp ca : Nat) (a : Option Addr) (X : List UInt8), cv = .slice (some ⟨gc, 0, none⟩) m cp ∧ rv = .slice a (n - j) ca ∧ i + 1 ≤ j ∧ j ≤ n ∧ m ≤ j ∧ (j < n → a = some ⟨b, off + j, none⟩ ∧ ca = cap - j) ∧ SstJ w base g b off n cap i vs t j m gc cp X wr) (fun _ rv _ => rvLen rv)
  case atStart => exact ⟨i + 1, 0, w.heap.size, 0, cap - (i + 1), a, [], rfl, rfl, Nat.le_refl _, by omega, by omega, fun q => ⟨HAd.out q, rfl⟩, HW1.out⟩
  case round =>
    clear HW1 HAd
    obtain ⟨j, m, gc, cp, ca, a1, X, rfl, rfl, hij, hjn, hmj, ha1, hJ⟩ := hrel
    have HJ : Hid (SstJ w base g b off n cap i vs t j m gc cp X wr) := hJ
    have sr := hJ.below.size
    have hgc := hJ.wb.lt
    have hge := hJ.wb.le
    have HCg : Hid (Chg (fun k => k = g) w wr) := Chg.of_below hJ.below
    clear hJ
    have die : quF (t.drop (i + 1)) = none → Hid (SstP base g b off n cap i vs (t.drop (i + 1)) w (Pf 2 i) wr) := fun q => ⟨HCg.out, .inr ⟨q, rfl⟩⟩
    by_cases hj : j < n
    case neg =>
      obtain rfl : j = n := by omega
      have HD := die (quF_none (HJ.out.qu.none (by rw [HN.out, List.drop_length, str_nil])))
      rw [Nat.sub_self]
      clear die ha1
      go_wp2_with fail
      refine (sdem_no HJ.out.fs).mono ?_
      rintro e w2 ⟨rfl, hw2⟩
      rw [hw2]
      clear hw2
      exact ⟨rfl, HD.out⟩
    case pos =>
    obtain ⟨rfl, rfl⟩ := ha1 hj
    obtain ⟨r, hr⟩ : ∃ r, n - j = r + 1 := ⟨n - j - 1, by omega⟩
    obtain ⟨x, hx⟩ : ∃ x, t[j]? = some x := ⟨_, List.getElem?_eq_getElem (by have := HN.out; omega)⟩
    have cx : wr.cell? ⟨b, off + j, none⟩ = some (.int .u8 (x.toNat : Int)) := HJ.out.bys j x hx
    have HX : Hid (t[j]? = some x) := hx
    have hx8 : x.toNat < 256 := x.toNat_lt
    have hrn : j + r + 1 = n := by omega
    rw [hr]
    clear hx hr ha1
    have z0 : (0 : Int) < (r : Int) + 1 := by omega
    have zr : (r : Int) + 1 ≤ ((cap - j : Nat) : Int) := by omega
    have zr1 : (1 : Int) ≤ (r : Int) + 1 := by omega
    obtain ⟨st, hst⟩ : ∃ st, st = strL X := ⟨_, rfl⟩
    by_cases h34 : x.toNat = 34
    · have z34 : ((x.toNat : Int) == 34) = true := by have : (x.toNat : Int) = 34 := (by omega); simp [this]
      have HX34 : Hid (t[j]? = some 34) := by show _ = _; rw [HX.out]; congr 1; exact UInt8.toNat_inj.1 h34
      have HS : Hid (strM (t.drop (i + 1)) = some (X, j + 1 - (i + 1))) := HJ.out.qu.done HX34.out
      have HLm : Hid (m = X.length) := HJ.out.len
      clear h34
      by_cases h200 : m ≤ 200
      · have z200 : (m : Int) ≤ 200 := by omega
        have HE : Hid (quF (t.drop (i + 1)) = some (X, j + 1 - (i + 1))) := quF_some HS.out (by rw [← HLm.out]; exact h200)
        have c0 := HJ.out.fs.cell (j := 0) rfl
        have c1 := HJ.out.fs.cell (j := 1) rfl
        have f1 := HJ.out.fs.frozen 1
        have HF : Hid (FsAt (wr.setCell ⟨g, 1, none⟩ (.int .i64 ((j : Int) + 1))) base g b off n cap (i + 1 + (j + 1 - (i + 1))) vs ∧ Chg (fun k => k = g) w (wr.setCell ⟨g, 1, none⟩ (.int .i64 ((j : Int) + 1)))) := by
          refine ⟨?_, HCg.out.trans (Chg.of_set _ _ _ _ rfl)⟩
          rw [show i + 1 + (j + 1 - (i + 1)) = j + 1 by omega]
          exact HJ.out.fs.move (j + 1) _ (by congr 1)
        have hne : ¬ g = gc := by omega
        have hcv : (convert 22 9 (.slice (some ⟨gc, 0, none⟩) m cp)).run Tryz.prog (wr.setCell ⟨g, 1, none⟩ (.int .i64 ((j : Int) + 1))) = .ok (.string st) (wr.setCell ⟨g, 1, none⟩ (.int .i64 ((j : Int) + 1))) := by
          have hby : BysAt (wr.setCell ⟨g, 1, none⟩ (.int .i64 ((j : Int) + 1))) gc 0 X := fun k y hk => by
            rw [(Chg.of_set (S := fun k => k = g) wr g 1 _ rfl).cell (p := ⟨gc, 0 + k, none⟩) hgc (fun q => hne q.symm)]
            exact HJ.out.wb.at_ k y hk
          have h9 := conv_win hby 0 m cp (by have := HLm.out; omega)
          rw [hst, h9, HLm.out]; simp
        have HSt : Hid (st = strL X) := hst
        have zz : IntKind.i64.wrap ((n : Int) - ((r : Int) + 1) + 1) = (j : Int) + 1 := by rw [wrap64 (by omega) (by omega)]; omega
        have zz2 : IntKind.i64.wrap ((n : Int) - ((r : Int) + 1)) = (j : Int) := by rw [wrap64 (by omega) (by omega)]; omega
        have zz3 : IntKind.i64.wrap ((j : Int) + 1) = (j : Int) + 1 := wrap64 (by omega) (by omega)
        clear die hst
        go_wp2_with fail
        refine (sdem_yes _ wr).mono ?_
        rintro e w2 ⟨rfl, hw2⟩
        rw [hw2]
        clear hw2
        go_wp2_with fail
        refine (sdem_yes _ wr).mono ?_
        rintro e w2 ⟨rfl, hw2⟩
        rw [hw2]
        clear hw2
        go_wp2_with fail
        (try rw [Exit.noGoto_ret])
        go_ret
        exact ⟨HF.out.2, .inl ⟨X, _, HE.out, by rw [← HSt.out]; rfl, HF.out.1⟩⟩
      · have z200 : decide ((m : Int) ≤ 200) = false := decide_eq_false (by omega)
        have HD := die (quF_long HS.out (by rw [← HLm.out]; exact h200))
        clear die hst
        go_wp2_with fail
        refine (sdem_yes _ wr).mono ?_
        rintro e w2 ⟨rfl, hw2⟩
        rw [hw2]
        clear hw2
        go_wp2_with fail
        refine (sdem_no HJ.out.fs).mono ?_
        rintro e w2 ⟨rfl, hw2⟩
        rw [hw2]
        clear hw2
        exact ⟨rfl, HD.out⟩
    have z34 : ((x.toNat : Int) == 34) = false := by have : ¬ (x.toNat : Int) = 34 := (by omega); simp [this]
    by_cases h92 : x.toNat = 92
    · have z92 : ((x.toNat : Int) == 92) = true := by have : (x.toNat : Int) = 92 := (by omega); simp [this]
      have hx92 : x = 92 := UInt8.toNat_inj.1 h92
      have HDr : Hid (t.drop j = 92 :: t.drop (j + 1) ∧ (t.drop (j + 1)).length = r) := ⟨by rw [dropT_cons HX.out, hx92], by rw [List.length_drop]; have := HN.out; omega⟩
      have HEs : Hid (Calls Tryz.prog 91 #[.pointer (some ⟨g, 0, none⟩), .slice (some ⟨b, off + j, none⟩) (r + 1) (cap - j)] wr (EscP (t.drop j) i wr)) := by
        have hby : BysAt wr b (off + j) (92 :: t.drop (j + 1)) := fun k y hk => by
          rw [← HDr.out.1, List.getElem?_drop] at hk
          rw [Nat.add_assoc]
          exact HJ.out.bys (j + k) y hk
        have h9 := escape_core HJ.out.fs (off + j) (cap - j) hby (by rw [HDr.out.2]; omega)
        rw [HDr.out.2, ← HDr.out.1] at h9
        exact h9
      clear h34 h92 hx92 hst
      go_wp2_with fail
      refine (sdem_yes _ wr).mono ?_
      rintro e w2 ⟨rfl, hw2⟩
      rw [hw2]
      clear hw2
      go_wp2_with fail
      refine HEs.out.mono ?_
      rintro e w2 ⟨hw2, (⟨y, k, hk, rfl⟩ | ⟨hk, rfl⟩)⟩
      · rw [hw2]
        clear hw2 HEs
        have hkl : 1 ≤ k ∧ k ≤ r + 1 := by
          have h9 := escM_len hk
          rw [List.length_drop] at h9
          have := HN.out
          omega
        have HQ : Hid (QuS t i (j + k) (X ++ [y])) := HJ.out.qu.next (k := k) (by
          have h9 := str_escM (t.drop (j + 1))
          rw [← HDr.out.1, hk] at h9
          rw [h9]; dsimp only; rw [List.drop_drop])
        have zk0 : (0 : Int) ≤ (k : Int) := by omega
        have zk1 : (k : Int) ≤ (r : Int) + 1 := by omega
        clear die hk
        obtain ⟨W2, hW2⟩ : ∃ W2 : World, W2 = wr.alloc (Obj.cells #[.int .u8 (y.toNat : Int)] 5) := ⟨_, rfl⟩
        have hb2 : Below wr.heap.size wr W2 := by rw [hW2]; exact (Below.refl _ _).alloc (Nat.le_refl _) _
        have s2 := hb2.size
        have HW2 : Hid (SstJ w base g b off n cap i vs t j m gc cp X W2 ∧ BysAt W2 wr.heap.size 0 [y]) := by
          refine ⟨HJ.out.up hb2, ?_⟩
          rw [hW2]; exact bys_new wr _ [y] rfl
        have HLm : Hid (m = X.length) := HJ.out.len
        clear hb2
        go_wp2_with (at_builtin; (try rw [← hW2]); refine wpList_append_wr _ rfl _ _ rfl w.heap.size gc cp m wr.heap.size 0 1 1 X [y] rfl rfl HLm.out rfl HW2.out.1.wb HW2.out.2 ?hl ?hb ?_)
        case hl => first | omega | (rw [← HLm.out]; first | (show m + 1 ≤ _; omega) | omega)
        case hb => omega
        intro g' cp' w' hW' hgr hat
        have hgr2 : W2.grownBy w' (some gc) := by first | exact hgr | (rw [hW2]; exact hgr)
        have hbl := HJ.out.bl
        have HR : Hid (SstJ w base g b off n cap i vs t (j + k) (m + 1) g' cp' (X ++ [y]) w') := by
          have hc3 : Chg (fun k => k = gc) W2 w' := Chg.of_grown hgr2 (fun k hk => by cases hk; rfl)
          refine ⟨BoxAt.chg HW2.out.1.fs hc3 (by omega), fun k y hk => ?_, HQ.out, hW', WrB.next HW2.out.1.below (by omega) hge hgr2, by rw [List.length_append, ← HLm.out]; rfl, by have := hc3.size; omega⟩
          rw [hc3.cell (p := ⟨b, off + k, none⟩) HW2.out.1.bl (by show ¬ b = gc; omega)]
          exact HW2.out.1.bys k y hk
        clear hW' hgr hgr2 hat hW2
        obtain ⟨a2, ha2⟩ : ∃ a2 : Option Addr, (if cap - j = k then (some ⟨b, off + j, none⟩ : Option Addr) else some ⟨b, off + j + k, none⟩) = a2 := ⟨_, rfl⟩
        have HA2 : Hid (j + k < n → a2 = some ⟨b, off + (j + k), none⟩ ∧ cap - j - k = cap - (j + k)) := fun q => ⟨by rw [← ha2, if_neg (by omega), Nat.add_assoc], by omega⟩
        have hlen : r + 1 - k = n - (j + k) := by omega
        go_wp2_with fail
        (try rw [ha2])
        go_roundw
        case rel => exact ⟨j + k, m + 1, g', cp', cap - j - k, a2, X ++ [y], rfl, by first | rfl | (rw [← hlen]; first | rfl | simp) | (congr 1; omega), by omega, by omega, by omega, HA2.out, HR.out⟩
        case measure => simp [rvLen]; omega
      · rw [hw2]
        clear hw2 HEs
        have HD := die (quF_none (HJ.out.qu.none (by
          have h9 := str_escM (t.drop (j + 1))
          rw [← HDr.out.1, hk] at h9
          exact h9)))
        clear die hk
        exact ⟨rfl, HD.out⟩
    have z92 : ((x.toNat : Int) == 92) = false := by have : ¬ (x.toNat : Int) = 92 := (by omega); simp [this]
    have HPl : Hid (Calls Tryz.prog 92 #[.int .u8 (x.toNat : Int)] wr fun e w' => e = .returned (.bool (isPla x)) ∧ w' = wr) := isPlainB_core x wr
    cases hp : isPla x
    case false =>
      rw [hp] at HPl
      have HD := die (quF_none (HJ.out.qu.none (by rw [dropT_cons HX.out]; exact str_not (u8_ne (by show ¬ x.toNat = 34; omega)) (u8_ne (by show ¬ x.toNat = 92; omega)) (by rw [hp]; simp))))
      clear die hp h34 h92 hst
      go_wp2_with fail
      refine (sdem_yes _ wr).mono ?_
      rintro e w2 ⟨rfl, hw2⟩
      rw [hw2]
      clear hw2
      go_wp2_with fail
      refine HPl.out.mono ?_
      rintro e w2 ⟨rfl, hw2⟩
      rw [hw2]
      clear hw2 HPl
      go_wp2_with fail
      refine (sdem_no HJ.out.fs).mono ?_
      rintro e w2 ⟨rfl, hw2⟩
      rw [hw2]
      clear hw2
      exact ⟨rfl, HD.out⟩
    case true =>
      rw [hp] at HPl
      have HQ : Hid (QuS t i (j + 1) (X ++ [x])) := HJ.out.qu.next (k := 1) (by rw [dropT_cons HX.out]; exact str_pla (u8_ne (by show ¬ x.toNat = 34; omega)) (u8_ne (by show ¬ x.toNat = 92; omega)) hp)
      clear die hp h34 h92 hst
      go_wp2_with fail
      refine (sdem_yes _ wr).mono ?_
      rintro e w2 ⟨rfl, hw2⟩
      rw [hw2]
      clear hw2
      go_wp2_with fail
      refine HPl.out.mono ?_
      rintro e w2 ⟨rfl, hw2⟩
      rw [hw2]
      clear hw2 HPl
      go_wp2_with fail
      refine (sdem_yes _ wr).mono ?_
      rintro e w2 ⟨rfl, hw2⟩
      rw [hw2]
      clear hw2
      obtain ⟨W2, hW2⟩ : ∃ W2 : World, W2 = wr.alloc (Obj.cells #[.int .u8 (x.toNat : Int)] 5) := ⟨_, rfl⟩
      have hb2 : Below wr.heap.size wr W2 := by rw [hW2]; exact (Below.refl _ _).alloc (Nat.le_refl _) _
      have s2 := hb2.size
      have HW2 : Hid (SstJ w base g b off n cap i vs t j m gc cp X W2 ∧ BysAt W2 wr.heap.size 0 [x]) := by
        refine ⟨HJ.out.up hb2, ?_⟩
        rw [hW2]; exact bys_new wr _ [x] rfl
      have HLm : Hid (m = X.length) := HJ.out.len
      clear hb2
      go_wp2_with (at_builtin; (try rw [← hW2]); refine wpList_append_wr _ rfl _ _ rfl w.heap.size gc cp m wr.heap.size 0 1 1 X [x] rfl rfl HLm.out rfl HW2.out.1.wb HW2.out.2 ?hl ?hb ?_)
      case hl => first | omega | (rw [← HLm.out]; first | (show m + 1 ≤ _; omega) | omega)
      case hb => omega
      intro g' cp' w' hW' hgr hat
      have hgr2 : W2.grownBy w' (some gc) := by first | exact hgr | (rw [hW2]; exact hgr)
      have hbl := HJ.out.bl
      have HR : Hid (SstJ w base g b off n cap i vs t (j + 1) (m + 1) g' cp' (X ++ [x]) w') := by
        have hc3 : Chg (fun k => k = gc) W2 w' := Chg.of_grown hgr2 (fun k hk => by cases hk; rfl)
        refine ⟨BoxAt.chg HW2.out.1.fs hc3 (by omega), fun k y hk => ?_, HQ.out, hW', WrB.next HW2.out.1.below (by omega) hge hgr2, by rw [List.length_append, ← HLm.out]; rfl, by have := hc3.size; omega⟩
        rw [hc3.cell (p := ⟨b, off + k, none⟩) HW2.out.1.bl (by show ¬ b = gc; omega)]
        exact HW2.out.1.bys k y hk
      clear hW' hgr hgr2 hat hW2
      obtain ⟨a2, ha2⟩ : ∃ a2 : Option Addr, (if cap - j = 1 then (some ⟨b, off + j, none⟩ : Option Addr) else some ⟨b, off + j + 1, none⟩) = a2 := ⟨_, rfl⟩
      have HA2 : Hid (j + 1 < n → a2 = some ⟨b, off + (j + 1), none⟩ ∧ cap - j - 1 = cap - (j + 1)) := fun q => ⟨by rw [← ha2, if_neg (by omega), Nat.add_assoc], by omega⟩
      have hlen : r + 1 - 1 = n - (j + 1) := by omega
      go_wp2_with fail
      (try rw [ha2])
      go_roundw
      case rel => exact ⟨j + 1, m + 1, g', cp', cap - j - 1, a2, X ++ [x], rfl, by first | rfl | (rw [← hlen]; first | rfl | simp) | (congr 1; omega), by omega, by omega, by omega, HA2.out, HR.out⟩
      case measure => simp [rvLen]; omega
end Go.Proofs.YtgnpcenpcmdlfaaGreatDoor

/-
  bytes.Equal, bytes.HasPrefix at two dots.
-/
namespace Go.Proofs.YtgnpcenpcmdlfaaGreatDoor
open Go.ChangeShapes Go.WideShapes Go.ChangeAt Go.RowKit Go.Deep
set_option linter.unusedVariables false
set_option linter.unusedSimpArgs false
set_option maxRecDepth 100000

set_option maxHeartbeats 2000000 in
theorem bytesEqual_core {w : World} {b o c q c2 : Nat} {l : List UInt8} (hl : BysAt w b o l) (hq : BysAt w q 0 [46, 46]) (h2 : 2 ≤ l.length) :
    Calls Tryz.prog 93 #[.slice (some ⟨b, o, none⟩) 2 c, .slice (some ⟨q, 0, none⟩) 2 c2] w fun e w' => e = .returned (.bool (decide (l.take 2 = [46, 46]))) ∧ w' = w := by
  have h1 := conv_win hl 0 2 c (by omega)
  have h3 := conv_win hq 0 2 c2 (by simp)
  simp only [Nat.add_zero, List.drop_zero] at h1 h3
  obtain ⟨s1, hs1⟩ : ∃ s, s = strL (l.take 2) := ⟨_, rfl⟩
  obtain ⟨s2, hs2⟩ : ∃ s, s = strL (([46, 46] : List UInt8).take 2) := ⟨_, rfl⟩
  rw [← hs1] at h1
  rw [← hs2] at h3
  obtain ⟨r, hr⟩ : ∃ r, r = decide (l.take 2 = [46, 46]) := ⟨_, rfl⟩
  have HE : (s1.toList == s2.toList) = r := by
    rw [hr, hs1, hs2, ByteArray.toList_eq, ByteArray.toList_eq]
    show ((l.take 2).toArray.toList == [46, 46]) = _
    rw [List.toList_toArray]
    by_cases q : l.take 2 = [46, 46]
    · rw [decide_eq_true q, q]; rfl
    · rw [decide_eq_false q]; exact beq_eq_false_iff_ne.2 q
  rw [← hr]
  clear hl hq hs1 hs2 hr
  go_enter Tryz.func93, Tryz.ntmps93
  go_wp2_with fail
  go_ret
  exact ⟨by first | rfl | (simp [HE]) | (rw [← HE]; rfl), rfl⟩
set_option maxHeartbeats 2000000 in
theorem hasDots_core {w : World} {b o c q c2 r : Nat} {l : List UInt8} (hl : BysAt w b o l) (hr : r = l.length) (hrc : r ≤ c) (hcm : c ≤ 9223372036854775807) (hq : BysAt w q 0 [46, 46]) :
    Calls Tryz.prog 60 #[.slice (some ⟨b, o, none⟩) r c, .slice (some ⟨q, 0, none⟩) 2 c2] w fun e w' => e = .returned (.bool (decide (l.take 2 = [46, 46]))) ∧ w' = w := by
  by_cases h2 : 2 ≤ r
  · have HC : Hid (Calls Tryz.prog 93 #[.slice (some ⟨b, o, none⟩) 2 c, .slice (some ⟨q, 0, none⟩) 2 c2] w fun e w' => e = .returned (.bool (decide (l.take 2 = [46, 46]))) ∧ w' = w) := bytesEqual_core hl hq (by omega)
    obtain ⟨rr, hrr⟩ : ∃ rr, rr = decide (l.take 2 = [46, 46]) := ⟨_, rfl⟩
    rw [← hrr] at HC ⊢
    have z2 : (2 : Int) ≤ (r : Int) := by omega
    have z3 : (2 : Int) ≤ (c : Int) := by omega
    clear hl hq hr hrr
    go_enter Tryz.func60, Tryz.ntmps60
    go_wp2_with fail
    refine HC.out.mono ?_
    rintro e w2 ⟨rfl, hw2⟩
    rw [hw2]
    clear hw2
    go_wp2_with fail
    go_ret
    exact ⟨rfl, rfl⟩
  · have HD : Hid (decide (l.take 2 = [46, 46]) = false) := decide_eq_false (fun q => by
      have := congrArg List.length q
      rw [List.length_take] at this
      simp at this
      omega)
    have z2 : decide ((2 : Int) ≤ (r : Int)) = false := decide_eq_false (by omega)
    have z2b : ¬ (2 : Int) ≤ (r : Int) := by omega
    rw [HD.out]
    clear hl hq hr
    go_enter Tryz.func60, Tryz.ntmps60
    go_wp2_with fail
    go_ret
    exact ⟨rfl, rfl⟩
/-- A token as impl has it. -/
def ftB : TkK → UInt8
  | .word _ => 97
  | .num _ => 48
  | .str _ => 34
  | .sign b => b
  | _ => 0
def TkK.wd : TkK → Int
  | .word k => k
  | _ => 0
abbrev ftV (k : Tk) : List Value := [.int .u8 ((ftB k.k).toNat : Int), .int .i64 (k.pos : Int), .int .i64 k.k.wd, .int .u64 k.k.nm, .string k.k.txt]
end Go.Proofs.YtgnpcenpcmdlfaaGreatDoor

/-
  (*impl.filterScanner).next.
-/
namespace Go.Proofs.YtgnpcenpcmdlfaaGreatDoor
open Go.ChangeShapes Go.WideShapes Go.ChangeAt Go.RowKit Go.Deep
set_option linter.unusedVariables false
set_option linter.unusedSimpArgs false
set_option maxRecDepth 100000

theorem lex_space {t : List UInt8} {p : Nat} {ks : List Tk} (hx : t[p]? = some 32) (h : LexR (t.drop p) p ks) : LexR (t.drop (p + 1)) (p + 1) ks := by
  rw [dropT_cons hx] at h
  cases h with
  | space h => exact h
  | bad hb _ => exact absurd rfl hb
  | tok hb _ _ => exact absurd rfl hb
theorem lex_fin {t : List UInt8} {p : Nat} {ks : List Tk} (hp : p = t.length) (h : LexR (t.drop p) p ks) : ks = [⟨.fin, p⟩] := by
  rw [hp, List.drop_length] at h
  rw [hp]
  cases h with
  | fin => rfl
theorem lex_bad {t : List UInt8} {p : Nat} {x : UInt8} {ks : List Tk} (hx : t[p]? = some x) (hn : ¬ x = 32) (ht : tokF (t.drop p) = none) (h : LexR (t.drop p) p ks) : ks = [⟨.bad, p⟩] := by
  rw [dropT_cons hx] at h ht
  cases h with
  | space h => exact absurd rfl hn
  | bad hb _ => rfl
  | tok hb h2 _ => rw [ht] at h2; cases h2
theorem lex_tok {t : List UInt8} {p : Nat} {x : UInt8} {ks : List Tk} {k : TkK} {m : Nat} (hx : t[p]? = some x) (hn : ¬ x = 32) (ht : tokF (t.drop p) = some (k, m)) (h : LexR (t.drop p) p ks) : ∃ ks', ks = ⟨k, p⟩ :: ks' ∧ LexR (t.drop (p + m)) (p + m) ks' := by
  have hd : t.drop (p + m) = (x :: t.drop (p + 1)).drop m := by rw [← dropT_cons hx, List.drop_drop]
  rw [dropT_cons hx] at h ht
  cases h with
  | space h => exact absurd rfl hn
  | bad hb h2 => rw [ht] at h2; cases h2
  | tok hb h2 h3 =>
    rw [ht] at h2
    cases h2
    exact ⟨_, rfl, by rw [hd]; exact h3⟩
theorem take2_iff {t : List UInt8} {p : Nat} {x : UInt8} (hx : t[p]? = some x) : (t.drop p).take 2 = [46, 46] ↔ (x = 46 ∧ t[p + 1]? = some 46) := by
  rw [dropT_cons hx]
  cases hy : t[p + 1]? with
  | none => rw [List.drop_eq_nil_of_le (List.getElem?_eq_none_iff.1 hy)]; simp
  | some y => rw [dropT_cons hy]; simp
/-- Scanning under way: nothing but spaces has been met. -/
structure NxJ (w : World) (base g b off n cap : Nat) (vs : List Value) (t : List UInt8) (ks : List Tk) (tv : List Value) (p : Nat) (wr : World) : Prop where
  fs : FsAt wr base g b off n cap p vs
  bys : BysAt wr b off t
  res : BoxAt wr w.heap.size 52 5 w.heap.size [.int .u8 0, .int .i64 0, .int .i64 0, .int .u64 0, .string ⟨#[]⟩]
  tok : BoxAt wr w.heap.size 52 5 (w.heap.size + 1) tv
  chg : Chg (fun k => k = g) w wr
  lex : LexR (t.drop p) p ks
  wds : WdsAt wr
  err : ErrAt wr
  bl : b < wr.heap.size
structure NxG (w : World) (g b : Nat) : Prop where
  gl : g < w.heap.size
  gb : ¬ g = b
  gw : ¬ 0 = g ∧ ¬ 3 = g
  lo : 7 ≤ w.heap.size
theorem NxJ.up {w : World} {base g b off n cap : Nat} {vs : List Value} {t : List UInt8} {ks : List Tk} {tv : List Value} {p : Nat} {wr wr' : World} (h : NxJ w base g b off n cap vs t ks tv p wr) (hb : Below wr.heap.size wr wr') : NxJ w base g b off n cap vs t ks tv p wr' :=
  ⟨BoxAt.below h.fs hb, fun k y hk => by rw [hb.cell (p := ⟨b, off + k, none⟩) h.bl]; exact h.bys k y hk, h.res.below hb, h.tok.below hb, h.chg.trans (Chg.of_below hb), h.lex, h.wds.chg (S := fun _ => False) (Chg.of_below hb) (fun q => q), h.err.chg (S := fun _ => False) (Chg.of_below hb) (fun q => q), by have := hb.size; have := h.bl; omega⟩
/-- The scanner alone has moved. -/
theorem NxJ.go {w : World} {base g b off n cap : Nat} {vs : List Value} {t : List UInt8} {ks ks' : List Tk} {tv : List Value} {p p' : Nat} {wr wr' : World} (h : NxJ w base g b off n cap vs t ks tv p wr) (hG : NxG w g b) (hc : Chg (fun k => k = g) wr wr') (hf : FsAt wr' base g b off n cap p' vs) (hl : LexR (t.drop p') p' ks') : NxJ w base g b off n cap vs t ks' tv p' wr' := by
  have h1 := hG.gl
  exact ⟨hf, fun k y hk => by rw [hc.cell (p := ⟨b, off + k, none⟩) h.bl (fun q => hG.gb q.symm)]; exact h.bys k y hk, h.res.chg hc (by omega), h.tok.chg hc (by omega), h.chg.trans hc, hl, h.wds.chg hc hG.gw.1, h.err.chg hc hG.gw.2, by have := hc.size; have := h.bl; omega⟩
/-- A field of the token is set. -/
theorem NxJ.put {w : World} {base g b off n cap : Nat} {vs : List Value} {t : List UInt8} {ks : List Tk} {tv : List Value} {p : Nat} {wr : World} (h : NxJ w base g b off n cap vs t ks tv p wr) (hG : NxG w g b) (hbw : b < w.heap.size) (j : Nat) (u : Value) : NxJ w base g b off n cap vs t ks (tv.set j u) p (wr.setCell ⟨w.heap.size + 1, j, none⟩ u) := by
  have hc : Chg (fun k => k = w.heap.size + 1) wr (wr.setCell ⟨w.heap.size + 1, j, none⟩ u) := Chg.of_set _ _ _ _ rfl
  have h1 := hG.gl
  have hv : 0 < w.heap.size ∧ 3 < w.heap.size ∧ True := by
    refine ⟨?_, ?_, trivial⟩
    · have h9 := h.wds 0 (by omega)
      rcases Nat.lt_or_ge 0 w.heap.size with q | q
      · exact q
      · exfalso
        have := hG.lo
        omega
    · have := hG.lo
      omega
  refine ⟨BoxAt.chg h.fs hc (by omega), fun k y hk => by rw [hc.cell (p := ⟨b, off + k, none⟩) h.bl (by show ¬ b = _; omega)]; exact h.bys k y hk, h.res.chg hc (by omega), h.tok.set j u, ?_, h.lex, h.wds.chg hc (by omega), h.err.chg hc (by omega), by have := hc.size; have := h.bl; omega⟩
  exact ⟨hc.os.trans h.chg.os, hc.tape.trans h.chg.tape, hc.output.trans h.chg.output, Nat.le_trans h.chg.size hc.size, fun k hk hn => (hc.block k (Nat.lt_of_lt_of_le hk h.chg.size) (by omega)).trans (h.chg.block k hk hn)⟩
def NxtP (base g b off n cap : Nat) (vs : List Value) (t : List UInt8) (ks : List Tk) (w : World) (e : Ending) (w' : World) : Prop := Hid (Chg (fun k => k = g) w w') ∧ (((hdK ks).isBad = true ∧ e = Pf 2 (hdA ks)) ∨ ((hdK ks).isBad = false ∧ ∃ k ks', ks = k :: ks' ∧ e = .returned (.agg (ftV k).toArray) ∧ ∃ p', FsAt w' base g b off n cap p' vs ∧ p' ≤ n ∧ (k.k.isFin = false → LexR (t.drop p') p' ks')))
/-- A token has been met. -/
def NxD (base g b off n cap : Nat) (vs : List Value) (t : List UInt8) (ks : List Tk) (w wx : World) : Prop := (hdK ks).isBad = false ∧ ∃ (k : Tk) (ks' ks2 : List Tk) (p' : Nat), ks = k :: ks' ∧ NxJ w base g b off n cap vs t ks2 (ftV k) p' wx ∧ p' ≤ n ∧ (k.k.isFin = false → LexR (t.drop p') p' ks')
set_option maxHeartbeats 16000000 in
theorem next_core {base g b off n cap i : Nat} {vs : List Value} {w : World} {t : List UInt8} {ks : List Tk} (h : FsAt w base g b off n cap i vs) (hT : BysAt w b off t) (hb : b < w.heap.size) (hn : n = t.length) (hl : n ≤ 100000) (hc : n ≤ cap) (hcm : cap ≤ maxLen) (hi : i ≤ n) (hG : NxG w g b) (hW : WdsAt w) (hE : ErrAt w) (hL : LexR (t.drop i) i ks) :
    Calls Tryz.prog 25 #[.pointer (some ⟨g, 0, none⟩)] w (NxtP base g b off n cap vs t ks w) := by
  have HN : Hid (n = t.length) := hn
  have HG : Hid (NxG w g b) := hG
  have hgl := hG.gl
  unfold maxLen at hcm
  have c0 := h.cell (j := 0) rfl
  obtain ⟨W0, hW0⟩ : ∃ W0 : World, W0 = (w.alloc (Obj.cells #[.int .u8 0, .int .i64 0, .int .i64 0, .int .u64 0, .string ⟨#[]⟩] 52)).alloc (Obj.cells #[.int .u8 0, .int .i64 (n : Int), .int .i64 0, .int .u64 0, .string ⟨#[]⟩] 52) := ⟨_, rfl⟩
  have HW0 : Hid (NxJ w base g b off n cap vs t ks [.int .u8 0, .int .i64 (n : Int), .int .i64 0, .int .u64 0, .string ⟨#[]⟩] i W0) := by
    obtain ⟨b1, b2, b3⟩ := par_boxes [.int .u8 0, .int .i64 0, .int .i64 0, .int .u64 0, .string ⟨#[]⟩] [.int .u8 0, .int .i64 (n : Int), .int .i64 0, .int .u64 0, .string ⟨#[]⟩] hW0
    exact ⟨BoxAt.below h b3, fun k y hk => by rw [b3.cell (p := ⟨b, off + k, none⟩) hb]; exact hT k y hk, b1, b2, Chg.of_below b3, hL, hW.chg (S := fun _ => False) (Chg.of_below b3) (fun q => q), hE.chg (S := fun _ => False) (Chg.of_below b3) (fun q => q), by have := b3.size; omega⟩
  clear h hT hn hW hE hL hG
  go_enter Tryz.func25, Tryz.ntmps25
  go_wp2_with fail
  go_step3
  go_wp2_with fail
  go_step3
  rw [← hW0]
  clear hW0 c0
  go_upto_block 0 with fail
  go_cut [] (fun wx => Hid (NxD base g b off n cap vs t ks w wx))
  case first =>
    go_wp2_with fail
    go_loopw [] (fun wr => ∃ p : Nat, p ≤ n ∧ NxJ w base g b off n cap vs t ks [.int .u8 0, .int .i64 (n : Int), .int .i64 0, .int .u64 0, .string ⟨#[]⟩] p wr) (fun wr => n - (intOf ((wr.cell? ⟨g, 1, none⟩).getD undef)).toNat)
    case atStart => exact ⟨i, hi, HW0.out⟩
    case round =>
      clear HW0
      obtain ⟨p, hp, hJ⟩ := hrel
      have HJ : Hid (NxJ w base g b off n cap vs t ks [.int .u8 0, .int .i64 (n : Int), .int .i64 0, .int .u64 0, .string ⟨#[]⟩] p wr) := hJ
      have HMe : Hid ((intOf ((wr.cell? ⟨g, 1, none⟩).getD undef)).toNat = p) := by
        have h9 := hJ.fs.cell (j := 1) rfl
        show _ = _
        rw [h9]; simp [intOf]
      have c0 := hJ.fs.cell (j := 0) rfl
      have c1 := hJ.fs.cell (j := 1) rfl
      clear hJ
      by_cases hpn : p < n
      case neg =>
        have zp : ¬ (p : Int) < (n : Int) := by omega
        obtain rfl : p = n := by omega
        go_upto_region 2 with fail
        go_quiet (fail)
        obtain ⟨W1, hW1⟩ : ∃ V : World, V = wr.drewN nq := ⟨_, rfl⟩
        have HJ1 : Hid (NxJ w base g b off p cap vs t ks [.int .u8 0, .int .i64 (p : Int), .int .i64 0, .int .u64 0, .string ⟨#[]⟩] p W1) := HJ.out.up (by rw [hW1]; exact below_drewN (Below.refl _ _) _)
        rw [← hW1]
        clear hW1 c0 c1
        have c0 := HJ1.out.fs.cell (j := 0) rfl
        have c1 := HJ1.out.fs.cell (j := 1) rfl
        have HD : Hid (Hid (NxD base g b off p cap vs t ks w W1)) := by
          have hk := lex_fin HN.out HJ1.out.lex
          refine (⟨by rw [hk]; rfl, ⟨.fin, p⟩, [], ks, p, hk, HJ1.out, Nat.le_refl _, fun q => by cases q⟩ : NxD base g b off p cap vs t ks w W1)
        go_wp2_with fail
        go_meet
        exact HD.out
      case pos =>
      have zp : (p : Int) < (n : Int) := by omega
      obtain ⟨x, hx⟩ : ∃ x, t[p]? = some x := ⟨_, List.getElem?_eq_getElem (by have := HN.out; omega)⟩
      have HX : Hid (t[p]? = some x) := hx
      have hx8 : x.toNat < 256 := x.toNat_lt
      clear hx
      go_upto_region 2 with fail
      go_quiet (fail)
      obtain ⟨W1, hW1⟩ : ∃ V : World, V = wr.drewN nq := ⟨_, rfl⟩
      have HJ1 : Hid (NxJ w base g b off n cap vs t ks [.int .u8 0, .int .i64 (n : Int), .int .i64 0, .int .u64 0, .string ⟨#[]⟩] p W1) := HJ.out.up (by rw [hW1]; exact below_drewN (Below.refl _ _) _)
      rw [← hW1]
      clear hW1 c0 c1
      have c0 := HJ1.out.fs.cell (j := 0) rfl
      have c1 := HJ1.out.fs.cell (j := 1) rfl
      go_upto_region 3 with fail
      have cx : W1.cell? ⟨b, off + p, none⟩ = some (.int .u8 (x.toNat : Int)) := HJ1.out.bys p x HX.out
      go_quiet (fail)
      obtain ⟨W2, hW2⟩ : ∃ V : World, V = W1.drewN nq := ⟨_, rfl⟩
      have HJ2 : Hid (NxJ w base g b off n cap vs t ks [.int .u8 0, .int .i64 (n : Int), .int .i64 0, .int .u64 0, .string ⟨#[]⟩] p W2) := HJ1.out.up (by rw [hW2]; exact below_drewN (Below.refl _ _) _)
      rw [← hW2]
      clear hW2 c0 c1 cx
      have c0 := HJ2.out.fs.cell (j := 0) rfl
      have c1 := HJ2.out.fs.cell (j := 1) rfl
      have HCg : Hid (Chg (fun k => k = g) w W2) := HJ2.out.chg
      by_cases h32 : x.toNat = 32
      · have z32 : ((x.toNat : Int) == 32) = true := by have : (x.toNat : Int) = 32 := (by omega); simp [this]
        have hx32 : x = 32 := UInt8.toNat_inj.1 h32
        have f1 := HJ2.out.fs.frozen 1
        have zw : IntKind.i64.wrap ((p : Int) + 1) = (p : Int) + 1 := wrap64 (by omega) (by omega)
        have HR : Hid (NxJ w base g b off n cap vs t ks [.int .u8 0, .int .i64 (n : Int), .int .i64 0, .int .u64 0, .string ⟨#[]⟩] (p + 1) (W2.setCell ⟨g, 1, none⟩ (.int .i64 ((p : Int) + 1)))) :=
          HJ2.out.go HG.out (Chg.of_set _ _ _ _ rfl) (HJ2.out.fs.move (p + 1) _ (by congr 1)) (lex_space (by rw [HX.out, hx32]) HJ2.out.lex)
        have HMe2 : Hid ((intOf (((W2.setCell ⟨g, 1, none⟩ (.int .i64 ((p : Int) + 1))).cell? ⟨g, 1, none⟩).getD undef)).toNat = p + 1) := by
          have h9 := HR.out.fs.cell (j := 1) rfl
          show _ = _
          rw [h9]; simp [intOf]
        clear h32 hx32
        go_wp2_with fail
        go_roundw
        case rel => exact ⟨p + 1, by omega, HR.out⟩
        case measure => (rw [HMe2.out, HMe.out]; try omega)
      have z32 : ((x.toNat : Int) == 32) = false := by have : ¬ (x.toNat : Int) = 32 := (by omega); simp [this]
      have Hn32 : Hid (¬ x = 32) := u8_ne h32
      clear h32
      have t1 := HJ2.out.tok.cell (j := 1) rfl
      have ft1 := HJ2.out.tok.frozen 1
      obtain ⟨W3, hW3⟩ : ∃ W3 : World, W3 = W2.setCell ⟨w.heap.size + 1, 1, none⟩ (.int .i64 (p : Int)) := ⟨_, rfl⟩
      have HJ3 : Hid (NxJ w base g b off n cap vs t ks [.int .u8 0, .int .i64 (p : Int), .int .i64 0, .int .u64 0, .string ⟨#[]⟩] p W3) := by
        have h9 := HJ2.out.put HG.out hb 1 (.int .i64 (p : Int))
        rw [← hW3] at h9
        exact h9
      go_upto_region 8 with fail
      rw [← hW3]
      clear hW3 t1 ft1 c0 c1
      have HLe : Hid (Calls Tryz.prog 55 #[.int .u8 (x.toNat : Int)] W3 fun e w' => e = .returned (.bool (isLet x)) ∧ w' = W3) := isLetter_core x W3
      have HDi : Hid (Calls Tryz.prog 57 #[.int .u8 (x.toNat : Int)] W3 fun e w' => e = .returned (.bool (isDig x)) ∧ w' = W3) := isDigit_core x W3
      have t0 := HJ3.out.tok.cell (j := 0) rfl
      have ft0 := HJ3.out.tok.frozen 0
      cases hlet : isLet x
      case true =>
        rw [hlet] at HLe
        have HT0 : Hid (tokF (t.drop p) = (kwF ((t.drop p).takeWhile isLet)).map (fun k => (.word k, ((t.drop p).takeWhile isLet).length))) := tok_let HX.out hlet
        have HL : Hid (isLet x = true) := hlet
        clear hlet HDi
        go_wp2_with fail
        refine HLe.out.mono ?_
        rintro e w4 ⟨rfl, hw4⟩
        rw [hw4]
        clear hw4 HLe
        obtain ⟨W4, hW4⟩ : ∃ V : World, V = W3.setCell ⟨w.heap.size + 1, 0, none⟩ (.int .u8 97) := ⟨_, rfl⟩
        have HJ4 : Hid (NxJ w base g b off n cap vs t ks [.int .u8 97, .int .i64 (p : Int), .int .i64 0, .int .u64 0, .string ⟨#[]⟩] p W4) := by
          have h9 := HJ3.out.put HG.out hb 0 (.int .u8 97)
          rw [← hW4] at h9
          exact h9
        go_upto_region 10 with fail
        rw [← hW4]
        clear hW4 t0 ft0
        have HC : Hid (Calls Tryz.prog 56 #[.pointer (some ⟨g, 0, none⟩)] W4 (WrdP base g b off n cap p vs ((t.drop p).takeWhile isLet) W4)) := word_core HJ4.out.fs HJ4.out.bys HN.out hl hc (by unfold maxLen; exact hcm) hpn (fun y hy => by rw [HX.out] at hy; cases hy; exact HL.out) HJ4.out.wds
        go_wp2_with fail
        refine HC.out.mono ?_
        rintro e w5 ⟨Hc5, (⟨k, hk, rfl, HFS⟩ | ⟨hk, rfl⟩)⟩
        · have HTk : Hid (tokF (t.drop p) = some (.word k, ((t.drop p).takeWhile isLet).length)) := by show _ = _; rw [HT0.out, hk]; rfl
          obtain ⟨ks', hks, hlx⟩ := lex_tok HX.out Hn32.out HTk.out HJ4.out.lex
          have hpl : p + ((t.drop p).takeWhile isLet).length ≤ n := by
            have h9 := (tokF_some HTk.out).2.1
            rw [List.length_drop] at h9
            have := HN.out
            omega
          have HJ5 : Hid (NxJ w base g b off n cap vs t ks' [.int .u8 97, .int .i64 (p : Int), .int .i64 0, .int .u64 0, .string ⟨#[]⟩] (p + ((t.drop p).takeWhile isLet).length) w5) := HJ4.out.go HG.out Hc5.out HFS hlx
          have t2 := HJ5.out.tok.cell (j := 2) rfl
          have ft2 := HJ5.out.tok.frozen 2
          have HD : Hid (Hid (NxD base g b off n cap vs t ks w (w5.setCell ⟨w.heap.size + 1, 2, none⟩ (.int .i64 k)))) := by
            have h9 := HJ5.out.put HG.out hb 2 (.int .i64 k)
            exact (⟨by rw [hks]; rfl, ⟨.word k, p⟩, ks', ks', p + ((t.drop p).takeWhile isLet).length, hks, h9, hpl, fun _ => hlx⟩ : NxD base g b off n cap vs t ks w _)
          clear HC hks hlx HFS
          go_wp2_with fail
          go_meet
          exact HD.out
        · have HTk : Hid (tokF (t.drop p) = none) := by show _ = _; rw [HT0.out, hk]; rfl
          have HD : Hid (NxtP base g b off n cap vs t ks w (Pf 2 p) w5) := by
            have hk := lex_bad HX.out Hn32.out HTk.out HJ4.out.lex
            exact ⟨HJ4.out.chg.trans Hc5.out, .inl ⟨by rw [hk]; rfl, by rw [hk]; rfl⟩⟩
          clear HC
          exact ⟨rfl, HD.out⟩
      case false =>
      rw [hlet] at HLe
      have Hnl : Hid (¬ isLet x = true) := by show ¬ _; rw [hlet]; simp
      clear hlet
      cases hdig : isDig x
      case true =>
        rw [hdig] at HDi
        have HT0 : Hid (tokF (t.drop p) = (numM ((t.drop p).takeWhile isDig)).map (fun (n : Nat) => (TkK.num (n : Int), ((t.drop p).takeWhile isDig).length))) := tok_dig HX.out Hnl.out hdig
        have HL : Hid (isDig x = true) := hdig
        clear hdig
        go_wp2_with fail
        refine HLe.out.mono ?_
        rintro e w4 ⟨rfl, hw4⟩
        rw [hw4]
        clear hw4 HLe
        go_wp2_with fail
        refine HDi.out.mono ?_
        rintro e w4 ⟨rfl, hw4⟩
        rw [hw4]
        clear hw4 HDi
        obtain ⟨W4, hW4⟩ : ∃ V : World, V = W3.setCell ⟨w.heap.size + 1, 0, none⟩ (.int .u8 48) := ⟨_, rfl⟩
        have HJ4 : Hid (NxJ w base g b off n cap vs t ks [.int .u8 48, .int .i64 (p : Int), .int .i64 0, .int .u64 0, .string ⟨#[]⟩] p W4) := by
          have h9 := HJ3.out.put HG.out hb 0 (.int .u8 48)
          rw [← hW4] at h9
          exact h9
        go_upto_region 13 with fail
        rw [← hW4]
        clear hW4 t0 ft0
        have HC : Hid (Calls Tryz.prog 58 #[.pointer (some ⟨g, 0, none⟩)] W4 (NmbP base g b off n cap p vs ((t.drop p).takeWhile isDig) W4)) := num_core HJ4.out.fs HJ4.out.bys HN.out hl hc (by unfold maxLen; exact hcm) hpn (fun y hy => by rw [HX.out] at hy; cases hy; exact HL.out) HJ4.out.err
        go_wp2_with fail
        refine HC.out.mono ?_
        rintro e w5 ⟨Hc5, (⟨v, hk, rfl, HFS⟩ | ⟨hk, rfl⟩)⟩
        · have HTk : Hid (tokF (t.drop p) = some (.num (v : Int), ((t.drop p).takeWhile isDig).length)) := by show _ = _; rw [HT0.out, hk]; rfl
          obtain ⟨ks', hks, hlx⟩ := lex_tok HX.out Hn32.out HTk.out HJ4.out.lex
          have hpl : p + ((t.drop p).takeWhile isDig).length ≤ n := by
            have h9 := (tokF_some HTk.out).2.1
            rw [List.length_drop] at h9
            have := HN.out
            omega
          have HJ5 : Hid (NxJ w base g b off n cap vs t ks' [.int .u8 48, .int .i64 (p : Int), .int .i64 0, .int .u64 0, .string ⟨#[]⟩] (p + ((t.drop p).takeWhile isDig).length) w5) := HJ4.out.go HG.out Hc5.out HFS hlx
          have t3 := HJ5.out.tok.cell (j := 3) rfl
          have ft3 := HJ5.out.tok.frozen 3
          have HD : Hid (Hid (NxD base g b off n cap vs t ks w (w5.setCell ⟨w.heap.size + 1, 3, none⟩ (.int .u64 (v : Int))))) := by
            have h9 := HJ5.out.put HG.out hb 3 (.int .u64 (v : Int))
            exact (⟨by rw [hks]; rfl, ⟨.num (v : Int), p⟩, ks', ks', p + ((t.drop p).takeWhile isDig).length, hks, h9, hpl, fun _ => hlx⟩ : NxD base g b off n cap vs t ks w _)
          clear HC hks hlx HFS
          go_wp2_with fail
          go_meet
          exact HD.out
        · have HTk : Hid (tokF (t.drop p) = none) := by show _ = _; rw [HT0.out, hk]; rfl
          have HD : Hid (NxtP base g b off n cap vs t ks w (Pf 2 p) w5) := by
            have hk := lex_bad HX.out Hn32.out HTk.out HJ4.out.lex
            exact ⟨HJ4.out.chg.trans Hc5.out, .inl ⟨by rw [hk]; rfl, by rw [hk]; rfl⟩⟩
          clear HC
          exact ⟨rfl, HD.out⟩
      case false =>
      rw [hdig] at HDi
      have Hnd : Hid (¬ isDig x = true) := by show ¬ _; rw [hdig]; simp
      clear hdig
      by_cases h34 : x.toNat = 34
      · have z34 : ((x.toNat : Int) == 34) = true := by have : (x.toNat : Int) = 34 := (by omega); simp [this]
        have HT0 : Hid (tokF (t.drop p) = (quF (t.drop (p + 1))).map (fun z => (.str (strL z.1), z.2 + 1))) := tok_str (by rw [HX.out]; congr 1; exact UInt8.toNat_inj.1 h34)
        clear h34
        go_wp2_with fail
        refine HLe.out.mono ?_
        rintro e w4 ⟨rfl, hw4⟩
        rw [hw4]
        clear hw4 HLe
        go_wp2_with fail
        refine HDi.out.mono ?_
        rintro e w4 ⟨rfl, hw4⟩
        rw [hw4]
        clear hw4 HDi
        obtain ⟨W4, hW4⟩ : ∃ V : World, V = W3.setCell ⟨w.heap.size + 1, 0, none⟩ (.int .u8 34) := ⟨_, rfl⟩
        have HJ4 : Hid (NxJ w base g b off n cap vs t ks [.int .u8 34, .int .i64 (p : Int), .int .i64 0, .int .u64 0, .string ⟨#[]⟩] p W4) := by
          have h9 := HJ3.out.put HG.out hb 0 (.int .u8 34)
          rw [← hW4] at h9
          exact h9
        go_upto_region 16 with fail
        rw [← hW4]
        clear hW4 t0 ft0
        have HC : Hid (Calls Tryz.prog 59 #[.pointer (some ⟨g, 0, none⟩)] W4 (SstP base g b off n cap p vs (t.drop (p + 1)) W4)) := str_core HJ4.out.fs HJ4.out.bys HJ4.out.bl HN.out hl hc (by unfold maxLen; exact hcm) hpn
        go_wp2_with fail
        refine HC.out.mono ?_
        rintro e w5 ⟨Hc5, (⟨c, k, hk, rfl, HFS0⟩ | ⟨hk, rfl⟩)⟩
        · have HTk : Hid (tokF (t.drop p) = some (.str (strL c), (k + 1))) := by show _ = _; rw [HT0.out, hk]; rfl
          have HFS : FsAt w5 base g b off n cap (p + (k + 1)) vs := by rw [show p + (k + 1) = p + 1 + k by omega]; exact HFS0
          obtain ⟨ks', hks, hlx⟩ := lex_tok HX.out Hn32.out HTk.out HJ4.out.lex
          have hpl : p + (k + 1) ≤ n := by
            have h9 := (tokF_some HTk.out).2.1
            rw [List.length_drop] at h9
            have := HN.out
            omega
          have HJ5 : Hid (NxJ w base g b off n cap vs t ks' [.int .u8 34, .int .i64 (p : Int), .int .i64 0, .int .u64 0, .string ⟨#[]⟩] (p + (k + 1)) w5) := HJ4.out.go HG.out Hc5.out HFS hlx
          have t4 := HJ5.out.tok.cell (j := 4) rfl
          have ft4 := HJ5.out.tok.frozen 4
          have HD : Hid (Hid (NxD base g b off n cap vs t ks w (w5.setCell ⟨w.heap.size + 1, 4, none⟩ (.string (strL c))))) := by
            have h9 := HJ5.out.put HG.out hb 4 (.string (strL c))
            exact (⟨by rw [hks]; rfl, ⟨.str (strL c), p⟩, ks', ks', p + (k + 1), hks, h9, hpl, fun _ => hlx⟩ : NxD base g b off n cap vs t ks w _)
          clear HC hks hlx HFS
          go_wp2_with fail
          go_meet
          exact HD.out
        · have HTk : Hid (tokF (t.drop p) = none) := by show _ = _; rw [HT0.out, hk]; rfl
          have HD : Hid (NxtP base g b off n cap vs t ks w (Pf 2 p) w5) := by
            have hk := lex_bad HX.out Hn32.out HTk.out HJ4.out.lex
            exact ⟨HJ4.out.chg.trans Hc5.out, .inl ⟨by rw [hk]; rfl, by rw [hk]; rfl⟩⟩
          clear HC
          exact ⟨rfl, HD.out⟩
      have z34 : ((x.toNat : Int) == 34) = false := by have : ¬ (x.toNat : Int) = 34 := (by omega); simp [this]
      go_wp2_with fail
      refine HLe.out.mono ?_
      rintro e w4 ⟨rfl, hw4⟩
      rw [hw4]
      clear hw4 HLe
      go_wp2_with fail
      refine HDi.out.mono ?_
      rintro e w4 ⟨rfl, hw4⟩
      rw [hw4]
      clear hw4 HDi
      go_upto_region 17 with fail
      have hcp : ¬ cap = p := by omega
      have zpc : (n : Int) ≤ (cap : Int) := by omega
      have zpn : (p : Int) ≤ (n : Int) := by omega
      have hS0 : (fun w' : World => w'.cell? ⟨g, 0, none⟩ = some (.slice (some ⟨b, off, none⟩) n cap) ∧ w'.cell? ⟨g, 1, none⟩ = some (.int .i64 (p : Int)) ∧ BysAt w' b off t) W3.drew := ⟨HJ3.out.fs.cell (j := 0) rfl, HJ3.out.fs.cell (j := 1) rfl, HJ3.out.bys⟩
      refine wp_region_T 99 (fun w' : World => w'.cell? ⟨g, 0, none⟩ = some (.slice (some ⟨b, off, none⟩) n cap) ∧ w'.cell? ⟨g, 1, none⟩ = some (.int .i64 (p : Int)) ∧ BysAt w' b off t) (by kernel_rfl) ?_
      refine anyT_takeN (i := 0) (v := ?vnx0) rfl (by kernel_rfl) (by kernel_rfl) (by kernel_rfl) (by rfl) (fun _ _ _ h => h) (Or.inl ⟨by rfl, ?ynx0⟩) hS0 ?_
      case ynx0 => (intro wz hSw; obtain ⟨hz0, hz1, hz2⟩ := hSw; go_simp; (try with_reducible rfl))
      try simp only [Act.put, List.getElem_toArray, List.getElem_cons_zero, List.getElem_cons_succ, List.setIfInBounds_toArray, List.set_cons_zero, List.set_cons_succ]
      refine anyT_takeN (i := 1) (v := ?vnx1) rfl (by kernel_rfl) (by kernel_rfl) (by kernel_rfl) (by rfl) (fun _ _ _ h => h) (Or.inl ⟨by rfl, ?ynx1⟩) hS0 ?_
      case ynx1 => (intro wz hSw; obtain ⟨hz0, hz1, hz2⟩ := hSw; go_simp; (try with_reducible rfl))
      try simp only [Act.put, List.getElem_toArray, List.getElem_cons_zero, List.getElem_cons_succ, List.setIfInBounds_toArray, List.set_cons_zero, List.set_cons_succ]
      refine anyT_takeN (i := 2) (v := ?vnx2) rfl (by kernel_rfl) (by kernel_rfl) (by kernel_rfl) (by rfl) (fun _ _ _ h => h) (Or.inl ⟨by rfl, ?ynx2⟩) hS0 ?_
      case ynx2 => (intro wz hSw; obtain ⟨hz0, hz1, hz2⟩ := hSw; go_simp; (try with_reducible rfl))
      try simp only [Act.put, List.getElem_toArray, List.getElem_cons_zero, List.getElem_cons_succ, List.setIfInBounds_toArray, List.set_cons_zero, List.set_cons_succ]
      refine anyT_takeN (i := 3) (v := ?vnx3) rfl (by kernel_rfl) (by kernel_rfl) (by kernel_rfl) (by rfl) (fun _ _ _ h => h) (Or.inl ⟨by rfl, ?ynx3⟩) hS0 ?_
      case ynx3 => (intro wz hSw; obtain ⟨hz0, hz1, hz2⟩ := hSw; go_simp; (try with_reducible rfl))
      try simp only [Act.put, List.getElem_toArray, List.getElem_cons_zero, List.getElem_cons_succ, List.setIfInBounds_toArray, List.set_cons_zero, List.set_cons_succ]
      refine anyT_takeN (i := 4) (v := ?vnx4) rfl (by kernel_rfl) (by kernel_rfl) (by kernel_rfl) (by rfl) (fun _ _ _ h => h) (Or.inl ⟨by rfl, ?ynx4⟩) hS0 ?_
      case ynx4 => (intro wz hSw; obtain ⟨hz0, hz1, hz2⟩ := hSw; go_simp; (try with_reducible rfl))
      try simp only [Act.put, List.getElem_toArray, List.getElem_cons_zero, List.getElem_cons_succ, List.setIfInBounds_toArray, List.set_cons_zero, List.set_cons_succ]
      refine anyT_takeN (i := 5) (v := ?vnx5) rfl (by kernel_rfl) (by kernel_rfl) (by kernel_rfl) (by rfl) (fun _ _ _ h => h) (Or.inl ⟨by rfl, ?ynx5⟩) hS0 ?_
      case ynx5 => (intro wz hSw; obtain ⟨hz0, hz1, hz2⟩ := hSw; go_simp; (try with_reducible rfl))
      try simp only [Act.put, List.getElem_toArray, List.getElem_cons_zero, List.getElem_cons_succ, List.setIfInBounds_toArray, List.set_cons_zero, List.set_cons_succ]
      refine anyT_takeN (i := 6) (v := ?vnx6) rfl (by kernel_rfl) (by kernel_rfl) (by kernel_rfl) (by rfl) (fun _ _ _ h => h) (Or.inl ⟨by rfl, ?ynx6⟩) hS0 ?_
      case ynx6 => (intro wz hSw; obtain ⟨hz0, hz1, hz2⟩ := hSw; go_simp; (try with_reducible rfl))
      try simp only [Act.put, List.getElem_toArray, List.getElem_cons_zero, List.getElem_cons_succ, List.setIfInBounds_toArray, List.set_cons_zero, List.set_cons_succ]
      refine anyT_takeN (i := 7) (v := ?vnx7) rfl (by kernel_rfl) (by kernel_rfl) (by kernel_rfl) (by rfl) (fun _ _ _ h => h) (Or.inl ⟨by rfl, ?ynx7⟩) hS0 ?_
      case ynx7 => (intro wz hSw; obtain ⟨hz0, hz1, hz2⟩ := hSw; go_simp; (try with_reducible rfl))
      try simp only [Act.put, List.getElem_toArray, List.getElem_cons_zero, List.getElem_cons_succ, List.setIfInBounds_toArray, List.set_cons_zero, List.set_cons_succ]
      refine anyT_takeN (i := 8) (v := .slice (some ⟨b, off + p, none⟩) (n - p) (cap - p)) rfl (by kernel_rfl) (by kernel_rfl) (by kernel_rfl) (by rfl) (fun _ _ _ h => h) (Or.inl ⟨by rfl, ?ynx8⟩) hS0 ?_
      case ynx8 => (intro wz hSw; obtain ⟨hz0, hz1, hz2⟩ := hSw; go_simp; (try with_reducible rfl))
      try simp only [Act.put, List.getElem_toArray, List.getElem_cons_zero, List.getElem_cons_succ, List.setIfInBounds_toArray, List.set_cons_zero, List.set_cons_succ]
      obtain ⟨Wa, hWa⟩ : ∃ V : World, V = W3.drew.alloc (Obj.cells #[.int .u8 46, .int .u8 46] 5) := ⟨_, rfl⟩
      obtain ⟨W5, hW5⟩ : ∃ V : World, V = W3.drew.alloc (Obj.cells #[.int .u8 46, .int .u8 46] 5 (2, 3)) := ⟨_, rfl⟩
      have hba : Below W3.heap.size W3 Wa := by rw [hWa]; exact ((Below.refl _ _).drew).alloc (Nat.le_refl _) _
      have hb5 : Below W3.heap.size W3 W5 := by rw [hW5]; exact ((Below.refl _ _).drew).alloc (Nat.le_refl _) _
      have HJa : Hid (NxJ w base g b off n cap vs t ks [.int .u8 0, .int .i64 (p : Int), .int .i64 0, .int .u64 0, .string ⟨#[]⟩] p Wa) := HJ3.out.up hba
      have HJ5 : Hid (NxJ w base g b off n cap vs t ks [.int .u8 0, .int .i64 (p : Int), .int .i64 0, .int .u64 0, .string ⟨#[]⟩] p W5 ∧ BysAt W5 W3.drew.heap.size 0 [46, 46]) := ⟨HJ3.out.up hb5, by rw [hW5]; exact bys_mark W3.drew _ [46, 46] _ rfl⟩
      have hSa : (fun w' : World => w'.cell? ⟨g, 0, none⟩ = some (.slice (some ⟨b, off, none⟩) n cap) ∧ w'.cell? ⟨g, 1, none⟩ = some (.int .i64 (p : Int)) ∧ BysAt w' b off t) Wa := ⟨HJa.out.fs.cell (j := 0) rfl, HJa.out.fs.cell (j := 1) rfl, HJa.out.bys⟩
      have hS5 : (fun w' : World => w'.cell? ⟨g, 0, none⟩ = some (.slice (some ⟨b, off, none⟩) n cap) ∧ w'.cell? ⟨g, 1, none⟩ = some (.int .i64 (p : Int)) ∧ BysAt w' b off t) W5 := ⟨HJ5.out.1.fs.cell (j := 0) rfl, HJ5.out.1.fs.cell (j := 1) rfl, HJ5.out.1.bys⟩
      have hcv : (convert 22 22 (.slice (some ⟨W3.heap.size, 0, none⟩) 2 2)).run Tryz.prog Wa = .ok (.slice (some ⟨W3.heap.size, 0, none⟩) 2 2) W5 := by
        rw [hWa, hW5]
        exact Lib.run_convert_bytes_const (P := Tryz.prog) W3.drew 22 5 #[.int .u8 46, .int .u8 46] 2 2 Tryz.underlying22 Tryz.underlying5
      refine anyT_one (i := 9) (by kernel_rfl) rfl (fun K hK => ?_)
      go_simp
      rw [show (W3.alloc (Obj.cells #[.int .u8 46, .int .u8 46] 5)).drew = Wa from by rw [hWa]; rfl]
      refine hK.out _ _ (.inr hSa) ?_
      clear hK hW5 hWa
      try simp only [Act.put, List.getElem_toArray, List.getElem_cons_zero, List.getElem_cons_succ, List.setIfInBounds_toArray, List.set_cons_zero, List.set_cons_succ]
      refine anyT_one (i := 10) (by kernel_rfl) rfl (fun K hK => ?_)
      go_simp
      refine hK.out _ _ (.inr hS5) ?_
      clear hK hcv hSa HJa hba hb5
      try simp only [Act.put, List.getElem_toArray, List.getElem_cons_zero, List.getElem_cons_succ, List.setIfInBounds_toArray, List.set_cons_zero, List.set_cons_succ]
      obtain ⟨dd, hdd⟩ : ∃ dd, dd = decide ((t.drop p).take 2 = [46, 46]) := ⟨_, rfl⟩
      have HHp : Hid (Calls Tryz.prog 60 #[.slice (some ⟨b, off + p, none⟩) (n - p) (cap - p), .slice (some ⟨W3.heap.size, 0, none⟩) 2 2] W5 fun e w' => e = .returned (.bool dd) ∧ w' = W5) := by
        rw [hdd]
        refine hasDots_core (l := t.drop p) (fun k y hk => ?_) (by rw [List.length_drop]; have := HN.out; omega) (by omega) (by omega) HJ5.out.2
        rw [List.getElem?_drop] at hk
        rw [Nat.add_assoc]
        exact HJ5.out.1.bys (p + k) y hk
      have HDd : Hid (dd = true ↔ (x = 46 ∧ t[p + 1]? = some 46)) := by show _ ↔ _; rw [hdd, decide_eq_true_iff]; exact take2_iff HX.out
      clear hdd
      refine anyT_one (i := 11) (by kernel_rfl) rfl (fun K hK => ?_)
      go_simp
      go_at_call 60
      refine HHp.out.mono ?_
      rintro e w6 ⟨rfl, hw6⟩
      rw [hw6]
      clear hw6 HHp
      refine hK.out _ _ (.inr hS5) ?_
      clear hK
      try simp only [Act.put, List.getElem_toArray, List.getElem_cons_zero, List.getElem_cons_succ, List.setIfInBounds_toArray, List.set_cons_zero, List.set_cons_succ]
      refine anyT_takeN (i := 12) (v := ?vnx12) rfl (by kernel_rfl) (by kernel_rfl) (by kernel_rfl) (by rfl) (fun _ _ _ h => h) (Or.inl ⟨by rfl, ?ynx12⟩) hS5 ?_
      case ynx12 => (intro wz hSw; obtain ⟨hz0, hz1, hz2⟩ := hSw; go_simp; (try with_reducible rfl))
      try simp only [Act.put, List.getElem_toArray, List.getElem_cons_zero, List.getElem_cons_succ, List.setIfInBounds_toArray, List.set_cons_zero, List.set_cons_succ]
      refine anyT_done (by kernel_rfl) ?_
      clear hS0 hS5 t0 ft0
      have HTk : Hid (tokF (t.drop p) = if x = 46 ∧ t[p + 1]? = some 46 then some (.sign 46, 2) else if x = 40 ∨ x = 41 ∨ x = 44 ∨ x = 62 ∨ x = 124 then some (.sign x, 1) else none) := tok_rest HX.out Hnl.out Hnd.out (u8_ne h34)
      have t0 := HJ5.out.1.tok.cell (j := 0) rfl
      have ft0 := HJ5.out.1.tok.frozen 0
      clear h34
      cases dd
      case true =>
        have hdd := HDd.out.1 rfl
        have HTs : Hid (tokF (t.drop p) = some (.sign 46, 2)) := by show _ = _; rw [HTk.out, if_pos hdd]
        obtain ⟨ks', hks, hlx⟩ := lex_tok HX.out Hn32.out HTs.out HJ5.out.1.lex
        have hpl : p + 2 ≤ n := by
          have h9 := (tokF_some HTs.out).2.1
          rw [List.length_drop] at h9
          have := HN.out
          omega
        have zw : IntKind.i64.wrap ((p : Int) + 2) = (p : Int) + 2 := wrap64 (by omega) (by omega)
        obtain ⟨W6, hW6⟩ : ∃ V : World, V = W5.setCell ⟨w.heap.size + 1, 0, none⟩ (.int .u8 46) := ⟨_, rfl⟩
        have HJ6 : Hid (NxJ w base g b off n cap vs t ks [.int .u8 46, .int .i64 (p : Int), .int .i64 0, .int .u64 0, .string ⟨#[]⟩] p W6) := by
          have h9 := HJ5.out.1.put HG.out hb 0 (.int .u8 46)
          rw [← hW6] at h9
          exact h9
        have HD : Hid (Hid (NxD base g b off n cap vs t ks w (W6.setCell ⟨g, 1, none⟩ (.int .i64 ((p : Int) + 2))))) := by
          have h9 := HJ6.out.go HG.out (Chg.of_set _ _ _ _ rfl) (HJ6.out.fs.move (p + 2) (.int .i64 ((p : Int) + 2)) (by congr 1)) hlx
          exact (⟨by rw [hks]; rfl, ⟨.sign 46, p⟩, ks', ks', p + 2, hks, h9, hpl, fun _ => hlx⟩ : NxD base g b off n cap vs t ks w _)
        clear hks hlx hdd
        go_upto_region 19 with fail
        rw [← hW6]
        clear hW6 t0 ft0
        have c1 := HJ6.out.fs.cell (j := 1) rfl
        have f1 := HJ6.out.fs.frozen 1
        go_wp2_with fail
        go_meet
        exact HD.out
      case false =>
      have HTk2 : Hid (tokF (t.drop p) = if x = 40 ∨ x = 41 ∨ x = 44 ∨ x = 62 ∨ x = 124 then some (.sign x, 1) else none) := by show _ = _; rw [HTk.out, if_neg (fun q => Bool.noConfusion (HDd.out.2 q))]
      obtain ⟨r, hr⟩ : ∃ r, r = Lib.indexByte (sb ⟨#[40, 41, 44, 62, 124]⟩) x := ⟨_, rfl⟩
      have HIx : Hid (Calls Tryz.prog 61 #[.string ⟨#[40, 41, 44, 62, 124]⟩, .int .u8 (x.toNat : Int)] W5 fun e w' => e = .returned (.int .i64 r) ∧ w' = W5) := by
        rw [hr]; exact stringsIndexByte_any ⟨#[40, 41, 44, 62, 124]⟩ x W5
      have hri := indexByte_neg (sb ⟨#[40, 41, 44, 62, 124]⟩) x
      rw [← hr] at hri
      have hmem : x ∈ sb ⟨#[40, 41, 44, 62, 124]⟩ ↔ (x = 40 ∨ x = 41 ∨ x = 44 ∨ x = 62 ∨ x = 124) := by simp [sb]
      by_cases h0 : 0 ≤ r
      · have z0 : decide ((0 : Int) ≤ r) = true := decide_eq_true h0
        have hsg := hmem.1 (hri.2.1 h0)
        have HTs : Hid (tokF (t.drop p) = some (.sign x, 1)) := by show _ = _; rw [HTk2.out, if_pos hsg]
        obtain ⟨ks', hks, hlx⟩ := lex_tok HX.out Hn32.out HTs.out HJ5.out.1.lex
        have zw : IntKind.i64.wrap ((p : Int) + 1) = (p : Int) + 1 := wrap64 (by omega) (by omega)
        obtain ⟨W6, hW6⟩ : ∃ V : World, V = W5.setCell ⟨w.heap.size + 1, 0, none⟩ (.int .u8 (x.toNat : Int)) := ⟨_, rfl⟩
        have HJ6 : Hid (NxJ w base g b off n cap vs t ks [.int .u8 (x.toNat : Int), .int .i64 (p : Int), .int .i64 0, .int .u64 0, .string ⟨#[]⟩] p W6) := by
          have h9 := HJ5.out.1.put HG.out hb 0 (.int .u8 (x.toNat : Int))
          rw [← hW6] at h9
          exact h9
        have HD : Hid (Hid (NxD base g b off n cap vs t ks w (W6.setCell ⟨g, 1, none⟩ (.int .i64 ((p : Int) + 1))))) := by
          have h9 := HJ6.out.go HG.out (Chg.of_set _ _ _ _ rfl) (HJ6.out.fs.move (p + 1) (.int .i64 ((p : Int) + 1)) (by congr 1)) hlx
          exact (⟨by rw [hks]; rfl, ⟨.sign x, p⟩, ks', ks', p + 1, hks, h9, by omega, fun _ => hlx⟩ : NxD base g b off n cap vs t ks w _)
        clear hks hlx hsg hmem hri hr
        go_wp2_with fail
        refine HIx.out.mono ?_
        rintro e w6 ⟨rfl, hw6⟩
        rw [hw6]
        clear hw6 HIx
        go_upto_region 22 with fail
        rw [← hW6]
        clear hW6 t0 ft0
        have c1 := HJ6.out.fs.cell (j := 1) rfl
        have f1 := HJ6.out.fs.frozen 1
        go_wp2_with fail
        go_meet
        exact HD.out
      · have z0 : decide ((0 : Int) ≤ r) = false := decide_eq_false h0
        have HTn : Hid (tokF (t.drop p) = none) := by show _ = _; rw [HTk2.out, if_neg (fun q => h0 (hri.2.2 (hmem.2 q)))]
        have HD : Hid (NxtP base g b off n cap vs t ks w (Pf 2 p) W5) := by
          have hk := lex_bad HX.out Hn32.out HTn.out HJ5.out.1.lex
          exact ⟨HJ5.out.1.chg, .inl ⟨by rw [hk]; rfl, by rw [hk]; rfl⟩⟩
        clear hmem hri hr
        go_wp2_with fail
        refine HIx.out.mono ?_
        rintro e w6 ⟨rfl, hw6⟩
        rw [hw6]
        clear hw6 HIx
        go_wp2_with fail
        refine (sdem_no HJ5.out.1.fs).mono ?_
        rintro e w6 ⟨rfl, hw6⟩
        rw [hw6]
        clear hw6
        exact ⟨rfl, HD.out⟩
  case rest =>
  have HD : Hid (NxD base g b off n cap vs t ks w wc) := hcut
  clear hcut HW0
  obtain ⟨hnb, k, ks', ks2, p', hks, hJ, hp', hlx⟩ := HD.out
  have HJ : Hid (NxJ w base g b off n cap vs t ks2 (ftV k) p' wc) := hJ
  have t0 := hJ.tok.cell (j := 0) rfl
  have t1 := hJ.tok.cell (j := 1) rfl
  have t2 := hJ.tok.cell (j := 2) rfl
  have t3 := hJ.tok.cell (j := 3) rfl
  have t4 := hJ.tok.cell (j := 4) rfl
  have l0 := hJ.res.cell (j := 0) rfl
  have l1 := hJ.res.cell (j := 1) rfl
  have l2 := hJ.res.cell (j := 2) rfl
  have l3 := hJ.res.cell (j := 3) rfl
  have l4 := hJ.res.cell (j := 4) rfl
  have f0 := hJ.res.frozen 0
  have f1 := hJ.res.frozen 1
  have f2 := hJ.res.frozen 2
  have f3 := hJ.res.frozen 3
  have f4 := hJ.res.frozen 4
  obtain ⟨W9, hW9⟩ : ∃ V : World, V = setP wc w.heap.size (.int .u8 ((ftB k.k).toNat : Int)) (.int .i64 (k.pos : Int)) (.int .i64 k.k.wd) (.int .u64 k.k.nm) (.string k.k.txt) := ⟨_, rfl⟩
  have hB9 := hJ.res.setP (.int .u8 ((ftB k.k).toNat : Int)) (.int .i64 (k.pos : Int)) (.int .i64 k.k.wd) (.int .u64 k.k.nm) (.string k.k.txt)
  have hc9 : Chg (fun q => q = w.heap.size) wc W9 := by
    rw [hW9]
    exact ((((Chg.of_set (S := fun k => k = w.heap.size) _ _ _ _ rfl).trans (Chg.of_set (S := fun k => k = w.heap.size) _ _ _ _ rfl)).trans (Chg.of_set (S := fun k => k = w.heap.size) _ _ _ _ rfl)).trans (Chg.of_set (S := fun k => k = w.heap.size) _ _ _ _ rfl)).trans (Chg.of_set (S := fun k => k = w.heap.size) _ _ _ _ rfl)
  rw [← hW9] at hB9
  have HR : Hid (NxtP base g b off n cap vs t ks w (.returned (.agg (ftV k).toArray)) W9) := by
    refine ⟨⟨hc9.os.trans hJ.chg.os, hc9.tape.trans hJ.chg.tape, hc9.output.trans hJ.chg.output, Nat.le_trans hJ.chg.size hc9.size, fun q hq hn => (hc9.block q (Nat.lt_of_lt_of_le hq hJ.chg.size) (by omega)).trans (hJ.chg.block q hq hn)⟩, .inr ⟨hnb, k, ks', hks, rfl, p', BoxAt.chg hJ.fs hc9 (by omega), hp', hlx⟩⟩
  have p0 := hB9.cell (j := 0) rfl
  have p1 := hB9.cell (j := 1) rfl
  have p2 := hB9.cell (j := 2) rfl
  have p3 := hB9.cell (j := 3) rfl
  have p4 := hB9.cell (j := 4) rfl
  clear hJ hks hlx hnb hB9 hc9 HD HJ
  unfold setP at hW9
  go_wp2_with fail
  rw [← hW9]
  (try rw [Exit.noGoto_ret])
  exact bodyPost_ret (v := .agg (ftV k).toArray) (by simp [results, Tryz.results25, go_sem, p0, p1, p2, p3, p4]) rfl HR.out
end Go.Proofs.YtgnpcenpcmdlfaaGreatDoor

/-
  (*impl.filterParser): demand, take.
-/
namespace Go.Proofs.YtgnpcenpcmdlfaaGreatDoor
open Go.ChangeShapes Go.WideShapes Go.ChangeAt Go.RowKit Go.Deep
set_option linter.unusedVariables false
set_option linter.unusedSimpArgs false
set_option maxRecDepth 100000

abbrev fpL (k : Tk) (made op : Nat) (nv : Value) : List Value := [.int .u8 ((ftB k.k).toNat : Int), .int .i64 (k.pos : Int), .int .i64 k.k.wd, .int .u64 k.k.nm, .string k.k.txt, .int .i64 (made : Int), .int .i64 (op : Int), nv]
/-- What stays while a filter is parsed. -/
structure FpS (base b off n cap : Nat) (t : List UInt8) (w : World) : Prop where
  bys : BysAt w b off t
  bl : b < base
  lo : 7 ≤ base
  sz : base ≤ w.heap.size
  wds : WdsAt w
  err : ErrAt w
  nt : n = t.length
  nl : n ≤ 100000
  nc : n ≤ cap
  cm : cap ≤ maxLen
theorem FpS.up {base b off n cap : Nat} {t : List UInt8} {w w' : World} (h : FpS base b off n cap t w) (hb : Below base w w') : FpS base b off n cap t w' := by
  have h1 := h.lo
  have hv : 0 < base ∧ 3 < base := by omega
  refine ⟨fun k y hk => by rw [hb.cell (p := ⟨b, off + k, none⟩) h.bl]; exact h.bys k y hk, h.bl, h.lo, Nat.le_trans h.sz hb.size, fun k hk => ?_, ?_, h.nt, h.nl, h.nc, h.cm⟩
  · rw [hb.cell (p := ⟨0, k, none⟩) hv.1]; exact h.wds k hk
  · obtain ⟨ev, e1, e2⟩ := h.err
    exact ⟨ev, by rw [hb.cell (p := ⟨3, 0, none⟩) hv.2]; exact e1, e2⟩
theorem Chg.comp {S S1 : Nat → Prop} {w w1 w2 : World} (h : Chg S w w1) (h1 : Chg S1 w1 w2) (hs : ∀ q, q < w.heap.size → S1 q → S q) : Chg S w w2 :=
  ⟨h1.os.trans h.os, h1.tape.trans h.tape, h1.output.trans h.output, Nat.le_trans h.size h1.size, fun q hq hn => (h1.block q (Nat.lt_of_lt_of_le hq h.size) (fun z => hn (hs q hq z))).trans (h.block q hq hn)⟩
theorem FpS.chg {S : Nat → Prop} {base b off n cap : Nat} {t : List UInt8} {w w' : World} (h : FpS base b off n cap t w) (hc : Chg S w w') (hs : ∀ q, S q → base ≤ q) : FpS base b off n cap t w' := h.up (Chg.below (Below.refl _ _) hc h.sz hs)
/-- The parser in memory. -/
structure Fp (base g b off n cap : Nat) (t : List UInt8) (d : Nat) (s : Ps) (k : Tk) (ks : List Tk) (p : Nat) (nv : Value) (w : World) : Prop where
  eq : s.ks = k :: ks
  fs : FsAt w base g b off n cap p (fpL k s.made (20 - d) nv)
  pn : p ≤ n
  lx : k.k.isFin = false → LexR (t.drop p) p ks
  nb : k.k.isBad = false
  tk : Toks (k :: ks)
  md : s.made ≤ 200
  dd : d ≤ 20
  nds : w.ownsRow base 65 7 nv s.out.length (cellsN s.out)
  ap : ∀ q, nv.ownBlock = some q → ¬ q = g
  ol : s.out.length + s.ks.length ≤ 200000
/-- The parser after a function, its nodes where they were or in new memory. -/
def FpQ (base g b off n cap : Nat) (t : List UInt8) (d : Nat) (nv : Value) (w : World) (s1 : Ps) (w' : World) : Prop := ∃ k ks p nv', Fp base g b off n cap t d s1 k ks p nv' w' ∧ (∀ q, nv'.ownBlock = some q → nv.ownBlock = some q ∨ w.heap.size ≤ q)
def FpO (base g b off n cap : Nat) (t : List UInt8) (d : Nat) (A : PR Ps → Prop) (V : Value) (nv : Value) (w : World) (e : Ending) (w' : World) : Prop := Hid (Chg (fun q => q = g ∨ nv.ownBlock = some q) w w') ∧ ((∃ s1, A (.ok s1) ∧ e = .returned V ∧ FpQ base g b off n cap t d nv w s1 w') ∨ (∃ c a, A (.error (c, a)) ∧ e = Pf c ((a : Nat) : Int)))
theorem Fp.kinds {base g b off n cap : Nat} {t : List UInt8} {d : Nat} {s : Ps} {k : Tk} {ks : List Tk} {p : Nat} {nv : Value} {w : World} (h : Fp base g b off n cap t d s k ks p nv w) : k.k.good ∨ k.k = .fin := by
  have h1 := h.tk
  cases h1 with
  | last _ q => rcases q with q | q
                · exact .inr q
                · have := h.nb; rw [q] at this; cases this
  | more _ q _ => exact .inl q
theorem ft_sign {k : TkK} (hk : k.good ∨ k = .fin) {b : UInt8} (hb : b = 40 ∨ b = 41 ∨ b = 44 ∨ b = 62 ∨ b = 124 ∨ b = 46) : (((ftB k).toNat : Int) == ((b.toNat : Nat) : Int)) = k.isSign b := by
  have h0 : (((ftB k).toNat : Int) == ((b.toNat : Nat) : Int)) = (ftB k == b) := by
    by_cases q : ftB k = b
    · rw [q]; simp
    · have q2 : ¬ ((ftB k).toNat : Int) = (b.toNat : Int) := fun z => q (UInt8.toNat_inj.1 (by omega))
      rw [beq_eq_false_iff_ne.2 q, beq_eq_false_iff_ne.2 q2]
  rw [h0]
  cases k with
  | sign c => rfl
  | word _ => rcases hb with rfl | rfl | rfl | rfl | rfl | rfl <;> rfl
  | num _ => rcases hb with rfl | rfl | rfl | rfl | rfl | rfl <;> rfl
  | str _ => rcases hb with rfl | rfl | rfl | rfl | rfl | rfl <;> rfl
  | fin => rcases hb with rfl | rfl | rfl | rfl | rfl | rfl <;> rfl
  | bad => rcases hb with rfl | rfl | rfl | rfl | rfl | rfl <;> rfl
set_option maxHeartbeats 1000000 in
theorem fdem_yes (v : Value) (c : Int) (w : World) : Calls Tryz.prog 27 #[v, .bool true, .int .i64 c] w fun e w' => e = .returned (.tuple #[]) ∧ w' = w := by
  go_enter Tryz.func27, Tryz.ntmps27
  go_wp2_with fail
  go_end0
  exact ⟨rfl, rfl⟩
set_option maxHeartbeats 1000000 in
theorem fdem_no {base g b off n cap : Nat} {t : List UInt8} {d : Nat} {s : Ps} {k : Tk} {ks : List Tk} {p : Nat} {nv : Value} {w : World} (h : Fp base g b off n cap t d s k ks p nv w) (c : Int) : Calls Tryz.prog 27 #[.pointer (some ⟨g, 0, none⟩), .bool false, .int .i64 c] w fun e w' => e = Pf c (k.pos : Int) ∧ w' = w := by
  have c3 := h.fs.cell (j := 3) rfl
  clear h
  go_enter Tryz.func27, Tryz.ntmps27
  go_wp2_with fail
  exact ⟨rfl, rfl, rfl⟩
/-- The parser over other cells. -/
theorem Fp.chg {S : Nat → Prop} {base g b off n cap : Nat} {t : List UInt8} {d : Nat} {s : Ps} {k : Tk} {ks : List Tk} {p : Nat} {nv : Value} {w w' : World} (h : Fp base g b off n cap t d s k ks p nv w) (hc : Chg S w w') (hg : ¬ S g) (hn : ∀ q, nv.ownBlock = some q → ¬ S q) : Fp base g b off n cap t d s k ks p nv w' :=
  ⟨h.eq, BoxAt.chg h.fs hc hg, h.pn, h.lx, h.nb, h.tk, h.md, h.dd, own_chg h.nds hc hn, h.ap, h.ol⟩
theorem Fp.below {base g b off n cap : Nat} {t : List UInt8} {d : Nat} {s : Ps} {k : Tk} {ks : List Tk} {p : Nat} {nv : Value} {w w' : World} (h : Fp base g b off n cap t d s k ks p nv w) (hb : Below w.heap.size w w') : Fp base g b off n cap t d s k ks p nv w' := h.chg (S := fun _ => False) (Chg.of_below hb) (fun q => q) (fun _ _ q => q)
theorem Fp.nxg {base g b off n cap : Nat} {t : List UInt8} {d : Nat} {s : Ps} {k : Tk} {ks : List Tk} {p : Nat} {nv : Value} {w : World} (h : Fp base g b off n cap t d s k ks p nv w) (hS : FpS base b off n cap t w) : NxG w g b := by
  have h1 := h.fs.lt
  have h2 := hS.lo
  have h3 := hS.bl
  exact ⟨h1.2, by omega, by omega, by omega⟩
/-- The token's five cells stored. -/
def setQ (w : World) (g : Nat) (a b c d e : Value) : World := ((((w.setCell ⟨g, 2, none⟩ a).setCell ⟨g, 3, none⟩ b).setCell ⟨g, 4, none⟩ c).setCell ⟨g, 5, none⟩ d).setCell ⟨g, 6, none⟩ e
theorem FsAt.setQ {w : World} {base g b off n cap p : Nat} {k k2 : Tk} {made op : Nat} {nv : Value} (h : FsAt w base g b off n cap p (fpL k made op nv)) : FsAt (Go.Proofs.YtgnpcenpcmdlfaaGreatDoor.setQ w g (.int .u8 ((ftB k2.k).toNat : Int)) (.int .i64 (k2.pos : Int)) (.int .i64 k2.k.wd) (.int .u64 k2.k.nm) (.string k2.k.txt)) base g b off n cap p (fpL k2 made op nv) :=
  ((((BoxAt.set h 2 (.int .u8 ((ftB k2.k).toNat : Int))).set 3 (.int .i64 (k2.pos : Int))).set 4 (.int .i64 k2.k.wd)).set 5 (.int .u64 k2.k.nm)).set 6 (.string k2.k.txt)
theorem chg_setQ (w : World) (g : Nat) (a b c d e : Value) : Chg (fun k => k = g) w (setQ w g a b c d e) :=
  ((((Chg.of_set (S := fun k => k = g) _ _ _ _ rfl).trans (Chg.of_set (S := fun k => k = g) _ _ _ _ rfl)).trans (Chg.of_set (S := fun k => k = g) _ _ _ _ rfl)).trans (Chg.of_set (S := fun k => k = g) _ _ _ _ rfl)).trans (Chg.of_set (S := fun k => k = g) _ _ _ _ rfl)
theorem chg_setP (w : World) (g : Nat) (a b c d e : Value) : Chg (fun k => k = g) w (setP w g a b c d e) :=
  ((((Chg.of_set (S := fun k => k = g) _ _ _ _ rfl).trans (Chg.of_set (S := fun k => k = g) _ _ _ _ rfl)).trans (Chg.of_set (S := fun k => k = g) _ _ _ _ rfl)).trans (Chg.of_set (S := fun k => k = g) _ _ _ _ rfl)).trans (Chg.of_set (S := fun k => k = g) _ _ _ _ rfl)
def TakP (base g b off n cap : Nat) (t : List UInt8) (d : Nat) (s : Ps) (k : Tk) (nv : Value) (w : World) (e : Ending) (w' : World) : Prop := Hid (Chg (fun q => q = g) w w') ∧ ((∃ k2 ks2 p2, takeF s.ks = .ok (k2 :: ks2) ∧ e = .returned (.agg (ftV k).toArray) ∧ Fp base g b off n cap t d { s with ks := k2 :: ks2 } k2 ks2 p2 nv w') ∨ (∃ c a, takeF s.ks = .error (c, a) ∧ e = Pf c ((a : Nat) : Int)))
set_option maxHeartbeats 8000000 in
theorem ftake_core {base g b off n cap : Nat} {t : List UInt8} {d : Nat} {s : Ps} {k : Tk} {ks : List Tk} {p : Nat} {nv : Value} {w : World} (hS : FpS base b off n cap t w) (h : Fp base g b off n cap t d s k ks p nv w) (hf : k.k.isFin = false) :
    Calls Tryz.prog 114 #[.pointer (some ⟨g, 0, none⟩)] w (TakP base g b off n cap t d s k nv w) := by
  obtain ⟨W0, hW0⟩ : ∃ W0 : World, W0 = (w.alloc (Obj.cells #[.int .u8 0, .int .i64 0, .int .i64 0, .int .u64 0, .string ⟨#[]⟩] 52)).alloc (Obj.cells #[.int .u8 ((ftB k.k).toNat : Int), .int .i64 (k.pos : Int), .int .i64 k.k.wd, .int .u64 k.k.nm, .string k.k.txt] 52) := ⟨_, rfl⟩
  obtain ⟨b1, b2, b3⟩ := par_boxes [.int .u8 0, .int .i64 0, .int .i64 0, .int .u64 0, .string ⟨#[]⟩] [.int .u8 ((ftB k.k).toNat : Int), .int .i64 (k.pos : Int), .int .i64 k.k.wd, .int .u64 k.k.nm, .string k.k.txt] hW0
  have hbb : Below base w W0 := b3.mono hS.sz
  have HW0 : Hid (Fp base g b off n cap t d s k ks p nv W0 ∧ FpS base b off n cap t W0 ∧ BoxAt W0 w.heap.size 52 5 w.heap.size [.int .u8 0, .int .i64 0, .int .i64 0, .int .u64 0, .string ⟨#[]⟩] ∧ BoxAt W0 w.heap.size 52 5 (w.heap.size + 1) (ftV k) ∧ Below base w W0 ∧ Below w.heap.size w W0) := ⟨h.below b3, hS.up hbb, b1, b2, hbb, b3⟩
  have e0 := h.fs.cell (j := 2) rfl
  have e1 := h.fs.cell (j := 3) rfl
  have e2 := h.fs.cell (j := 4) rfl
  have e3 := h.fs.cell (j := 5) rfl
  have e4 := h.fs.cell (j := 6) rfl
  have hgl := h.fs.lt
  have HNd : Hid (w.ownsRow base 65 7 nv s.out.length (cellsN s.out)) := h.nds
  have HTo : Hid (Toks ks ∧ s.ks = k :: ks ∧ base ≤ w.heap.size) := ⟨(Toks.tail h.tk h.nb hf).1, h.eq, hS.sz⟩
  have HNx : Hid (Calls Tryz.prog 25 #[.pointer (some ⟨g, 0, none⟩)] W0 (NxtP base g b off n cap (fpL k s.made (20 - d) nv) t ks W0)) := by
    have h9 := HW0.out.1
    have h8 := HW0.out.2.1
    exact next_core h9.fs h8.bys (Nat.lt_of_lt_of_le h8.bl h8.sz) h8.nt h8.nl h8.nc h8.cm h9.pn (h9.nxg h8) h8.wds h8.err (h9.lx hf)
  clear hS h hbb b1 b2 b3
  go_enter Tryz.func114, Tryz.ntmps114
  go_upto_region 2 with fail
  rw [← hW0]
  clear hW0 e0 e1 e2 e3 e4
  go_wp2_with fail
  refine HNx.out.mono ?_
  rintro e w1 ⟨Hc1, (⟨hbd, rfl⟩ | ⟨hbd, k2, ks2, hk2, rfl, p2, hfs, hp2, hlx⟩)⟩
  · have HD : Hid (TakP base g b off n cap t d s k nv w (Pf 2 (hdA ks)) w1) := by
      have hge := HW0.out.1.fs.lt.1
      refine ⟨(Chg.of_below HW0.out.2.2.2.2.2).trans Hc1.out, .inr ⟨2, hdA ks, ?_, rfl⟩⟩
      rw [HTo.out.2.1]
      unfold takeF
      exact if_pos hbd
    clear HNx
    exact ⟨rfl, HD.out⟩
  · have HQ : Hid ((hdK ks).isBad = false ∧ ks = k2 :: ks2 ∧ FsAt w1 base g b off n cap p2 (fpL k s.made (20 - d) nv) ∧ p2 ≤ n ∧ (k2.k.isFin = false → LexR (t.drop p2) p2 ks2) ∧ Chg (fun q => q = g) W0 w1) := ⟨hbd, hk2, hfs, hp2, hlx, Hc1.out⟩
    have hB0 := HW0.out.2.2.1.chg Hc1.out (by omega)
    have hB1 := HW0.out.2.2.2.1.chg Hc1.out (by omega)
    have i0 := hfs.cell (j := 2) rfl
    have i1 := hfs.cell (j := 3) rfl
    have i2 := hfs.cell (j := 4) rfl
    have i3 := hfs.cell (j := 5) rfl
    have i4 := hfs.cell (j := 6) rfl
    have z0 := hfs.frozen 2
    have z1 := hfs.frozen 3
    have z2 := hfs.frozen 4
    have z3 := hfs.frozen 5
    have z4 := hfs.frozen 6
    have hgw : ¬ w.heap.size = g ∧ ¬ w.heap.size + 1 = g := by omega
    obtain ⟨W2, hW2⟩ : ∃ V : World, V = setQ w1 g (.int .u8 ((ftB k2.k).toNat : Int)) (.int .i64 (k2.pos : Int)) (.int .i64 k2.k.wd) (.int .u64 k2.k.nm) (.string k2.k.txt) := ⟨_, rfl⟩
    have hc2 : Chg (fun q => q = g) w1 W2 := by rw [hW2]; exact chg_setQ _ _ _ _ _ _ _
    have HF2 : Hid (FsAt W2 base g b off n cap p2 (fpL k2 s.made (20 - d) nv) ∧ Chg (fun q => q = g) W0 W2) := ⟨by rw [hW2]; exact FsAt.setQ hfs, Hc1.out.trans hc2⟩
    have hB02 := hB0.chg hc2 hgw.1
    have hB12 := hB1.chg hc2 hgw.2
    have HB2 : Hid (BoxAt W2 w.heap.size 52 5 w.heap.size [.int .u8 0, .int .i64 0, .int .i64 0, .int .u64 0, .string ⟨#[]⟩] ∧ BoxAt W2 w.heap.size 52 5 (w.heap.size + 1) (ftV k)) := ⟨hB02, hB12⟩
    clear hbd hk2 hfs hp2 hlx hB0 hB1 HNx hc2 hB02 hB12
    unfold setQ at hW2
    go_upto_region 3 with fail
    rw [← hW2]
    clear hW2 i0 i1 i2 i3 i4 z0 z1 z2 z3 z4
    have t0 := HB2.out.2.cell (j := 0) rfl
    have t1 := HB2.out.2.cell (j := 1) rfl
    have t2 := HB2.out.2.cell (j := 2) rfl
    have t3 := HB2.out.2.cell (j := 3) rfl
    have t4 := HB2.out.2.cell (j := 4) rfl
    have l0 := HB2.out.1.cell (j := 0) rfl
    have l1 := HB2.out.1.cell (j := 1) rfl
    have l2 := HB2.out.1.cell (j := 2) rfl
    have l3 := HB2.out.1.cell (j := 3) rfl
    have l4 := HB2.out.1.cell (j := 4) rfl
    have f0 := HB2.out.1.frozen 0
    have f1 := HB2.out.1.frozen 1
    have f2 := HB2.out.1.frozen 2
    have f3 := HB2.out.1.frozen 3
    have f4 := HB2.out.1.frozen 4
    obtain ⟨W9, hW9⟩ : ∃ V : World, V = setP W2 w.heap.size (.int .u8 ((ftB k.k).toNat : Int)) (.int .i64 (k.pos : Int)) (.int .i64 k.k.wd) (.int .u64 k.k.nm) (.string k.k.txt) := ⟨_, rfl⟩
    have hB9 := HB2.out.1.setP (.int .u8 ((ftB k.k).toNat : Int)) (.int .i64 (k.pos : Int)) (.int .i64 k.k.wd) (.int .u64 k.k.nm) (.string k.k.txt)
    rw [← hW9] at hB9
    have HR : Hid (TakP base g b off n cap t d s k nv w (.returned (.agg (ftV k).toArray)) W9) := by
      have hc9 : Chg (fun q => q = w.heap.size) W2 W9 := by rw [hW9]; exact chg_setP _ _ _ _ _ _ _
      have h0 := HW0.out.1
      have hge := h0.fs.lt.1
      have hq := HQ.out
      have hsz := HTo.out.2.2
      have hcA : Chg (fun q => q = g ∨ q = w.heap.size) W0 W9 := ⟨hc9.os.trans HF2.out.2.os, hc9.tape.trans HF2.out.2.tape, hc9.output.trans HF2.out.2.output, Nat.le_trans HF2.out.2.size hc9.size, fun q hq hn => (hc9.block q (Nat.lt_of_lt_of_le hq HF2.out.2.size) (fun z => hn (.inr z))).trans (HF2.out.2.block q hq (fun z => hn (.inl z)))⟩
      refine ⟨Chg.comp (S := fun q => q = g) (Chg.of_below HW0.out.2.2.2.2.2) hcA (fun q hq z => by omega), .inl ⟨k2, ks2, p2, ?_, rfl, ?_⟩⟩
      · rw [HTo.out.2.1]
        unfold takeF
        show (if (hdK ks).isBad = true then _ else _) = _
        rw [if_neg (by rw [hq.1]; simp)]
        show Except.ok ks = _
        rw [hq.2.1]
      · have hT2 : Toks (k2 :: ks2) := by rw [← hq.2.1]; exact HTo.out.1
        have hb2 : k2.k.isBad = false := by have := hq.1; rw [hq.2.1] at this; exact this
        refine ⟨rfl, BoxAt.chg HF2.out.1 hc9 (by omega), hq.2.2.2.1, hq.2.2.2.2.1, hb2, hT2, h0.md, h0.dd, ?_, h0.ap, by have h9 := h0.ol; rw [HTo.out.2.1, hq.2.1] at h9; simp at h9 ⊢; omega⟩
        refine own_chg h0.nds hcA (fun q hq2 z => ?_)
        have h7 := h0.ap q hq2
        have h8 := World.ownsRow.lt HNd.out q hq2
        rcases z with z | z
        · exact h7 z
        · omega
    have p0 := hB9.cell (j := 0) rfl
    have p1 := hB9.cell (j := 1) rfl
    have p2' := hB9.cell (j := 2) rfl
    have p3 := hB9.cell (j := 3) rfl
    have p4 := hB9.cell (j := 4) rfl
    unfold setP at hW9
    clear hB9
    go_wp2_with fail
    rw [← hW9]
    exact bodyPost_ret (v := .agg (ftV k).toArray) (by simp [results, Tryz.results114, go_sem, p0, p1, p2', p3, p4]) rfl HR.out
end Go.Proofs.YtgnpcenpcmdlfaaGreatDoor

