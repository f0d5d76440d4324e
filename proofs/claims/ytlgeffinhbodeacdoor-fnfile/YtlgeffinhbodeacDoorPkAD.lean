import Derived.Deep.QuietTactic
import Derived.BigQuiet
import Derived.Test.YtlgeffinhbodeacDoorPkAB
import Derived.Test.YtlgeffinhbodeacDoorPkAC
import Derived.Test.YtlgeffinhbodeacDoorPkAA
/-
  (*impl.byteReader).text, row.
-/
namespace Go.Proofs.YtlgeffinhbodeacDoor
open Go.ChangeShapes Go.WideShapes Go.ChangeAt Go.RowKit Go.Deep
set_option linter.unusedVariables false
set_option linter.unusedSimpArgs false
set_option maxRecDepth 100000

/-- What reading a text leaves. -/
def StrP (w : World) (base g b : Nat) (xs : List UInt8) (code : Int) (e : Ending) (w' : World) : Prop :=
  Chg (fun k => k = g) w w' ∧ ((∃ (s : ByteArray) (t : List UInt8), getStr xs = some (bl s, t) ∧ e = .returned (.string s) ∧ s.size + t.length ≤ xs.length ∧ RdE w' base g b t code) ∨ (getStr xs = none ∧ e = Corr code))
set_option maxHeartbeats 2000000 in
theorem text_core (base g b : Nat) (xs : List UInt8) (code : Int) (w : World) (h : RdE w base g b xs code) :
    Calls Tryd.prog 74 #[.pointer (some ⟨g, 0, none⟩)] w fun e w' => StrP w base g b xs code e w' := by
  have HR : Hid (RdE w base g b xs code) := h
  clear h
  go_enter Tryd.func74, Tryd.ntmps74
  go_wp2_with fail
  refine (number_core base g b xs code _ HR.out).mono ?_
  rintro e w1 ⟨hC1, (⟨n, t, hn, rfl, hn2, ht, hR1⟩ | ⟨hn, rfl⟩)⟩
  · obtain ⟨off, cap, hA⟩ := hR1
    have HA : Hid (RdAt w1 base g b off cap t code) := hA
    have HG : Hid (getNum xs = some (n, t) ∧ t.length ≤ xs.length ∧ n < 2 ^ 64) := ⟨hn, ht, hn2⟩
    have HC1 : Hid (Chg (fun k => k = g) w w1) := hC1
    clear hn hA hC1 hn2 ht
    by_cases hle : n ≤ t.length
    · obtain ⟨s, hsd⟩ : ∃ s : ByteArray, s = (⟨t.toArray⟩ : ByteArray).extract 0 (0 + n) := ⟨_, rfl⟩
      have hbs : bl s = t.take n := by
        rw [hsd]
        show ((⟨t.toArray⟩ : ByteArray).extract 0 (0 + n)).data.toList = _
        rw [Lib.extract_data, Nat.add_sub_cancel_left]
        rfl
      have HG2 : Hid (getStr xs = some (bl s, t.drop n) ∧ s.size + (t.drop n).length ≤ xs.length) := by
        have h1 : s.size = (t.take n).length := by rw [← hbs, bl_len]
        refine ⟨?_, ?_⟩
        · show getStr xs = _
          unfold getStr
          rw [HG.out.1, hbs]
          simp only []
          rw [if_pos hle]
        · rw [h1, List.length_take, List.length_drop]; have := HG.out.2.1; omega
      have hsz : (⟨t.toArray⟩ : ByteArray).size = t.length := by show t.toArray.size = _; simp
      go_wp2_with fail
      refine (take_ok base g b off cap n t code _ HA.out hle).mono ?_
      rintro e w2 ⟨rfl, hA2, hC2⟩
      have hcv := Lib.run_convert_window (P := Tryd.prog) w2 22 5 9 Tryd.underlying22 Tryd.underlying5 Tryd.underlying9 b off ⟨t.toArray⟩ (bytes_of_bys (HA.out.bys.chgR hC2 HA.out.lt HA.out.ne)) 0 n cap (by omega)
      rw [← hsd, Nat.add_zero] at hcv
      have HW : Hid (Chg (fun k => k = g) w w2 ∧ RdAt w2 base g b (off + n) (cap - n) (t.drop n) code) := ⟨HC1.out.trans hC2, hA2⟩
      clear hsd hbs hsz hA2 hC2
      go_wp2_with fail
      go_ret
      exact ⟨HW.out.1, .inl ⟨s, t.drop n, HG2.out.1, rfl, HG2.out.2, ⟨_, _, HW.out.2⟩⟩⟩
    · have HG2 : Hid (getStr xs = none) := by
        show getStr xs = _
        unfold getStr
        rw [HG.out.1]
        simp only []
        rw [if_neg hle]
      go_wp2_with fail
      refine (take_bad base g b off cap n t code _ HA.out (by omega) HG.out.2.2).mono ?_
      rintro e w2 ⟨rfl, hB2⟩
      exact ⟨rfl, HC1.out.trans (Chg.of_below hB2), .inr ⟨HG2.out, rfl⟩⟩
  · have HG2 : Hid (getStr xs = none) := by
      show getStr xs = _
      unfold getStr
      rw [hn]
    exact ⟨rfl, hC1, .inr ⟨HG2.out, rfl⟩⟩

theorem text_ok (base g b : Nat) (xs : List UInt8) (code : Int) (w : World) (h : RdE w base g b xs code) (s : ByteArray) (t : List UInt8) (hs : getStr xs = some (bl s, t)) :
    Calls Tryd.prog 74 #[.pointer (some ⟨g, 0, none⟩)] w fun e w' => e = .returned (.string s) ∧ s.size + t.length ≤ xs.length ∧ RdE w' base g b t code ∧ Chg (fun k => k = g) w w' := by
  refine (text_core base g b xs code w h).mono ?_
  rintro e w' ⟨hC, (⟨s', t', h1, rfl, h2, h3⟩ | ⟨h1, _⟩)⟩
  · rw [hs] at h1
    simp only [Option.some.injEq, Prod.mk.injEq] at h1
    obtain ⟨h4, rfl⟩ := h1
    have : s = s' := by rw [← ba_bl s, ← ba_bl s', h4]
    subst this
    exact ⟨rfl, h2, h3, hC⟩
  · rw [hs] at h1; cases h1
theorem text_bad (base g b : Nat) (xs : List UInt8) (code : Int) (w : World) (h : RdE w base g b xs code) (hs : getStr xs = none) :
    Calls Tryd.prog 74 #[.pointer (some ⟨g, 0, none⟩)] w fun e w' => e = Corr code ∧ Chg (fun k => k = g) w w' := by
  refine (text_core base g b xs code w h).mono ?_
  rintro e w' ⟨hC, (⟨s', t', h1, rfl, h2, h3⟩ | ⟨_, h1⟩)⟩
  · rw [hs] at h1; cases h1
  · exact ⟨h1, hC⟩
/-- A region in which a text cannot be read. -/
theorem wp_region_text {id : Nat} {Q : Exit → Act → World → Prop} {a : Act} {w : World} {l : List Oper} (n : Nat) (d s : Tmp) (g : Nat) (code : Int) {tys : Array TypeId} {ty : TypeId} {pos : String} {aft : Array Edge}
    (ho : l = l.take n ++ ⟨some d, .call { callee := .value (.func 74), args := #[.tmp s], argTypes := tys }, ty, pos, aft, none⟩ :: l.drop (n + 1))
    (hB : ∀ m, Region.lexB .any (l.take n ++ (⟨some d, .call { callee := .value (.func 74), args := #[.tmp s], argTypes := tys }, ty, pos, aft, none⟩ :: l.drop (n + 1)).map (fk m)).toArray = true)
    (hB2 : waitsB (l.take n) ⟨some d, .call { callee := .value (.func 74), args := #[.tmp s], argTypes := tys }, ty, pos, aft, none⟩ (l.drop (n + 1)) d [s] = true)
    (hc : ∀ w', Below w.heap.size w w' → Calls Tryd.prog 74 #[.pointer (some ⟨g, 0, none⟩)] w' fun e w'' => e = Corr code ∧ ∀ a' : Act, a'.defers = a.defers → Q (.panic [{ v := corrV code, recovered := false }]) a' w'')
    (h : ∀ m, wpQuiet Tryd.prog (l.take n ++ (⟨some d, .call { callee := .value (.func 74), args := #[.tmp s], argTypes := tys }, ty, pos, aft, none⟩ :: l.drop (n + 1)).map (fk m)).toArray (fun w' => ∃ n : Out w, w' = n.u) (fun a' => a'.tmps.getD d undef = m ∧ ∀ p ∈ [(s, Value.pointer (some ⟨g, 0, none⟩))], a'.tmps.getD p.1 undef = p.2) (l.take n ++ (⟨some d, .call { callee := .value (.func 74), args := #[.tmp s], argTypes := tys }, ty, pos, aft, none⟩ :: l.drop (n + 1)).map (fk m)) a) :
    (Code.region id l.toArray true).wp Tryd.prog Q a w := by
  refine wp_region_dies (C := fun w' => ∃ n : Out w, w' = n.u) (l.take n) _ (l.drop (n + 1)) d [(s, .pointer (some ⟨g, 0, none⟩))] l ho (by kernel_rfl) hB hB2 rfl rfl ⟨⟨_, (Below.refl _ _).drew⟩, rfl⟩ h ?_
  rintro a' w' K ⟨n, rfl⟩ hd hp
  have h1 : a'.tmps.getD s undef = .pointer (some ⟨g, 0, none⟩) := hp (s, _) (by simp)
  unfold Oper.wp
  have hrun : (execOp a'.eval ⟨some d, .call { callee := .value (.func 74), args := #[.tmp s], argTypes := tys }, ty, pos, aft, none⟩).run Tryd.prog n.u = .ok (.enter 74 #[.pointer (some ⟨g, 0, none⟩)]) n.u := by
    have h2 : a'.tmps[s]?.getD undef = .pointer (some ⟨g, 0, none⟩) := by rw [← Array.getD_eq_getD_getElem?]; exact h1
    simp [execOp, h2, go_sem, Act.eval, Tryd.func74]
  rw [hrun, Oper.upon_enter]
  refine (hc n.u n.out).mono ?_
  rintro e w'' ⟨rfl, hq⟩
  exact hq a' hd

/-- A Row read. -/
def getRow (before xs : List UInt8) : Option (List UInt8 × List UInt8) :=
  match getNum xs with
  | none => none
  | some (n, t1) =>
    if before.length < n then none else
    match getStr t1 with
    | none => none
    | some (rest, t2) => if shared before (before.take n ++ rest) = n then some (before.take n ++ rest, t2) else none
def RowP (w : World) (base g b : Nat) (bf : ByteArray) (xs : List UInt8) (code : Int) (e : Ending) (w' : World) : Prop :=
  Chg (fun k => k = g) w w' ∧ ((∃ (s : ByteArray) (t : List UInt8), getRow (bl bf) xs = some (bl s, t) ∧ e = .returned (.string s) ∧ s.size + t.length ≤ bf.size + xs.length ∧ t.length ≤ xs.length ∧ RdE w' base g b t code) ∨ (getRow (bl bf) xs = none ∧ e = Corr code))
set_option maxHeartbeats 2000000 in
theorem rdRow_core (base g b : Nat) (bf : ByteArray) (xs : List UInt8) (code : Int) (w : World) (h : RdE w base g b xs code) (hbf : bf.size ≤ 2 ^ 31) (hxs : xs.length ≤ 2 ^ 30) :
    Calls Tryd.prog 75 #[.pointer (some ⟨g, 0, none⟩), .string bf] w fun e w' => RowP w base g b bf xs code e w' := by
  have HR : Hid (RdE w base g b xs code) := h
  clear h
  go_enter Tryd.func75, Tryd.ntmps75
  go_wp2_with fail
  refine (number_core base g b xs code _ HR.out).mono ?_
  rintro e w1 ⟨hC1, (⟨n, t, hn, rfl, hn2, ht, hR1⟩ | ⟨hn, rfl⟩)⟩
  · have HG : Hid (getNum xs = some (n, t) ∧ t.length ≤ xs.length ∧ n < 2 ^ 64) := ⟨hn, ht, hn2⟩
    have HC1 : Hid (Chg (fun k => k = g) w w1) := hC1
    obtain ⟨off, cap, hA⟩ := hR1
    have HA : Hid (RdAt w1 base g b off cap t code) := hA
    have c1 := hA.box.cell (j := 1) rfl
    clear hn hA hC1 hn2 ht
    by_cases hle : n ≤ bf.size
    · have z1 : (n : Int) ≤ (bf.size : Int) := by omega
      have z2 : (bf.size : Int) ≤ 2147483648 := by omega
      go_wp2_with (go_at_call 23; refine (demand_yes _ _).mono ?_; rintro e w3 ⟨rfl, rfl⟩)
      clear c1
      cases hg : getStr t with
      | none =>
        have HG2 : Hid (getRow (bl bf) xs = none ∧ getStr t = none) := by
          refine ⟨?_, hg⟩
          show getRow (bl bf) xs = none
          unfold getRow
          rw [HG.out.1]
          simp only []
          rw [if_neg (by rw [bl_len]; omega), hg]
        clear hg
        refine wp_region_text 4 23 22 g code rfl (fun m => by kernel_rfl) (by kernel_rfl) ?q ?_
        case q =>
          intro w' hb
          refine (text_bad base g b t code w' ⟨_, _, HA.out.chg (S := fun _ => False) (Chg.of_below hb) (fun q => q) (fun q => q)⟩ HG2.out.2).mono ?_
          rintro e w'' ⟨rfl, hC⟩
          exact ⟨rfl, fun a' hd => ⟨hd, HC1.out.trans ((Chg.of_below hb).trans hC), .inr ⟨HG2.out.1, rfl⟩⟩⟩
        intro m
        dsimp only [List.take, List.drop, List.map, fk, List.cons_append, List.nil_append]
        repeat (go_big_quiet_step (rfl))
        refine wpQuiet_nil ?_
        exact ⟨rfl, slots1 rfl⟩
      | some p =>
        obtain ⟨rl, t2⟩ := p
        obtain ⟨rest, hrest⟩ : ∃ rest : ByteArray, rest = ba rl := ⟨_, rfl⟩
        have HG2 : Hid (getStr t = some (bl rest, t2)) := by rw [hrest, bl_ba]; exact hg
        clear hg hrest
        have HE : Hid (∀ w', w' = w3.drew → RdE w' base g b t code) := fun w' hw' => by
          rw [hw']
          exact ⟨_, _, HA.out.chg (S := fun _ => False) (Chg.of_below (Below.refl _ _).drew) (fun q => q) (fun q => q)⟩
        have hrs : rest.size ≤ 1073741824 := by
          obtain ⟨_, h2⟩ := getStr_iff.1 HG2.out
          have h3 : (bl rest).length ≤ t.length := by rw [h2]; unfold strB; simp; omega
          rw [bl_len] at h3
          have := HG.out.2.1
          omega
        have hbs : bf.size ≤ 2147483648 := by omega
        go_region_with (go_at_call 74; refine (text_ok base g b t code _ (HE.out _ rfl) rest t2 HG2.out).mono ?_; rintro e w4 ⟨rfl, hsz, hR4, hC4⟩)
        obtain ⟨rw', hrw⟩ : ∃ s : ByteArray, s = bf.extract 0 n ++ rest := ⟨_, rfl⟩
        have hRow : bl rw' = (bl bf).take n ++ bl rest := by
          rw [hrw]
          show (bf.extract 0 n ++ rest).data.toList = _
          rw [ByteArray.data_append, Array.toList_append, Lib.extract_data]
          simp
        have hrsz : rw'.size = n + rest.size := by
          rw [← bl_len, hRow, List.length_append, bl_len, List.length_take, bl_len]
          omega
        obtain ⟨sh, hsh⟩ : ∃ sh, sh = shared (bl bf) (bl rw') := ⟨_, rfl⟩
        have HG3 : Hid (getRow (bl bf) xs = if sh = n then some (bl rw', t2) else none) := by
          show getRow (bl bf) xs = _
          unfold getRow
          rw [HG.out.1]
          simp only []
          rw [if_neg (by rw [bl_len]; omega), HG2.out]
          simp only []
          rw [← hRow, hsh]
        have HS : Hid (∀ w', Calls Tryd.prog 65 #[.string bf, .string rw'] w' fun e w'' => e = .returned (.int .i64 (sh : Int)) ∧ Below w'.heap.size w' w'') := fun w' => by
          rw [hsh]
          exact implShared_core bf rw' w' (by unfold maxLen; omega) (by unfold maxLen; omega)
        obtain ⟨off4, cap4, hA4⟩ := hR4
        have HA4 : Hid (RdAt w4 base g b off4 cap4 t2 code ∧ Chg (fun k => k = g) w w4 ∧ rw'.size + t2.length ≤ bf.size + xs.length ∧ t2.length ≤ xs.length) := by
          have := HG.out.2.1
          exact ⟨hA4, (HC1.out.trans (Chg.of_below (Below.refl _ _).drew)).trans hC4, by omega, by omega⟩
        have c1 := hA4.box.cell (j := 1) rfl
        have glt := hA4.box.lt.2
        have e1 : ∀ n : Out w4, n.u.cell? ⟨g, 1, none⟩ = some (.int .i64 code) := fun n => (n.out.cell (p := ⟨g, 1, none⟩) glt).trans c1
        have hn9 : (n : Int) ≤ 2147483648 := by omega
        rw [← hrw]
        clear hrw hRow hsh hA4 hC4 hsz c1 glt hrsz hrs hbs HE HG2
        simp only [List.getElem_toArray, List.getElem_cons_succ, List.getElem_cons_zero, Act.put, List.setIfInBounds_toArray, List.set_cons_succ, List.set_cons_zero]
        go_upto_region 4 with fail
        by_cases hsn : sh = n
        · subst hsn
          refine wp_region_out (by kernel_rfl) (by kernel_rfl) ?_
          repeat (go_big_quiet_step ((first | rfl | (go_at_call 65; exact Calls.out_of (HS.out _)) | (go_at_call 23; exact Calls.out_of ((demand_yes _ _).mono fun e w' ⟨he, hw⟩ => ⟨he, hw ▸ Below.refl _ _⟩)))))
          refine wpQuiet_nil ?_
          rintro wy ⟨⟨wx, hby⟩, rfl⟩
          go_wp2_with fail
          go_ret
          have h3 := HG3.out
          rw [if_pos trivial] at h3
          have hc := HA4.out.2.1.trans (Chg.of_below hby)
          exact ⟨hc, .inl ⟨rw', t2, h3, rfl, HA4.out.2.2.1, HA4.out.2.2.2, ⟨_, _, HA4.out.1.chg (S := fun _ => False) (Chg.of_below hby) (fun q => q) (fun q => q)⟩⟩⟩
        · have h3 := HG3.out
          rw [if_neg hsn] at h3
          have HF : Hid (getRow (bl bf) xs = none) := h3
          have z9 : ¬ (sh : Int) = (n : Int) := by omega
          clear h3 HG3 hsn
          refine wp_region_demand 35 30 (.tmp 34) code [(30, .bool false), (34, .int .i64 code)] rfl (fun m => by kernel_rfl) (by kernel_rfl) (fun a' h => ⟨h (30, _) (by simp), h (34, _) (by simp)⟩) ?q ?_
          case q => exact fun a' w' hb hd => ⟨hd, HA4.out.2.1.trans (Chg.of_below hb), .inr ⟨HF.out, rfl⟩⟩
          intro m
          dsimp only [List.dropLast, fk, List.cons_append, List.nil_append]
          repeat (go_big_quiet_step ((first | rfl | (go_at_call 65; exact Calls.out_of (HS.out _)))))
          refine wpQuiet_nil ?_
          exact ⟨rfl, slots2 (congrArg Value.bool (beq_eq_false_iff_ne.2 z9)) rfl⟩
    · have z1 : ¬ (n : Int) ≤ (bf.size : Int) := by omega
      have z2 : (bf.size : Int) ≤ 2147483648 := by omega
      have HG2 : Hid (getRow (bl bf) xs = none) := by
        show getRow (bl bf) xs = none
        unfold getRow
        rw [HG.out.1]
        simp only []
        rw [if_pos (by rw [bl_len]; omega)]
      go_wp2_with (go_at_call 23; refine (demand_no _ _).mono ?_; rintro e w3 ⟨rfl, rfl⟩)
      exact ⟨rfl, HC1.out, .inr ⟨HG2.out, rfl⟩⟩
  · have HG2 : Hid (getRow (bl bf) xs = none) := by
      show getRow (bl bf) xs = none
      unfold getRow
      rw [hn]
    exact ⟨rfl, hC1, .inr ⟨HG2.out, rfl⟩⟩
end Go.Proofs.YtlgeffinhbodeacDoor

/-
  An entry read in the program's order (mathematics).
-/
namespace Go.Proofs.YtlgeffinhbodeacDoor
set_option linter.unusedVariables false
set_option linter.unusedSimpArgs false

def eT5 (row fam qual : List UInt8) (ts kind : Nat) (t6 : List UInt8) : Option (Ent × List UInt8) :=
  match getStr t6 with
  | none => none
  | some (val, t7) => if 2 < kind ∨ (⟨ba row, ba fam, ba qual, (ts : Int), (kind : Int), ba val⟩ : Ent).vld = false then none else some (⟨ba row, ba fam, ba qual, (ts : Int), (kind : Int), ba val⟩, t7)
def eT4 (row fam qual : List UInt8) (ts : Nat) (t5 : List UInt8) : Option (Ent × List UInt8) :=
  match getNum t5 with
  | none => none
  | some (kind, t6) => eT5 row fam qual ts kind t6
def eT3 (row fam qual t4 : List UInt8) : Option (Ent × List UInt8) :=
  match getNum t4 with
  | none => none
  | some (ts, t5) => eT4 row fam qual ts t5
def eT2 (row fam t3 : List UInt8) : Option (Ent × List UInt8) :=
  match getStr t3 with
  | none => none
  | some (qual, t4) => eT3 row fam qual t4
def eT1 (row t2 : List UInt8) : Option (Ent × List UInt8) :=
  match getStr t2 with
  | none => none
  | some (fam, t3) => eT2 row fam t3
theorem getEnt_row (b xs : List UInt8) : getEnt b xs = match getRow b xs with | none => none | some (row, t) => eT1 row t := by
  unfold getRow getEnt
  cases getNum xs with
  | none => rfl
  | some p =>
    obtain ⟨n, t1⟩ := p
    simp only []
    cases getStr t1 with
    | none =>
      simp only []
      by_cases h : b.length < n
      · rw [if_pos h]
      · rw [if_neg h]
    | some q =>
      obtain ⟨rest, t2⟩ := q
      simp only []
      by_cases h : b.length < n
      · rw [if_pos h, if_pos h]
      · rw [if_neg h, if_neg h]
        by_cases hs : shared b (b.take n ++ rest) = n
        · rw [if_pos hs]
          simp only [hs, not_true_eq_false, false_or]
          unfold eT1
          cases getStr t2 with
          | none => rfl
          | some q1 =>
            obtain ⟨fam, t3⟩ := q1
            simp only [eT2]
            cases getStr t3 with
            | none => rfl
            | some q2 =>
              obtain ⟨qual, t4⟩ := q2
              simp only [eT3]
              cases getNum t4 with
              | none => rfl
              | some q3 =>
                obtain ⟨ts, t5⟩ := q3
                simp only [eT4]
                cases getNum t5 with
                | none => rfl
                | some q4 =>
                  obtain ⟨kind, t6⟩ := q4
                  simp only [eT5]
                  all_goals (cases getStr t6 <;> rfl)
        · rw [if_neg hs]
          simp only [hs, not_false_eq_true, true_or, or_true, if_true]
          cases getStr t2 with
          | none => rfl
          | some q1 =>
            simp only []
            cases getStr q1.2 with
            | none => rfl
            | some q2 =>
              simp only []
              cases getNum q2.2 with
              | none => rfl
              | some q3 =>
                simp only []
                cases getNum q3.2 with
                | none => rfl
                | some q4 =>
                  simp only []
                  cases getStr q4.2 <;> rfl
theorem vE_kind {r f q v : ByteArray} {k : Int} (h : k < 0 ∨ 2 < k) : vE r f q k v = false := by
  unfold vE
  simp
  omega
end Go.Proofs.YtlgeffinhbodeacDoor

/-
  spec.l1Into: an entry laid into an ordered list.
-/
namespace Go.Proofs.YtlgeffinhbodeacDoor
open Go.ChangeShapes Go.WideShapes Go.ChangeAt Go.RowKit Go.Deep
set_option linter.unusedVariables false

/-- One entry appended to a row of the call's own. -/
theorem wpList_append_ent {ops : Array Oper} {rest : List Oper} {o : Oper} {a : Act} {Q : Exit → Act → World → Prop} (w : World) (hgd : o.guard = none) (s x : Operand)
    (ho : o.op = .call { callee := .builtin .append, args := #[s, x], argTypes := #[23, 23] })
    (base g cp n blk : Nat) (fs : List Ent) (e : Ent) (hs : a.eval s = .slice (some ⟨g, 0, none⟩) n cp) (hx : a.eval x = .slice (some ⟨blk, 0, none⟩) 1 1) (hn : n = fs.length) (hO : OwnE w base g cp fs)
    (hc : EntsAt w blk 0 [e]) (hlen : fs.length ≤ 2 ^ 30) (hbase : base ≤ w.heap.size)
    (h : ∀ g' cp' w', OwnE w' base g' cp' (fs ++ [e]) → w.grownBy w' (some g) → wpList Tryd.prog ops Q rest (a.put o.dst (.slice (some ⟨g', 0, none⟩) (n + 1) cp')) w') : wpList Tryd.prog ops Q (o :: rest) a w := by
  obtain ⟨i, hi, hz0, hz1, hz2⟩ := info_parts Tryd.infoEnt
  subst hn
  obtain ⟨c0, c1, c2, c3, c4, c5⟩ := hc 0 e rfl
  refine wpList_append_own w hgd s x 23 ho base 73 i _ 6 80 Tryd.underlying23 hi hz0 hz1 hz2 rfl (by decide) (.slice (some ⟨g, 0, none⟩) fs.length cp) fs.length (cellsE fs) hs hO ⟨blk, 0, none⟩ 1 1 (cellsE [e]) hx rfl ?_ ?_ ?_ ?_ hbase ?_
  · intro j u hu
    have hj : j < 6 := by
      have := (List.getElem?_eq_some_iff.1 hu).1
      rw [length_cellsE] at this
      simpa using this
    rw [Addr.add_mid, Nat.zero_add]
    simp only [Nat.zero_mul, Nat.zero_add] at c0 c1 c2 c3 c4 c5
    match j, hj, hu with
    | 0, _, hu => simp [cellsE] at hu; rw [← hu]; exact c0
    | 1, _, hu => simp [cellsE] at hu; rw [← hu]; exact c1
    | 2, _, hu => simp [cellsE] at hu; rw [← hu]; exact c2
    | 3, _, hu => simp [cellsE] at hu; rw [← hu]; exact c3
    | 4, _, hu => simp [cellsE] at hu; rw [← hu]; exact c4
    | 5, _, hu => simp [cellsE] at hu; rw [← hu]; exact c5
  · intro u hu
    simp [cellsE] at hu
    rcases hu with rfl | rfl | rfl | rfl | rfl | rfl <;> rfl
  · unfold maxLen; omega
  · omega
  · intro v' w' hown hgr hnil
    rw [← cellsE_append] at hown
    have hlen' : (fs ++ [e]).length = fs.length + 1 := by simp
    rcases hown.2 with ⟨hv, _⟩ | ⟨g', cap', cur, hv, h1, h2, h3⟩
    · have := (hnil.1 hv).1
      simp at this
    · subst hv
      exact h g' cap' w' (by unfold OwnE; rw [hlen']; exact hown) hgr

/-- An entry laid into an ordered list, in the place of one with the same key. -/
def intoG (e : Ent) : List Ent → Bool → List Ent
  | [], done => if done then [] else [e]
  | x :: r, done =>
    if keyCmp x e = -1 then x :: intoG e r done
    else if keyCmp x e = 0 then (if done then intoG e r true else e :: intoG e r true)
    else (if done then x :: intoG e r true else e :: x :: intoG e r true)
def into (L : List Ent) (e : Ent) : List Ent := intoG e L false

theorem length_intoG (e : Ent) : ∀ (L : List Ent) (d : Bool), (intoG e L d).length ≤ L.length + 1
  | [], d => by unfold intoG; split <;> simp
  | x :: r, d => by
    have h1 := length_intoG e r d
    have h2 := length_intoG e r true
    have h3 : ∀ (L : List Ent), (intoG e L true).length ≤ L.length := by
      intro L
      induction L with
      | nil => simp [intoG]
      | cons y s ih =>
        unfold intoG
        split
        · simp; omega
        · split
          · simp; omega
          · simp; omega
    have h4 := h3 r
    unfold intoG
    split
    · simp; omega
    · split
      · split <;> simp <;> omega
      · split <;> simp <;> omega

set_option maxHeartbeats 2000000 in
theorem into_core (b off cap : Nat) (L : List Ent) (e : Ent) (w : World) (hE : EntsAt w b off L) (hB : b < w.heap.size) (hlen : L.length ≤ 1048576) :
    Calls Tryd.prog 83 #[.slice (some ⟨b, off, none⟩) L.length cap, e.v] w fun r w' =>
      ∃ g cp, r = .returned (.slice (some ⟨g, 0, none⟩) (into L e).length cp) ∧ OwnE w' w.heap.size g cp (into L e) ∧ Below w.heap.size w w' := by
  unfold Ent.v
  obtain ⟨W0, hW0⟩ : ∃ W0 : World, W0 = w.alloc (Obj.cells #[.string e.row, .string e.fam, .string e.qual, .int .u64 e.ts, .int .i64 e.kind, .string e.val] 73) := ⟨_, rfl⟩
  have hb0 : Below w.heap.size w W0 := by rw [hW0]; exact (Below.refl _ _).alloc (Nat.le_refl _) _
  have hz0 : W0.heap.size = w.heap.size + 1 := by rw [hW0]; simp
  have HX : Hid (EntsAt W0 w.heap.size 0 [e]) := by
    show EntsAt W0 w.heap.size 0 [e]
    intro j f hf
    obtain rfl : j = 0 := by
      have := (List.getElem?_eq_some_iff.1 hf).1
      simpa using this
    simp at hf
    subst hf
    rw [hW0]
    simp
  have HE : Hid (EntsAt W0 b off L) := hE.below hb0 hB
  have HS : Hid (OwnE (W0.alloc (Obj.cells #[] 73)) (w.heap.size + 1) (w.heap.size + 1) 0 []) := by
    show OwnE (W0.alloc (Obj.cells #[] 73)) (w.heap.size + 1) (w.heap.size + 1) 0 []
    rw [← hz0]
    exact World.ownsRow_made W0 #[] 0 (Nat.le_refl _) (Nat.zero_le _) (by simp)
  clear hE
  have HZ : Hid (W0.heap.size = w.heap.size + 1) := hz0
  have hz1 : w.heap.size < W0.heap.size := by omega
  have hz2 : W0.heap.size ≤ w.heap.size + 1 := by omega
  clear hz0
  go_enter Tryd.func83, Tryd.ntmps83
  go_wp2_with fail
  rw [← hW0]
  clear hW0
  go_loopw [5, 6, 7] (fun o d i wr => ∃ (k g cp : Nat) (fs : List Ent) (dn : Bool), k ≤ L.length ∧ i = .int .i64 k ∧ d = .bool dn ∧ o = .slice (some ⟨g, 0, none⟩) fs.length cp ∧ fs ++ intoG e (L.drop k) dn = into L e ∧ OwnE wr (w.heap.size + 1) g cp fs ∧ Below W0.heap.size W0 wr) (fun _ _ i _ => L.length - (intOf i).toNat)
  case atStart => exact ⟨0, _, 0, [], false, Nat.zero_le _, rfl, rfl, rfl, rfl, HS.out, (Below.refl _ _).alloc (Nat.le_refl _) _⟩
  case round =>
    obtain ⟨k, g, cp, fs, dn, hk, rfl, rfl, rfl, hin, hO, hb⟩ := hrel
    have hfl : fs.length ≤ 1048577 := by
      have h1 := congrArg List.length hin
      have h2 := length_intoG e L false
      rw [List.length_append] at h1
      unfold into at h1
      omega
    have HI : Hid (fs ++ intoG e (L.drop k) dn = into L e) := hin
    have HO : Hid (OwnE wr (w.heap.size + 1) g cp fs) := hO
    have hg := hO.lt
    have hs := hb.size
    clear hin hO
    by_cases hlt : k < L.length
    · obtain ⟨x, hx⟩ : ∃ x, L[k]? = some x := ⟨_, List.getElem?_eq_getElem hlt⟩
      have hdr : L.drop k = x :: L.drop (k + 1) := by
        rw [List.drop_eq_getElem_cons hlt]
        rw [List.getElem?_eq_getElem hlt] at hx
        simp at hx
        rw [hx]
      have HD : Hid (L.drop k = x :: L.drop (k + 1)) := hdr
      clear hdr
      have hec : ∀ wx, Below W0.heap.size W0 wx → EntsAt wx b off L ∧ EntsAt wx w.heap.size 0 [e] := fun wx h => ⟨HE.out.below h (by omega), HX.out.below h (by omega)⟩
      have HEC : Hid (∀ wx, Below W0.heap.size W0 wx → EntsAt wx b off L ∧ EntsAt wx w.heap.size 0 [e]) := hec
      clear hec
      obtain ⟨c0, c1, c2, c3, c4, c5⟩ := (HEC.out wr hb).1 k x hx
      obtain ⟨d0, d1, d2, d3, d4, d5⟩ := (HEC.out wr hb).2 0 e rfl
      simp only [Nat.zero_add, Nat.zero_mul] at d0 d1 d2 d3 d4 d5
      have HXK : Hid (L[k]? = some x) := hx
      clear hx
      have z2 : (k : Int) < (L.length : Int) := by omega
      go_upto_region 6 with fail
      go_cut [8] (fun s wx => s = .int .i64 (keyCmp x e) ∧ Below wr.heap.size wr wx)
      case first =>
        go_region_with (go_at_call 42; refine (specCompareKeys_any x e _).mono ?_; rintro e' w' ⟨rfl, hbb⟩)
        all_goals go_wp2_with fail
        all_goals go_meet
        all_goals exact ⟨rfl, ((Below.refl _ _).drew).trans (hbb.mono (by simp))⟩
      case rest =>
      obtain ⟨rfl, h3⟩ := hcut
      have hb3 := hb.trans (h3.mono hb.size)
      have HO3 : Hid (OwnE wc (w.heap.size + 1) g cp fs) := HO.out.below h3 hg.2
      have hs3 := h3.size
      clear c0 c1 c2 c3 c4 c5 d0 d1 d2 d3 d4 d5
      obtain ⟨c0, c1, c2, c3, c4, c5⟩ := (HEC.out wc hb3).1 k x HXK.out
      obtain ⟨d0, d1, d2, d3, d4, d5⟩ := (HEC.out wc hb3).2 0 e rfl
      simp only [Nat.zero_add, Nat.zero_mul] at d0 d1 d2 d3 d4 d5
      have ent_new : ∀ (wx : World) (f : Ent), EntsAt (wx.alloc (Obj.cells #[.string f.row, .string f.fam, .string f.qual, .int .u64 f.ts, .int .i64 f.kind, .string f.val] 73)) wx.heap.size 0 [f] := by
        intro wx f j y hy
        obtain rfl : j = 0 := by
          have := (List.getElem?_eq_some_iff.1 hy).1
          simpa using this
        simp at hy
        subst hy
        simp
      have HN : Hid (∀ (wx : World) (f : Ent), EntsAt (wx.alloc (Obj.cells #[.string f.row, .string f.fam, .string f.qual, .int .u64 f.ts, .int .i64 f.kind, .string f.val] 73)) wx.heap.size 0 [f]) := ent_new
      clear ent_new
      rcases keyCmp_vals x e with hc | hc | hc
      · have HC : Hid (keyCmp x e = -1) := hc
        go_wp2_with (at_builtin; refine wpList_append_ent _ rfl _ _ rfl (w.heap.size + 1) g cp _ _ fs x rfl rfl rfl ?hO ?hc ?hl ?hb ?_)
        case hO => exact HO3.out.below ((Below.refl _ _).alloc (Nat.le_refl _) _) (by omega)
        case hc => exact HN.out wc x
        case hl => omega
        case hb => simp; omega
        intro g' cp' w' hO' hgr
        have HO' : Hid (OwnE w' (w.heap.size + 1) g' cp' (fs ++ [x])) := hO'
        have hb' : Below W0.heap.size W0 w' := (hb3.alloc hb3.size _).grown hgr (by simp; omega) (fun j hj => by cases hj; omega)
        clear hO' hgr
        go_wp2_with fail
        go_roundw
        case rel =>
          go_light
          refine ⟨k + 1, g', cp', fs ++ [x], dn, by omega, by go_num, rfl, by simp, ?_, HO'.out, hb'⟩
          have h := HI.out
          rw [HD.out] at h
          rw [← h]
          simp [intoG, HC.out]
        case measure => go_light; simp [intOf]; omega
      · have HC : Hid (keyCmp x e = 0) := hc
        cases dn
        · go_wp2_with (at_builtin; refine wpList_append_ent _ rfl _ _ rfl (w.heap.size + 1) g cp _ _ (fs) e rfl rfl rfl ?hO ?hc ?hl ?hb ?_)
          case hO => exact HO3.out.below ((Below.refl _ _).alloc (Nat.le_refl _) _) (by omega)
          case hc => exact HN.out wc e
          case hl => omega
          case hb => simp; omega
          intro g' cp' w' hO' hgr
          have HO' : Hid (OwnE w' (w.heap.size + 1) g' cp' (fs ++ [e])) := hO'
          have hb' : Below W0.heap.size W0 w' := (hb3.alloc hb3.size _).grown hgr (by simp; omega) (fun j hj => by cases hj; omega)
          clear hO' hgr
          go_wp2_with fail
          go_roundw
          case rel =>
            go_light
            refine ⟨k + 1, g', cp', fs ++ [e], true, by omega, by go_num, rfl, by simp, ?_, HO'.out, hb'⟩
            have h := HI.out
            rw [HD.out] at h
            rw [← h]
            simp [intoG, HC.out]
          case measure => go_light; simp [intOf]; omega
        · go_wp2_with fail
          go_roundw
          case rel =>
            go_light
            refine ⟨k + 1, g, cp, fs, true, by omega, by go_num, rfl, by simp, ?_, HO3.out, hb3⟩
            have h := HI.out
            rw [HD.out] at h
            rw [← h]
            simp [intoG, HC.out]
          case measure => go_light; simp [intOf]; omega
      · have HC : Hid (keyCmp x e = 1) := hc
        cases dn
        · go_wp2_with (at_builtin; refine wpList_append_ent _ rfl _ _ rfl (w.heap.size + 1) g cp _ _ (fs) e rfl rfl rfl ?hO ?hc ?hl ?hb ?_)
          case hO => exact HO3.out.below ((Below.refl _ _).alloc (Nat.le_refl _) _) (by omega)
          case hc => exact HN.out wc e
          case hl => omega
          case hb => simp; omega
          intro g1 cp1 w1 hO1 hgr1
          have HO1 : Hid (OwnE w1 (w.heap.size + 1) g1 cp1 (fs ++ [e])) := hO1
          have hb1 : Below W0.heap.size W0 w1 := (hb3.alloc hb3.size _).grown hgr1 (by simp; omega) (fun j hj => by cases hj; omega)
          have hg1 := hO1.lt
          have hs1 := hb1.size
          clear hO1 hgr1 c0 c1 c2 c3 c4 c5
          obtain ⟨c0, c1, c2, c3, c4, c5⟩ := (HEC.out w1 hb1).1 k x HXK.out
          go_wp2_with (at_builtin; refine wpList_append_ent _ rfl _ _ rfl (w.heap.size + 1) g1 cp1 _ _ (fs ++ [e]) x rfl rfl (by simp) ?hO ?hc ?hl ?hb ?_)
          case hO => exact HO1.out.below ((Below.refl _ _).alloc (Nat.le_refl _) _) hg1.2
          case hc => exact HN.out w1 x
          case hl => simp; omega
          case hb => simp; omega
          intro g' cp' w' hO' hgr
          have HO' : Hid (OwnE w' (w.heap.size + 1) g' cp' (fs ++ [e, x])) := hO'
          have hb' : Below W0.heap.size W0 w' := (hb1.alloc hb1.size _).grown hgr (by simp; omega) (fun j hj => by cases hj; omega)
          clear hO' hgr
          go_wp2_with fail
          go_roundw
          case rel =>
            go_light
            refine ⟨k + 1, g', cp', fs ++ [e, x], true, by omega, by go_num, rfl, by simp, ?_, HO'.out, hb'⟩
            have h := HI.out
            rw [HD.out] at h
            rw [← h]
            simp [intoG, HC.out]
          case measure => go_light; simp [intOf]; omega
        · go_wp2_with (at_builtin; refine wpList_append_ent _ rfl _ _ rfl (w.heap.size + 1) g cp _ _ (fs) x rfl rfl rfl ?hO ?hc ?hl ?hb ?_)
          case hO => exact HO3.out.below ((Below.refl _ _).alloc (Nat.le_refl _) _) (by omega)
          case hc => exact HN.out wc x
          case hl => omega
          case hb => simp; omega
          intro g' cp' w' hO' hgr
          have HO' : Hid (OwnE w' (w.heap.size + 1) g' cp' (fs ++ [x])) := hO'
          have hb' : Below W0.heap.size W0 w' := (hb3.alloc hb3.size _).grown hgr (by simp; omega) (fun j hj => by cases hj; omega)
          clear hO' hgr
          go_wp2_with fail
          go_roundw
          case rel =>
            go_light
            refine ⟨k + 1, g', cp', fs ++ [x], true, by omega, by go_num, rfl, by simp, ?_, HO'.out, hb'⟩
            have h := HI.out
            rw [HD.out] at h
            rw [← h]
            simp [intoG, HC.out]
          case measure => go_light; simp [intOf]; omega
    · have hdr : L.drop k = [] := List.drop_eq_nil_of_le (by omega)
      have HD : Hid (L.drop k = []) := hdr
      clear hdr
      have hkk : k = L.length := by omega
      cases dn
      · obtain ⟨d0, d1, d2, d3, d4, d5⟩ := HX.out.below hb (by omega) 0 e rfl
        simp only [Nat.zero_add, Nat.zero_mul] at d0 d1 d2 d3 d4 d5
        have HF : Hid (fs ++ [e] = into L e) := by
          have h := HI.out
          rw [HD.out] at h
          exact h
        go_wp2_with (at_builtin; refine wpList_append_ent _ rfl _ _ rfl (w.heap.size + 1) g cp _ _ fs e rfl rfl rfl ?hO ?hc ?hl ?hb ?_)
        case hO => exact HO.out.below ((Below.refl _ _).alloc (Nat.le_refl _) _) (by omega)
        case hc =>
          intro j y hy
          obtain rfl : j = 0 := by
            have := (List.getElem?_eq_some_iff.1 hy).1
            simpa using this
          simp at hy
          subst hy
          simp
        case hl => omega
        case hb => simp; omega
        intro g' cp' w' hO' hgr
        have HO' : Hid (OwnE w' (w.heap.size + 1) g' cp' (fs ++ [e])) := hO'
        have hb' : Below W0.heap.size W0 w' := (hb.alloc hb.size _).grown hgr (by simp; omega) (fun j hj => by cases hj; omega)
        clear hO' hgr
        go_wp2_with fail
        go_ret
        refine ⟨g', cp', ?_, ?_, hb0.trans (hb'.mono (by omega))⟩
        · rw [← HF.out]; simp
        · rw [← HF.out]; exact HO'.out.mono (by omega)
      · have HF : Hid (fs = into L e) := by
          have h := HI.out
          rw [HD.out] at h
          show fs = into L e
          simpa [intoG] using h
        go_wp2_with fail
        go_ret
        refine ⟨g, cp, ?_, ?_, hb0.trans (hb.mono (by omega))⟩
        · rw [← HF.out]; rfl
        · rw [← HF.out]; exact HO.out.mono (by omega)
end Go.Proofs.YtlgeffinhbodeacDoor

/-
  The order of keys is a strict order; ordered lists with the same members are one.
-/
namespace Go.Proofs.YtlgeffinhbodeacDoor
set_option linter.unusedVariables false

theorem cmpB_zero : ∀ a b : List UInt8, Lib.compareBytes a b = 0 ↔ a = b
  | [], [] => by simp [Lib.compareBytes]
  | [], _ :: _ => by simp [Lib.compareBytes]
  | _ :: _, [] => by simp [Lib.compareBytes]
  | a :: x, b :: y => by
    unfold Lib.compareBytes
    by_cases h1 : a < b
    · rw [if_pos h1]
      constructor
      · intro h; cases h
      · intro h
        simp at h
        rw [h.1] at h1
        simp at h1
    · rw [if_neg h1]
      by_cases h2 : b < a
      · rw [if_pos h2]
        constructor
        · intro h; cases h
        · intro h
          simp at h
          rw [h.1] at h2
          simp at h2
      · rw [if_neg h2, cmpB_zero x y]
        have hab : a = b := by
          rw [UInt8.lt_iff_toNat_lt] at h1 h2
          exact UInt8.toNat_inj.1 (by omega)
        simp [hab]
theorem cmpB_neg : ∀ a b : List UInt8, Lib.compareBytes b a = -Lib.compareBytes a b
  | [], [] => by simp [Lib.compareBytes]
  | [], _ :: _ => by simp [Lib.compareBytes]
  | _ :: _, [] => by simp [Lib.compareBytes]
  | a :: x, b :: y => by
    unfold Lib.compareBytes
    have := cmpB_neg x y
    simp only [UInt8.lt_iff_toNat_lt]
    by_cases h1 : a.toNat < b.toNat
    · have h2 : ¬ b.toNat < a.toNat := by omega
      simp [h1, h2]
    · by_cases h2 : b.toNat < a.toNat
      · simp [h1, h2]
      · simp [h1, h2, this]
theorem cmpB_trans : ∀ a b c : List UInt8, Lib.compareBytes a b = -1 → Lib.compareBytes b c = -1 → Lib.compareBytes a c = -1
  | [], [], _ => by simp [Lib.compareBytes]
  | [], _ :: _, [] => by simp [Lib.compareBytes]
  | [], _ :: _, _ :: _ => by simp [Lib.compareBytes]
  | _ :: _, [], _ => by simp [Lib.compareBytes]
  | _ :: _, _ :: _, [] => by simp [Lib.compareBytes]
  | a :: x, b :: y, c :: z => by
    have ih := cmpB_trans x y z
    unfold Lib.compareBytes
    simp only [UInt8.lt_iff_toNat_lt]
    intro h1 h2
    by_cases h3 : a.toNat < c.toNat
    · simp [h3]
    · by_cases p1 : a.toNat < b.toNat
      · by_cases p2 : b.toNat < c.toNat
        · omega
        · by_cases p3 : c.toNat < b.toNat
          · simp [p2, p3] at h2
          · omega
      · by_cases p2 : b.toNat < a.toNat
        · simp [p1, p2] at h1
        · by_cases q1 : b.toNat < c.toNat
          · omega
          · by_cases q2 : c.toNat < b.toNat
            · simp [q1, q2] at h2
            · simp [p1, p2] at h1
              simp [q1, q2] at h2
              have r1 : ¬ c.toNat < a.toNat := by omega
              simp [h3, r1]
              exact ih h1 h2

theorem cB_zero {a b : ByteArray} : cB a b = 0 ↔ a = b := by
  unfold cB
  rw [cmpB_zero]
  constructor
  · intro h; cases a; cases b; simp at h; simpa using h
  · intro h; rw [h]
theorem cB_neg (a b : ByteArray) : cB b a = -cB a b := cmpB_neg _ _
theorem cB_trans {a b c : ByteArray} (h : cB a b = -1) (k : cB b c = -1) : cB a c = -1 := cmpB_trans _ _ _ h k

theorem tsCmp_neg (a b : Int) : tsCmp b a = -tsCmp a b := by
  unfold tsCmp; repeat' split
  all_goals omega
theorem kindCmp_neg (a b : Int) : kindCmp b a = -kindCmp a b := by
  unfold kindCmp; repeat' split
  all_goals omega
theorem firstOf_neg (a b : Int) : firstOf (-a) (-b) = -firstOf a b := by
  unfold firstOf
  by_cases h : a = 0
  · simp [h]
  · simp [h]
theorem keyCmp_neg (a b : Ent) : keyCmp b a = -keyCmp a b := by
  unfold keyCmp
  rw [cB_neg a.row b.row, cB_neg a.fam b.fam, cB_neg a.qual b.qual, kindCmp_neg a.kind b.kind, tsCmp_neg a.ts b.ts, firstOf_neg, firstOf_neg, firstOf_neg, firstOf_neg]

/-- 'firstOf' of two three-valued comparisons that are each an order. -/
theorem firstOf_trans {a b c a' b' c' : Int} (h0 : a = 0 → b = 0 → c = 0) (h1 : a = -1 → b = -1 → c = -1) (h2 : a = -1 → b = 0 → c = -1) (h3 : a = 0 → b = -1 → c = -1)
    (ta : tri a) (tb : tri b) (k : a' = -1 → b' = -1 → c' = -1) (x : firstOf a a' = -1) (y : firstOf b b' = -1) : firstOf c c' = -1 := by
  unfold firstOf at *
  unfold tri at *
  by_cases ha : a = 0
  · rw [if_pos ha] at x
    by_cases hb : b = 0
    · rw [if_pos hb] at y
      rw [if_pos (h0 ha hb)]; exact k x y
    · rw [if_neg hb] at y
      have := h3 ha y
      rw [if_neg (by omega)]; exact this
  · rw [if_neg ha] at x
    by_cases hb : b = 0
    · have := h2 x hb
      rw [if_neg (by omega)]; exact this
    · rw [if_neg hb] at y
      have := h1 x y
      rw [if_neg (by omega)]; exact this
theorem cB_pack (a b c : ByteArray) : (cB a b = 0 → cB b c = 0 → cB a c = 0) ∧ (cB a b = -1 → cB b c = -1 → cB a c = -1) ∧ (cB a b = -1 → cB b c = 0 → cB a c = -1) ∧ (cB a b = 0 → cB b c = -1 → cB a c = -1) := by
  refine ⟨fun h k => ?_, fun h k => cB_trans h k, fun h k => ?_, fun h k => ?_⟩
  · rw [cB_zero] at *; rw [h, k]
  · rw [cB_zero] at k; rw [← k]; exact h
  · rw [cB_zero] at h; rw [h]; exact k
theorem keyCmp_trans {a b c : Ent} (h : keyCmp a b = -1) (k : keyCmp b c = -1) : keyCmp a c = -1 := by
  obtain ⟨r0, r1, r2, r3⟩ := cB_pack a.row b.row c.row
  obtain ⟨f0, f1, f2, f3⟩ := cB_pack a.fam b.fam c.fam
  obtain ⟨q0, q1, q2, q3⟩ := cB_pack a.qual b.qual c.qual
  refine firstOf_trans r0 r1 r2 r3 (cB_vals _ _) (cB_vals _ _) (fun h k => ?_) h k
  refine firstOf_trans f0 f1 f2 f3 (cB_vals _ _) (cB_vals _ _) (fun h k => ?_) h k
  refine firstOf_trans q0 q1 q2 q3 (cB_vals _ _) (cB_vals _ _) (fun h k => ?_) h k
  refine firstOf_trans ?_ ?_ ?_ ?_ (tri_kind _ _) (tri_kind _ _) (fun h k => ?_) h k
  · unfold kindCmp; (repeat' split) <;> omega
  · unfold kindCmp; (repeat' split) <;> omega
  · unfold kindCmp; (repeat' split) <;> omega
  · unfold kindCmp; (repeat' split) <;> omega
  · unfold tsCmp at *
    (repeat' split at h) <;> (repeat' split at k) <;> (repeat' split) <;> omega
theorem keyCmp_self (a : Ent) : keyCmp a a = 0 := by
  have := keyCmp_neg a a
  omega

/-- Ordered, no key twice. -/
def Ord (l : List Ent) : Prop := l.Pairwise fun a b => keyCmp a b = -1
theorem ord_ext : ∀ {l m : List Ent}, Ord l → Ord m → (∀ x, x ∈ l ↔ x ∈ m) → l = m
  | [], [], _, _, _ => rfl
  | [], b :: m, _, _, h => by have := (h b).2 (by simp); simp at this
  | a :: l, [], _, _, h => by have := (h a).1 (by simp); simp at this
  | a :: l, b :: m, hl, hm, h => by
    have hl' := List.pairwise_cons.1 hl
    have hm' := List.pairwise_cons.1 hm
    have hab : a = b := by
      rcases List.mem_cons.1 ((h a).1 (by simp)) with e | e
      · exact e
      · rcases List.mem_cons.1 ((h b).2 (by simp)) with e' | e'
        · exact e'.symm
        · have h1 := hm'.1 a e
          have h2 := hl'.1 b e'
          have := keyCmp_neg a b
          omega
    subst hab
    congr 1
    refine ord_ext hl'.2 hm'.2 (fun x => ⟨fun hx => ?_, fun hx => ?_⟩)
    · rcases List.mem_cons.1 ((h x).1 (List.mem_cons_of_mem _ hx)) with e | e
      · subst e
        have := hl'.1 x hx
        rw [keyCmp_self] at this
        omega
      · exact e
    · rcases List.mem_cons.1 ((h x).2 (List.mem_cons_of_mem _ hx)) with e | e
      · subst e
        have := hm'.1 x hx
        rw [keyCmp_self] at this
        omega
      · exact e

theorem firstOf_zero {a b : Int} : firstOf a b = 0 ↔ a = 0 ∧ b = 0 := by
  unfold firstOf
  by_cases h : a = 0
  · simp [h]
  · simp [h]
theorem kindCmp_zero {a b : Int} : kindCmp a b = 0 ↔ (a = 2 ↔ b = 2) := by
  unfold kindCmp
  by_cases h : a = 2 <;> by_cases k : b = 2 <;> simp [h, k]
theorem tsCmp_zero {a b : Int} : tsCmp a b = 0 ↔ a = b := by
  unfold tsCmp
  (repeat' split) <;> omega
theorem keyCmp_zero {a b : Ent} : keyCmp a b = 0 ↔ a.row = b.row ∧ a.fam = b.fam ∧ a.qual = b.qual ∧ (a.kind = 2 ↔ b.kind = 2) ∧ a.ts = b.ts := by
  unfold keyCmp
  rw [firstOf_zero, firstOf_zero, firstOf_zero, firstOf_zero, cB_zero, cB_zero, cB_zero, kindCmp_zero, tsCmp_zero]
theorem kindCmp_congr {a b c : Int} (h : a = 2 ↔ b = 2) : kindCmp a c = kindCmp b c := by
  unfold kindCmp
  by_cases k : a = 2
  · rw [if_pos k, if_pos (h.1 k)]
  · rw [if_neg k, if_neg (fun x => k (h.2 x))]
theorem keyCmp_congr {a b c : Ent} (h : keyCmp a b = 0) : keyCmp a c = keyCmp b c := by
  obtain ⟨h1, h2, h3, h4, h5⟩ := keyCmp_zero.1 h
  unfold keyCmp
  rw [h1, h2, h3, h5, kindCmp_congr h4]

theorem intoG_true (e : Ent) : ∀ L : List Ent, (∀ x ∈ L, keyCmp e x = -1) → intoG e L true = L
  | [], _ => rfl
  | x :: r, h => by
    have h1 := h x (by simp)
    have h2 := keyCmp_neg e x
    have h3 : keyCmp x e = 1 := by omega
    unfold intoG
    rw [if_neg (by omega), if_neg (by omega), if_pos rfl, intoG_true e r (fun y hy => h y (List.mem_cons_of_mem _ hy))]
theorem into_spec (e : Ent) : ∀ L : List Ent, Ord L → Ord (intoG e L false) ∧ ∀ x, x ∈ intoG e L false ↔ x = e ∨ (x ∈ L ∧ keyCmp x e ≠ 0)
  | [], _ => ⟨by simp [intoG, Ord], fun x => by simp [intoG]⟩
  | x :: r, h => by
    have h' := List.pairwise_cons.1 h
    obtain ⟨ih1, ih2⟩ := into_spec e r h'.2
    rcases keyCmp_vals x e with hc | hc | hc
    · have e1 : intoG e (x :: r) false = x :: intoG e r false := by simp [intoG, hc]
      rw [e1]
      refine ⟨List.pairwise_cons.2 ⟨fun y hy => ?_, ih1⟩, fun y => ?_⟩
      · rcases (ih2 y).1 hy with rfl | ⟨hy, _⟩
        · exact hc
        · exact h'.1 y hy
      · rw [List.mem_cons, ih2, List.mem_cons]
        constructor
        · rintro (rfl | rfl | ⟨h1, h2⟩)
          · exact .inr ⟨.inl rfl, by omega⟩
          · exact .inl rfl
          · exact .inr ⟨.inr h1, h2⟩
        · rintro (rfl | ⟨rfl | h1, h2⟩)
          · exact .inr (.inl rfl)
          · exact .inl rfl
          · exact .inr (.inr ⟨h1, h2⟩)
    · have hr : ∀ y ∈ r, keyCmp e y = -1 := fun y hy => by rw [← keyCmp_congr hc]; exact h'.1 y hy
      have e1 : intoG e (x :: r) false = e :: r := by
        simp [intoG, hc, intoG_true e r hr]
      rw [e1]
      refine ⟨List.pairwise_cons.2 ⟨hr, h'.2⟩, fun y => ?_⟩
      rw [List.mem_cons, List.mem_cons]
      constructor
      · rintro (rfl | h1)
        · exact .inl rfl
        · have h2 := hr y h1
          have h3 := keyCmp_neg e y
          exact .inr ⟨.inr h1, by omega⟩
      · rintro (rfl | ⟨rfl | h1, h2⟩)
        · exact .inl rfl
        · exact absurd hc h2
        · exact .inr h1
    · have hx : keyCmp e x = -1 := by
        have := keyCmp_neg x e
        omega
      have hr : ∀ y ∈ r, keyCmp e y = -1 := fun y hy => keyCmp_trans hx (h'.1 y hy)
      have e1 : intoG e (x :: r) false = e :: x :: r := by
        simp [intoG, hc, intoG_true e r hr]
      rw [e1]
      refine ⟨List.pairwise_cons.2 ⟨fun y hy => ?_, h⟩, fun y => ?_⟩
      · rcases List.mem_cons.1 hy with rfl | hy
        · exact hx
        · exact hr y hy
      · rw [List.mem_cons]
        constructor
        · rintro (rfl | h1)
          · exact .inl rfl
          · refine .inr ⟨h1, ?_⟩
            have h3 := keyCmp_neg e y
            rcases List.mem_cons.1 h1 with rfl | h1
            · omega
            · have := hr y h1
              omega
        · rintro (rfl | ⟨h1, _⟩)
          · exact .inl rfl
          · exact .inr h1
end Go.Proofs.YtlgeffinhbodeacDoor

/-
  spec.l2Index.
-/
namespace Go.Proofs.YtlgeffinhbodeacDoor
open Go.ChangeShapes Go.WideShapes Go.ChangeAt Go.RowKit Go.Deep
set_option linter.unusedVariables false
set_option linter.unusedSimpArgs false
set_option maxRecDepth 100000

abbrev Blk.four (b : Blk) : List Value := [.int .i64 (b.fr : Int), .int .i64 (b.til : Int), .int .i64 (b.count : Int), .string b.row]
def cellsL (l : List Blk) : List Value := l.flatMap Blk.four
theorem cellsL_append (l k : List Blk) : cellsL (l ++ k) = cellsL l ++ cellsL k := by simp [cellsL]
theorem length_cellsL (l : List Blk) : (cellsL l).length = l.length * 4 := by
  induction l with
  | nil => rfl
  | cons e l ih => rw [show cellsL (e :: l) = e.four ++ cellsL l by simp [cellsL], List.length_append, ih]; simp; omega
theorem cellsL_get (l : List Blk) : ∀ (k : Nat) (e : Blk), l[k]? = some e → ∀ j, j < 4 → (cellsL l)[k * 4 + j]? = e.four[j]? := by
  induction l with
  | nil => intro k e h; simp at h
  | cons f l ih =>
    intro k e h j hj
    rw [show cellsL (f :: l) = f.four ++ cellsL l by simp [cellsL]]
    cases k with
    | zero =>
      simp at h; subst h
      rw [List.getElem?_append_left (by show 0 * 4 + j < 4; omega)]
      simp
    | succ k =>
      simp at h
      rw [List.getElem?_append_right (by show 4 ≤ (k + 1) * 4 + j; omega)]
      have : (k + 1) * 4 + j - f.four.length = k * 4 + j := by show (k + 1) * 4 + j - 4 = _; omega
      rw [this]; exact ih k e h j hj
/-- A row of blocks of the index, of the call's own. -/
def OwnI (w : World) (base g cp : Nat) (l : List Blk) : Prop := w.ownsRow base 46 4 (.slice (some ⟨g, 0, none⟩) l.length cp) l.length (cellsL l)
theorem OwnI.lt {w : World} {base g cp : Nat} {l : List Blk} (h : OwnI w base g cp l) : base ≤ g ∧ g < w.heap.size := World.ownsRow.lt h g rfl
theorem OwnI.chg {S : Nat → Prop} {w w' : World} {base g cp : Nat} {l : List Blk} (h : OwnI w base g cp l) (hc : Chg S w w') (hn : ¬ S g) : OwnI w' base g cp l := own_chg h hc (fun k q => by simp [Value.ownBlock] at q; subst q; exact hn)
theorem OwnI.below {w w' : World} {base g cp : Nat} {l : List Blk} (h : OwnI w base g cp l) (hb : Below w.heap.size w w') : OwnI w' base g cp l := h.chg (Chg.of_below hb) (S := fun _ => False) (fun q => q)
theorem OwnI.mono {w : World} {base base' g cp : Nat} {l : List Blk} (h : OwnI w base g cp l) (hb : base' ≤ base) : OwnI w base' g cp l := by
  refine ⟨h.1, ?_⟩
  rcases h.2 with hn | ⟨g', cap', cur, hv, h1, rest⟩
  · exact .inl hn
  · exact .inr ⟨g', cap', cur, hv, Nat.le_trans hb h1, rest⟩
theorem OwnI.at {w : World} {base g cp : Nat} {l : List Blk} (h : OwnI w base g cp l) {k : Nat} {e : Blk} (he : l[k]? = some e) :
    w.cell? ⟨g, k * 4, none⟩ = some (.int .i64 (e.fr : Int)) ∧ w.cell? ⟨g, k * 4 + 1, none⟩ = some (.int .i64 (e.til : Int)) ∧ w.cell? ⟨g, k * 4 + 2, none⟩ = some (.int .i64 (e.count : Int)) ∧ w.cell? ⟨g, k * 4 + 3, none⟩ = some (.string e.row) := by
  have hi : k < l.length := (List.getElem?_eq_some_iff.1 he).1
  have c := fun j (hj : j < 4) => (World.ownsRow.cellAt h (k * 4 + j) (by omega)).trans (cellsL_get l k e he j hj)
  refine ⟨?_, ?_, ?_, ?_⟩
  · simpa using c 0 (by omega)
  · simpa using c 1 (by omega)
  · simpa using c 2 (by omega)
  · simpa using c 3 (by omega)
theorem ownI_new (w : World) {base : Nat} (hb : base ≤ w.heap.size) : OwnI (w.alloc (Obj.cells #[] 46)) base w.heap.size 0 [] :=
  World.ownsRow_made w #[] 0 hb (Nat.zero_le _) (by simp)
theorem Tryd.infoBlk : (Tryd.prog.info? 46).map (fun i => (i.zero, i.size, i.bytes)) = some (some (.agg #[.int .i64 0, .int .i64 0, .int .i64 0, .string ⟨#[]⟩]), 4, 40) := by kernel_rfl
theorem wpList_append_blk {ops : Array Oper} {rest : List Oper} {o : Oper} {a : Act} {Q : Exit → Act → World → Prop} (w : World) (hgd : o.guard = none) (s x : Operand)
    (ho : o.op = .call { callee := .builtin .append, args := #[s, x], argTypes := #[40, 40] })
    (base g cp n blk : Nat) (l : List Blk) (e : Blk) (hs : a.eval s = .slice (some ⟨g, 0, none⟩) n cp) (hx : a.eval x = .slice (some ⟨blk, 0, none⟩) 1 1) (hn : n = l.length) (hO : OwnI w base g cp l)
    (hc : ∀ j u, e.four[j]? = some u → w.cell? ⟨blk, j, none⟩ = some u) (hlen : l.length ≤ 2 ^ 30) (hbase : base ≤ w.heap.size)
    (h : ∀ g' cp' w', OwnI w' base g' cp' (l ++ [e]) → w.grownBy w' (some g) → (g' = g ∨ g' = w.heap.size) → wpList Tryd.prog ops Q rest (a.put o.dst (.slice (some ⟨g', 0, none⟩) (n + 1) cp')) w') : wpList Tryd.prog ops Q (o :: rest) a w := by
  obtain ⟨i, hi, hz0, hz1, hz2⟩ := info_parts Tryd.infoBlk
  subst hn
  have he : cellsL [e] = e.four := by simp [cellsL]
  refine wpList_append_own_at w hgd s x 40 ho base 46 i _ 4 40 Tryd.underlying40 hi hz0 hz1 hz2 rfl (by decide) (.slice (some ⟨g, 0, none⟩) l.length cp) l.length (cellsL l) hs hO ⟨blk, 0, none⟩ 1 1 (cellsL [e]) hx rfl ?_ ?_ ?_ ?_ hbase ?_
  · intro j u hu
    rw [he] at hu
    rw [Addr.add_mid, Nat.zero_add]
    exact hc j u hu
  · intro u hu
    rw [he] at hu
    simp at hu
    rcases hu with rfl | rfl | rfl | rfl <;> rfl
  · unfold maxLen; omega
  · omega
  · intro v' w' hO' hgr hnil hat
    rcases hO'.2 with ⟨h0, _⟩ | ⟨g', cap', cur, hv, _, _, hn, hcap, _, _⟩
    · have := (hnil.1 h0).1
      cases this
    · subst hv
      refine h g' cap' w' ?_ hgr ?_
      · unfold OwnI
        rw [List.length_append, cellsL_append]
        exact hO'
      · simp [Value.ownBlock] at hat
        exact hat
theorem gotNum_bad {xs : List UInt8} {i : Nat} {bad : Bool} {i1 n : Nat} (h : GotNum xs i bad i1 false n) : bad = false ∧ getNum (xs.drop i) = some (n, xs.drop i1) := by
  rcases h.2.2 with ⟨q, _⟩ | ⟨_, q⟩
  · cases q
  · cases bad with
    | true => cases q
    | false => exact ⟨rfl, q⟩
theorem gotNum_none {xs : List UInt8} {i i1 n : Nat} (h : GotNum xs i false i1 true n) : getNum (xs.drop i) = none := by
  rcases h.2.2 with ⟨_, q⟩ | ⟨q, _⟩
  · exact q
  · cases q
theorem gotStr_good {xs : List UInt8} {i : Nat} {bad : Bool} {i1 : Nat} {s : ByteArray} (h : GotStr xs i bad i1 false s) : bad = false ∧ getStr (xs.drop i) = some (bl s, xs.drop i1) := by
  rcases h.2.2 with ⟨q, _⟩ | ⟨_, q⟩
  · cases q
  · cases bad with
    | true => cases q
    | false => exact ⟨rfl, q⟩
theorem gotStr_none {xs : List UInt8} {i i1 : Nat} {s : ByteArray} (h : GotStr xs i false i1 true s) : getStr (xs.drop i) = none := by
  rcases h.2.2 with ⟨_, q⟩ | ⟨q, _⟩
  · exact q
  · cases q
/-- Three fields of a block, read one behind the other. -/
theorem oneBlk_read {xs : List UInt8} {i i1 i2 i3 n lim p size count : Nat} {b1 b2 b3 : Bool} {row : ByteArray} (h1 : GotNum xs i false i1 b1 size) (h2 : GotNum xs i1 b1 i2 b2 count) (h3 : GotStr xs i2 b2 i3 b3 row) :
    (b3 = true → oneBlk n lim p (xs.drop i) = none) ∧ (b3 = false → oneBlk n lim p (xs.drop i) = if count < 1 ∨ 1000 < count ∨ n < size ∨ lim < p + size + 4 then none else some (⟨p, p + size, count, row⟩, p + size + 4, xs.drop i3)) := by
  constructor
  · rintro rfl
    unfold oneBlk
    cases b1 with
    | true => rw [gotNum_none h1]
    | false =>
      rw [(gotNum_bad h1).2]
      simp only []
      cases b2 with
      | true => rw [gotNum_none h2]
      | false =>
        rw [(gotNum_bad h2).2]
        simp only []
        rw [gotStr_none h3]
  · rintro rfl
    obtain ⟨rfl, q3⟩ := gotStr_good h3
    obtain ⟨rfl, q2⟩ := gotNum_bad h2
    obtain ⟨_, q1⟩ := gotNum_bad h1
    unfold oneBlk
    rw [q1]
    simp only []
    rw [q2]
    simp only []
    rw [q3]
    simp only []
    rw [ba_bl]
end Go.Proofs.YtlgeffinhbodeacDoor

/-
  spec.l1Stands, spec.l1GoodWrites.
-/
namespace Go.Proofs.YtlgeffinhbodeacDoor
open Go.ChangeShapes Go.WideShapes Go.ChangeAt Go.RowKit Go.Deep
set_option linter.unusedVariables false

/-- Does the later write 'v' do away with 'e'? -/
def kills (v e : Ent) : Bool := sameCol v e && (if (v.kind == 2) = true then decide (e.ts ≤ v.ts) else (v.ts == e.ts))
/-- No write behind place 'i' does away with the one there. -/
def Stands (ws : List Ent) (i : Nat) : Prop := ∀ j v e, i < j → ws[j]? = some v → ws[i]? = some e → kills v e = false
def StandsTo (ws : List Ent) (i k : Nat) : Prop := ∀ j v e, i < j → j < k → ws[j]? = some v → ws[i]? = some e → kills v e = false
theorem standsTo_succ {ws : List Ent} {i k : Nat} {v e : Ent} (h : StandsTo ws i k) (hv : ws[k]? = some v) (he : ws[i]? = some e) (hk : kills v e = false) : StandsTo ws i (k + 1) := by
  intro j v' e' h1 h2 h3 h4
  by_cases hj : j = k
  · subst hj
    rw [hv] at h3; rw [he] at h4
    simp at h3 h4
    subst h3 h4
    exact hk
  · exact h j v' e' h1 (by omega) h3 h4

set_option maxHeartbeats 2000000 in
theorem stands_core (b off cap : Nat) (ws : List Ent) (i : Nat) (e : Ent) (w : World) (hE : EntsAt w b off ws) (hB : b < w.heap.size) (hi : ws[i]? = some e) (hlen : ws.length ≤ 1048576) :
    Calls Tryd.prog 82 #[.slice (some ⟨b, off, none⟩) ws.length cap, .int .i64 i] w fun r w' =>
      ∃ s : Bool, r = .returned (.bool s) ∧ (s = true ↔ Stands ws i) ∧ Below w.heap.size w w' := by
  have hil : i < ws.length := (List.getElem?_eq_some_iff.1 hi).1
  have HE : Hid (EntsAt w b off ws) := hE
  have HI : Hid (ws[i]? = some e) := hi
  clear hE hi
  go_enter Tryd.func82, Tryd.ntmps82
  go_wp2
  go_loopw [5] (fun c wr => ∃ k : Nat, i < k ∧ c = .int .i64 k ∧ StandsTo ws i k ∧ Below w.heap.size w wr) (fun c _ => ws.length - (intOf c).toNat)
  case atStart => exact ⟨i + 1, by omega, by go_num, fun j v e h1 h2 => by omega, Below.refl _ _⟩
  case round =>
    obtain ⟨k, hk, rfl, hst, hb⟩ := hrel
    have HS : Hid (StandsTo ws i k) := hst
    clear hst
    have hs := hb.size
    by_cases hlt : k < ws.length
    · obtain ⟨v, hv⟩ : ∃ v, ws[k]? = some v := ⟨_, List.getElem?_eq_getElem hlt⟩
      have HV : Hid (ws[k]? = some v) := hv
      obtain ⟨c0, c1, c2, c3, c4, c5⟩ := (HE.out.below hb hB) k v hv
      obtain ⟨d0, d1, d2, d3, d4, d5⟩ := (HE.out.below hb hB) i e HI.out
      clear hv
      obtain ⟨W1, hW1⟩ : ∃ W1 : World, W1 = wr.alloc (Obj.cells #[.string v.row, .string v.fam, .string v.qual, .int .u64 v.ts, .int .i64 v.kind, .string v.val] 73) := ⟨_, rfl⟩
      have hb1 : Below wr.heap.size wr W1 := by rw [hW1]; exact (Below.refl _ _).alloc (Nat.le_refl _) _
      have hz1 : wr.heap.size < W1.heap.size := by rw [hW1]; simp
      have HV1 : Hid (EntsAt W1 wr.heap.size 0 [v]) := by
        show EntsAt W1 wr.heap.size 0 [v]
        intro j y hy
        obtain rfl : j = 0 := by
          have := (List.getElem?_eq_some_iff.1 hy).1
          simpa using this
        simp at hy
        subst hy
        rw [hW1]
        simp
      have zi : (i : Int) < (ws.length : Int) := by omega
      go_upto_region 5 with fail
      rw [← hW1]
      clear hW1 c0 c1 c2 c3 c4 c5 d0 d1 d2 d3 d4 d5
      obtain ⟨c0, c1, c2, c3, c4, c5⟩ := HV1.out 0 v rfl
      obtain ⟨d0, d1, d2, d3, d4, d5⟩ := ((HE.out.below hb hB).below hb1 (by omega)) i e HI.out
      simp only [Nat.zero_add, Nat.zero_mul] at c0 c1 c2 c3 c4 c5
      go_cut [24] (fun s wx => s = .bool (sameCol v e) ∧ Below W1.heap.size W1 wx)
      case first =>
        go_region_with (go_at_call 43; refine (sameColumn_any v e _).mono ?_; rintro e' w' ⟨rfl, hbb⟩)
        all_goals go_wp2_with fail
        all_goals go_meet
        all_goals exact ⟨rfl, ((Below.refl _ _).drew).trans (hbb.mono (by simp))⟩
      case rest =>
      obtain ⟨rfl, h3⟩ := hcut
      have hs3 := h3.size
      have hb3 : Below w.heap.size w wc := (hb.trans (hb1.mono (by omega))).trans (h3.mono (by omega))
      clear c0 c1 c2 c3 c4 c5 d0 d1 d2 d3 d4 d5
      obtain ⟨c0, c1, c2, c3, c4, c5⟩ := (HV1.out.below h3 (by omega)) 0 v rfl
      obtain ⟨d0, d1, d2, d3, d4, d5⟩ := (HE.out.below hb3 hB) i e HI.out
      simp only [Nat.zero_add, Nat.zero_mul] at c0 c1 c2 c3 c4 c5
      have fin : ∀ (wx : World), Below w.heap.size w wx → kills v e = true → (∃ s : Bool, Ending.returned (.bool false) = .returned (.bool s) ∧ (s = true ↔ Stands ws i) ∧ Below w.heap.size w wx) := by
        intro wx hx hkl
        refine ⟨false, rfl, iffF (fun h => ?_), hx⟩
        have := h k v e hk HV.out HI.out
        rw [hkl] at this
        cases this
      have HFin : Hid (∀ (wx : World), Below w.heap.size w wx → kills v e = true → (∃ s : Bool, Ending.returned (.bool false) = .returned (.bool s) ∧ (s = true ↔ Stands ws i) ∧ Below w.heap.size w wx)) := fin
      clear fin
      cases hsc : sameCol v e
      · have HN : Hid (StandsTo ws i (k + 1)) := standsTo_succ HS.out HV.out HI.out (by unfold kills; rw [hsc]; rfl)
        go_wp2_with fail
        go_roundw
        case rel => exact ⟨k + 1, by omega, by go_num, HN.out, hb3⟩
        case measure => go_light; simp [intOf]; omega
      · cases g2 : (v.kind == 2)
        · have g2' : (v.kind != 2) = true := by
            simp at g2 ⊢; exact g2
          cases ge : (v.ts == e.ts)
          · have HN : Hid (StandsTo ws i (k + 1)) := standsTo_succ HS.out HV.out HI.out (by unfold kills; rw [hsc, g2]; simpa using ge)
            go_upto_region 6 with fail
            go_quiet (fail)
            go_upto_region 8 with fail
            go_quiet (fail)
            go_wp2_with fail
            go_roundw
            case rel => exact ⟨k + 1, by omega, by go_num, HN.out, below_drewN hb3 _⟩
            case measure => go_light; simp [intOf]; omega
          · have HK : Hid (kills v e = true) := by show kills v e = true; unfold kills; rw [hsc, g2]; simpa using ge
            go_upto_region 6 with fail
            go_quiet (fail)
            go_upto_region 8 with fail
            go_quiet (fail)
            go_wp2_with fail
            go_ret
            exact HFin.out _ (below_drewN (below_drewN hb3 _) _) HK.out
        · have g2' : (v.kind != 2) = false := by
            simp at g2 ⊢; exact g2
          by_cases ge : e.ts ≤ v.ts
          · have HK : Hid (kills v e = true) := by show kills v e = true; unfold kills; rw [hsc, g2]; simpa using ge
            go_upto_region 6 with fail
            go_quiet (fail)
            go_wp2_with fail
            go_ret
            exact HFin.out _ (below_drewN hb3 _) HK.out
          · have HN : Hid (StandsTo ws i (k + 1)) := standsTo_succ HS.out HV.out HI.out (by unfold kills; rw [hsc, g2]; simpa using ge)
            go_upto_region 6 with fail
            go_quiet (fail)
            go_upto_region 8 with fail
            go_quiet (fail)
            go_wp2_with fail
            go_roundw
            case rel => exact ⟨k + 1, by omega, by go_num, HN.out, below_drewN hb3 _⟩
            case measure => go_light; simp [intOf]; omega
    · go_wp2_with fail
      go_ret
      refine ⟨true, rfl, iffT (fun j v e h1 h2 h3 => ?_), hb⟩
      have := (List.getElem?_eq_some_iff.1 h2).1
      exact HS.out j v e h1 (by omega) h2 h3

set_option maxHeartbeats 400000 in
theorem goodWrites_core (b off cap : Nat) (es : List Ent) (w : World) (hE : EntsAt w b off es) (hok : ∀ e ∈ es, e.ok) (hB : b < w.heap.size) (hlen : es.length ≤ 1048576) :
    Calls Tryd.prog 81 #[.slice (some ⟨b, off, none⟩) es.length cap] w fun e w' =>
      ∃ r : Bool, e = .returned (.bool r) ∧ (r = true ↔ GoodW es) ∧ Below w.heap.size w w' := by
  have HE : Hid (EntsAt w b off es) := hE
  have HO : Hid (∀ e ∈ es, e.ok) := hok
  clear hE hok
  by_cases hbig : 10000 < es.length
  · have H : Hid (¬ GoodW es) := fun h => by have := h.1; omega
    go_enter Tryd.func81, Tryd.ntmps81
    go_wp2
    go_ret
    exact ⟨_, rfl, iffF H.out, Below.refl _ _⟩
  go_enter Tryd.func81, Tryd.ntmps81
  go_wp2
  go_loopw [3] (fun i wr => ∃ (k : Nat), k ≤ es.length ∧ i = .int .i64 k ∧ (∀ x ∈ es.take k, x.vld = true) ∧ Below w.heap.size w wr) (fun i _ => es.length - (intOf i).toNat)
  case atStart => exact ⟨0, Nat.zero_le _, rfl, by simp, Below.refl _ _⟩
  case round =>
    obtain ⟨k, hk, rfl, hv, hb⟩ := hrel
    have HV : Hid (∀ x ∈ es.take k, x.vld = true) := hv
    clear hv
    by_cases hlt : k < es.length
    · obtain ⟨e, he⟩ : ∃ e, es[k]? = some e := ⟨_, List.getElem?_eq_getElem hlt⟩
      obtain ⟨c0, c1, c2, c3, c4, c5⟩ := (HE.out.below hb hB) k e he
      have HK : Hid (e.ok ∧ es[k]? = some e) := ⟨HO.out e (List.mem_of_getElem? he), he⟩
      clear he
      go_wp2_with fail
      refine (specValid_core e.row e.fam e.qual e.val e.ts e.kind _ HK.out.1.row HK.out.1.fam HK.out.1.qual HK.out.1.val).mono ?_
      rintro e' w1 ⟨rfl, hb1⟩
      have hb2 := hb.trans (hb1.mono hb.size)
      clear c0 c1 c2 c3 c4 c5 hb1
      cases hv : vE e.row e.fam e.qual e.kind e.val
      · have H : Hid (¬ GoodW es) := fun h => by
          have := h.2 e (List.mem_of_getElem? HK.out.2)
          unfold Ent.vld at this
          rw [hv] at this
          cases this
        go_wp2_with fail
        go_ret
        exact ⟨_, rfl, iffF H.out, hb2⟩
      · have H : Hid (∀ x ∈ es.take (k + 1), x.vld = true) := vld_of_take HV.out HK.out.2 hv
        go_wp2_with fail
        go_roundw
        case rel => exact ⟨k + 1, by omega, by go_num, H.out, hb2⟩
        case measure => go_light; simp [intOf]; omega
    · go_wp2
      go_ret
      refine ⟨_, rfl, iffT ⟨by omega, fun e he => ?_⟩, hb⟩
      have := HV.out
      rw [List.take_of_length_le (by omega)] at this
      exact this e he
end Go.Proofs.YtlgeffinhbodeacDoor

/-
  What a run keeps of a list of writes, as a property; it determines the run.
-/
namespace Go.Proofs.YtlgeffinhbodeacDoor
set_option linter.unusedVariables false

theorem toList_inj {a b : ByteArray} (h : a.toList = b.toList) : a = b := by
  rw [ByteArray.toList_eq, ByteArray.toList_eq] at h
  cases a; cases b
  simp at h
  simpa using h
theorem sameCol_iff {a b : Ent} : sameCol a b = true ↔ a.row = b.row ∧ a.fam = b.fam ∧ a.qual = b.qual := by
  unfold sameCol
  simp only [Bool.and_eq_true, beq_iff_eq]
  constructor
  · rintro ⟨h1, h2, h3⟩; exact ⟨toList_inj h1, toList_inj h2, toList_inj h3⟩
  · rintro ⟨h1, h2, h3⟩; rw [h1, h2, h3]; exact ⟨rfl, rfl, rfl⟩
theorem size_zero_eq {a b : ByteArray} (h : a.size = 0) (k : b.size = 0) : a = b := by
  obtain ⟨⟨l⟩⟩ := a
  obtain ⟨⟨m⟩⟩ := b
  cases l with
  | nil => cases m with
    | nil => rfl
    | cons y m => simp [ByteArray.size] at k
  | cons x l => simp [ByteArray.size] at h
theorem vld_val {e : Ent} (h : e.vld = true) (k : e.kind = 2) : e.val.size = 0 := by
  unfold Ent.vld vE at h
  have := of_decide_eq_true h
  omega

/-- No delete of the same column has a larger timestamp. -/
def Largest (ws : List Ent) (e : Ent) : Prop := ∀ v ∈ ws, v.kind = 2 → sameCol v e = true → v.ts ≤ e.ts
def Keep (ws : List Ent) (i : Nat) (e : Ent) : Prop := (¬ e.kind = 2 ∧ Stands ws i) ∨ (e.kind = 2 ∧ Largest ws e)
def KeepTo (ws : List Ent) (k : Nat) (x : Ent) : Prop := ∃ i, i < k ∧ ws[i]? = some x ∧ Keep ws i x
/-- 'R' is what the first 'k' writes leave in the run of 'ws'. -/
def Kept (ws : List Ent) (k : Nat) (R : List Ent) : Prop := Ord R ∧ (∀ x, x ∈ R ↔ KeepTo ws k x)

theorem keep_uniq {ws : List Ent} (hv : ∀ x ∈ ws, x.vld = true) {i k : Nat} {x e : Ent} (hik : i < k) (hx : ws[i]? = some x) (he : ws[k]? = some e) (kx : Keep ws i x) (ke : Keep ws k e) (hz : keyCmp x e = 0) : x = e := by
  obtain ⟨h1, h2, h3, h4, h5⟩ := keyCmp_zero.1 hz
  rcases kx with ⟨hn, hs⟩ | ⟨h2k, _⟩
  · have := hs k e x hik he hx
    unfold kills at this
    rw [sameCol_iff.2 ⟨h1.symm, h2.symm, h3.symm⟩] at this
    have hn' : (e.kind == 2) = false := by simp; exact fun q => hn (h4.2 q)
    rw [hn', if_neg (by simp), h5] at this
    simp at this
  · have h2e := h4.1 h2k
    have v1 := vld_val (hv x (List.mem_of_getElem? hx)) h2k
    have v2 := vld_val (hv e (List.mem_of_getElem? he)) h2e
    obtain ⟨r, f, q, t, kk, v⟩ := x
    obtain ⟨r', f', q', t', kk', v'⟩ := e
    simp only at *
    subst h1 h2 h3 h5 h2k h2e
    rw [size_zero_eq v1 v2]

theorem kept_zero (ws : List Ent) : Kept ws 0 [] := ⟨List.Pairwise.nil, fun x => ⟨fun h => by simp at h, fun ⟨i, hi, _⟩ => by omega⟩⟩
theorem kept_skip {ws : List Ent} {k : Nat} {e : Ent} {R : List Ent} (h : Kept ws k R) (he : ws[k]? = some e) (hk : ¬ Keep ws k e) : Kept ws (k + 1) R := by
  refine ⟨h.1, fun x => (h.2 x).trans ⟨fun ⟨i, hi, h1, h2⟩ => ⟨i, by omega, h1, h2⟩, fun ⟨i, hi, h1, h2⟩ => ?_⟩⟩
  by_cases hik : i = k
  · subst hik
    rw [he] at h1
    simp at h1
    subst h1
    exact absurd h2 hk
  · exact ⟨i, by omega, h1, h2⟩
theorem kept_step {ws : List Ent} (hv : ∀ x ∈ ws, x.vld = true) {k : Nat} {e : Ent} {R : List Ent} (h : Kept ws k R) (he : ws[k]? = some e) (hk : Keep ws k e) : Kept ws (k + 1) (into R e) := by
  obtain ⟨h1, h2⟩ := into_spec e R h.1
  refine ⟨h1, fun x => (h2 x).trans ⟨?_, ?_⟩⟩
  · rintro (rfl | ⟨hx, _⟩)
    · exact ⟨k, by omega, he, hk⟩
    · obtain ⟨i, hi, a, b⟩ := (h.2 x).1 hx
      exact ⟨i, by omega, a, b⟩
  · rintro ⟨i, hi, a, b⟩
    by_cases hik : i = k
    · subst hik
      rw [he] at a
      simp at a
      exact .inl a.symm
    · by_cases hz : keyCmp x e = 0
      · exact .inl (keep_uniq hv (by omega) a he b hk hz)
      · exact .inr ⟨(h.2 x).2 ⟨i, by omega, a, b⟩, hz⟩
theorem kept_uniq {ws : List Ent} {k : Nat} {R S : List Ent} (h : Kept ws k R) (g : Kept ws k S) : R = S :=
  ord_ext h.1 g.1 (fun x => (h.2 x).trans (g.2 x).symm)
theorem length_into (L : List Ent) (e : Ent) : (into L e).length ≤ L.length + 1 := length_intoG e L false
end Go.Proofs.YtlgeffinhbodeacDoor

