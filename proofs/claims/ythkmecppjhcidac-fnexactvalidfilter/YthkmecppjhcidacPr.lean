/-
  (*impl.patternReader): demand, nextIn, take, skip, classByte; strings.IndexByte.
-/
import Derived.Test.YthkmecppjhcidacBox
import Derived.Test.YthkmecppjhcidacPq
import Derived.Test.YthkmecppjhcidacSub
import Derived.Lib.Bytealg
import Derived.Lib.Slices
import Derived.Lib.Walk
namespace Go.Proofs.Ythkmecppjhcidac
open Go.ChangeShapes Go.WideShapes Go.ChangeAt Go.RowKit Go.Deep
set_option linter.unusedVariables false
set_option linter.unusedSimpArgs false
set_option maxRecDepth 100000

/-- A panic with a placed fault. -/
abbrev pfV (c a : Int) : Value := .iface 172 (.agg #[.int .i64 c, .int .i64 a])
abbrev Pf (c a : Int) : Ending := .panicked [{ v := pfV c a, recovered := false }]
/-- The bytes of a string. -/
abbrev sb (s : ByteArray) : List UInt8 := s.data.toList
theorem sb_len (s : ByteArray) : (sb s).length = s.size := by simp [sb]
theorem sb_get {s : ByteArray} {i : Nat} {x : UInt8} (h : (sb s)[i]? = some x) : ∃ hi : i < s.size, s[i] = x := by
  have hi := (List.getElem?_eq_some_iff.1 h).1
  rw [sb_len] at hi
  refine ⟨hi, ?_⟩
  rw [List.getElem?_eq_getElem (by rw [sb_len]; exact hi)] at h
  exact Option.some.inj h

set_option maxHeartbeats 1000000 in
theorem stringsIndexByte_any (s : ByteArray) (c : UInt8) (w : World) :
    Calls Try.prog 133 #[.string s, .int .u8 (c.toNat : Int)] w fun e w' => e = .returned (.int .i64 (Lib.indexByte (sb s) c)) ∧ w' = w := by
  have H : Calls Try.prog 136 #[.string s, .int .u8 (c.toNat : Int)] w fun e w' => e = .returned (.int .i64 (Lib.indexByte (sb s) c)) ∧ w' = w := by
    go_enter Try.func136, Try.ntmps136
    go_wp2
    rw [run_callFunc_extern Try.func140 (by kernel_rfl) (by kernel_rfl) (by kernel_rfl) (e := Extern.BytealgIndexByte.indexByte) (by kernel_rfl), Lib.run_indexByteString]
    simp only [Result.andThen]
    rw [Oper.upon_value]
    go_wp2
    go_ret
    exact ⟨by simp, rfl⟩
  go_enter Try.func133, Try.ntmps133
  go_wp2_with (go_at_call 136; refine H.mono ?_; rintro e w' ⟨rfl, rfl⟩)
  go_ret
  exact ⟨rfl, rfl⟩
theorem indexByte_neg : ∀ (l : List UInt8) (c : UInt8), -1 ≤ Lib.indexByte l c ∧ (0 ≤ Lib.indexByte l c ↔ c ∈ l)
  | [], c => by simp [Lib.indexByte]
  | b :: l, c => by
    have ih := indexByte_neg l c
    unfold Lib.indexByte
    by_cases h : b = c
    · subst h; simp
    · have h2 : ¬ c = b := fun q => h q.symm
      by_cases h3 : Lib.indexByte l c = -1
      · have h4 : ¬ c ∈ l := fun q => by have := ih.2.2 q; omega
        simp [h, h2, h3, h4]
      · have h4 : c ∈ l := ih.2.1 (by omega)
        simp [h, h2, h3, h4]
        omega

/-- A reader in memory. -/
abbrev PrAt (w : World) (base g : Nat) (p : ByteArray) (i o : Nat) : Prop := BoxAt w base 175 3 g [.string p, .int .i64 (i : Int), .int .i64 (o : Int)]

set_option maxHeartbeats 1000000 in
theorem pdem_yes (v : Value) (w : World) : Calls Try.prog 126 #[v, .bool true] w fun e w' => e = .returned (.tuple #[]) ∧ w' = w := by
  go_enter Try.func126, Try.ntmps126
  go_wp2_with fail
  go_end0
  exact ⟨rfl, rfl⟩
set_option maxHeartbeats 1000000 in
theorem pdem_no {base g i o : Nat} {p : ByteArray} {w : World} (h : PrAt w base g p i o) : Calls Try.prog 126 #[.pointer (some ⟨g, 0, none⟩), .bool false] w fun e w' => e = Pf 2 i ∧ w' = w := by
  have c1 := h.cell (j := 1) rfl
  clear h
  go_enter Try.func126, Try.ntmps126
  go_wp2_with fail
  exact ⟨rfl, rfl, rfl⟩
theorem pdem_core (c : Bool) {base g i o : Nat} {p : ByteArray} {w : World} (h : PrAt w base g p i o) : Calls Try.prog 126 #[.pointer (some ⟨g, 0, none⟩), .bool c] w fun e w' => w' = w ∧ ((c = true ∧ e = .returned (.tuple #[])) ∨ (c = false ∧ e = Pf 2 i)) := by
  cases c with
  | true => exact (pdem_yes _ w).mono fun e w' ⟨he, hw⟩ => ⟨hw, .inl ⟨rfl, he⟩⟩
  | false => exact (pdem_no h).mono fun e w' ⟨he, hw⟩ => ⟨hw, .inr ⟨rfl, he⟩⟩

/-- Whether the next byte is one of these. -/
def inB (p : List UInt8) (i : Nat) (l : List UInt8) : Bool := match p[i]? with | some c => decide (c ∈ l) | none => false

set_option maxHeartbeats 2000000 in
theorem pnextIn_core {base g i o : Nat} {p : ByteArray} (s : ByteArray) {w : World} (h : PrAt w base g p i o) (hp : p.size ≤ 200) :
    Calls Try.prog 131 #[.pointer (some ⟨g, 0, none⟩), .string s] w fun e w' => e = .returned (.bool (inB (sb p) i (sb s))) ∧ Below w.heap.size w w' := by
  have hlt := h.lt.2
  have c0 := h.cell (j := 0) rfl
  have c1 := h.cell (j := 1) rfl
  have e0 : ∀ n : Out w, n.u.cell? ⟨g, 0, none⟩ = some (.string p) := fun n => (n.out.cell (p := ⟨g, 0, none⟩) hlt).trans c0
  have e1 : ∀ n : Out w, n.u.cell? ⟨g, 1, none⟩ = some (.int .i64 (i : Int)) := fun n => (n.out.cell (p := ⟨g, 1, none⟩) hlt).trans c1
  clear h c0 c1
  by_cases hi : i < p.size
  · obtain ⟨x, hx⟩ : ∃ x, (sb p)[i]? = some x := ⟨_, List.getElem?_eq_getElem (by rw [sb_len]; exact hi)⟩
    obtain ⟨_, gx⟩ := sb_get hx
    have z1 : (i : Int) < (p.size : Int) := by omega
    obtain ⟨r, hr⟩ : ∃ r, r = Lib.indexByte (sb s) x := ⟨_, rfl⟩
    have HR : Hid (r = Lib.indexByte (sb s) x ∧ inB (sb p) i (sb s) = decide (0 ≤ r)) := by
      refine ⟨hr, ?_⟩
      unfold inB
      rw [hx, hr]
      exact decide_eq_decide.2 (indexByte_neg _ _).2.symm
    have HI : Hid (∀ n : Out w, Calls Try.prog 133 #[.string s, .int .u8 (x.toNat : Int)] n.u fun e w' => e = .returned (.int .i64 r) ∧ Below n.u.heap.size n.u w') := fun n => by
      rw [HR.out.1]
      exact (stringsIndexByte_any s x n.u).mono fun e w' ⟨he, hw⟩ => ⟨he, hw ▸ Below.refl _ _⟩
    rw [HR.out.2]
    clear hx hr
    go_enter Try.func131, Try.ntmps131
    go_upto_region 1 with fail
    refine wp_region_out (by kernel_rfl) (by kernel_rfl) ?_
    repeat (go_big_quiet_step ((first | rfl | (go_at_call 133; exact Calls.out_of (HI.out _)))))
    refine wpQuiet_nil ?_
    rintro w1 ⟨⟨wx, hb1⟩, rfl⟩
    go_wp2_with fail
    go_ret
    exact ⟨rfl, hb1⟩
  · have z1 : ¬ (i : Int) < (p.size : Int) := by omega
    have HR : inB (sb p) i (sb s) = false := by
      unfold inB
      rw [List.getElem?_eq_none (by rw [sb_len]; omega)]
    rw [HR]
    clear HR
    go_enter Try.func131, Try.ntmps131
    go_upto_region 1 with fail
    refine wp_region_out (by kernel_rfl) (by kernel_rfl) ?_
    repeat (go_big_quiet_step (rfl))
    refine wpQuiet_nil ?_
    rintro w1 ⟨⟨wx, hb1⟩, rfl⟩
    go_wp2_with fail
    go_ret
    exact ⟨rfl, hb1⟩

/-- The reader one byte further. -/
theorem PrAt.next {w : World} {base g i o : Nat} {p : ByteArray} (h : PrAt w base g p i o) : PrAt (w.setCell ⟨g, 1, none⟩ (.int .i64 ((i : Int) + 1))) base g p (i + 1) o := BoxAt.set h 1 (.int .i64 ((i : Int) + 1))

set_option maxHeartbeats 2000000 in
theorem ptake_yes {base g i o : Nat} {p : ByteArray} {x : UInt8} {w : World} (h : PrAt w base g p i o) (hp : p.size ≤ 200) (hx : (sb p)[i]? = some x) :
    Calls Try.prog 135 #[.pointer (some ⟨g, 0, none⟩)] w fun e w' => e = .returned (.int .u8 (x.toNat : Int)) ∧ PrAt w' base g p (i + 1) o ∧ Chg (fun k => k = g) w w' := by
  have HP : Hid (PrAt w base g p i o) := h
  obtain ⟨hi, gx⟩ := sb_get hx
  have c0 := h.cell (j := 0) rfl
  have c1 := h.cell (j := 1) rfl
  have f1 := h.frozen 1
  have z1 : (i : Int) < (p.size : Int) := by omega
  clear h hx
  go_enter Try.func135, Try.ntmps135
  go_upto_region 1 with fail
  go_quiet ((go_at_call 126; exact Calls.quiet_of_same (pdem_yes _ _)))
  go_upto_region 2 with fail
  obtain ⟨W1, hW1⟩ : ∃ W1 : World, W1 = w.drewN nq := ⟨_, rfl⟩
  have hb1 : Below w.heap.size w W1 := by rw [hW1]; exact below_drewN (Below.refl _ _) _
  have HP1 : Hid (PrAt W1 base g p i o) := HP.out.below hb1
  rw [← hW1]
  clear hW1 c0 c1 f1
  have c0 := HP1.out.cell (j := 0) rfl
  have c1 := HP1.out.cell (j := 1) rfl
  have f1 := HP1.out.frozen 1
  go_quiet (rfl)
  go_wp2_with fail
  go_ret
  have hb2 : Below w.heap.size w (W1.drewN nq) := hb1.trans ((below_drewN (Below.refl _ _) _).mono hb1.size)
  exact ⟨rfl, PrAt.next (BoxAt.below HP.out hb2), (Chg.of_below hb2).trans (Chg.of_set _ g 1 _ rfl)⟩

/-- A region whose last operation is a demand of the reader's that does not hold. -/
theorem wp_region_pdem {id : Nat} {Q : Exit → Act → World → Prop} {a : Act} {w : World} {l : List Oper} {base g i o : Nat} {p : ByteArray} (d s c : Tmp) {tys : Array TypeId} {ty : TypeId} {pos : String} {aft : Array Edge} (hP : PrAt w base g p i o)
    (ho : l.getLast? = some ⟨some d, .call { callee := .value (.func 126), args := #[.tmp s, .tmp c], argTypes := tys }, ty, pos, aft, none⟩)
    (hB : ∀ m, Region.lexB .any (l.dropLast ++ [fk m ⟨some d, .call { callee := .value (.func 126), args := #[.tmp s, .tmp c], argTypes := tys }, ty, pos, aft, none⟩]).toArray = true)
    (hB2 : waitsB l.dropLast ⟨some d, .call { callee := .value (.func 126), args := #[.tmp s, .tmp c], argTypes := tys }, ty, pos, aft, none⟩ [] d [s, c] = true)
    (hQ : ∀ (a' : Act) (w' : World), Below w.heap.size w w' → a'.defers = a.defers → Q (.panic [{ v := pfV 2 i, recovered := false }]) a' w')
    (h : ∀ m, wpQuiet Try.prog (l.dropLast ++ [fk m ⟨some d, .call { callee := .value (.func 126), args := #[.tmp s, .tmp c], argTypes := tys }, ty, pos, aft, none⟩]).toArray (fun w' => ∃ n : Out w, w' = n.u) (fun a' => a'.tmps.getD d undef = m ∧ ∀ q ∈ [(s, Value.pointer (some ⟨g, 0, none⟩)), (c, .bool false)], a'.tmps.getD q.1 undef = q.2) (l.dropLast ++ [fk m ⟨some d, .call { callee := .value (.func 126), args := #[.tmp s, .tmp c], argTypes := tys }, ty, pos, aft, none⟩]) a) :
    (Code.region id l.toArray true).wp Try.prog Q a w := by
  have hl : l = l.dropLast ++ [⟨some d, .call { callee := .value (.func 126), args := #[.tmp s, .tmp c], argTypes := tys }, ty, pos, aft, none⟩] := by
    obtain ⟨l', hl'⟩ := List.getLast?_eq_some_iff.1 ho
    rw [hl']; simp
  refine wp_region_dies (C := fun w' => ∃ n : Out w, w' = n.u) l.dropLast _ [] d [(s, Value.pointer (some ⟨g, 0, none⟩)), (c, .bool false)] l hl (by kernel_rfl) hB hB2 rfl rfl ⟨⟨_, (Below.refl _ _).drew⟩, rfl⟩ h ?_
  rintro a' w' K ⟨n, rfl⟩ hd hp
  have h1 : a'.tmps.getD s undef = .pointer (some ⟨g, 0, none⟩) := hp (s, _) (by simp)
  have h2 : a'.tmps.getD c undef = .bool false := hp (c, _) (by simp)
  have h3 : a'.tmps[s]?.getD undef = .pointer (some ⟨g, 0, none⟩) := by rw [← Array.getD_eq_getD_getElem?]; exact h1
  have h4 : a'.tmps[c]?.getD undef = .bool false := by rw [← Array.getD_eq_getD_getElem?]; exact h2
  unfold Oper.wp
  have hrun : (execOp a'.eval ⟨some d, .call { callee := .value (.func 126), args := #[.tmp s, .tmp c], argTypes := tys }, ty, pos, aft, none⟩).run Try.prog n.u = .ok (.enter 126 #[.pointer (some ⟨g, 0, none⟩), .bool false]) n.u := by
    simp [execOp, h3, h4, go_sem, Act.eval, Try.func126]
  rw [hrun, Oper.upon_enter]
  refine (pdem_no (BoxAt.below hP n.out)).mono ?_
  rintro e w'' ⟨rfl, rfl⟩
  exact hQ a' n.u n.out hd
theorem pslots2 {a' : Act} {s t : Tmp} {x y : Value} (h : a'.tmps.getD s undef = x) (h2 : a'.tmps.getD t undef = y) : ∀ p ∈ [(s, x), (t, y)], a'.tmps.getD p.1 undef = p.2 := by
  intro p hp
  rcases List.mem_cons.1 hp with rfl | hp
  · exact h
  · rcases List.mem_cons.1 hp with rfl | hp
    · exact h2
    · cases hp

set_option maxHeartbeats 2000000 in
theorem ptake_no {base g i o : Nat} {p : ByteArray} {w : World} (h : PrAt w base g p i o) (hp : p.size ≤ 200) (hx : ¬ i < p.size) :
    Calls Try.prog 135 #[.pointer (some ⟨g, 0, none⟩)] w fun e w' => e = Pf 2 i ∧ Below w.heap.size w w' := by
  have HP : Hid (PrAt w base g p i o) := h
  have hlt := h.lt.2
  have c0 := h.cell (j := 0) rfl
  have c1 := h.cell (j := 1) rfl
  have e0 : ∀ n : Out w, n.u.cell? ⟨g, 0, none⟩ = some (.string p) := fun n => (n.out.cell (p := ⟨g, 0, none⟩) hlt).trans c0
  have e1 : ∀ n : Out w, n.u.cell? ⟨g, 1, none⟩ = some (.int .i64 (i : Int)) := fun n => (n.out.cell (p := ⟨g, 1, none⟩) hlt).trans c1
  have z1 : ¬ (i : Int) < (p.size : Int) := by omega
  clear h c0 c1
  go_enter Try.func135, Try.ntmps135
  go_upto_region 1 with fail
  refine wp_region_pdem 15 4 14 HP.out rfl (fun m => by kernel_rfl) (by kernel_rfl) ?q ?_
  case q => exact fun a' w' hb hd => ⟨hd, rfl, hb⟩
  intro m
  dsimp only [List.dropLast, fk, List.cons_append, List.nil_append]
  repeat (go_big_quiet_step (rfl))
  refine wpQuiet_nil ?_
  exact ⟨rfl, pslots2 rfl rfl⟩
theorem ptake_core {base g i o : Nat} {p : ByteArray} {w : World} (h : PrAt w base g p i o) (hp : p.size ≤ 200) (hi : i ≤ p.size) :
    Calls Try.prog 135 #[.pointer (some ⟨g, 0, none⟩)] w fun e w' => Chg (fun k => k = g) w w' ∧
      ((∃ x : UInt8, (sb p)[i]? = some x ∧ e = .returned (.int .u8 (x.toNat : Int)) ∧ PrAt w' base g p (i + 1) o) ∨ ((sb p)[i]? = none ∧ e = Pf 2 i)) := by
  by_cases hx : i < p.size
  · obtain ⟨x, hx⟩ : ∃ x, (sb p)[i]? = some x := ⟨_, List.getElem?_eq_getElem (by rw [sb_len]; exact hx)⟩
    exact (ptake_yes h hp hx).mono fun e w' ⟨he, h1, h2⟩ => ⟨h2, .inl ⟨x, hx, he, h1⟩⟩
  · exact (ptake_no h hp hx).mono fun e w' ⟨he, h1⟩ => ⟨Chg.of_below h1, .inr ⟨List.getElem?_eq_none (by rw [sb_len]; omega), he⟩⟩

set_option maxHeartbeats 2000000 in
theorem pskip_core {base g i o : Nat} {p : ByteArray} (c : UInt8) {w : World} (h : PrAt w base g p i o) (hp : p.size ≤ 200) :
    Calls Try.prog 130 #[.pointer (some ⟨g, 0, none⟩), .int .u8 (c.toNat : Int)] w fun e w' => Chg (fun k => k = g) w w' ∧
      (((sb p)[i]? = some c ∧ e = .returned (.bool true) ∧ PrAt w' base g p (i + 1) o) ∨ (¬ (sb p)[i]? = some c ∧ e = .returned (.bool false) ∧ PrAt w' base g p i o)) := by
  have HP : Hid (PrAt w base g p i o) := h
  have hlt := h.lt.2
  have c0 := h.cell (j := 0) rfl
  have c1 := h.cell (j := 1) rfl
  have e0 : ∀ n : Out w, n.u.cell? ⟨g, 0, none⟩ = some (.string p) := fun n => (n.out.cell (p := ⟨g, 0, none⟩) hlt).trans c0
  have e1 : ∀ n : Out w, n.u.cell? ⟨g, 1, none⟩ = some (.int .i64 (i : Int)) := fun n => (n.out.cell (p := ⟨g, 1, none⟩) hlt).trans c1
  clear h c0 c1
  by_cases hi : i < p.size
  · obtain ⟨x, hx⟩ : ∃ x, (sb p)[i]? = some x := ⟨_, List.getElem?_eq_getElem (by rw [sb_len]; exact hi)⟩
    obtain ⟨_, gx⟩ := sb_get hx
    have z1 : (i : Int) < (p.size : Int) := by omega
    by_cases hxc : x = c
    · subst hxc
      have HF : Hid ((sb p)[i]? = some x) := hx
      clear hx
      go_enter Try.func130, Try.ntmps130
      go_upto_region 1 with fail
      refine wp_region_out (by kernel_rfl) (by kernel_rfl) ?_
      repeat (go_big_quiet_step (rfl))
      refine wpQuiet_nil ?_
      rintro w1 ⟨⟨wx, hb1⟩, rfl⟩
      have HP1 : Hid (PrAt w1 base g p i o) := BoxAt.below HP.out hb1
      have c1 := HP1.out.cell (j := 1) rfl
      have f1 := HP1.out.frozen 1
      clear e0 e1
      go_wp2_with fail
      go_ret
      exact ⟨(Chg.of_below hb1).trans (Chg.of_set _ g 1 _ rfl), .inl ⟨HF.out, rfl, PrAt.next HP1.out⟩⟩
    · have HF : Hid (¬ (sb p)[i]? = some c) := by
        show ¬ (sb p)[i]? = some c
        rw [hx]
        exact fun q => hxc (Option.some.inj q)
      have z2 : ¬ (x.toNat : Int) = (c.toNat : Int) := fun q => hxc (UInt8.toNat_inj.1 (by omega))
      clear hx hxc
      go_enter Try.func130, Try.ntmps130
      go_upto_region 1 with fail
      refine wp_region_out (by kernel_rfl) (by kernel_rfl) ?_
      repeat (go_big_quiet_step (rfl))
      refine wpQuiet_nil ?_
      rintro w1 ⟨⟨wx, hb1⟩, rfl⟩
      have HP1 : Hid (PrAt w1 base g p i o) := BoxAt.below HP.out hb1
      clear e0 e1
      go_wp2_with fail
      go_ret
      exact ⟨Chg.of_below hb1, .inr ⟨HF.out, congrArg (fun b => Ending.returned (.bool b)) (beq_eq_false_iff_ne.2 z2), HP1.out⟩⟩
  · have z1 : ¬ (i : Int) < (p.size : Int) := by omega
    have HF : Hid (¬ (sb p)[i]? = some c) := by
      show ¬ (sb p)[i]? = some c
      rw [List.getElem?_eq_none (by rw [sb_len]; omega)]
      exact fun q => by cases q
    go_enter Try.func130, Try.ntmps130
    go_upto_region 1 with fail
    refine wp_region_out (by kernel_rfl) (by kernel_rfl) ?_
    repeat (go_big_quiet_step (rfl))
    refine wpQuiet_nil ?_
    rintro w1 ⟨⟨wx, hb1⟩, rfl⟩
    have HP1 : Hid (PrAt w1 base g p i o) := BoxAt.below HP.out hb1
    clear e0 e1
    go_wp2_with fail
    go_ret
    first
      | exact ⟨Chg.of_below hb1, .inr ⟨HF.out, rfl, HP1.out⟩⟩
      | exact ⟨Chg.of_below hb1, rfl, HP1.out⟩
end Go.Proofs.Ythkmecppjhcidac
