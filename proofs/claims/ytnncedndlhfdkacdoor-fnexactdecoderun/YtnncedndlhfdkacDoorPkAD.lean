import Derived.Deep.QuietTactic
import Derived.BigQuiet
import Derived.Deep.AppendLies
import Derived.Test.YtnncedndlhfdkacDoorPkAC
import Derived.Test.YtnncedndlhfdkacDoorPkAB
import Derived.Test.YtnncedndlhfdkacDoorPkAA
/-
  The entries of a block, read (mathematics).
-/
namespace Go.Proofs.YtnncedndlhfdkacDoor
set_option linter.unusedVariables false
set_option linter.unusedSimpArgs false

def getEnt (before t : List UInt8) : Option (Ent × List UInt8) :=
  match getNum t with
  | none => none
  | some (n, t1) =>
    match getStr t1 with
    | none => none
    | some (rest, t2) =>
      if before.length < n then none else
      match getStr t2 with
      | none => none
      | some (fam, t3) =>
        match getStr t3 with
        | none => none
        | some (qual, t4) =>
          match getNum t4 with
          | none => none
          | some (ts, t5) =>
            match getNum t5 with
            | none => none
            | some (kind, t6) =>
              match getStr t6 with
              | none => none
              | some (val, t7) =>
                if 2 < kind ∨ ¬ shared before (before.take n ++ rest) = n ∨ (⟨ba (before.take n ++ rest), ba fam, ba qual, (ts : Int), (kind : Int), ba val⟩ : Ent).vld = false then none
                else some (⟨ba (before.take n ++ rest), ba fam, ba qual, (ts : Int), (kind : Int), ba val⟩, t7)
def getEnts : Nat → List UInt8 → List UInt8 → Option (List Ent × List UInt8)
  | 0, _, t => some ([], t)
  | k + 1, b, t =>
    match getEnt b t with
    | none => none
    | some (e, t1) =>
      match getEnts k (bl e.row) t1 with
      | none => none
      | some (l, t2) => some (e :: l, t2)
def preE (l : List Ent) (o : Option (List Ent × List UInt8)) : Option (List Ent × List UInt8) :=
  match o with
  | none => none
  | some (l', t) => some (l ++ l', t)
theorem preE_nil (o : Option (List Ent × List UInt8)) : preE [] o = o := by
  cases o with
  | none => rfl
  | some q => obtain ⟨l, t⟩ := q; rfl
/-- The entries read so far and what follows. -/
def EntsTo (K : Nat) (t0 : List UInt8) (k : Nat) (l : List Ent) (bf t : List UInt8) : Prop := k ≤ K ∧ l.length = k ∧ bf = lastRow [] l ∧ getEnts K [] t0 = preE l (getEnts (K - k) bf t)
theorem entsTo_zero (K : Nat) (t0 : List UInt8) : EntsTo K t0 0 [] [] t0 := ⟨Nat.zero_le _, rfl, rfl, by rw [preE_nil]; rfl⟩
theorem EntsTo.more {K : Nat} {t0 : List UInt8} {k : Nat} {l : List Ent} {bf t : List UInt8} (h : EntsTo K t0 k l bf t) (hk : k < K) {e : Ent} {t1 : List UInt8} (ho : getEnt bf t = some (e, t1)) : EntsTo K t0 (k + 1) (l ++ [e]) (bl e.row) t1 := by
  refine ⟨hk, by rw [List.length_append, h.2.1]; rfl, (lastRow_snoc _ _ _).symm, ?_⟩
  rw [h.2.2.2, show K - k = (K - (k + 1)) + 1 by omega, getEnts, ho]
  simp only []
  cases getEnts (K - (k + 1)) (bl e.row) t1 with
  | none => rfl
  | some q => obtain ⟨l', t'⟩ := q; simp [preE]
theorem EntsTo.stop {K : Nat} {t0 : List UInt8} {k : Nat} {l : List Ent} {bf t : List UInt8} (h : EntsTo K t0 k l bf t) (hk : k < K) (ho : getEnt bf t = none) : getEnts K [] t0 = none := by
  rw [h.2.2.2, show K - k = (K - (k + 1)) + 1 by omega, getEnts, ho]
  rfl
theorem EntsTo.done {K : Nat} {t0 : List UInt8} {l : List Ent} {bf t : List UInt8} (h : EntsTo K t0 K l bf t) : getEnts K [] t0 = some (l, t) := by
  rw [h.2.2.2, Nat.sub_self]
  simp [getEnts, preE]
/-- What is read fits its types. -/
theorem getEnt_ok {b t : List UInt8} {e : Ent} {t1 : List UInt8} (h : getEnt b t = some (e, t1)) : e.vld = true := by
  unfold getEnt at h
  repeat (split at h; · cases h)
  simp only [Option.some.injEq, Prod.mk.injEq] at h
  obtain ⟨rfl, rfl⟩ := h
  next hc =>
  rw [not_or, not_or] at hc
  simpa using hc.2.2
theorem getEnt_ent {b : List UInt8} {e : Ent} (hv : e.vld = true) (hok : e.ok) (t : List UInt8) : getEnt b (entB b e ++ t) = some (e, t) := by
  obtain ⟨v1, v2, v3, v4, v5, v6, v7, v8⟩ := vld_parts hv
  have hts := wf_u64 hok.ts
  have hs := shared_le b (bl e.row)
  have hs2 := hs.2
  rw [bl_len] at hs2
  have hrow : b.take (shared b (bl e.row)) ++ (bl e.row).drop (shared b (bl e.row)) = bl e.row := by rw [shared_take, List.take_append_drop]
  have e1 : ((e.ts.toNat : Nat) : Int) = e.ts := Int.toNat_of_nonneg hts.1
  have e2 : ((e.kind.toNat : Nat) : Int) = e.kind := Int.toNat_of_nonneg v7
  have he : (⟨ba (bl e.row), ba (bl e.fam), ba (bl e.qual), ((e.ts.toNat : Nat) : Int), ((e.kind.toNat : Nat) : Int), ba (bl e.val)⟩ : Ent) = e := by rw [ba_bl, ba_bl, ba_bl, ba_bl, e1, e2]
  unfold entB getEnt
  simp only [List.append_assoc]
  rw [getNum_num (by omega)]
  simp only []
  rw [getStr_str (by rw [List.length_drop, bl_len]; omega)]
  simp only []
  rw [if_neg (by omega), getStr_str (by rw [bl_len]; omega)]
  simp only []
  rw [getStr_str (by rw [bl_len]; omega)]
  simp only []
  rw [getNum_num (by omega)]
  simp only []
  rw [getNum_num (by omega)]
  simp only []
  rw [getStr_str (by rw [bl_len]; omega)]
  simp only []
  rw [hrow, he, if_neg]
  rintro (h | h | h)
  · omega
  · exact h rfl
  · rw [hv] at h; cases h
theorem getEnts_body : ∀ (es : List Ent) (b t : List UInt8), (∀ e ∈ es, e.vld = true) → (∀ e ∈ es, e.ok) → getEnts es.length b (body b es ++ t) = some (es, t)
  | [], b, t, _, _ => by simp [getEnts, body]
  | e :: es, b, t, hv, hok => by
    rw [List.length_cons, getEnts, body, List.append_assoc, getEnt_ent (hv e (by simp)) (hok e (by simp))]
    simp only []
    rw [getEnts_body es (bl e.row) t (fun x hx => hv x (by simp [hx])) (fun x hx => hok x (by simp [hx]))]
/-- What l2Entries answers. -/
def entEnd (row : List UInt8) (o : Option (List Ent × List UInt8)) : Int × List Ent :=
  match o with
  | none => (3, [])
  | some (es, t) => if t ≠ [] ∨ row0 es ≠ row then (3, []) else (0, es)
def blkM (b : List UInt8) (k : Blk) : Int × List Ent :=
  if (crc ((b.drop k.fr).take (k.til - k.fr))).toNat ≠ fixAt b k.til then (2, []) else entEnd (bl k.row) (getEnts k.count [] ((b.drop k.fr).take (k.til - k.fr)))
/-- The blocks one behind the other, up to the first error. -/
def decBlks (b : List UInt8) : List Blk → Int × List Ent
  | [] => (0, [])
  | k :: ks => if (blkM b k).1 ≠ 0 then ((blkM b k).1, []) else if (decBlks b ks).1 ≠ 0 then ((decBlks b ks).1, []) else (0, (blkM b k).2 ++ (decBlks b ks).2)
open Classical in
noncomputable def decM (b : List UInt8) : Int × List Ent :=
  if (idxM b).1 ≠ 0 then ((idxM b).1, []) else if (decBlks b (idxM b).2).1 ≠ 0 then ((decBlks b (idxM b).2).1, []) else if GoodR (decBlks b (idxM b).2).2 then (0, (decBlks b (idxM b).2).2) else (3, [])
end Go.Proofs.YtnncedndlhfdkacDoor

/-
  (*impl.byteReader).text, row.
-/
namespace Go.Proofs.YtnncedndlhfdkacDoor
open Go.ChangeShapes Go.WideShapes Go.ChangeAt Go.RowKit Go.Deep
set_option linter.unusedVariables false
set_option linter.unusedSimpArgs false
set_option maxRecDepth 100000

/-- What reading a text leaves. -/
def StrP (w : World) (base g b : Nat) (xs : List UInt8) (code : Int) (e : Ending) (w' : World) : Prop :=
  Chg (fun k => k = g) w w' ∧ ((∃ (s : ByteArray) (t : List UInt8), getStr xs = some (bl s, t) ∧ e = .returned (.string s) ∧ s.size + t.length ≤ xs.length ∧ RdE w' base g b t code) ∨ (getStr xs = none ∧ e = Corr code))
set_option maxHeartbeats 2000000 in
theorem text_core (base g b : Nat) (xs : List UInt8) (code : Int) (w : World) (h : RdE w base g b xs code) :
    Calls Tryd.prog 52 #[.pointer (some ⟨g, 0, none⟩)] w fun e w' => StrP w base g b xs code e w' := by
  have HR : Hid (RdE w base g b xs code) := h
  clear h
  go_enter Tryd.func52, Tryd.ntmps52
  go_wp2_with fail
  refine (number_core base g b xs code _ HR.out).mono ?_
  rintro e w1 ⟨hC1, (⟨n, t, hn, rfl, hn2, ht, hR1⟩ | ⟨hn, rfl⟩)⟩
  · obtain ⟨off, cap, hA⟩ := hR1
    have HA : Hid (RdAt w1 base g b off cap t code) := hA
    have HG : Hid (getNum xs = some (n, t) ∧ t.length ≤ xs.length ∧ n < 2 ^ 64) := ⟨hn, ht, hn2⟩
    have HC1 : Hid (Chg (fun k => k = g) w w1) := hC1
    clear hn hA hC1 hn2 ht
    by_cases hle : n ≤ t.length
    · obtain ⟨s, hsd⟩ : ∃ s : ByteArray, s = (⟨t.toArray⟩ : ByteArray).extract 0 (0 + n) := ⟨_, rfl⟩
      have hbs : bl s = t.take n := by
        rw [hsd]
        show ((⟨t.toArray⟩ : ByteArray).extract 0 (0 + n)).data.toList = _
        rw [Lib.extract_data, Nat.add_sub_cancel_left]
        rfl
      have HG2 : Hid (getStr xs = some (bl s, t.drop n) ∧ s.size + (t.drop n).length ≤ xs.length) := by
        have h1 : s.size = (t.take n).length := by rw [← hbs, bl_len]
        refine ⟨?_, ?_⟩
        · show getStr xs = _
          unfold getStr
          rw [HG.out.1, hbs]
          simp only []
          rw [if_pos hle]
        · rw [h1, List.length_take, List.length_drop]; have := HG.out.2.1; omega
      have hsz : (⟨t.toArray⟩ : ByteArray).size = t.length := by show t.toArray.size = _; simp
      go_wp2_with fail
      refine (take_ok base g b off cap n t code _ HA.out hle).mono ?_
      rintro e w2 ⟨rfl, hA2, hC2⟩
      have hcv := Lib.run_convert_window (P := Tryd.prog) w2 22 5 9 Tryd.underlying22 Tryd.underlying5 Tryd.underlying9 b off ⟨t.toArray⟩ (bytes_of_bys (HA.out.bys.chgR hC2 HA.out.lt HA.out.ne)) 0 n cap (by omega)
      rw [← hsd, Nat.add_zero] at hcv
      have HW : Hid (Chg (fun k => k = g) w w2 ∧ RdAt w2 base g b (off + n) (cap - n) (t.drop n) code) := ⟨HC1.out.trans hC2, hA2⟩
      clear hsd hbs hsz hA2 hC2
      go_wp2_with fail
      go_ret
      exact ⟨HW.out.1, .inl ⟨s, t.drop n, HG2.out.1, rfl, HG2.out.2, ⟨_, _, HW.out.2⟩⟩⟩
    · have HG2 : Hid (getStr xs = none) := by
        show getStr xs = _
        unfold getStr
        rw [HG.out.1]
        simp only []
        rw [if_neg hle]
      go_wp2_with fail
      refine (take_bad base g b off cap n t code _ HA.out (by omega) HG.out.2.2).mono ?_
      rintro e w2 ⟨rfl, hB2⟩
      exact ⟨rfl, HC1.out.trans (Chg.of_below hB2), .inr ⟨HG2.out, rfl⟩⟩
  · have HG2 : Hid (getStr xs = none) := by
      show getStr xs = _
      unfold getStr
      rw [hn]
    exact ⟨rfl, hC1, .inr ⟨HG2.out, rfl⟩⟩

theorem text_ok (base g b : Nat) (xs : List UInt8) (code : Int) (w : World) (h : RdE w base g b xs code) (s : ByteArray) (t : List UInt8) (hs : getStr xs = some (bl s, t)) :
    Calls Tryd.prog 52 #[.pointer (some ⟨g, 0, none⟩)] w fun e w' => e = .returned (.string s) ∧ s.size + t.length ≤ xs.length ∧ RdE w' base g b t code ∧ Chg (fun k => k = g) w w' := by
  refine (text_core base g b xs code w h).mono ?_
  rintro e w' ⟨hC, (⟨s', t', h1, rfl, h2, h3⟩ | ⟨h1, _⟩)⟩
  · rw [hs] at h1
    simp only [Option.some.injEq, Prod.mk.injEq] at h1
    obtain ⟨h4, rfl⟩ := h1
    have : s = s' := by rw [← ba_bl s, ← ba_bl s', h4]
    subst this
    exact ⟨rfl, h2, h3, hC⟩
  · rw [hs] at h1; cases h1
theorem text_bad (base g b : Nat) (xs : List UInt8) (code : Int) (w : World) (h : RdE w base g b xs code) (hs : getStr xs = none) :
    Calls Tryd.prog 52 #[.pointer (some ⟨g, 0, none⟩)] w fun e w' => e = Corr code ∧ Chg (fun k => k = g) w w' := by
  refine (text_core base g b xs code w h).mono ?_
  rintro e w' ⟨hC, (⟨s', t', h1, rfl, h2, h3⟩ | ⟨_, h1⟩)⟩
  · rw [hs] at h1; cases h1
  · exact ⟨h1, hC⟩
/-- A region in which a text cannot be read. -/
theorem wp_region_text {id : Nat} {Q : Exit → Act → World → Prop} {a : Act} {w : World} {l : List Oper} (n : Nat) (d s : Tmp) (g : Nat) (code : Int) {tys : Array TypeId} {ty : TypeId} {pos : String} {aft : Array Edge}
    (ho : l = l.take n ++ ⟨some d, .call { callee := .value (.func 52), args := #[.tmp s], argTypes := tys }, ty, pos, aft, none⟩ :: l.drop (n + 1))
    (hB : ∀ m, Region.lexB .any (l.take n ++ (⟨some d, .call { callee := .value (.func 52), args := #[.tmp s], argTypes := tys }, ty, pos, aft, none⟩ :: l.drop (n + 1)).map (fk m)).toArray = true)
    (hB2 : waitsB (l.take n) ⟨some d, .call { callee := .value (.func 52), args := #[.tmp s], argTypes := tys }, ty, pos, aft, none⟩ (l.drop (n + 1)) d [s] = true)
    (hc : ∀ w', Below w.heap.size w w' → Calls Tryd.prog 52 #[.pointer (some ⟨g, 0, none⟩)] w' fun e w'' => e = Corr code ∧ ∀ a' : Act, a'.defers = a.defers → Q (.panic [{ v := corrV code, recovered := false }]) a' w'')
    (h : ∀ m, wpQuiet Tryd.prog (l.take n ++ (⟨some d, .call { callee := .value (.func 52), args := #[.tmp s], argTypes := tys }, ty, pos, aft, none⟩ :: l.drop (n + 1)).map (fk m)).toArray (fun w' => ∃ n : Out w, w' = n.u) (fun a' => a'.tmps.getD d undef = m ∧ ∀ p ∈ [(s, Value.pointer (some ⟨g, 0, none⟩))], a'.tmps.getD p.1 undef = p.2) (l.take n ++ (⟨some d, .call { callee := .value (.func 52), args := #[.tmp s], argTypes := tys }, ty, pos, aft, none⟩ :: l.drop (n + 1)).map (fk m)) a) :
    (Code.region id l.toArray true).wp Tryd.prog Q a w := by
  refine wp_region_dies (C := fun w' => ∃ n : Out w, w' = n.u) (l.take n) _ (l.drop (n + 1)) d [(s, .pointer (some ⟨g, 0, none⟩))] l ho (by kernel_rfl) hB hB2 rfl rfl ⟨⟨_, (Below.refl _ _).drew⟩, rfl⟩ h ?_
  rintro a' w' K ⟨n, rfl⟩ hd hp
  have h1 : a'.tmps.getD s undef = .pointer (some ⟨g, 0, none⟩) := hp (s, _) (by simp)
  unfold Oper.wp
  have hrun : (execOp a'.eval ⟨some d, .call { callee := .value (.func 52), args := #[.tmp s], argTypes := tys }, ty, pos, aft, none⟩).run Tryd.prog n.u = .ok (.enter 52 #[.pointer (some ⟨g, 0, none⟩)]) n.u := by
    have h2 : a'.tmps[s]?.getD undef = .pointer (some ⟨g, 0, none⟩) := by rw [← Array.getD_eq_getD_getElem?]; exact h1
    simp [execOp, h2, go_sem, Act.eval, Tryd.func52]
  rw [hrun, Oper.upon_enter]
  refine (hc n.u n.out).mono ?_
  rintro e w'' ⟨rfl, hq⟩
  exact hq a' hd

/-- A Row read. -/
def getRow (before xs : List UInt8) : Option (List UInt8 × List UInt8) :=
  match getNum xs with
  | none => none
  | some (n, t1) =>
    if before.length < n then none else
    match getStr t1 with
    | none => none
    | some (rest, t2) => if shared before (before.take n ++ rest) = n then some (before.take n ++ rest, t2) else none
def RowP (w : World) (base g b : Nat) (bf : ByteArray) (xs : List UInt8) (code : Int) (e : Ending) (w' : World) : Prop :=
  Chg (fun k => k = g) w w' ∧ ((∃ (s : ByteArray) (t : List UInt8), getRow (bl bf) xs = some (bl s, t) ∧ e = .returned (.string s) ∧ s.size + t.length ≤ bf.size + xs.length ∧ t.length ≤ xs.length ∧ RdE w' base g b t code) ∨ (getRow (bl bf) xs = none ∧ e = Corr code))
set_option maxHeartbeats 2000000 in
theorem rdRow_core (base g b : Nat) (bf : ByteArray) (xs : List UInt8) (code : Int) (w : World) (h : RdE w base g b xs code) (hbf : bf.size ≤ 2 ^ 31) (hxs : xs.length ≤ 2 ^ 30) :
    Calls Tryd.prog 53 #[.pointer (some ⟨g, 0, none⟩), .string bf] w fun e w' => RowP w base g b bf xs code e w' := by
  have HR : Hid (RdE w base g b xs code) := h
  clear h
  go_enter Tryd.func53, Tryd.ntmps53
  go_wp2_with fail
  refine (number_core base g b xs code _ HR.out).mono ?_
  rintro e w1 ⟨hC1, (⟨n, t, hn, rfl, hn2, ht, hR1⟩ | ⟨hn, rfl⟩)⟩
  · have HG : Hid (getNum xs = some (n, t) ∧ t.length ≤ xs.length ∧ n < 2 ^ 64) := ⟨hn, ht, hn2⟩
    have HC1 : Hid (Chg (fun k => k = g) w w1) := hC1
    obtain ⟨off, cap, hA⟩ := hR1
    have HA : Hid (RdAt w1 base g b off cap t code) := hA
    have c1 := hA.box.cell (j := 1) rfl
    clear hn hA hC1 hn2 ht
    by_cases hle : n ≤ bf.size
    · have z1 : (n : Int) ≤ (bf.size : Int) := by omega
      have z2 : (bf.size : Int) ≤ 2147483648 := by omega
      go_wp2_with (go_at_call 19; refine (demand_yes _ _).mono ?_; rintro e w3 ⟨rfl, rfl⟩)
      clear c1
      cases hg : getStr t with
      | none =>
        have HG2 : Hid (getRow (bl bf) xs = none ∧ getStr t = none) := by
          refine ⟨?_, hg⟩
          show getRow (bl bf) xs = none
          unfold getRow
          rw [HG.out.1]
          simp only []
          rw [if_neg (by rw [bl_len]; omega), hg]
        clear hg
        refine wp_region_text 4 23 22 g code rfl (fun m => by kernel_rfl) (by kernel_rfl) ?q ?_
        case q =>
          intro w' hb
          refine (text_bad base g b t code w' ⟨_, _, HA.out.chg (S := fun _ => False) (Chg.of_below hb) (fun q => q) (fun q => q)⟩ HG2.out.2).mono ?_
          rintro e w'' ⟨rfl, hC⟩
          exact ⟨rfl, fun a' hd => ⟨hd, HC1.out.trans ((Chg.of_below hb).trans hC), .inr ⟨HG2.out.1, rfl⟩⟩⟩
        intro m
        dsimp only [List.take, List.drop, List.map, fk, List.cons_append, List.nil_append]
        repeat (go_big_quiet_step (rfl))
        refine wpQuiet_nil ?_
        exact ⟨rfl, slots1 rfl⟩
      | some p =>
        obtain ⟨rl, t2⟩ := p
        obtain ⟨rest, hrest⟩ : ∃ rest : ByteArray, rest = ba rl := ⟨_, rfl⟩
        have HG2 : Hid (getStr t = some (bl rest, t2)) := by rw [hrest, bl_ba]; exact hg
        clear hg hrest
        have HE : Hid (∀ w', w' = w3.drew → RdE w' base g b t code) := fun w' hw' => by
          rw [hw']
          exact ⟨_, _, HA.out.chg (S := fun _ => False) (Chg.of_below (Below.refl _ _).drew) (fun q => q) (fun q => q)⟩
        have hrs : rest.size ≤ 1073741824 := by
          obtain ⟨_, h2⟩ := getStr_iff.1 HG2.out
          have h3 : (bl rest).length ≤ t.length := by rw [h2]; unfold strB; simp; omega
          rw [bl_len] at h3
          have := HG.out.2.1
          omega
        have hbs : bf.size ≤ 2147483648 := by omega
        go_region_with (go_at_call 52; refine (text_ok base g b t code _ (HE.out _ rfl) rest t2 HG2.out).mono ?_; rintro e w4 ⟨rfl, hsz, hR4, hC4⟩)
        obtain ⟨rw', hrw⟩ : ∃ s : ByteArray, s = bf.extract 0 n ++ rest := ⟨_, rfl⟩
        have hRow : bl rw' = (bl bf).take n ++ bl rest := by
          rw [hrw]
          show (bf.extract 0 n ++ rest).data.toList = _
          rw [ByteArray.data_append, Array.toList_append, Lib.extract_data]
          simp
        have hrsz : rw'.size = n + rest.size := by
          rw [← bl_len, hRow, List.length_append, bl_len, List.length_take, bl_len]
          omega
        obtain ⟨sh, hsh⟩ : ∃ sh, sh = shared (bl bf) (bl rw') := ⟨_, rfl⟩
        have HG3 : Hid (getRow (bl bf) xs = if sh = n then some (bl rw', t2) else none) := by
          show getRow (bl bf) xs = _
          unfold getRow
          rw [HG.out.1]
          simp only []
          rw [if_neg (by rw [bl_len]; omega), HG2.out]
          simp only []
          rw [← hRow, hsh]
        have HS : Hid (∀ w', Calls Tryd.prog 62 #[.string bf, .string rw'] w' fun e w'' => e = .returned (.int .i64 (sh : Int)) ∧ Below w'.heap.size w' w'') := fun w' => by
          rw [hsh]
          exact implShared_core bf rw' w' (by unfold maxLen; omega) (by unfold maxLen; omega)
        obtain ⟨off4, cap4, hA4⟩ := hR4
        have HA4 : Hid (RdAt w4 base g b off4 cap4 t2 code ∧ Chg (fun k => k = g) w w4 ∧ rw'.size + t2.length ≤ bf.size + xs.length ∧ t2.length ≤ xs.length) := by
          have := HG.out.2.1
          exact ⟨hA4, (HC1.out.trans (Chg.of_below (Below.refl _ _).drew)).trans hC4, by omega, by omega⟩
        have c1 := hA4.box.cell (j := 1) rfl
        have glt := hA4.box.lt.2
        have e1 : ∀ n : Out w4, n.u.cell? ⟨g, 1, none⟩ = some (.int .i64 code) := fun n => (n.out.cell (p := ⟨g, 1, none⟩) glt).trans c1
        have hn9 : (n : Int) ≤ 2147483648 := by omega
        rw [← hrw]
        clear hrw hRow hsh hA4 hC4 hsz c1 glt hrsz hrs hbs HE HG2
        simp only [List.getElem_toArray, List.getElem_cons_succ, List.getElem_cons_zero, Act.put, List.setIfInBounds_toArray, List.set_cons_succ, List.set_cons_zero]
        go_upto_region 4 with fail
        by_cases hsn : sh = n
        · subst hsn
          refine wp_region_out (by kernel_rfl) (by kernel_rfl) ?_
          repeat (go_big_quiet_step ((first | rfl | (go_at_call 62; exact Calls.out_of (HS.out _)) | (go_at_call 19; exact Calls.out_of ((demand_yes _ _).mono fun e w' ⟨he, hw⟩ => ⟨he, hw ▸ Below.refl _ _⟩)))))
          refine wpQuiet_nil ?_
          rintro wy ⟨⟨wx, hby⟩, rfl⟩
          go_wp2_with fail
          go_ret
          have h3 := HG3.out
          rw [if_pos trivial] at h3
          have hc := HA4.out.2.1.trans (Chg.of_below hby)
          exact ⟨hc, .inl ⟨rw', t2, h3, rfl, HA4.out.2.2.1, HA4.out.2.2.2, ⟨_, _, HA4.out.1.chg (S := fun _ => False) (Chg.of_below hby) (fun q => q) (fun q => q)⟩⟩⟩
        · have h3 := HG3.out
          rw [if_neg hsn] at h3
          have HF : Hid (getRow (bl bf) xs = none) := h3
          have z9 : ¬ (sh : Int) = (n : Int) := by omega
          clear h3 HG3 hsn
          refine wp_region_demand 35 30 (.tmp 34) code [(30, .bool false), (34, .int .i64 code)] rfl (fun m => by kernel_rfl) (by kernel_rfl) (fun a' h => ⟨h (30, _) (by simp), h (34, _) (by simp)⟩) ?q ?_
          case q => exact fun a' w' hb hd => ⟨hd, HA4.out.2.1.trans (Chg.of_below hb), .inr ⟨HF.out, rfl⟩⟩
          intro m
          dsimp only [List.dropLast, fk, List.cons_append, List.nil_append]
          repeat (go_big_quiet_step ((first | rfl | (go_at_call 62; exact Calls.out_of (HS.out _)))))
          refine wpQuiet_nil ?_
          exact ⟨rfl, slots2 (congrArg Value.bool (beq_eq_false_iff_ne.2 z9)) rfl⟩
    · have z1 : ¬ (n : Int) ≤ (bf.size : Int) := by omega
      have z2 : (bf.size : Int) ≤ 2147483648 := by omega
      have HG2 : Hid (getRow (bl bf) xs = none) := by
        show getRow (bl bf) xs = none
        unfold getRow
        rw [HG.out.1]
        simp only []
        rw [if_pos (by rw [bl_len]; omega)]
      go_wp2_with (go_at_call 19; refine (demand_no _ _).mono ?_; rintro e w3 ⟨rfl, rfl⟩)
      exact ⟨rfl, HC1.out, .inr ⟨HG2.out, rfl⟩⟩
  · have HG2 : Hid (getRow (bl bf) xs = none) := by
      show getRow (bl bf) xs = none
      unfold getRow
      rw [hn]
    exact ⟨rfl, hC1, .inr ⟨HG2.out, rfl⟩⟩
end Go.Proofs.YtnncedndlhfdkacDoor

/-
  An entry read in the program's order (mathematics).
-/
namespace Go.Proofs.YtnncedndlhfdkacDoor
set_option linter.unusedVariables false
set_option linter.unusedSimpArgs false

def eT5 (row fam qual : List UInt8) (ts kind : Nat) (t6 : List UInt8) : Option (Ent × List UInt8) :=
  match getStr t6 with
  | none => none
  | some (val, t7) => if 2 < kind ∨ (⟨ba row, ba fam, ba qual, (ts : Int), (kind : Int), ba val⟩ : Ent).vld = false then none else some (⟨ba row, ba fam, ba qual, (ts : Int), (kind : Int), ba val⟩, t7)
def eT4 (row fam qual : List UInt8) (ts : Nat) (t5 : List UInt8) : Option (Ent × List UInt8) :=
  match getNum t5 with
  | none => none
  | some (kind, t6) => eT5 row fam qual ts kind t6
def eT3 (row fam qual t4 : List UInt8) : Option (Ent × List UInt8) :=
  match getNum t4 with
  | none => none
  | some (ts, t5) => eT4 row fam qual ts t5
def eT2 (row fam t3 : List UInt8) : Option (Ent × List UInt8) :=
  match getStr t3 with
  | none => none
  | some (qual, t4) => eT3 row fam qual t4
def eT1 (row t2 : List UInt8) : Option (Ent × List UInt8) :=
  match getStr t2 with
  | none => none
  | some (fam, t3) => eT2 row fam t3
theorem getEnt_row (b xs : List UInt8) : getEnt b xs = match getRow b xs with | none => none | some (row, t) => eT1 row t := by
  unfold getRow getEnt
  cases getNum xs with
  | none => rfl
  | some p =>
    obtain ⟨n, t1⟩ := p
    simp only []
    cases getStr t1 with
    | none =>
      simp only []
      by_cases h : b.length < n
      · rw [if_pos h]
      · rw [if_neg h]
    | some q =>
      obtain ⟨rest, t2⟩ := q
      simp only []
      by_cases h : b.length < n
      · rw [if_pos h, if_pos h]
      · rw [if_neg h, if_neg h]
        by_cases hs : shared b (b.take n ++ rest) = n
        · rw [if_pos hs]
          simp only [hs, not_true_eq_false, false_or]
          unfold eT1
          cases getStr t2 with
          | none => rfl
          | some q1 =>
            obtain ⟨fam, t3⟩ := q1
            simp only [eT2]
            cases getStr t3 with
            | none => rfl
            | some q2 =>
              obtain ⟨qual, t4⟩ := q2
              simp only [eT3]
              cases getNum t4 with
              | none => rfl
              | some q3 =>
                obtain ⟨ts, t5⟩ := q3
                simp only [eT4]
                cases getNum t5 with
                | none => rfl
                | some q4 =>
                  obtain ⟨kind, t6⟩ := q4
                  simp only [eT5]
                  all_goals (cases getStr t6 <;> rfl)
        · rw [if_neg hs]
          simp only [hs, not_false_eq_true, true_or, or_true, if_true]
          cases getStr t2 with
          | none => rfl
          | some q1 =>
            simp only []
            cases getStr q1.2 with
            | none => rfl
            | some q2 =>
              simp only []
              cases getNum q2.2 with
              | none => rfl
              | some q3 =>
                simp only []
                cases getNum q3.2 with
                | none => rfl
                | some q4 =>
                  simp only []
                  cases getStr q4.2 <;> rfl
theorem vE_kind {r f q v : ByteArray} {k : Int} (h : k < 0 ∨ 2 < k) : vE r f q k v = false := by
  unfold vE
  simp
  omega
end Go.Proofs.YtnncedndlhfdkacDoor

/-
  spec.l1Into: an entry laid into an ordered list.
-/
namespace Go.Proofs.YtnncedndlhfdkacDoor
open Go.ChangeShapes Go.WideShapes Go.ChangeAt Go.RowKit Go.Deep
set_option linter.unusedVariables false

/-- One entry appended to a row of the call's own. -/
theorem wpList_append_ent {ops : Array Oper} {rest : List Oper} {o : Oper} {a : Act} {Q : Exit → Act → World → Prop} (w : World) (hgd : o.guard = none) (s x : Operand)
    (ho : o.op = .call { callee := .builtin .append, args := #[s, x], argTypes := #[23, 23] })
    (base g cp n blk : Nat) (fs : List Ent) (e : Ent) (hs : a.eval s = .slice (some ⟨g, 0, none⟩) n cp) (hx : a.eval x = .slice (some ⟨blk, 0, none⟩) 1 1) (hn : n = fs.length) (hO : OwnE w base g cp fs)
    (hc : EntsAt w blk 0 [e]) (hlen : fs.length ≤ 2 ^ 30) (hbase : base ≤ w.heap.size)
    (h : ∀ g' cp' w', OwnE w' base g' cp' (fs ++ [e]) → w.grownBy w' (some g) → wpList Tryd.prog ops Q rest (a.put o.dst (.slice (some ⟨g', 0, none⟩) (n + 1) cp')) w') : wpList Tryd.prog ops Q (o :: rest) a w := by
  obtain ⟨i, hi, hz0, hz1, hz2⟩ := info_parts Tryd.infoEnt
  subst hn
  obtain ⟨c0, c1, c2, c3, c4, c5⟩ := hc 0 e rfl
  refine wpList_append_own w hgd s x 23 ho base 67 i _ 6 80 Tryd.underlying23 hi hz0 hz1 hz2 rfl (by decide) (.slice (some ⟨g, 0, none⟩) fs.length cp) fs.length (cellsE fs) hs hO ⟨blk, 0, none⟩ 1 1 (cellsE [e]) hx rfl ?_ ?_ ?_ ?_ hbase ?_
  · intro j u hu
    have hj : j < 6 := by
      have := (List.getElem?_eq_some_iff.1 hu).1
      rw [length_cellsE] at this
      simpa using this
    rw [Addr.add_mid, Nat.zero_add]
    simp only [Nat.zero_mul, Nat.zero_add] at c0 c1 c2 c3 c4 c5
    match j, hj, hu with
    | 0, _, hu => simp [cellsE] at hu; rw [← hu]; exact c0
    | 1, _, hu => simp [cellsE] at hu; rw [← hu]; exact c1
    | 2, _, hu => simp [cellsE] at hu; rw [← hu]; exact c2
    | 3, _, hu => simp [cellsE] at hu; rw [← hu]; exact c3
    | 4, _, hu => simp [cellsE] at hu; rw [← hu]; exact c4
    | 5, _, hu => simp [cellsE] at hu; rw [← hu]; exact c5
  · intro u hu
    simp [cellsE] at hu
    rcases hu with rfl | rfl | rfl | rfl | rfl | rfl <;> rfl
  · unfold maxLen; omega
  · omega
  · intro v' w' hown hgr hnil
    rw [← cellsE_append] at hown
    have hlen' : (fs ++ [e]).length = fs.length + 1 := by simp
    rcases hown.2 with ⟨hv, _⟩ | ⟨g', cap', cur, hv, h1, h2, h3⟩
    · have := (hnil.1 hv).1
      simp at this
    · subst hv
      exact h g' cap' w' (by unfold OwnE; rw [hlen']; exact hown) hgr

/-- An entry laid into an ordered list, in the place of one with the same key. -/
def intoG (e : Ent) : List Ent → Bool → List Ent
  | [], done => if done then [] else [e]
  | x :: r, done =>
    if keyCmp x e = -1 then x :: intoG e r done
    else if keyCmp x e = 0 then (if done then intoG e r true else e :: intoG e r true)
    else (if done then x :: intoG e r true else e :: x :: intoG e r true)
def into (L : List Ent) (e : Ent) : List Ent := intoG e L false

theorem length_intoG (e : Ent) : ∀ (L : List Ent) (d : Bool), (intoG e L d).length ≤ L.length + 1
  | [], d => by unfold intoG; split <;> simp
  | x :: r, d => by
    have h1 := length_intoG e r d
    have h2 := length_intoG e r true
    have h3 : ∀ (L : List Ent), (intoG e L true).length ≤ L.length := by
      intro L
      induction L with
      | nil => simp [intoG]
      | cons y s ih =>
        unfold intoG
        split
        · simp; omega
        · split
          · simp; omega
          · simp; omega
    have h4 := h3 r
    unfold intoG
    split
    · simp; omega
    · split
      · split <;> simp <;> omega
      · split <;> simp <;> omega

end Go.Proofs.YtnncedndlhfdkacDoor

/-
  The order of keys is a strict order; ordered lists with the same members are one.
-/
namespace Go.Proofs.YtnncedndlhfdkacDoor
set_option linter.unusedVariables false

theorem cmpB_zero : ∀ a b : List UInt8, Lib.compareBytes a b = 0 ↔ a = b
  | [], [] => by simp [Lib.compareBytes]
  | [], _ :: _ => by simp [Lib.compareBytes]
  | _ :: _, [] => by simp [Lib.compareBytes]
  | a :: x, b :: y => by
    unfold Lib.compareBytes
    by_cases h1 : a < b
    · rw [if_pos h1]
      constructor
      · intro h; cases h
      · intro h
        simp at h
        rw [h.1] at h1
        simp at h1
    · rw [if_neg h1]
      by_cases h2 : b < a
      · rw [if_pos h2]
        constructor
        · intro h; cases h
        · intro h
          simp at h
          rw [h.1] at h2
          simp at h2
      · rw [if_neg h2, cmpB_zero x y]
        have hab : a = b := by
          rw [UInt8.lt_iff_toNat_lt] at h1 h2
          exact UInt8.toNat_inj.1 (by omega)
        simp [hab]
theorem cmpB_neg : ∀ a b : List UInt8, Lib.compareBytes b a = -Lib.compareBytes a b
  | [], [] => by simp [Lib.compareBytes]
  | [], _ :: _ => by simp [Lib.compareBytes]
  | _ :: _, [] => by simp [Lib.compareBytes]
  | a :: x, b :: y => by
    unfold Lib.compareBytes
    have := cmpB_neg x y
    simp only [UInt8.lt_iff_toNat_lt]
    by_cases h1 : a.toNat < b.toNat
    · have h2 : ¬ b.toNat < a.toNat := by omega
      simp [h1, h2]
    · by_cases h2 : b.toNat < a.toNat
      · simp [h1, h2]
      · simp [h1, h2, this]
theorem cmpB_trans : ∀ a b c : List UInt8, Lib.compareBytes a b = -1 → Lib.compareBytes b c = -1 → Lib.compareBytes a c = -1
  | [], [], _ => by simp [Lib.compareBytes]
  | [], _ :: _, [] => by simp [Lib.compareBytes]
  | [], _ :: _, _ :: _ => by simp [Lib.compareBytes]
  | _ :: _, [], _ => by simp [Lib.compareBytes]
  | _ :: _, _ :: _, [] => by simp [Lib.compareBytes]
  | a :: x, b :: y, c :: z => by
    have ih := cmpB_trans x y z
    unfold Lib.compareBytes
    simp only [UInt8.lt_iff_toNat_lt]
    intro h1 h2
    by_cases h3 : a.toNat < c.toNat
    · simp [h3]
    · by_cases p1 : a.toNat < b.toNat
      · by_cases p2 : b.toNat < c.toNat
        · omega
        · by_cases p3 : c.toNat < b.toNat
          · simp [p2, p3] at h2
          · omega
      · by_cases p2 : b.toNat < a.toNat
        · simp [p1, p2] at h1
        · by_cases q1 : b.toNat < c.toNat
          · omega
          · by_cases q2 : c.toNat < b.toNat
            · simp [q1, q2] at h2
            · simp [p1, p2] at h1
              simp [q1, q2] at h2
              have r1 : ¬ c.toNat < a.toNat := by omega
              simp [h3, r1]
              exact ih h1 h2

theorem cB_zero {a b : ByteArray} : cB a b = 0 ↔ a = b := by
  unfold cB
  rw [cmpB_zero]
  constructor
  · intro h; cases a; cases b; simp at h; simpa using h
  · intro h; rw [h]
theorem cB_neg (a b : ByteArray) : cB b a = -cB a b := cmpB_neg _ _
theorem cB_trans {a b c : ByteArray} (h : cB a b = -1) (k : cB b c = -1) : cB a c = -1 := cmpB_trans _ _ _ h k

theorem tsCmp_neg (a b : Int) : tsCmp b a = -tsCmp a b := by
  unfold tsCmp; repeat' split
  all_goals omega
theorem kindCmp_neg (a b : Int) : kindCmp b a = -kindCmp a b := by
  unfold kindCmp; repeat' split
  all_goals omega
theorem firstOf_neg (a b : Int) : firstOf (-a) (-b) = -firstOf a b := by
  unfold firstOf
  by_cases h : a = 0
  · simp [h]
  · simp [h]
theorem keyCmp_neg (a b : Ent) : keyCmp b a = -keyCmp a b := by
  unfold keyCmp
  rw [cB_neg a.row b.row, cB_neg a.fam b.fam, cB_neg a.qual b.qual, kindCmp_neg a.kind b.kind, tsCmp_neg a.ts b.ts, firstOf_neg, firstOf_neg, firstOf_neg, firstOf_neg]

/-- 'firstOf' of two three-valued comparisons that are each an order. -/
theorem firstOf_trans {a b c a' b' c' : Int} (h0 : a = 0 → b = 0 → c = 0) (h1 : a = -1 → b = -1 → c = -1) (h2 : a = -1 → b = 0 → c = -1) (h3 : a = 0 → b = -1 → c = -1)
    (ta : tri a) (tb : tri b) (k : a' = -1 → b' = -1 → c' = -1) (x : firstOf a a' = -1) (y : firstOf b b' = -1) : firstOf c c' = -1 := by
  unfold firstOf at *
  unfold tri at *
  by_cases ha : a = 0
  · rw [if_pos ha] at x
    by_cases hb : b = 0
    · rw [if_pos hb] at y
      rw [if_pos (h0 ha hb)]; exact k x y
    · rw [if_neg hb] at y
      have := h3 ha y
      rw [if_neg (by omega)]; exact this
  · rw [if_neg ha] at x
    by_cases hb : b = 0
    · have := h2 x hb
      rw [if_neg (by omega)]; exact this
    · rw [if_neg hb] at y
      have := h1 x y
      rw [if_neg (by omega)]; exact this
theorem cB_pack (a b c : ByteArray) : (cB a b = 0 → cB b c = 0 → cB a c = 0) ∧ (cB a b = -1 → cB b c = -1 → cB a c = -1) ∧ (cB a b = -1 → cB b c = 0 → cB a c = -1) ∧ (cB a b = 0 → cB b c = -1 → cB a c = -1) := by
  refine ⟨fun h k => ?_, fun h k => cB_trans h k, fun h k => ?_, fun h k => ?_⟩
  · rw [cB_zero] at *; rw [h, k]
  · rw [cB_zero] at k; rw [← k]; exact h
  · rw [cB_zero] at h; rw [h]; exact k
theorem keyCmp_trans {a b c : Ent} (h : keyCmp a b = -1) (k : keyCmp b c = -1) : keyCmp a c = -1 := by
  obtain ⟨r0, r1, r2, r3⟩ := cB_pack a.row b.row c.row
  obtain ⟨f0, f1, f2, f3⟩ := cB_pack a.fam b.fam c.fam
  obtain ⟨q0, q1, q2, q3⟩ := cB_pack a.qual b.qual c.qual
  refine firstOf_trans r0 r1 r2 r3 (cB_vals _ _) (cB_vals _ _) (fun h k => ?_) h k
  refine firstOf_trans f0 f1 f2 f3 (cB_vals _ _) (cB_vals _ _) (fun h k => ?_) h k
  refine firstOf_trans q0 q1 q2 q3 (cB_vals _ _) (cB_vals _ _) (fun h k => ?_) h k
  refine firstOf_trans ?_ ?_ ?_ ?_ (tri_kind _ _) (tri_kind _ _) (fun h k => ?_) h k
  · unfold kindCmp; (repeat' split) <;> omega
  · unfold kindCmp; (repeat' split) <;> omega
  · unfold kindCmp; (repeat' split) <;> omega
  · unfold kindCmp; (repeat' split) <;> omega
  · unfold tsCmp at *
    (repeat' split at h) <;> (repeat' split at k) <;> (repeat' split) <;> omega
theorem keyCmp_self (a : Ent) : keyCmp a a = 0 := by
  have := keyCmp_neg a a
  omega

/-- Ordered, no key twice. -/
def Ord (l : List Ent) : Prop := l.Pairwise fun a b => keyCmp a b = -1
theorem ord_ext : ∀ {l m : List Ent}, Ord l → Ord m → (∀ x, x ∈ l ↔ x ∈ m) → l = m
  | [], [], _, _, _ => rfl
  | [], b :: m, _, _, h => by have := (h b).2 (by simp); simp at this
  | a :: l, [], _, _, h => by have := (h a).1 (by simp); simp at this
  | a :: l, b :: m, hl, hm, h => by
    have hl' := List.pairwise_cons.1 hl
    have hm' := List.pairwise_cons.1 hm
    have hab : a = b := by
      rcases List.mem_cons.1 ((h a).1 (by simp)) with e | e
      · exact e
      · rcases List.mem_cons.1 ((h b).2 (by simp)) with e' | e'
        · exact e'.symm
        · have h1 := hm'.1 a e
          have h2 := hl'.1 b e'
          have := keyCmp_neg a b
          omega
    subst hab
    congr 1
    refine ord_ext hl'.2 hm'.2 (fun x => ⟨fun hx => ?_, fun hx => ?_⟩)
    · rcases List.mem_cons.1 ((h x).1 (List.mem_cons_of_mem _ hx)) with e | e
      · subst e
        have := hl'.1 x hx
        rw [keyCmp_self] at this
        omega
      · exact e
    · rcases List.mem_cons.1 ((h x).2 (List.mem_cons_of_mem _ hx)) with e | e
      · subst e
        have := hm'.1 x hx
        rw [keyCmp_self] at this
        omega
      · exact e

theorem firstOf_zero {a b : Int} : firstOf a b = 0 ↔ a = 0 ∧ b = 0 := by
  unfold firstOf
  by_cases h : a = 0
  · simp [h]
  · simp [h]
theorem kindCmp_zero {a b : Int} : kindCmp a b = 0 ↔ (a = 2 ↔ b = 2) := by
  unfold kindCmp
  by_cases h : a = 2 <;> by_cases k : b = 2 <;> simp [h, k]
theorem tsCmp_zero {a b : Int} : tsCmp a b = 0 ↔ a = b := by
  unfold tsCmp
  (repeat' split) <;> omega
theorem keyCmp_zero {a b : Ent} : keyCmp a b = 0 ↔ a.row = b.row ∧ a.fam = b.fam ∧ a.qual = b.qual ∧ (a.kind = 2 ↔ b.kind = 2) ∧ a.ts = b.ts := by
  unfold keyCmp
  rw [firstOf_zero, firstOf_zero, firstOf_zero, firstOf_zero, cB_zero, cB_zero, cB_zero, kindCmp_zero, tsCmp_zero]
theorem kindCmp_congr {a b c : Int} (h : a = 2 ↔ b = 2) : kindCmp a c = kindCmp b c := by
  unfold kindCmp
  by_cases k : a = 2
  · rw [if_pos k, if_pos (h.1 k)]
  · rw [if_neg k, if_neg (fun x => k (h.2 x))]
theorem keyCmp_congr {a b c : Ent} (h : keyCmp a b = 0) : keyCmp a c = keyCmp b c := by
  obtain ⟨h1, h2, h3, h4, h5⟩ := keyCmp_zero.1 h
  unfold keyCmp
  rw [h1, h2, h3, h5, kindCmp_congr h4]

theorem intoG_true (e : Ent) : ∀ L : List Ent, (∀ x ∈ L, keyCmp e x = -1) → intoG e L true = L
  | [], _ => rfl
  | x :: r, h => by
    have h1 := h x (by simp)
    have h2 := keyCmp_neg e x
    have h3 : keyCmp x e = 1 := by omega
    unfold intoG
    rw [if_neg (by omega), if_neg (by omega), if_pos rfl, intoG_true e r (fun y hy => h y (List.mem_cons_of_mem _ hy))]
theorem into_spec (e : Ent) : ∀ L : List Ent, Ord L → Ord (intoG e L false) ∧ ∀ x, x ∈ intoG e L false ↔ x = e ∨ (x ∈ L ∧ keyCmp x e ≠ 0)
  | [], _ => ⟨by simp [intoG, Ord], fun x => by simp [intoG]⟩
  | x :: r, h => by
    have h' := List.pairwise_cons.1 h
    obtain ⟨ih1, ih2⟩ := into_spec e r h'.2
    rcases keyCmp_vals x e with hc | hc | hc
    · have e1 : intoG e (x :: r) false = x :: intoG e r false := by simp [intoG, hc]
      rw [e1]
      refine ⟨List.pairwise_cons.2 ⟨fun y hy => ?_, ih1⟩, fun y => ?_⟩
      · rcases (ih2 y).1 hy with rfl | ⟨hy, _⟩
        · exact hc
        · exact h'.1 y hy
      · rw [List.mem_cons, ih2, List.mem_cons]
        constructor
        · rintro (rfl | rfl | ⟨h1, h2⟩)
          · exact .inr ⟨.inl rfl, by omega⟩
          · exact .inl rfl
          · exact .inr ⟨.inr h1, h2⟩
        · rintro (rfl | ⟨rfl | h1, h2⟩)
          · exact .inr (.inl rfl)
          · exact .inl rfl
          · exact .inr (.inr ⟨h1, h2⟩)
    · have hr : ∀ y ∈ r, keyCmp e y = -1 := fun y hy => by rw [← keyCmp_congr hc]; exact h'.1 y hy
      have e1 : intoG e (x :: r) false = e :: r := by
        simp [intoG, hc, intoG_true e r hr]
      rw [e1]
      refine ⟨List.pairwise_cons.2 ⟨hr, h'.2⟩, fun y => ?_⟩
      rw [List.mem_cons, List.mem_cons]
      constructor
      · rintro (rfl | h1)
        · exact .inl rfl
        · have h2 := hr y h1
          have h3 := keyCmp_neg e y
          exact .inr ⟨.inr h1, by omega⟩
      · rintro (rfl | ⟨rfl | h1, h2⟩)
        · exact .inl rfl
        · exact absurd hc h2
        · exact .inr h1
    · have hx : keyCmp e x = -1 := by
        have := keyCmp_neg x e
        omega
      have hr : ∀ y ∈ r, keyCmp e y = -1 := fun y hy => keyCmp_trans hx (h'.1 y hy)
      have e1 : intoG e (x :: r) false = e :: x :: r := by
        simp [intoG, hc, intoG_true e r hr]
      rw [e1]
      refine ⟨List.pairwise_cons.2 ⟨fun y hy => ?_, h⟩, fun y => ?_⟩
      · rcases List.mem_cons.1 hy with rfl | hy
        · exact hx
        · exact hr y hy
      · rw [List.mem_cons]
        constructor
        · rintro (rfl | h1)
          · exact .inl rfl
          · refine .inr ⟨h1, ?_⟩
            have h3 := keyCmp_neg e y
            rcases List.mem_cons.1 h1 with rfl | h1
            · omega
            · have := hr y h1
              omega
        · rintro (rfl | ⟨h1, _⟩)
          · exact .inl rfl
          · exact .inr h1
end Go.Proofs.YtnncedndlhfdkacDoor

/-
  spec.l2Index.
-/
namespace Go.Proofs.YtnncedndlhfdkacDoor
open Go.ChangeShapes Go.WideShapes Go.ChangeAt Go.RowKit Go.Deep
set_option linter.unusedVariables false
set_option linter.unusedSimpArgs false
set_option maxRecDepth 100000

abbrev Blk.four (b : Blk) : List Value := [.int .i64 (b.fr : Int), .int .i64 (b.til : Int), .int .i64 (b.count : Int), .string b.row]
def cellsL (l : List Blk) : List Value := l.flatMap Blk.four
theorem cellsL_append (l k : List Blk) : cellsL (l ++ k) = cellsL l ++ cellsL k := by simp [cellsL]
theorem length_cellsL (l : List Blk) : (cellsL l).length = l.length * 4 := by
  induction l with
  | nil => rfl
  | cons e l ih => rw [show cellsL (e :: l) = e.four ++ cellsL l by simp [cellsL], List.length_append, ih]; simp; omega
theorem cellsL_get (l : List Blk) : ∀ (k : Nat) (e : Blk), l[k]? = some e → ∀ j, j < 4 → (cellsL l)[k * 4 + j]? = e.four[j]? := by
  induction l with
  | nil => intro k e h; simp at h
  | cons f l ih =>
    intro k e h j hj
    rw [show cellsL (f :: l) = f.four ++ cellsL l by simp [cellsL]]
    cases k with
    | zero =>
      simp at h; subst h
      rw [List.getElem?_append_left (by show 0 * 4 + j < 4; omega)]
      simp
    | succ k =>
      simp at h
      rw [List.getElem?_append_right (by show 4 ≤ (k + 1) * 4 + j; omega)]
      have : (k + 1) * 4 + j - f.four.length = k * 4 + j := by show (k + 1) * 4 + j - 4 = _; omega
      rw [this]; exact ih k e h j hj
/-- A row of blocks of the index, of the call's own. -/
def OwnI (w : World) (base g cp : Nat) (l : List Blk) : Prop := w.ownsRow base 41 4 (.slice (some ⟨g, 0, none⟩) l.length cp) l.length (cellsL l)
theorem OwnI.lt {w : World} {base g cp : Nat} {l : List Blk} (h : OwnI w base g cp l) : base ≤ g ∧ g < w.heap.size := World.ownsRow.lt h g rfl
theorem OwnI.chg {S : Nat → Prop} {w w' : World} {base g cp : Nat} {l : List Blk} (h : OwnI w base g cp l) (hc : Chg S w w') (hn : ¬ S g) : OwnI w' base g cp l := own_chg h hc (fun k q => by simp [Value.ownBlock] at q; subst q; exact hn)
theorem OwnI.below {w w' : World} {base g cp : Nat} {l : List Blk} (h : OwnI w base g cp l) (hb : Below w.heap.size w w') : OwnI w' base g cp l := h.chg (Chg.of_below hb) (S := fun _ => False) (fun q => q)
theorem OwnI.mono {w : World} {base base' g cp : Nat} {l : List Blk} (h : OwnI w base g cp l) (hb : base' ≤ base) : OwnI w base' g cp l := by
  refine ⟨h.1, ?_⟩
  rcases h.2 with hn | ⟨g', cap', cur, hv, h1, rest⟩
  · exact .inl hn
  · exact .inr ⟨g', cap', cur, hv, Nat.le_trans hb h1, rest⟩
theorem OwnI.at {w : World} {base g cp : Nat} {l : List Blk} (h : OwnI w base g cp l) {k : Nat} {e : Blk} (he : l[k]? = some e) :
    w.cell? ⟨g, k * 4, none⟩ = some (.int .i64 (e.fr : Int)) ∧ w.cell? ⟨g, k * 4 + 1, none⟩ = some (.int .i64 (e.til : Int)) ∧ w.cell? ⟨g, k * 4 + 2, none⟩ = some (.int .i64 (e.count : Int)) ∧ w.cell? ⟨g, k * 4 + 3, none⟩ = some (.string e.row) := by
  have hi : k < l.length := (List.getElem?_eq_some_iff.1 he).1
  have c := fun j (hj : j < 4) => (World.ownsRow.cellAt h (k * 4 + j) (by omega)).trans (cellsL_get l k e he j hj)
  refine ⟨?_, ?_, ?_, ?_⟩
  · simpa using c 0 (by omega)
  · simpa using c 1 (by omega)
  · simpa using c 2 (by omega)
  · simpa using c 3 (by omega)
theorem ownI_new (w : World) {base : Nat} (hb : base ≤ w.heap.size) : OwnI (w.alloc (Obj.cells #[] 41)) base w.heap.size 0 [] :=
  World.ownsRow_made w #[] 0 hb (Nat.zero_le _) (by simp)
theorem Tryd.infoBlk : (Tryd.prog.info? 41).map (fun i => (i.zero, i.size, i.bytes)) = some (some (.agg #[.int .i64 0, .int .i64 0, .int .i64 0, .string ⟨#[]⟩]), 4, 40) := by kernel_rfl
theorem wpList_append_blk {ops : Array Oper} {rest : List Oper} {o : Oper} {a : Act} {Q : Exit → Act → World → Prop} (w : World) (hgd : o.guard = none) (s x : Operand)
    (ho : o.op = .call { callee := .builtin .append, args := #[s, x], argTypes := #[35, 35] })
    (base g cp n blk : Nat) (l : List Blk) (e : Blk) (hs : a.eval s = .slice (some ⟨g, 0, none⟩) n cp) (hx : a.eval x = .slice (some ⟨blk, 0, none⟩) 1 1) (hn : n = l.length) (hO : OwnI w base g cp l)
    (hc : ∀ j u, e.four[j]? = some u → w.cell? ⟨blk, j, none⟩ = some u) (hlen : l.length ≤ 2 ^ 30) (hbase : base ≤ w.heap.size)
    (h : ∀ g' cp' w', OwnI w' base g' cp' (l ++ [e]) → w.grownBy w' (some g) → (g' = g ∨ g' = w.heap.size) → wpList Tryd.prog ops Q rest (a.put o.dst (.slice (some ⟨g', 0, none⟩) (n + 1) cp')) w') : wpList Tryd.prog ops Q (o :: rest) a w := by
  obtain ⟨i, hi, hz0, hz1, hz2⟩ := info_parts Tryd.infoBlk
  subst hn
  have he : cellsL [e] = e.four := by simp [cellsL]
  refine wpList_append_own_at w hgd s x 35 ho base 41 i _ 4 40 Tryd.underlying35 hi hz0 hz1 hz2 rfl (by decide) (.slice (some ⟨g, 0, none⟩) l.length cp) l.length (cellsL l) hs hO ⟨blk, 0, none⟩ 1 1 (cellsL [e]) hx rfl ?_ ?_ ?_ ?_ hbase ?_
  · intro j u hu
    rw [he] at hu
    rw [Addr.add_mid, Nat.zero_add]
    exact hc j u hu
  · intro u hu
    rw [he] at hu
    simp at hu
    rcases hu with rfl | rfl | rfl | rfl <;> rfl
  · unfold maxLen; omega
  · omega
  · intro v' w' hO' hgr hnil hat
    rcases hO'.2 with ⟨h0, _⟩ | ⟨g', cap', cur, hv, _, _, hn, hcap, _, _⟩
    · have := (hnil.1 h0).1
      cases this
    · subst hv
      refine h g' cap' w' ?_ hgr ?_
      · unfold OwnI
        rw [List.length_append, cellsL_append]
        exact hO'
      · simp [Value.ownBlock] at hat
        exact hat
theorem gotNum_bad {xs : List UInt8} {i : Nat} {bad : Bool} {i1 n : Nat} (h : GotNum xs i bad i1 false n) : bad = false ∧ getNum (xs.drop i) = some (n, xs.drop i1) := by
  rcases h.2.2 with ⟨q, _⟩ | ⟨_, q⟩
  · cases q
  · cases bad with
    | true => cases q
    | false => exact ⟨rfl, q⟩
theorem gotNum_none {xs : List UInt8} {i i1 n : Nat} (h : GotNum xs i false i1 true n) : getNum (xs.drop i) = none := by
  rcases h.2.2 with ⟨_, q⟩ | ⟨q, _⟩
  · exact q
  · cases q
theorem gotStr_good {xs : List UInt8} {i : Nat} {bad : Bool} {i1 : Nat} {s : ByteArray} (h : GotStr xs i bad i1 false s) : bad = false ∧ getStr (xs.drop i) = some (bl s, xs.drop i1) := by
  rcases h.2.2 with ⟨q, _⟩ | ⟨_, q⟩
  · cases q
  · cases bad with
    | true => cases q
    | false => exact ⟨rfl, q⟩
theorem gotStr_none {xs : List UInt8} {i i1 : Nat} {s : ByteArray} (h : GotStr xs i false i1 true s) : getStr (xs.drop i) = none := by
  rcases h.2.2 with ⟨_, q⟩ | ⟨q, _⟩
  · exact q
  · cases q
/-- Three fields of a block, read one behind the other. -/
theorem oneBlk_read {xs : List UInt8} {i i1 i2 i3 n lim p size count : Nat} {b1 b2 b3 : Bool} {row : ByteArray} (h1 : GotNum xs i false i1 b1 size) (h2 : GotNum xs i1 b1 i2 b2 count) (h3 : GotStr xs i2 b2 i3 b3 row) :
    (b3 = true → oneBlk n lim p (xs.drop i) = none) ∧ (b3 = false → oneBlk n lim p (xs.drop i) = if count < 1 ∨ 1000 < count ∨ n < size ∨ lim < p + size + 4 then none else some (⟨p, p + size, count, row⟩, p + size + 4, xs.drop i3)) := by
  constructor
  · rintro rfl
    unfold oneBlk
    cases b1 with
    | true => rw [gotNum_none h1]
    | false =>
      rw [(gotNum_bad h1).2]
      simp only []
      cases b2 with
      | true => rw [gotNum_none h2]
      | false =>
        rw [(gotNum_bad h2).2]
        simp only []
        rw [gotStr_none h3]
  · rintro rfl
    obtain ⟨rfl, q3⟩ := gotStr_good h3
    obtain ⟨rfl, q2⟩ := gotNum_bad h2
    obtain ⟨_, q1⟩ := gotNum_bad h1
    unfold oneBlk
    rw [q1]
    simp only []
    rw [q2]
    simp only []
    rw [q3]
    simp only []
    rw [ba_bl]
end Go.Proofs.YtnncedndlhfdkacDoor

/-
  spec.l1Stands, spec.l1GoodWrites.
-/
namespace Go.Proofs.YtnncedndlhfdkacDoor
open Go.ChangeShapes Go.WideShapes Go.ChangeAt Go.RowKit Go.Deep
set_option linter.unusedVariables false

/-- Does the later write 'v' do away with 'e'? -/
def kills (v e : Ent) : Bool := sameCol v e && (if (v.kind == 2) = true then decide (e.ts ≤ v.ts) else (v.ts == e.ts))
/-- No write behind place 'i' does away with the one there. -/
def Stands (ws : List Ent) (i : Nat) : Prop := ∀ j v e, i < j → ws[j]? = some v → ws[i]? = some e → kills v e = false
def StandsTo (ws : List Ent) (i k : Nat) : Prop := ∀ j v e, i < j → j < k → ws[j]? = some v → ws[i]? = some e → kills v e = false
theorem standsTo_succ {ws : List Ent} {i k : Nat} {v e : Ent} (h : StandsTo ws i k) (hv : ws[k]? = some v) (he : ws[i]? = some e) (hk : kills v e = false) : StandsTo ws i (k + 1) := by
  intro j v' e' h1 h2 h3 h4
  by_cases hj : j = k
  · subst hj
    rw [hv] at h3; rw [he] at h4
    simp at h3 h4
    subst h3 h4
    exact hk
  · exact h j v' e' h1 (by omega) h3 h4

end Go.Proofs.YtnncedndlhfdkacDoor

/-
  What a run keeps of a list of writes, as a property; it determines the run.
-/
namespace Go.Proofs.YtnncedndlhfdkacDoor
set_option linter.unusedVariables false

theorem toList_inj {a b : ByteArray} (h : a.toList = b.toList) : a = b := by
  rw [ByteArray.toList_eq, ByteArray.toList_eq] at h
  cases a; cases b
  simp at h
  simpa using h
theorem sameCol_iff {a b : Ent} : sameCol a b = true ↔ a.row = b.row ∧ a.fam = b.fam ∧ a.qual = b.qual := by
  unfold sameCol
  simp only [Bool.and_eq_true, beq_iff_eq]
  constructor
  · rintro ⟨h1, h2, h3⟩; exact ⟨toList_inj h1, toList_inj h2, toList_inj h3⟩
  · rintro ⟨h1, h2, h3⟩; rw [h1, h2, h3]; exact ⟨rfl, rfl, rfl⟩
theorem size_zero_eq {a b : ByteArray} (h : a.size = 0) (k : b.size = 0) : a = b := by
  obtain ⟨⟨l⟩⟩ := a
  obtain ⟨⟨m⟩⟩ := b
  cases l with
  | nil => cases m with
    | nil => rfl
    | cons y m => simp [ByteArray.size] at k
  | cons x l => simp [ByteArray.size] at h
theorem vld_val {e : Ent} (h : e.vld = true) (k : e.kind = 2) : e.val.size = 0 := by
  unfold Ent.vld vE at h
  have := of_decide_eq_true h
  omega

/-- No delete of the same column has a larger timestamp. -/
def Largest (ws : List Ent) (e : Ent) : Prop := ∀ v ∈ ws, v.kind = 2 → sameCol v e = true → v.ts ≤ e.ts
def Keep (ws : List Ent) (i : Nat) (e : Ent) : Prop := (¬ e.kind = 2 ∧ Stands ws i) ∨ (e.kind = 2 ∧ Largest ws e)
def KeepTo (ws : List Ent) (k : Nat) (x : Ent) : Prop := ∃ i, i < k ∧ ws[i]? = some x ∧ Keep ws i x
/-- 'R' is what the first 'k' writes leave in the run of 'ws'. -/
def Kept (ws : List Ent) (k : Nat) (R : List Ent) : Prop := Ord R ∧ (∀ x, x ∈ R ↔ KeepTo ws k x)

theorem keep_uniq {ws : List Ent} (hv : ∀ x ∈ ws, x.vld = true) {i k : Nat} {x e : Ent} (hik : i < k) (hx : ws[i]? = some x) (he : ws[k]? = some e) (kx : Keep ws i x) (ke : Keep ws k e) (hz : keyCmp x e = 0) : x = e := by
  obtain ⟨h1, h2, h3, h4, h5⟩ := keyCmp_zero.1 hz
  rcases kx with ⟨hn, hs⟩ | ⟨h2k, _⟩
  · have := hs k e x hik he hx
    unfold kills at this
    rw [sameCol_iff.2 ⟨h1.symm, h2.symm, h3.symm⟩] at this
    have hn' : (e.kind == 2) = false := by simp; exact fun q => hn (h4.2 q)
    rw [hn', if_neg (by simp), h5] at this
    simp at this
  · have h2e := h4.1 h2k
    have v1 := vld_val (hv x (List.mem_of_getElem? hx)) h2k
    have v2 := vld_val (hv e (List.mem_of_getElem? he)) h2e
    obtain ⟨r, f, q, t, kk, v⟩ := x
    obtain ⟨r', f', q', t', kk', v'⟩ := e
    simp only at *
    subst h1 h2 h3 h5 h2k h2e
    rw [size_zero_eq v1 v2]

theorem kept_zero (ws : List Ent) : Kept ws 0 [] := ⟨List.Pairwise.nil, fun x => ⟨fun h => by simp at h, fun ⟨i, hi, _⟩ => by omega⟩⟩
theorem kept_skip {ws : List Ent} {k : Nat} {e : Ent} {R : List Ent} (h : Kept ws k R) (he : ws[k]? = some e) (hk : ¬ Keep ws k e) : Kept ws (k + 1) R := by
  refine ⟨h.1, fun x => (h.2 x).trans ⟨fun ⟨i, hi, h1, h2⟩ => ⟨i, by omega, h1, h2⟩, fun ⟨i, hi, h1, h2⟩ => ?_⟩⟩
  by_cases hik : i = k
  · subst hik
    rw [he] at h1
    simp at h1
    subst h1
    exact absurd h2 hk
  · exact ⟨i, by omega, h1, h2⟩
theorem kept_step {ws : List Ent} (hv : ∀ x ∈ ws, x.vld = true) {k : Nat} {e : Ent} {R : List Ent} (h : Kept ws k R) (he : ws[k]? = some e) (hk : Keep ws k e) : Kept ws (k + 1) (into R e) := by
  obtain ⟨h1, h2⟩ := into_spec e R h.1
  refine ⟨h1, fun x => (h2 x).trans ⟨?_, ?_⟩⟩
  · rintro (rfl | ⟨hx, _⟩)
    · exact ⟨k, by omega, he, hk⟩
    · obtain ⟨i, hi, a, b⟩ := (h.2 x).1 hx
      exact ⟨i, by omega, a, b⟩
  · rintro ⟨i, hi, a, b⟩
    by_cases hik : i = k
    · subst hik
      rw [he] at a
      simp at a
      exact .inl a.symm
    · by_cases hz : keyCmp x e = 0
      · exact .inl (keep_uniq hv (by omega) a he b hk hz)
      · exact .inr ⟨(h.2 x).2 ⟨i, by omega, a, b⟩, hz⟩
theorem kept_uniq {ws : List Ent} {k : Nat} {R S : List Ent} (h : Kept ws k R) (g : Kept ws k S) : R = S :=
  ord_ext h.1 g.1 (fun x => (h.2 x).trans (g.2 x).symm)
theorem length_into (L : List Ent) (e : Ent) : (into L e).length ≤ L.length + 1 := length_intoG e L false
end Go.Proofs.YtnncedndlhfdkacDoor

/-
  spec.l2Index: the walk.
-/
namespace Go.Proofs.YtnncedndlhfdkacDoor
open Go.ChangeShapes Go.WideShapes Go.ChangeAt Go.RowKit Go.Deep
set_option linter.unusedVariables false
set_option linter.unusedSimpArgs false
set_option maxRecDepth 100000

/-- What l2Index hands back. -/
def IdxPost (w : World) (xs : List UInt8) (r : Ending) (w' : World) : Prop :=
  ∃ (g cp : Nat) (err : Int) (l : List Blk), r = .returned (.tuple #[.int .i64 err, .slice (some ⟨g, 0, none⟩) l.length cp]) ∧ (err, l) = idxM xs ∧ OwnI w' w.heap.size g cp l ∧ Below w.heap.size w w'
theorem bys_sub {w : World} {b off : Nat} {xs : List UInt8} (h : BysAt w b off xs) (k m : Nat) : BysAt w b (off + k) ((xs.drop k).take m) := by
  intro i x hx
  by_cases hi : i < m
  · rw [List.getElem?_take_of_lt hi, List.getElem?_drop] at hx
    rw [Nat.add_assoc]
    exact h (k + i) x hx
  · have := (List.getElem?_eq_some_iff.1 hx).1
    simp at this
    omega

/-- The reader's box and the row of blocks. -/
structure IS (w0 : World) (G : Nat) (vs : List Value) (g cp : Nat) (l : List Blk) (wr : World) : Prop where
  box : BoxAt wr w0.heap.size 60 3 G vs
  row : OwnI wr w0.heap.size g cp l
  ne : ¬ G = g
  below : Below w0.heap.size w0 wr
theorem IS.call {w0 : World} {G : Nat} {vs : List Value} {g cp : Nat} {l : List Blk} {wr w1 : World} (h : IS w0 G vs g cp l wr) (hb : Below wr.heap.size wr w1) : IS w0 G vs g cp l w1 :=
  ⟨h.box.below hb, h.row.below hb, h.ne, h.below.trans (hb.mono h.below.size)⟩
theorem IS.set3 {w0 : World} {G : Nat} {vs : List Value} {g cp : Nat} {l : List Blk} {wr : World} (h : IS w0 G vs g cp l wr) (x y z : Value) : IS w0 G [x, y, z] g cp l (set3 wr G x y z) := by
  have hc : Chg (fun k => k = G) wr (Go.Proofs.YtnncedndlhfdkacDoor.set3 wr G x y z) := ((Chg.of_set wr G 0 x (S := fun q => q = G) rfl).trans (Chg.of_set _ G 1 y (S := fun q => q = G) rfl)).trans (Chg.of_set _ G 2 z (S := fun q => q = G) rfl)
  exact ⟨h.box.set3 x y z, h.row.chg hc (fun q => h.ne q.symm), h.ne, below_set3 h.below h.box.lt.1 x y z⟩
theorem IS.app {w0 : World} {G : Nat} {vs : List Value} {g cp g' cp' : Nat} {l l' : List Blk} {wr w1 : World} (h : IS w0 G vs g cp l wr) (hO : OwnI w1 w0.heap.size g' cp' l') (hgr : wr.grownBy w1 (some g)) (hat : g' = g ∨ g' = wr.heap.size) : IS w0 G vs g' cp' l' w1 := by
  have hi := h.box.lt
  have hn := h.ne
  exact ⟨h.box.chg (Chg.of_grown hgr (S := fun k => k = g) (fun k hk => by cases hk; rfl)) hn, hO, by omega, h.below.grown hgr h.below.size (fun k hk => by cases hk; exact h.row.lt.1)⟩

set_option maxHeartbeats 3000000 in
theorem l2Index_core (b off cap : Nat) (xs : List UInt8) (w : World) (hx : BysAt w b off xs) (hb : b < w.heap.size) (hlen : xs.length ≤ 2 ^ 30) (hcap : xs.length ≤ cap) (hcm : cap ≤ maxLen) :
    Calls Tryd.prog 12 #[.slice (some ⟨b, off, none⟩) xs.length cap] w fun r w' => IdxPost w xs r w' := by
  obtain ⟨W1, hW1⟩ : ∃ W1 : World, W1 = w.alloc (Obj.cells #[] 41) := ⟨_, rfl⟩
  have hb1 : Below w.heap.size w W1 := by rw [hW1]; exact (Below.refl _ _).alloc (Nat.le_refl _) _
  have z1 : W1.heap.size = w.heap.size + 1 := by rw [hW1]; simp
  have HO1 : Hid (OwnI W1 w.heap.size w.heap.size 0 []) := by rw [hW1]; exact ownI_new w (Nat.le_refl _)
  have HX0 : Hid (BysAt w b off xs) := hx
  have HX1 : Hid (BysAt W1 b off xs) := hx.below hb1 hb
  obtain ⟨N, hN⟩ : ∃ N : Nat, xs.length = N := ⟨_, rfl⟩
  have HN : Hid (xs.length = N) := hN
  have HCm : Hid (cap ≤ maxLen) := hcm
  rw [hN] at hlen hcap ⊢
  clear hx hN hcm
  by_cases h13 : N < 13
  · have HI : Hid (idxM xs = (1, [])) := by show idxM xs = (1, []); unfold idxM; rw [if_pos (.inl (by rw [HN.out]; exact h13))]
    have z13 : (N : Int) < 13 := by omega
    go_enter Tryd.func12, Tryd.ntmps12
    go_wp2_with fail
    rw [← hW1]
    go_ret2
    exact ⟨w.heap.size, 0, 1, [], rfl, HI.out.symm, HO1.out, hb1⟩
  have z13 : ¬ (N : Int) < 13 := by omega
  have hcv := Lib.run_convert_window (P := Tryd.prog) W1 22 5 9 Tryd.underlying22 Tryd.underlying5 Tryd.underlying9 b off ⟨xs.toArray⟩ (bytes_of_bys HX1.out) 0 4 cap (by show 0 + 4 ≤ xs.toArray.size; simp; rw [HN.out]; omega)
  rw [Nat.add_zero, Nat.zero_add] at hcv
  obtain ⟨st, hst⟩ : ∃ st : ByteArray, st = (⟨xs.toArray⟩ : ByteArray).extract 0 4 := ⟨_, rfl⟩
  rw [← hst] at hcv
  have HSt : Hid (bl st = xs.take 4) := by
    show bl st = xs.take 4
    rw [hst]; show ((⟨xs.toArray⟩ : ByteArray).extract 0 4).data.toList = _; rw [Lib.extract_data]; simp
  clear hst
  have z4 : (4 : Int) ≤ (cap : Int) := by omega
  by_cases h4 : ¬ xs.take 4 = headB
  · have HI : Hid (idxM xs = (1, [])) := by show idxM xs = (1, []); unfold idxM; rw [if_pos (.inr h4)]
    have hne : (st.toList == (⟨#[82, 85, 78, 49]⟩ : ByteArray).toList) = false := by
      rw [beq_eq_false_iff_ne]
      intro q
      apply h4
      rw [← HSt.out, toList_inj q]; rfl
    have hl : (⟨#[82, 85, 78, 49]⟩ : ByteArray).toList = [82, 85, 78, 49] := by first | rfl | decide | simp [go_sem]
    rw [hl] at hne
    go_enter Tryd.func12, Tryd.ntmps12
    go_upto_region 3 with fail
    rw [← hW1]
    clear hW1
    go_wp2_with fail
    go_ret2
    exact ⟨w.heap.size, 0, 1, [], rfl, HI.out.symm, HO1.out, hb1⟩
  replace h4 := Decidable.not_not.1 h4
  have hst : st = ⟨#[82, 85, 78, 49]⟩ := by
    have := HSt.out
    rw [h4] at this
    apply ByteArray.ext
    apply Array.toList_inj.1
    exact this
  subst hst
  go_enter Tryd.func12, Tryd.ntmps12
  go_upto_region 3 with fail
  rw [← hW1]
  clear hW1
  go_upto_region 5 with fail
  clear hcv z4 HSt h13
  have HH : Hid (¬ (xs.length < 13 ∨ xs.take 4 ≠ headB)) := by rw [HN.out]; intro q; rcases q with q | q; omega; exact q h4
  clear h4
  have hN13 : 13 ≤ N := by omega
  go_wp2_with fail
  have hfx := l2GetFixed_core b off cap xs (N - 4) W1 HX1.out (by rw [HN.out]; exact hlen) (by rw [HN.out]; omega)
  rw [HN.out, show ((N - 4 : Nat) : Int) = (N : Int) - 4 by omega] at hfx
  refine hfx.mono ?_
  rintro e w2 ⟨rfl, hb2⟩
  obtain ⟨m, hm⟩ : ∃ m : Nat, fixAt xs (N - 4) = m := ⟨_, rfl⟩
  have hm32 : m < 4294967296 := by rw [← hm]; exact fixAt_lt _ _
  have HM : Hid (fixAt xs (xs.length - 4) = m) := by rw [HN.out]; exact hm
  rw [hm]
  have s2 := hb2.size
  have k2 : Below w.heap.size w w2 := hb1.trans (hb2.mono (by omega))
  have HO2 : Hid (OwnI w2 w.heap.size w.heap.size 0 []) := HO1.out.below hb2
  have HX2 : Hid (BysAt w2 b off xs) := HX1.out.below hb2 (by omega)
  clear hfx hm hb2 HO1 HX1
  by_cases hsm : N < m + 12
  · have z5 : (N : Int) - 8 - (m : Int) < 4 := by omega
    have HI : Hid (idxM xs = (1, [])) := by show idxM xs = (1, []); unfold idxM; rw [if_neg HH.out, HM.out, if_pos (by rw [HN.out]; exact hsm)]
    go_wp2_with fail
    go_ret2
    exact ⟨w.heap.size, 0, 1, [], rfl, HI.out.symm, HO2.out, k2⟩
  have z5 : ¬ (N : Int) - 8 - (m : Int) < 4 := by omega
  obtain ⟨lim, hlim⟩ : ∃ lim : Nat, lim = N - 8 - m := ⟨_, rfl⟩
  have hlm : (N : Int) - 8 - (m : Int) = (lim : Int) := by omega
  have hl4 : 4 ≤ lim := by omega
  have hlN : lim + m + 8 = N := by omega
  obtain ⟨N8, hN8⟩ : ∃ N8 : Nat, N8 = lim + m := ⟨_, rfl⟩
  have hN8i : (N : Int) - 8 = (N8 : Int) := by omega
  have z6 : (lim : Int) ≤ (N8 : Int) := by omega
  have z7 : (N8 : Int) ≤ (cap : Int) := by omega
  have z8 : ¬ lim = cap := by omega
  have HL : Hid (lim = xs.length - 8 - m) := by rw [HN.out]; exact hlim
  obtain ⟨ix, hix⟩ : ∃ ix, ix = (xs.drop lim).take m := ⟨_, rfl⟩
  have hixl : ix.length = m := by rw [hix, List.length_take, List.length_drop, HN.out]; omega
  have HIx : Hid (ix = (xs.drop lim).take m ∧ ix.length = m) := ⟨hix, hixl⟩
  have HBix : Hid (∀ w', BysAt w' b off xs → BysAt w' b (off + lim) ix) := fun w' h => by rw [hix]; exact bys_sub h lim m
  clear hlim hix
  go_upto_region 9 with fail
  go_wp2_with fail
  have hcr := specCrc_core b (off + lim) (cap - lim) ix w2 (HBix.out w2 HX2.out) (by rw [HIx.out.2]; unfold maxLen; omega)
  rw [HIx.out.2] at hcr
  refine hcr.mono ?_
  rintro e w3 ⟨rfl, hw3⟩
  obtain ⟨cx, hcx⟩ : ∃ c : Nat, (crc ix).toNat = c := ⟨_, rfl⟩
  have hcx2 : cx < 4294967296 := by rw [← hcx]; exact (crc ix).isLt
  have HCx : Hid ((crc ix).toNat = cx) := hcx
  rw [hw3, hcx]
  clear hw3 hcr w3 hcx
  go_wp2_with fail
  have hfx := l2GetFixed_core b off cap xs N8 w2 HX2.out (by rw [HN.out]; exact hlen) (by rw [HN.out]; omega)
  rw [HN.out] at hfx
  obtain ⟨fx, hfxd⟩ : ∃ c : Nat, fixAt xs N8 = c := ⟨_, rfl⟩
  have hfx2 : fx < 4294967296 := by rw [← hfxd]; exact fixAt_lt _ _
  have HFx : Hid (fixAt xs N8 = fx) := hfxd
  rw [hfxd, show (N8 : Int) = (lim : Int) + (m : Int) by omega] at hfx
  clear hfxd
  refine hfx.mono ?_
  rintro e w3 ⟨rfl, hb3⟩
  have s3 := hb3.size
  have k3 : Below w.heap.size w w3 := k2.trans (hb3.mono (by omega))
  have HO3 : Hid (OwnI w3 w.heap.size w.heap.size 0 []) := HO2.out.below hb3
  have HN8 : Hid (N8 = xs.length - 8) := by rw [HN.out]; show N8 = N - 8; omega
  clear hfx hb3 HO2
  by_cases hsum : ¬ cx = fx
  · have zs : ¬ (cx : Int) = (fx : Int) := by omega
    have HI : Hid (idxM xs = (2, [])) := by
      show idxM xs = (2, [])
      unfold idxM
      rw [if_neg HH.out, HM.out, if_neg (by rw [HN.out]; exact hsm), ← HL.out, ← HIx.out.1, ← HN8.out, HFx.out, HCx.out, if_pos hsum]
    go_wp2_with fail
    go_ret2
    exact ⟨w.heap.size, 0, 2, [], rfl, HI.out.symm, HO3.out, k3⟩
  replace hsum := Decidable.not_not.1 hsum
  subst hsum
  have HIdx : Hid (idxM xs = idxBody N lim ix) := by
    show idxM xs = idxBody N lim ix
    unfold idxM
    rw [if_neg HH.out, HM.out, if_neg (by rw [HN.out]; exact hsm), ← HL.out, ← HIx.out.1, ← HN8.out, HFx.out, HCx.out, if_neg (fun q => q rfl), HN.out]
  obtain ⟨W4, hW4⟩ : ∃ W4 : World, W4 = w3.alloc (Obj.cells #[.slice (some ⟨b, off + lim, none⟩) m (cap - lim), .int .i64 0, .bool false] 60) := ⟨_, rfl⟩
  have hb4 : Below w3.heap.size w3 W4 := by rw [hW4]; exact (Below.refl _ _).alloc (Nat.le_refl _) _
  have z4 : W4.heap.size = w3.heap.size + 1 := by rw [hW4]; simp
  have HS4 : Hid (IS w w3.heap.size [.slice (some ⟨b, off + lim, none⟩) m (cap - lim), .int .i64 0, .bool false] w.heap.size 0 [] W4) := by
    refine ⟨?_, HO3.out.below hb4, by omega, k3.trans (hb4.mono (by omega))⟩
    rw [hW4]; exact boxAt_new w3 _ (by omega) rfl
  clear hb4 HO3
  go_upto_region 13 with fail
  rw [← hW4]
  clear hW4
  clear hN8 hN8i hlm z5 z6 z7 z8 z13 hsm
  obtain ⟨G, hG⟩ : ∃ G : Nat, G = w3.heap.size := ⟨_, rfl⟩
  rw [← hG] at HS4 ⊢
  have hGw : w.heap.size < G := by omega
  obtain ⟨c2, hc2⟩ : ∃ c2 : Nat, c2 = cap - lim := ⟨_, rfl⟩
  have hc2m : m ≤ c2 := by omega
  rw [← hc2] at HS4 ⊢
  have s4 := HS4.out.below.size
  have hbW : b < W4.heap.size := by omega
  clear hG hc2 z4 s3 k3 k2 s2 z1
  have q0 := HS4.out.box.cell (j := 0) rfl
  have q1 := HS4.out.box.cell (j := 1) rfl
  have q2 := HS4.out.box.cell (j := 2) rfl
  have HXw : Hid (∀ w' : World, Below w.heap.size w w' → BysAt w' b (off + lim) ix) := fun w' hb' => HBix.out w' (HX0.out.below hb' hb)
  have hgn := l2GetNum_core b (off + lim) c2 ix 0 false W4 (HXw.out W4 HS4.out.below) hbW (by rw [HIx.out.2]; omega) (Nat.zero_le _)
  rw [HIx.out.2] at hgn
  go_wp2_with fail
  clear q0 q1 q2
  refine hgn.mono ?_
  rintro r w5 ⟨i1, bad1, K, rfl, hGN, hb5⟩
  rw [HIx.out.2]
  have hi1 := hGN.1
  rw [HIx.out.2] at hi1
  have hK := hGN.2.1
  have HGN : Hid (GotNum ix 0 false i1 bad1 K) := hGN
  have HS5 : Hid (IS w G [.slice (some ⟨b, off + lim, none⟩) m c2, .int .i64 0, .bool false] w.heap.size 0 [] w5) := HS4.out.call hb5
  clear hGN hb5 hgn HS4 hbW s4
  have f0 := HS5.out.box.frozen 0
  have f1 := HS5.out.box.frozen 1
  have f2 := HS5.out.box.frozen 2
  have q0 := HS5.out.box.cell (j := 0) rfl
  have q1 := HS5.out.box.cell (j := 1) rfl
  have q2 := HS5.out.box.cell (j := 2) rfl
  obtain ⟨W6, hW6⟩ : ∃ W6 : World, W6 = set3 w5 G (.slice (some ⟨b, off + lim, none⟩) m c2) (.int .i64 (i1 : Int)) (.bool bad1) := ⟨_, rfl⟩
  have HS6 : Hid (IS w G [.slice (some ⟨b, off + lim, none⟩) m c2, .int .i64 (i1 : Int), .bool bad1] w.heap.size 0 [] W6) := by rw [hW6]; exact HS5.out.set3 _ _ _
  unfold set3 at hW6
  go_upto_region 14 with fail
  rw [← hW6]
  clear hW6 f0 f1 f2 q0 q1 q2 HS5
  have q2 := HS6.out.box.cell (j := 2) rfl
  by_cases hbd : bad1 = true ∨ 10000 < K
  · have HI : Hid (idxM xs = (1, [])) := by
      show idxM xs = (1, [])
      rw [HIdx.out]
      unfold idxBody
      cases bad1 with
      | true =>
        have := gotNum_none HGN.out
        rw [List.drop_zero] at this
        rw [this]
      | false =>
        have := (gotNum_bad HGN.out).2
        rw [List.drop_zero] at this
        rw [this]
        simp only []
        rw [if_pos (by rcases hbd with h | h; cases h; exact h)]
    cases bad1 with
    | true =>
      go_wp2_with fail
      go_ret2
      exact ⟨w.heap.size, 0, 1, [], rfl, HI.out.symm, HS6.out.row, HS6.out.below⟩
    | false =>
      have zk : (10000 : Int) < (K : Int) := by
        rcases hbd with h | h
        · cases h
        · omega
      go_wp2_with fail
      go_ret2
      exact ⟨w.heap.size, 0, 1, [], rfl, HI.out.symm, HS6.out.row, HS6.out.below⟩
  have hb1f : bad1 = false := by
    cases bad1 with
    | true => exact absurd (.inl rfl) hbd
    | false => rfl
  subst hb1f
  have hK2 : K ≤ 10000 := by
    rcases Nat.lt_or_ge 10000 K with h | h
    · exact absurd (.inr h) hbd
    · exact h
  have zk : ¬ (10000 : Int) < (K : Int) := by omega
  obtain ⟨t0, ht0⟩ : ∃ t0, t0 = ix.drop i1 := ⟨_, rfl⟩
  have HB0 : Hid (idxM xs = idxEnd lim (getBlks N lim K 4 t0)) := by
    show idxM xs = _
    rw [HIdx.out, ht0]
    unfold idxBody
    have := (gotNum_bad HGN.out).2
    rw [List.drop_zero] at this
    rw [this]
    simp only []
    rw [if_neg (by omega)]
  have HT0 : Hid (t0 = ix.drop i1) := ht0
  clear hbd HGN ht0 HIdx hK
  go_upto_region 18 with fail
  clear q2 zk
  have HX : Hid (ix.length = m) := HIx.out.2
  go_loopw [4, 10, 11] (fun o pl kk wr => ∃ (k p i g cp : Nat) (l : List Blk), o = .slice (some ⟨g, 0, none⟩) l.length cp ∧ pl = .int .i64 (p : Int) ∧ kk = .int .u64 (k : Int) ∧ BlksTo N lim K t0 k l p (ix.drop i) ∧ i ≤ m ∧ 4 ≤ p ∧ p ≤ lim ∧ IS w G [.slice (some ⟨b, off + lim, none⟩) m c2, .int .i64 (i : Int), .bool false] g cp l wr) (fun _ _ kk _ => K - (intOf kk).toNat)
  case atStart => exact ⟨0, 4, i1, w.heap.size, 0, [], rfl, rfl, rfl, by rw [← HT0.out]; exact blksTo_zero _ _ _ _, hi1, Nat.le_refl _, hl4, HS6.out⟩
  case round =>
    clear HS6
    obtain ⟨k, p, i, g, cp, l, rfl, rfl, rfl, hBT, hi, hp4, hpl, hIS⟩ := hrel
    have hkK : k ≤ K := hBT.1
    have hlk : l.length ≤ 10000 := by have := hBT.2.1; omega
    have HBT : Hid (BlksTo N lim K t0 k l p (ix.drop i)) := hBT
    have HS : Hid (IS w G [.slice (some ⟨b, off + lim, none⟩) m c2, .int .i64 (i : Int), .bool false] g cp l wr) := hIS
    clear hBT hIS
    by_cases hlt : k < K
    · have zk : (k : Int) < (K : Int) := by omega
      -- the size
      have r0 := HS.out.box.cell (j := 0) rfl
      have r1 := HS.out.box.cell (j := 1) rfl
      have r2 := HS.out.box.cell (j := 2) rfl
      have sA := HS.out.below.size
      have hgn := l2GetNum_core b (off + lim) c2 ix i false wr (HXw.out wr HS.out.below) (by omega) (by rw [HX.out]; omega) (by rw [HX.out]; exact hi)
      rw [HX.out] at hgn
      go_wp2_with fail
      clear r0 r1 r2
      refine hgn.mono ?_
      rintro r wA ⟨iA, bA, size, rfl, hGA, hbA⟩
      rw [HX.out]
      have hiA := hGA.1
      rw [HX.out] at hiA
      have hszA := hGA.2.1
      have HGA : Hid (GotNum ix i false iA bA size) := hGA
      have HSA : Hid (IS w G [.slice (some ⟨b, off + lim, none⟩) m c2, .int .i64 (i : Int), .bool false] g cp l wA) := HS.out.call hbA
      clear hGA hbA hgn HS sA
      have f0 := HSA.out.box.frozen 0
      have f1 := HSA.out.box.frozen 1
      have f2 := HSA.out.box.frozen 2
      have r0 := HSA.out.box.cell (j := 0) rfl
      have r1 := HSA.out.box.cell (j := 1) rfl
      have r2 := HSA.out.box.cell (j := 2) rfl
      obtain ⟨WA, hWA⟩ : ∃ WA : World, WA = set3 wA G (.slice (some ⟨b, off + lim, none⟩) m c2) (.int .i64 (iA : Int)) (.bool bA) := ⟨_, rfl⟩
      have HTA : Hid (IS w G [.slice (some ⟨b, off + lim, none⟩) m c2, .int .i64 (iA : Int), .bool bA] g cp l WA) := by rw [hWA]; exact HSA.out.set3 _ _ _
      unfold set3 at hWA
      go_upto_region 24 with fail
      rw [← hWA]
      clear hWA f0 f1 f2 r0 r1 r2 HSA
      -- the count
      have r0 := HTA.out.box.cell (j := 0) rfl
      have r1 := HTA.out.box.cell (j := 1) rfl
      have r2 := HTA.out.box.cell (j := 2) rfl
      have sB := HTA.out.below.size
      have hgn := l2GetNum_core b (off + lim) c2 ix iA bA WA (HXw.out WA HTA.out.below) (by omega) (by rw [HX.out]; omega) (by rw [HX.out]; exact hiA)
      rw [HX.out] at hgn
      go_wp2_with fail
      clear r0 r1 r2
      refine hgn.mono ?_
      rintro r wB ⟨iB, bB, count, rfl, hGB, hbB⟩
      rw [HX.out]
      have hiB := hGB.1
      rw [HX.out] at hiB
      have hszB := hGB.2.1
      have HGB : Hid (GotNum ix iA bA iB bB count) := hGB
      have HSB : Hid (IS w G [.slice (some ⟨b, off + lim, none⟩) m c2, .int .i64 (iA : Int), .bool bA] g cp l wB) := HTA.out.call hbB
      clear hGB hbB hgn HTA sB
      have f0 := HSB.out.box.frozen 0
      have f1 := HSB.out.box.frozen 1
      have f2 := HSB.out.box.frozen 2
      have r0 := HSB.out.box.cell (j := 0) rfl
      have r1 := HSB.out.box.cell (j := 1) rfl
      have r2 := HSB.out.box.cell (j := 2) rfl
      obtain ⟨WB, hWB⟩ : ∃ WB : World, WB = set3 wB G (.slice (some ⟨b, off + lim, none⟩) m c2) (.int .i64 (iB : Int)) (.bool bB) := ⟨_, rfl⟩
      have HTB : Hid (IS w G [.slice (some ⟨b, off + lim, none⟩) m c2, .int .i64 (iB : Int), .bool bB] g cp l WB) := by rw [hWB]; exact HSB.out.set3 _ _ _
      unfold set3 at hWB
      go_upto_region 25 with fail
      rw [← hWB]
      clear hWB f0 f1 f2 r0 r1 r2 HSB
      -- the row
      have r0 := HTB.out.box.cell (j := 0) rfl
      have r1 := HTB.out.box.cell (j := 1) rfl
      have r2 := HTB.out.box.cell (j := 2) rfl
      have sC := HTB.out.below.size
      have hgn := l2GetStr_core b (off + lim) c2 ix iB bB WB (HXw.out WB HTB.out.below) (by omega) (by rw [HX.out]; omega) (by rw [HX.out]; exact hc2m) (by rw [HX.out]; exact hiB)
      rw [HX.out] at hgn
      go_wp2_with fail
      clear r0 r1 r2
      refine hgn.mono ?_
      rintro r wC ⟨iC, bC, row, rfl, hGC, hbC⟩
      rw [HX.out]
      have hiC := hGC.1
      rw [HX.out] at hiC
      have HGC : Hid (GotStr ix iB bB iC bC row) := hGC
      have HSC : Hid (IS w G [.slice (some ⟨b, off + lim, none⟩) m c2, .int .i64 (iB : Int), .bool bB] g cp l wC) := HTB.out.call hbC
      clear hGC hbC hgn HTB sC
      have f0 := HSC.out.box.frozen 0
      have f1 := HSC.out.box.frozen 1
      have f2 := HSC.out.box.frozen 2
      have r0 := HSC.out.box.cell (j := 0) rfl
      have r1 := HSC.out.box.cell (j := 1) rfl
      have r2 := HSC.out.box.cell (j := 2) rfl
      obtain ⟨WC, hWC⟩ : ∃ WC : World, WC = set3 wC G (.slice (some ⟨b, off + lim, none⟩) m c2) (.int .i64 (iC : Int)) (.bool bC) := ⟨_, rfl⟩
      have HTC : Hid (IS w G [.slice (some ⟨b, off + lim, none⟩) m c2, .int .i64 (iC : Int), .bool bC] g cp l WC) := by rw [hWC]; exact HSC.out.set3 _ _ _
      unfold set3 at hWC
      go_upto_region 26 with fail
      rw [← hWC]
      clear hWC f0 f1 f2 r0 r1 r2 HSC
      have HOne : Hid ((bC = true → oneBlk N lim p (ix.drop i) = none) ∧ (bC = false → oneBlk N lim p (ix.drop i) = if count < 1 ∨ 1000 < count ∨ N < size ∨ lim < p + size + 4 then none else some (⟨p, p + size, count, row⟩, p + size + 4, ix.drop iC))) := oneBlk_read HGA.out HGB.out HGC.out
      have r2 := HTC.out.box.cell (j := 2) rfl
      go_cut [107] (fun s wx => ∃ c : Bool, s = .bool c ∧ (c = true ↔ bC = true ∨ count < 1 ∨ 1000 < count ∨ N < size) ∧ wx = WC)
      case first =>
        cases bC with
        | true =>
          go_wp2_with fail
          go_meet
          exact ⟨true, rfl, by simp, rfl⟩
        | false =>
          by_cases c1 : count < 1
          · have y1 : (count : Int) < 1 := by omega
            go_wp2_with fail
            go_meet
            exact ⟨true, rfl, by simp [c1], rfl⟩
          · have y1 : ¬ (count : Int) < 1 := by omega
            by_cases c2 : 1000 < count
            · have y2 : (1000 : Int) < (count : Int) := by omega
              go_wp2_with fail
              go_meet
              exact ⟨true, rfl, by simp [c2], rfl⟩
            · have y2 : ¬ (1000 : Int) < (count : Int) := by omega
              by_cases c3 : N < size
              · have y3 : (N : Int) < (size : Int) := by omega
                go_wp2_with fail
                go_meet
                exact ⟨true, rfl, by simp [c3], rfl⟩
              · have y3 : ¬ (N : Int) < (size : Int) := by omega
                go_wp2_with fail
                go_meet
                exact ⟨false, rfl, by simp; omega, rfl⟩
      case rest =>
      obtain ⟨c, rfl, hc, hwc⟩ := hcut
      rw [hwc]
      clear hwc wc r2
      cases c with
      | true =>
        have HI : Hid (idxM xs = (1, [])) := by
          show idxM xs = (1, [])
          have h1 : oneBlk N lim p (ix.drop i) = none := by
            cases bC with
            | true => exact HOne.out.1 rfl
            | false =>
              rw [HOne.out.2 rfl, if_pos]
              rcases hc.1 rfl with h | h | h | h
              · cases h
              · exact .inl h
              · exact .inr (.inl h)
              · exact .inr (.inr (.inl h))
          rw [HB0.out, HBT.out.stop hlt h1]; rfl
        have HW : Hid (OwnI (WC.alloc (Obj.cells #[] 41)) w.heap.size WC.heap.size 0 [] ∧ Below w.heap.size w (WC.alloc (Obj.cells #[] 41))) := ⟨ownI_new WC HTC.out.below.size, HTC.out.below.alloc HTC.out.below.size _⟩
        clear hc
        go_wp2_with fail
        go_ret2
        exact ⟨WC.heap.size, 0, 1, [], rfl, HI.out.symm, HW.out.1, HW.out.2⟩
      | false =>
        have hcf : ¬ (bC = true ∨ count < 1 ∨ 1000 < count ∨ N < size) := fun q => by have := hc.2 q; cases this
        have hbC : bC = false := by
          cases bC with
          | true => exact absurd (.inl rfl) hcf
          | false => rfl
        subst hbC
        have HOne2 : Hid (oneBlk N lim p (ix.drop i) = if count < 1 ∨ 1000 < count ∨ N < size ∨ lim < p + size + 4 then none else some (⟨p, p + size, count, row⟩, p + size + 4, ix.drop iC)) := HOne.out.2 rfl
        clear HOne
        have hc1 : 1 ≤ count ∧ count ≤ 1000 ∧ size ≤ N := by
          refine ⟨?_, ?_, ?_⟩
          · exact Nat.not_lt.1 (fun q => hcf (.inr (.inl q)))
          · exact Nat.not_lt.1 (fun q => hcf (.inr (.inr (.inl q))))
          · exact Nat.not_lt.1 (fun q => hcf (.inr (.inr (.inr q))))
        clear hc hcf
        obtain ⟨e, he⟩ : ∃ e : Blk, e = ⟨p, p + size, count, row⟩ := ⟨_, rfl⟩
        obtain ⟨WD, hWD⟩ : ∃ WD : World, WD = WC.alloc (Obj.cells #[.int .i64 (p : Int), .int .i64 ((p : Int) + (size : Int)), .int .i64 (count : Int), .string row] 41) := ⟨_, rfl⟩
        have hbD : Below WC.heap.size WC WD := by rw [hWD]; exact (Below.refl _ _).alloc (Nat.le_refl _) _
        have HTD : Hid (IS w G [.slice (some ⟨b, off + lim, none⟩) m c2, .int .i64 (iC : Int), .bool false] g cp l WD ∧ ∀ j u, e.four[j]? = some u → WD.cell? ⟨WC.heap.size, j, none⟩ = some u) := by
          refine ⟨HTC.out.call hbD, ?_⟩
          intro j u hu
          rw [he] at hu
          rw [hWD]
          match j, hu with
          | 0, hu => simp at hu; subst hu; simp
          | 1, hu => simp at hu; subst hu; simp
          | 2, hu => simp at hu; subst hu; simp
          | 3, hu => simp at hu; subst hu; simp
        have sD := HTD.out.1.below.size
        have sC2 := HTC.out.below.size
        have He : Hid (e = ⟨p, p + size, count, row⟩) := he
        clear hbD he
        go_wp2_with (at_builtin; rw [← hWD]; refine wpList_append_blk _ rfl _ _ rfl w.heap.size g cp l.length WC.heap.size l e rfl rfl rfl ?hO ?hc ?hl ?hb ?_)
        case hO => first | exact HTD.out.1.row | (rw [← hWD]; exact HTD.out.1.row)
        case hc => first | exact HTD.out.2 | (rw [← hWD]; exact HTD.out.2) | (intro j u hu; rw [He.out] at hu; exact hu)
        case hl => omega
        case hb => first | exact sD | omega
        intro g' cp' wE hOE hgrE hatE
        try rw [← hWD] at hgrE
        have hatE2 : g' = g ∨ g' = WD.heap.size := by
          rcases hatE with h | h
          · exact .inl h
          · right; rw [h, hWD]; simp
        have HTE : Hid (IS w G [.slice (some ⟨b, off + lim, none⟩) m c2, .int .i64 (iC : Int), .bool false] g' cp' (l ++ [e]) wE) := HTD.out.1.app hOE hgrE hatE2
        clear hOE hgrE hatE hatE2 hWD HTD sD HTC sC2
        by_cases hpl2 : lim < p + size + 4
        · have y4 : (lim : Int) < (p : Int) + (size : Int) + 4 := by omega
          have HI : Hid (idxM xs = (1, [])) := by
            show idxM xs = (1, [])
            have h1 : oneBlk N lim p (ix.drop i) = none := by rw [HOne2.out, if_pos (.inr (.inr (.inr hpl2)))]
            rw [HB0.out, HBT.out.stop hlt h1]; rfl
          have HW : Hid (OwnI (wE.alloc (Obj.cells #[] 41)) w.heap.size wE.heap.size 0 [] ∧ Below w.heap.size w (wE.alloc (Obj.cells #[] 41))) := ⟨ownI_new wE HTE.out.below.size, HTE.out.below.alloc HTE.out.below.size _⟩
          go_wp2_with fail
          go_ret2
          exact ⟨wE.heap.size, 0, 1, [], rfl, HI.out.symm, HW.out.1, HW.out.2⟩
        · have y4 : ¬ (lim : Int) < (p : Int) + (size : Int) + 4 := by omega
          have HBE : Hid (BlksTo N lim K t0 (k + 1) (l ++ [e]) (p + size + 4) (ix.drop iC)) := by
            refine HBT.out.more hlt ?_
            rw [HOne2.out, if_neg, He.out]
            rintro (h | h | h | h) <;> omega
          have hle : l.length + 1 = (l ++ [e]).length := by simp
          rw [hle]
          go_wp2_with fail
          go_roundw
          case rel => exact ⟨k + 1, p + size + 4, iC, g', cp', l ++ [e], by simp, by go_num, by go_num, HBE.out, hiC, by omega, by omega, HTE.out⟩
          case measure => simp [intOf]; omega
    · obtain rfl : k = K := by omega
      have hdone := HBT.out.done
      have r0 := HS.out.box.cell (j := 0) rfl
      have r1 := HS.out.box.cell (j := 1) rfl
      have HD : Hid (idxM xs = if ix.drop i ≠ [] ∨ p ≠ lim then (1, []) else (0, l)) := by
        show idxM xs = _
        rw [HB0.out, hdone]; rfl
      have hdr : (ix.drop i = []) ↔ i = m := by
        rw [List.drop_eq_nil_iff, HX.out]
        omega
      clear hdone
      by_cases hend : i = m ∧ p = lim
      · have HI : Hid (idxM xs = (0, l)) := by
          show idxM xs = (0, l)
          rw [HD.out, if_neg]
          rintro (h | h)
          · exact h (hdr.2 hend.1)
          · exact h hend.2
        obtain ⟨rfl, rfl⟩ := hend
        clear hdr HD
        go_wp2_with fail
        go_ret2
        exact ⟨g, cp, 0, l, rfl, HI.out.symm, HS.out.row, HS.out.below⟩
      · have HI : Hid (idxM xs = (1, [])) := by
          show idxM xs = (1, [])
          rw [HD.out, if_pos]
          by_cases hi2 : i = m
          · exact .inr (fun q => hend ⟨hi2, q⟩)
          · exact .inl (fun q => hi2 (hdr.1 q))
        have HW : Hid (OwnI (wr.alloc (Obj.cells #[] 41)) w.heap.size wr.heap.size 0 [] ∧ Below w.heap.size w (wr.alloc (Obj.cells #[] 41))) := ⟨ownI_new wr HS.out.below.size, HS.out.below.alloc HS.out.below.size _⟩
        by_cases hi2 : i = m
        · have y5 : (i : Int) = (m : Int) := by omega
          have y6 : ¬ (p : Int) = (lim : Int) := by omega
          clear hdr HD hend
          subst hi2
          go_wp2_with fail
          go_ret2
          exact ⟨wr.heap.size, 0, 1, [], rfl, HI.out.symm, HW.out.1, HW.out.2⟩
        · have y5 : ¬ (i : Int) = (m : Int) := by omega
          clear hdr HD hend
          go_wp2_with fail
          go_ret2
          exact ⟨wr.heap.size, 0, 1, [], rfl, HI.out.symm, HW.out.1, HW.out.2⟩
end Go.Proofs.YtnncedndlhfdkacDoor

/-
  Ranges by value: the contracts of szRange, toRange, spec.InRange, impl.InRange.
-/
namespace Go.Proofs.YtnncedndlhfdkacDoor
open Go.ChangeShapes Go.WideShapes Go.ChangeAt Go.RowKit Go.Deep

/-- Whether a row is in a range. -/
def inR (lo : ByteArray) (hh : Bool) (hi row : ByteArray) : Bool := !Op.bytesLess row.toList lo.toList && (!hh || Op.bytesLess row.toList hi.toList)

end Go.Proofs.YtnncedndlhfdkacDoor

/-
  The draws: what they may hand back.
-/
namespace Go.Proofs.YtnncedndlhfdkacDoor
open Go.ChangeShapes Go.WideShapes Go.ChangeAt Go.RowKit Go.Deep
set_option linter.unusedVariables false
set_option linter.unusedSimpArgs false
set_option maxRecDepth 100000

/-- The letters that are drawn from. -/
def CodeAt (w : World) (base : Nat) (bv : Value) (n : Nat) : Prop :=
  n ≤ 1048576 ∧ ((∃ a cap, bv = .slice a 0 cap ∧ n = 0) ∨ ∃ b off cap, bv = .slice (some ⟨b, off, none⟩) n cap ∧ b < base ∧ ∀ k, k < n → ∃ x : Int, w.cell? ⟨b, off + k, none⟩ = some (.int .u8 x) ∧ 0 ≤ x ∧ x < 256)
theorem and255 (x : Int) : 0 ≤ bits .and .i64 x 255 ∧ bits .and .i64 x 255 < 256 := by
  have h : (BitVec.ofInt 64 x &&& BitVec.ofInt 64 255).toNat ≤ 255 := by
    rw [BitVec.toNat_and]
    exact Nat.le_trans Nat.and_le_right (by decide)
  have e : bits .and .i64 x 255 = IntKind.i64.wrap ((BitVec.ofInt 64 x &&& BitVec.ofInt 64 255).toNat : Int) := rfl
  rw [e, IntKind.wrap_i64]
  omega
theorem CodeAt.chg {T : Nat → Prop} {w w' : World} {base : Nat} {bv : Value} {n : Nat} (h : CodeAt w base bv n) (hc : Chg T w w') (hb : base ≤ w.heap.size) (hT : ∀ k, T k → base ≤ k) : CodeAt w' base bv n := by
  refine ⟨h.1, ?_⟩
  rcases h.2 with h | ⟨b, off, cap, hv, hlt, hx⟩
  · exact .inl h
  · refine .inr ⟨b, off, cap, hv, hlt, fun k hk => ?_⟩
    obtain ⟨x, h1, h2⟩ := hx k hk
    exact ⟨x, by rw [hc.cell (p := ⟨b, off + k, none⟩) (by show b < w.heap.size; omega) (fun q => by have q1 : base ≤ b := hT _ q; omega)]; exact h1, h2⟩
theorem Chg.grown_new {T : Nat → Prop} {w wr w' : World} {row : Option Nat} (h : Chg T w wr) (hg : wr.grownBy w' row) (hr : ∀ k, row = some k → w.heap.size ≤ k) : Chg T w w' :=
  ⟨hg.os.trans h.os, hg.tape.trans h.tape, hg.output.trans h.output, Nat.le_trans h.size hg.size, fun k hk hn => (hg.block k (Nat.lt_of_lt_of_le hk h.size) (fun q => by have := hr k q.symm; omega)).trans (h.block k hk hn)⟩
theorem Chg.alloc_new {T : Nat → Prop} {w wr : World} (h : Chg T w wr) (o : Obj) : Chg T w (wr.alloc o) := h.trans (Chg.of_below ((Below.refl _ _).alloc (Nat.le_refl _) _))

/-- A row of bytes of the call's own. -/
abbrev u8v (z : UInt8) : Value := .int .u8 (z.toNat : Int)
def OwnB (w : World) (base g cap : Nat) (zs : List UInt8) : Prop := w.ownsRow base 5 1 (.slice (some ⟨g, 0, none⟩) zs.length cap) zs.length (zs.map u8v)
theorem Tryd.infoU8 : (Tryd.prog.info? 5).map (fun i => (i.zero, i.size, i.bytes)) = some (some (.int .u8 0), 1, 1) := by kernel_rfl
theorem wpList_append_byte {ops : Array Oper} {rest : List Oper} {o : Oper} {a : Act} {Q : Exit → Act → World → Prop} (w : World) (hgd : o.guard = none) (s x : Operand)
    (ho : o.op = .call { callee := .builtin .append, args := #[s, x], argTypes := #[22, 22] })
    (base g cp n blk : Nat) (zs : List UInt8) (z : UInt8) (hs : a.eval s = .slice (some ⟨g, 0, none⟩) n cp) (cx : Nat) (hx : a.eval x = .slice (some ⟨blk, 0, none⟩) 1 cx) (hn : n = zs.length) (hO : OwnB w base g cp zs)
    (hc : w.cell? ⟨blk, 0, none⟩ = some (.int .u8 (z.toNat : Int))) (hlen : zs.length ≤ 2 ^ 30) (hbase : base ≤ w.heap.size)
    (h : ∀ g' cp' w', OwnB w' base g' cp' (zs ++ [z]) → w.grownBy w' (some g) → wpList Tryd.prog ops Q rest (a.put o.dst (.slice (some ⟨g', 0, none⟩) (n + 1) cp')) w') : wpList Tryd.prog ops Q (o :: rest) a w := by
  obtain ⟨i, hi, hz0, hz1, hz2⟩ := info_parts Tryd.infoU8
  subst hn
  refine wpList_append_lies w hgd s x 22 ho base 5 i _ 1 1 Tryd.underlying22 hi hz0 hz1 hz2 rfl (by decide) (.slice (some ⟨g, 0, none⟩) zs.length cp) zs.length (zs.map u8v) hs hO ⟨blk, 0, none⟩ 1 cx [u8v z] hx rfl ?_ ?_ (by decide) ?_ ?_ hbase w.heap.size rfl ?_
  · intro j u hu
    have hj : j < 1 := by simpa using (List.getElem?_eq_some_iff.1 hu).1
    obtain rfl : j = 0 := by omega
    simp at hu
    rw [← hu]
    simpa [Addr.add] using hc
  · intro u hu
    simp at hu
    subst hu
    rfl
  · unfold maxLen; omega
  · omega
  · intro g' cp' w' hO' hgr hat hlt
    refine h g' cp' w' ?_ hgr
    unfold OwnB
    rw [List.length_append, List.map_append]
    exact hO'
theorem ownB_new (w : World) (base : Nat) (hb : base ≤ w.heap.size) : OwnB (w.alloc (Obj.cells #[] 5)) base w.heap.size 0 [] := World.ownsRow_made w #[] 0 hb (Nat.zero_le _) (by simp)
theorem conv_own {w : World} {base g cap : Nat} {zs : List UInt8} (h : OwnB w base g cap zs) : (convert 22 9 (.slice (some ⟨g, 0, none⟩) zs.length cap)).run Tryd.prog w = .ok (.string ⟨zs.toArray⟩) w := by
  refine run_convert_bytes_back (P := Tryd.prog) w 22 9 5 ⟨g, 0, none⟩ cap zs Tryd.underlying22 Tryd.underlying5 Tryd.underlying9 ?_
  intro i hi
  have := World.ownsRow.cellAt h i (by omega)
  rw [Addr.add_mid, Nat.zero_add, this, List.getElem?_map, List.getElem?_eq_getElem hi]
  rfl

end Go.Proofs.YtnncedndlhfdkacDoor

/-
  The draws: rows, families, qualifiers, timestamps.
-/
namespace Go.Proofs.YtnncedndlhfdkacDoor
open Go.ChangeShapes Go.WideShapes Go.ChangeAt Go.RowKit Go.Deep
set_option linter.unusedVariables false
set_option linter.unusedSimpArgs false
set_option maxRecDepth 100000

theorem conv_str (c : UInt8) (w : World) : ∃ cx w', (convert 9 22 (.string ⟨#[c]⟩)).run Tryd.prog w = .ok (.slice (some ⟨w.heap.size, 0, none⟩) 1 cx) w' ∧ Below w.heap.size w w' ∧ w'.cell? ⟨w.heap.size, 0, none⟩ = some (.int .u8 (c.toNat : Int)) := by
  refine ⟨_, _, run_bytes_of_string (P := Tryd.prog) w 9 22 5 ⟨#[c]⟩ Tryd.underlying9 Tryd.underlying22 Tryd.underlying5, ((Below.refl _ _).drew).alloc (Nat.le_refl _) _, ?_⟩
  have hb : ∀ O : Obj, (w.drew.alloc O).heap[w.heap.size]? = some O := fun O => by
    show (w.heap.push O)[w.heap.size]? = _
    simp
  unfold World.cell?
  rw [hb]
  simp [bytesRow]
  rw [Array.getElem?_append_left (by simp)]
  rfl

end Go.Proofs.YtnncedndlhfdkacDoor

