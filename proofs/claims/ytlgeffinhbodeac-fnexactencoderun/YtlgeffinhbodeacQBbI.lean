/-
  impl.blockBody.
-/
import Derived.Test.YtlgeffinhbodeacQAppT
import Derived.Test.YtlgeffinhbodeacQShrI
import Derived.Test.YtlgeffinhbodeacPkB
namespace Go.Proofs.Ytlgeffinhbodeac
open Go.ChangeShapes Go.WideShapes Go.ChangeAt Go.RowKit Go.Deep
set_option linter.unusedVariables false
set_option linter.unusedSimpArgs false
set_option maxRecDepth 100000

/-- The state of blockBody's loop, an entry beside. -/
structure BbJ (w : World) (GE : Nat) (e : Ent) (g cp : Nat) (xs : List UInt8) (wr : World) : Prop where
  out : OwnY wr w.heap.size g cp xs
  ent : BoxAt wr w.heap.size 73 6 GE [.string e.row, .string e.fam, .string e.qual, .int .u64 e.ts, .int .i64 e.kind, .string e.val]
  ne : ¬ GE = g
  below : Below w.heap.size w wr
theorem BbJ.app {w : World} {GE : Nat} {e : Ent} {g cp g' cp' : Nat} {xs ys : List UInt8} {wr w' : World} (h : BbJ w GE e g cp xs wr) (hO : OwnY w' w.heap.size g' cp' ys) (hC : Chg (fun k => (Value.slice (some ⟨g, 0, none⟩) xs.length cp).ownBlock = some k) wr w') (hat : (Value.slice (some ⟨g, 0, none⟩) xs.length cp).ownBlock = some g' ∨ wr.heap.size ≤ g') : BbJ w GE e g' cp' ys w' := by
  have h1 := h.out.lt
  have h2 := h.ent.lt
  have h3 := h.ne
  have hC2 : Chg (fun k => k = g) wr w' := hC.mono (fun k q => by simp [Value.ownBlock] at q; exact q.symm)
  refine ⟨hO, h.ent.chg hC2 h3, ?_, Chg.below h.below hC2 h.below.size (fun k q => by omega)⟩
  rcases hat with q | q
  · simp [Value.ownBlock] at q; omega
  · omega
theorem bb_num {w : World} {GE : Nat} {e : Ent} {g cp : Nat} {xs : List UInt8} {wr : World} (h : BbJ w GE e g cp xs wr) (m : Nat) (hm : m = xs.length) (n : Nat) (hn : n < 2 ^ 64) (hl : m ≤ 2 ^ 28) :
    Calls Try.prog 62 #[.slice (some ⟨g, 0, none⟩) m cp, .int .u64 (n : Int)] wr fun r w' => ∃ g' cp' m', r = .returned (.slice (some ⟨g', 0, none⟩) m' cp') ∧ Hid (m' = (xs ++ num n).length ∧ BbJ w GE e g' cp' (xs ++ num n) w') ∧ m' ≤ m + 10 := by
  subst hm
  refine (appendNumber_core w.heap.size _ xs n wr (OwnS.of h.out) hn (by omega) h.below.size).mono ?_
  rintro r w' ⟨g', cp', rfl, hO, hC, hat⟩
  refine ⟨g', cp', _, rfl, ⟨rfl, h.app hO hC hat⟩, ?_⟩
  have := num_len64 hn
  rw [List.length_append]
  omega
theorem bb_text {w : World} {GE : Nat} {e : Ent} {g cp : Nat} {xs : List UInt8} {wr : World} (h : BbJ w GE e g cp xs wr) (m : Nat) (hm : m = xs.length) (s : ByteArray) (hs : s.size ≤ 200) (hl : m ≤ 2 ^ 28) :
    Calls Try.prog 63 #[.slice (some ⟨g, 0, none⟩) m cp, .string s] wr fun r w' => ∃ g' cp' m', r = .returned (.slice (some ⟨g', 0, none⟩) m' cp') ∧ Hid (m' = (xs ++ strB (bl s)).length ∧ BbJ w GE e g' cp' (xs ++ strB (bl s)) w') ∧ m' ≤ m + 300 := by
  subst hm
  have e1 : xs ++ num s.size ++ bl s = xs ++ strB (bl s) := by unfold strB; rw [bl_len, List.append_assoc]
  refine (appendText_core w.heap.size _ xs s wr (OwnS.of h.out) (by omega) h.below.size).mono ?_
  rintro r w' ⟨g', cp', rfl, hO, hC, hat⟩
  rw [e1] at hO ⊢
  refine ⟨g', cp', _, rfl, ⟨rfl, h.app hO hC hat⟩, ?_⟩
  have := strB_len (s := bl s) (by rw [bl_len]; omega)
  rw [bl_len] at this
  rw [List.length_append]
  omega
theorem BbJ.move {w : World} {GE : Nat} {e : Ent} {g cp : Nat} {xs : List UInt8} {wr w' : World} (h : BbJ w GE e g cp xs wr) (hb : Below wr.heap.size wr w') : BbJ w GE e g cp xs w' :=
  ⟨h.out.below hb, h.ent.below hb, h.ne, h.below.trans (hb.mono h.below.size)⟩
set_option maxHeartbeats 8000000 in
theorem blockBody_core (b off cap : Nat) (es : List Ent) (w : World) (hE : EntsAt w b off es) (hok : ∀ e ∈ es, e.ok) (hv : ∀ e ∈ es, e.vld = true) (hB : b < w.heap.size) (hlen : es.length ≤ 10000) :
    Calls Try.prog 59 #[.slice (some ⟨b, off, none⟩) es.length cap] w fun r w' =>
      ∃ (g cp : Nat), r = .returned (.slice (some ⟨g, 0, none⟩) (body [] es).length cp) ∧ OwnY w' w.heap.size g cp (body [] es) ∧ Below w.heap.size w w' := by
  obtain ⟨W0, hW0⟩ : ∃ W0 : World, W0 = w.alloc (Obj.cells #[] 5) := ⟨_, rfl⟩
  have hb0 : Below w.heap.size w W0 := by rw [hW0]; exact (Below.refl _ _).alloc (Nat.le_refl _) _
  have HO0 : Hid (OwnY W0 w.heap.size w.heap.size 0 []) := by rw [hW0]; exact ownY_new w (Nat.le_refl _)
  have HE : Hid (EntsAt w b off es ∧ (∀ e ∈ es, e.ok) ∧ (∀ e ∈ es, e.vld = true)) := ⟨hE, hok, hv⟩
  obtain ⟨n, hn⟩ : ∃ n, n = es.length := ⟨_, rfl⟩
  have HN : Hid (n = es.length) := hn
  rw [← hn] at hlen ⊢
  clear hE hok hv hn
  go_enter Try.func59, Try.ntmps59
  go_upto_region 2 with fail
  rw [← hW0]
  clear hW0
  go_wp2_with fail
  go_loopw [3, 4, 11] (fun o s i wr => ∃ (k m g cp : Nat) (bf : ByteArray), k ≤ n ∧ i = .int .i64 (k : Int) ∧ m = (body [] (es.take k)).length ∧ o = .slice (some ⟨g, 0, none⟩) m cp ∧ s = .string bf ∧ bf.size ≤ 64 ∧ bl bf = lastRow [] (es.take k) ∧ OwnY wr w.heap.size g cp (body [] (es.take k)) ∧ Below w.heap.size w wr) (fun _ _ i _ => n - (intOf i).toNat)
  case atStart => exact ⟨0, 0, _, 0, ⟨#[]⟩, Nat.zero_le _, rfl, rfl, rfl, rfl, by decide, rfl, HO0.out, hb0⟩
  case round =>
    obtain ⟨k, m, g, cp, bf, hk, rfl, hm, rfl, rfl, hbs, hbf, hO, hb⟩ := hrel
    have hsb := hb.size
    obtain ⟨X0, hX0⟩ : ∃ X0, X0 = body [] (es.take k) := ⟨_, rfl⟩
    have HX0 : Hid (X0 = body [] (es.take k) ∧ m = X0.length ∧ bl bf = lastRow [] (es.take k)) := ⟨hX0, by rw [hX0]; exact hm, hbf⟩
    have hx0 : m ≤ 500 * k := by
      rw [hm]
      have := body_len (es.take k) [] (fun e he => HE.out.2.2 e (List.mem_of_mem_take he)) (fun e he => by have := wf_u64 (HE.out.2.1 e (List.mem_of_mem_take he)).ts; omega)
      have hk2 := HN.out
      rw [List.length_take, Nat.min_eq_left (by omega)] at this
      exact this
    rw [← hX0] at hO
    have HO : Hid (OwnY wr w.heap.size g cp X0) := hO
    have hgl := hO.lt
    clear hX0 hbf hO hm HO0
    by_cases hlt : k < n
    · have zk : (k : Int) < (n : Int) := by omega
      obtain ⟨e, he⟩ : ∃ e, es[k]? = some e := ⟨_, List.getElem?_eq_getElem (by have := HN.out; omega)⟩
      have hem := List.mem_of_getElem? he
      obtain ⟨v1, v2, v3, v4, v5, v6, v7, v8⟩ := vld_parts (HE.out.2.2 e hem)
      have hts := wf_u64 (HE.out.2.1 e hem).ts
      have HT : Hid (es.take (k + 1) = es.take k ++ [e]) := by rw [List.take_add_one, he]; rfl
      obtain ⟨c0, c1, c2, c3, c4, c5⟩ := HE.out.1.below hb hB k e he
      obtain ⟨W1, hW1⟩ : ∃ W1 : World, W1 = wr.alloc (Obj.cells #[.string e.row, .string e.fam, .string e.qual, .int .u64 e.ts, .int .i64 e.kind, .string e.val] 73) := ⟨_, rfl⟩
      have HS1 : Hid (BbJ w wr.heap.size e g cp X0 W1) := by
        have hba : Below wr.heap.size wr W1 := by rw [hW1]; exact (Below.refl _ _).alloc (Nat.le_refl _) _
        refine ⟨HO.out.below hba, ?_, by omega, hb.trans (hba.mono hsb)⟩
        rw [hW1]; exact boxAt_new wr _ hsb rfl
      clear he hem
      go_upto_region 6 with fail
      rw [← hW1]
      clear hW1 c0 c1 c2 c3 c4 c5
      have q := HS1.out.ent.cell (j := 0) rfl
      go_wp2_with fail
      clear q
      refine (implShared_core bf e.row W1 (by unfold maxLen; omega) (by unfold maxLen; omega)).mono ?_
      rintro r w2 ⟨rfl, hb2⟩
      obtain ⟨sh, hsh⟩ : ∃ sh, sh = shared (bl bf) (bl e.row) := ⟨_, rfl⟩
      have hsh1 : sh ≤ e.row.size := by rw [hsh, ← bl_len]; exact (shared_le _ _).2
      have HSh : Hid (sh = shared (lastRow [] (es.take k)) (bl e.row)) := by rw [← HX0.out.2.2]; exact hsh
      rw [← hsh]
      have HS2 : Hid (m = X0.length ∧ BbJ w wr.heap.size e g cp X0 w2) := ⟨HX0.out.2.1, HS1.out.move hb2⟩
      clear hsh hb2 HS1
      obtain ⟨rs, hrs⟩ : ∃ s : ByteArray, s = e.row.extract sh e.row.size := ⟨_, rfl⟩
      have hrs1 : rs.size ≤ 64 := by rw [hrs, ByteArray.size_extract]; omega
      have HRS : Hid (bl rs = (bl e.row).drop sh) := by
        show bl rs = (bl e.row).drop sh
        rw [hrs]
        show (e.row.extract sh e.row.size).data.toList = _
        rw [Lib.extract_data, List.take_of_length_le (by rw [List.length_drop, bl_len]; omega)]
      have HRS2 : Hid (rs = e.row.extract sh e.row.size) := hrs
      clear hrs
      obtain ⟨tn, htn⟩ : ∃ tn : Nat, e.ts = (tn : Int) := ⟨e.ts.toNat, by omega⟩
      obtain ⟨kn, hkn⟩ : ∃ kn : Nat, e.kind = (kn : Int) := ⟨e.kind.toNat, by omega⟩
      have htn2 : tn < 2 ^ 64 := by omega
      have hkn2 : kn ≤ 2 := by omega
      have HTK : Hid (e.ts.toNat = tn ∧ e.kind.toNat = kn) := ⟨by omega, by omega⟩
      have zsh : (sh : Int) ≤ (e.row.size : Int) := by omega
      go_wp2_with fail
      refine (bb_num HS2.out.2 m HS2.out.1 sh (by omega) (by omega)).mono ?_
      rintro r w3 ⟨g3, cp3, m3, rfl, HS3, hm3⟩
      have q := HS3.out.2.ent.cell (j := 0) rfl
      go_wp2_with fail
      clear q
      rw [← HRS2.out]
      refine (bb_text HS3.out.2 m3 HS3.out.1 rs (by omega) (by omega)).mono ?_
      rintro r w4 ⟨g4, cp4, m4, rfl, HS4, hm4⟩
      have q := HS4.out.2.ent.cell (j := 1) rfl
      go_wp2_with fail
      clear q
      refine (bb_text HS4.out.2 m4 HS4.out.1 e.fam (by omega) (by omega)).mono ?_
      rintro r w5 ⟨g5, cp5, m5, rfl, HS5, hm5⟩
      have q := HS5.out.2.ent.cell (j := 2) rfl
      go_wp2_with fail
      clear q
      refine (bb_text HS5.out.2 m5 HS5.out.1 e.qual (by omega) (by omega)).mono ?_
      rintro r w6 ⟨g6, cp6, m6, rfl, HS6, hm6⟩
      have q := HS6.out.2.ent.cell (j := 3) rfl
      go_wp2_with fail
      clear q
      first | rw [htn] | skip
      refine (bb_num HS6.out.2 m6 HS6.out.1 tn (by omega) (by omega)).mono ?_
      rintro r w7 ⟨g7, cp7, m7, rfl, HS7, hm7⟩
      have q := HS7.out.2.ent.cell (j := 4) rfl
      go_wp2_with fail
      clear q
      first | rw [hkn] | skip
      refine (bb_num HS7.out.2 m7 HS7.out.1 kn (by omega) (by omega)).mono ?_
      rintro r w8 ⟨g8, cp8, m8, rfl, HS8, hm8⟩
      have q := HS8.out.2.ent.cell (j := 5) rfl
      go_wp2_with fail
      clear q
      refine (bb_text HS8.out.2 m8 HS8.out.1 e.val (by omega) (by omega)).mono ?_
      rintro r w9 ⟨g9, cp9, m9, rfl, HS9, hm9⟩
      have q := HS9.out.2.ent.cell (j := 0) rfl
      have HFin : Hid (m9 = (body [] (es.take (k + 1))).length ∧ OwnY w9 w.heap.size g9 cp9 (body [] (es.take (k + 1))) ∧ Below w.heap.size w w9 ∧ bl e.row = lastRow [] (es.take (k + 1))) := by
        have e1 : body [] (es.take (k + 1)) = X0 ++ num sh ++ strB (bl rs) ++ strB (bl e.fam) ++ strB (bl e.qual) ++ num tn ++ num kn ++ strB (bl e.val) := by
          rw [HT.out, body_snoc, ← HX0.out.1, entB, ← HSh.out, HTK.out.1, HTK.out.2, HRS.out]
          simp only [List.append_assoc]
        rw [e1]
        exact ⟨HS9.out.1, HS9.out.2.out, HS9.out.2.below, by rw [HT.out, lastRow_snoc]⟩
      go_wp2_with fail
      go_roundw
      case rel => exact ⟨k + 1, m9, g9, cp9, e.row, by omega, by go_num, HFin.out.1, rfl, rfl, by omega, HFin.out.2.2.2, HFin.out.2.1, HFin.out.2.2.1⟩
      case measure => simp [intOf]; omega
    · have zk : ¬ (k : Int) < (n : Int) := by omega
      have HFin : Hid (X0 = body [] es ∧ m = (body [] es).length) := by
        have h1 := HX0.out.1
        rw [List.take_of_length_le (by have := HN.out; omega)] at h1
        exact ⟨h1, by rw [← h1]; exact HX0.out.2.1⟩
      go_wp2_with fail
      go_ret
      exact ⟨g, cp, by rw [← HFin.out.2]; rfl, by rw [← HFin.out.1]; exact HO.out, hb⟩
end Go.Proofs.Ytlgeffinhbodeac
