import Derived.Deep.DeepCutAuto
import Derived.Deep.RegionWith
import Derived.Deep.QuietTactic
import Derived.BigQuiet
import Derived.Test.YtnncedndlhfdkabPkAC
import Derived.Test.YtnncedndlhfdkabPkAB
import Derived.Test.YtnncedndlhfdkabPkAA
/-
  impl.BuildRun: the entries of the columns, put in order.
-/
namespace Go.Proofs.Ytnncedndlhfdkab
open Go.ChangeShapes Go.WideShapes Go.ChangeAt Go.RowKit Go.Deep Go.Maps
set_option linter.unusedVariables false
set_option maxRecDepth 100000

theorem wf_nonneg {t : Int} (h : (Lit.int .u64 t).wf = true) : 0 ≤ t := by
  simp only [Lit.wf, Bool.and_eq_true, decide_eq_true_eq] at h
  have : IntKind.u64.min = 0 := rfl
  omega
/-- An entry that a column's state tells. -/
def InCW (c : Col) (k : CW) (x : Ent) : Prop := (k.d = true ∧ x = delE c k.u) ∨ ∃ t, (Lit.int .u64 t).wf = true ∧ k.f t = some x

theorem cols_keep {ws : List Ent} (hv : ∀ e ∈ ws, e.vld = true) (hok : ∀ e ∈ ws, e.ok) (x : Ent) : (∃ c k, colsOf ws c = some k ∧ InCW c k x) ↔ KeepTo ws ws.length x := by
  have hp : ∀ e ∈ ws, 0 ≤ e.ts := fun e he => wf_nonneg (hok e he).ts
  constructor
  · rintro ⟨c, k, hk, h⟩
    have hd := delOk ws hp c
    rw [hk] at hd
    simp only [Option.getD_some] at hd
    rcases h with ⟨h1, rfl⟩ | ⟨t, h1, h2⟩
    · obtain ⟨e, he, g1, g2, g3⟩ := hd.has h1
      have he2 : e = delE c k.u := by
        have v1 := vld_val (hv e he) g2
        subst g1
        obtain ⟨r, f, q, t, kk, v⟩ := e
        simp only at *
        subst g2 g3
        unfold delE Ent.wcol
        simp only
        rw [size_zero_eq v1 (show (⟨#[]⟩ : ByteArray).size = 0 from rfl)]
      rw [he2] at he
      obtain ⟨i, hi⟩ := List.getElem?_of_mem he
      refine ⟨i, (List.getElem?_eq_some_iff.1 hi).1, hi, .inr ⟨rfl, fun v hvv g4 g5 => ?_⟩⟩
      exact (hd.all v hvv (sameCol_wcol.1 g5) g4).2
    · have h3 := (left_iff ws hp c t x).1 (by rw [hk]; exact h2)
      obtain ⟨i, g1, g2⟩ := h3.2.2.2
      exact ⟨i, (List.getElem?_eq_some_iff.1 g1).1, g1, .inl ⟨h3.2.2.1, g2⟩⟩
  · rintro ⟨i, hi, hx, hk⟩
    have hm := List.mem_of_getElem? hx
    obtain ⟨k, hk2⟩ := (colsOf_mem ws x.wcol).2 ⟨x, hm, rfl⟩
    refine ⟨x.wcol, k, hk2, ?_⟩
    have hd := delOk ws hp x.wcol
    rw [hk2] at hd
    simp only [Option.getD_some] at hd
    rcases hk with ⟨h1, h2⟩ | ⟨h1, h2⟩
    · right
      refine ⟨x.ts, (hok x hm).ts, ?_⟩
      have := (left_iff ws hp x.wcol x.ts x).2 ⟨rfl, rfl, h1, i, hx, h2⟩
      rw [hk2] at this
      exact this
    · left
      obtain ⟨g1, g2⟩ := hd.all x hm rfl h1
      obtain ⟨e, he, q1, q2, q3⟩ := hd.has g1
      have q4 := h2 e he q2 (sameCol_wcol.2 q1)
      have v1 := vld_val (hv x hm) h1
      refine ⟨g1, ?_⟩
      obtain ⟨r, f, q, t, kk, v⟩ := x
      simp only at *
      have ht : t = k.u := by omega
      subst h1 ht
      unfold delE Ent.wcol
      simp only
      rw [size_zero_eq v1 (show (⟨#[]⟩ : ByteArray).size = 0 from rfl)]

theorem keepTo_key {ws : List Ent} (hv : ∀ x ∈ ws, x.vld = true) {x y : Ent} (hx : KeepTo ws ws.length x) (hy : KeepTo ws ws.length y) (h : keyCmp x y = 0) : x = y := by
  obtain ⟨i, _, h1, h2⟩ := hx
  obtain ⟨j, _, g1, g2⟩ := hy
  rcases Nat.lt_trichotomy i j with q | q | q
  · exact keep_uniq hv q h1 g1 h2 g2 h
  · subst q
    rw [h1] at g1
    simpa using g1
  · exact (keep_uniq hv q g1 h1 g2 h2 (by have := keyCmp_neg x y; omega)).symm
/-- A list in order, without repeats, of just what is kept: it is the run. -/
theorem kept_of {ws : List Ent} (hv : ∀ x ∈ ws, x.vld = true) {S T : List Ent} (hm : ∀ x, x ∈ S ↔ KeepTo ws ws.length x) (hn : S.Nodup) (hp : T.Perm S) (hs : T.Pairwise (fun a b => ¬ keyCmp b a = -1)) : Kept ws ws.length T := by
  have hmT : ∀ x, x ∈ T ↔ KeepTo ws ws.length x := fun x => (hp.mem_iff).trans (hm x)
  refine ⟨?_, hmT⟩
  have hnT : T.Nodup := hp.nodup_iff.2 hn
  unfold Ord
  have h2 : T.Pairwise (fun a b => a ≠ b) := hnT
  have h3 := hs.and h2
  refine List.Pairwise.imp_of_mem ?_ h3
  intro a b ha hb ⟨h4, h5⟩
  rcases keyCmp_vals a b with q | q | q
  · exact q
  · exact absurd (keepTo_key hv ((hmT a).1 ha) ((hmT b).1 hb) q) h5
  · exact absurd (by have := keyCmp_neg a b; omega) h4

theorem Inner.ne_own {w : World} {base base' N g cp : Nat} {m : Option Nat} {f : Int → Option Ent} {fs : List Ent} (h : Inner w base N m f) (hO : OwnE w base' g cp fs) : m = none ∨ m ≠ some g := by
  rcases h with ⟨h, _⟩ | ⟨b, n, rfl, hI, _, _⟩
  · exact .inl h
  · right
    intro q
    obtain ⟨D, ⟨es, ck, hh, _⟩, _⟩ := hI
    exact hO.ne_map hh (Option.some.inj q).symm

theorem appendE_any (k : CW) (m : Option Nat) (c : Col) (base base' N g cp : Nat) (fs : List Ent) (w : World) (hI : Inner w base' N m k.f) (hts : ∀ t e, k.f t = some e → e.ts = t ∧ ¬ e.kind = 2) (hwf : ∀ t e, k.f t = some e → (Lit.int .u64 t).wf = true)
    (hO : OwnE w base g cp fs) (hlen : fs.length ≤ 2 ^ 28) (hn : N ≤ 2 ^ 20) (hbase : base ≤ w.heap.size) :
    Calls Try.prog 53 #[.agg #[.bool k.d, .int .u64 k.u, .map m], .slice (some ⟨g, 0, none⟩) fs.length cp, c.v] w fun r w' =>
      ∃ g' cp' S, r = .returned (.slice (some ⟨g', 0, none⟩) (fs ++ S).length cp') ∧ OwnE w' base g' cp' (fs ++ S) ∧ (∀ x, x ∈ S ↔ InCW c k x) ∧ S.Nodup ∧ S.length ≤ N + 1 ∧ w.grownBy w' (some g) ∧ (g' = g ∨ w.heap.size ≤ g') := by
  rcases hI with ⟨rfl, hf⟩ | ⟨b, n, rfl, hI, hn', _⟩
  · refine (appendE_none k.d k.u c base g cp fs w hO hlen hbase).mono ?_
    rintro r w' ⟨g', cp', h1, h2, h3, h4⟩
    refine ⟨g', cp', del0 k.d c k.u, h1, h2, fun x => ?_, ?_, ?_, h3, h4⟩
    · unfold InCW del0
      rw [hf]
      cases k.d <;> simp
    · unfold del0; split <;> simp
    · unfold del0; split <;> simp
  · refine (appendE_some k.d k.u c b n base g cp k.f fs w hI (fun t e h => (hts t e h).1) hO hlen (Nat.le_trans hn' hn) hbase).mono ?_
    rintro r w' ⟨g', cp', S, h1, h2, h3, h4, h5, h6⟩
    rw [List.append_assoc] at h1 h2
    refine ⟨g', cp', del0 k.d c k.u ++ S, h1, h2, fun x => ?_, ?_, ?_, h4, h5⟩
    · rw [List.mem_append, h3.1 x]
      unfold InCW del0
      cases k.d <;> simp
    · rw [List.nodup_append]
      refine ⟨?_, h3.2, fun a ha x hx q => ?_⟩
      · unfold del0; split <;> simp
      · subst q
        obtain ⟨t, _, g2⟩ := (h3.1 a).1 hx
        have hk := (hts t a g2).2
        unfold del0 at ha
        split at ha
        · simp at ha
          rw [ha] at hk
          exact hk rfl
        · simp at ha
    · rw [List.length_append]
      have : (del0 k.d c k.u).length ≤ 1 := by unfold del0; split <;> simp
      omega

/-- The entries of the columns that the loop has met. -/
def MetC (ws : List Ent) (left : Lit → Bool) (S : List Ent) : Prop := (∀ x, x ∈ S ↔ ∃ c k, colsOf ws c = some k ∧ left c.l = false ∧ InCW c k x) ∧ S.Nodup
theorem inCW_col {ws : List Ent} (hp : ∀ e ∈ ws, 0 ≤ e.ts) {c : Col} {k : CW} {x : Ent} (hk : colsOf ws c = some k) (h : InCW c k x) : x.wcol = c := by
  rcases h with ⟨_, rfl⟩ | ⟨t, _, h2⟩
  · rfl
  · exact ((left_iff ws hp c t x).1 (by rw [hk]; exact h2)).1
theorem metC_step {ws : List Ent} (hp : ∀ e ∈ ws, 0 ≤ e.ts) (hokc : ∀ c k, colsOf ws c = some k → Col.okc c) {left : Lit → Bool} {S S' : List Ent} {c : Col} {k : CW} (h : MetC ws left S) (hk : colsOf ws c = some k) (hl : left c.l = true)
    (hS : ∀ x, x ∈ S' ↔ InCW c k x) (hN : S'.Nodup) : MetC ws (fun z => left z && !z.sameKey c.l) (S ++ S') := by
  refine ⟨fun x => ?_, ?_⟩
  · rw [List.mem_append, h.1 x, hS x]
    constructor
    · rintro (⟨c', k', h1, h2, h3⟩ | h3)
      · exact ⟨c', k', h1, by simp [h2], h3⟩
      · exact ⟨c, k, hk, by simp [Col.l, colL, Lit.sameKey], h3⟩
    · rintro ⟨c', k', h1, h2, h3⟩
      by_cases q : c' = c
      · subst q
        rw [hk] at h1
        injection h1 with h1
        subst h1
        exact .inr h3
      · left
        have hs : c'.l.sameKey c.l = false := Maps.sameKey_ne (fun e => q (Col.inj (hokc c' k' h1) (hokc c k hk) e))
        refine ⟨c', k', h1, ?_, h3⟩
        simpa [hs] using h2
  · rw [List.nodup_append]
    refine ⟨h.2, hN, fun a ha b hb q => ?_⟩
    subst q
    obtain ⟨c', k', h1, h2, h3⟩ := (h.1 a).1 ha
    have e1 := inCW_col hp h1 h3
    have e2 := inCW_col hp hk ((hS a).1 hb)
    rw [e1] at e2
    subst e2
    rw [hl] at h2
    cases h2

theorem keyCol_inv {v : Value} {l : Lit} (h : keyOf Try.prog 84 v = some l) : ∃ c : Col, v = c.v ∧ Col.okc c ∧ l = c.l := by
  have h1 : Try.prog.keyType 84 = true := by kernel_rfl
  have h2 : Try.prog.cellsOf 84 = 3 := by kernel_rfl
  obtain ⟨n, hn⟩ := typesSome
  have hcopy := h
  unfold keyOf at h
  rw [Try.underlying84] at h
  simp only [h1, Bool.true_and] at h
  split at h
  · rename_i hf
    cases v with
    | agg cs =>
      simp only [Value.formed, Try.underlying84, h2, beq_iff_eq] at hf
      obtain ⟨a, b, c, rfl⟩ := Go.Joins.array3 hf
      rw [hn] at h
      cases a <;> first
        | (exfalso; simp [Program.keyLits, Try.underlying84, Try.underlying9, h2, Try.cellsStr, Value.cells] at h; done)
        | skip
      rename_i s0
      cases b <;> first
        | (exfalso; simp [Program.keyLits, Try.underlying84, Try.underlying9, h2, Try.cellsStr, Value.cells] at h; done)
        | skip
      rename_i s1
      cases c <;> first
        | (exfalso; simp [Program.keyLits, Try.underlying84, Try.underlying9, h2, Try.cellsStr, Value.cells] at h; done)
        | skip
      rename_i s2
      by_cases z0 : s0.size ≤ maxLen
      · by_cases z1 : s1.size ≤ maxLen
        · by_cases z2 : s2.size ≤ maxLen
          · refine ⟨(s0, s1, s2), rfl, ⟨z0, z1, z2⟩, ?_⟩
            have := keyCol z0 z1 z2
            rw [this] at hcopy
            exact (Option.some.inj hcopy).symm
          · exfalso; simp [Program.keyLits, Try.underlying84, Try.underlying9, h2, Try.cellsStr, Value.cells, z2] at h
        · exfalso; simp [Program.keyLits, Try.underlying84, Try.underlying9, h2, Try.cellsStr, Value.cells, z1] at h
      · exfalso; simp [Program.keyLits, Try.underlying84, Try.underlying9, h2, Try.cellsStr, Value.cells, z0] at h
    | _ => simp [Value.formed, Try.underlying84] at hf
  · cases h

set_option maxHeartbeats 4000000 in
set_option maxRecDepth 100000 in
theorem implBuild_core (b off cap : Nat) (ws : List Ent) (w : World) (hE : EntsAt w b off ws) (hok : ∀ e ∈ ws, e.ok) (hB : b < w.heap.size) (hlen : ws.length ≤ cap) (hcap : cap ≤ maxLen) (hws : ws.length ≤ 1048576) :
    Calls Try.prog 21 #[.slice (some ⟨b, off, none⟩) ws.length cap] w fun r w' =>
      ((¬ GoodW ws ∧ r = .returned (.agg #[.slice none 0 0])) ∨ (GoodW ws ∧ ∃ g cp R, r = .returned (.agg #[.slice (some ⟨g, 0, none⟩) R.length cp]) ∧ OwnE w' w.heap.size g cp R ∧ Kept ws ws.length R)) ∧ Below w.heap.size w w' := by
  have HO : Hid (∀ e ∈ ws, e.ok) := hok
  have HC : Hid (ws.length ≤ cap ∧ cap ≤ maxLen) := ⟨hlen, hcap⟩
  obtain ⟨W0, hW0⟩ : ∃ W0 : World, W0 = w.alloc (Obj.cells #[.slice none 0 0] 29) := ⟨_, rfl⟩
  have hb0 : Below w.heap.size w W0 := by rw [hW0]; exact (Below.refl _ _).alloc (Nat.le_refl _) _
  have hz0 : w.heap.size < W0.heap.size := by rw [hW0]; simp
  have ca : W0.cell? ⟨w.heap.size, 0, none⟩ = some (.slice none 0 0) := by rw [hW0]; simp
  have cf : W0.frozen? ⟨w.heap.size, 0, none⟩ = false := by rw [hW0]; simp
  have HE0 : Hid (EntsAt W0 b off ws) := hE.below hb0 hB
  clear hE hok hlen hcap
  obtain ⟨i, hi, hi0, hi1, hi2⟩ := info_parts Try.infoEnt
  have HI : Hid (Try.prog.info? 62 = some i ∧ i.zero = some (.agg #[.string ⟨#[]⟩, .string ⟨#[]⟩, .string ⟨#[]⟩, .int .u64 0, .int .i64 0, .string ⟨#[]⟩]) ∧ i.size = 6 ∧ i.bytes = 80) := ⟨hi, hi0, hi1, hi2⟩
  clear hi hi0 hi1 hi2
  go_enter Try.func21, Try.ntmps21
  go_wp2_with fail
  rw [← hW0]
  clear hW0
  refine (validWrites_core b off cap ws _ HE0.out HO.out (by omega) HC.out.1 HC.out.2).mono ?_
  rintro e w1 ⟨rb, rfl, hr, hb1⟩
  have HR : Hid (rb = true ↔ GoodW ws) := hr
  clear hr
  have hs1 := hb1.size
  have ca1 : w1.cell? ⟨w.heap.size, 0, none⟩ = some (.slice none 0 0) := by rw [hb1.cell (p := ⟨w.heap.size, 0, none⟩) hz0]; exact ca
  have cf1 : w1.frozen? ⟨w.heap.size, 0, none⟩ = false := by rw [hb1.frozen (p := ⟨w.heap.size, 0, none⟩) hz0]; exact cf
  have HE1 : Hid (EntsAt w1 b off ws) := HE0.out.below hb1 (by omega)
  have k1 : Below w.heap.size w w1 := hb0.trans (hb1.mono (by omega))
  cases rb
  · have HN : Hid (¬ GoodW ws) := fun h => Bool.noConfusion (HR.out.2 h)
    go_wp2_with fail
    refine bodyPost_ret (v := .agg #[.slice none 0 0]) (by simp [results, Try.results21, go_sem, ca1]) rfl ⟨.inl ⟨HN.out, rfl⟩, ?_⟩
    exact k1.setCell (by show w.heap.size ≤ w.heap.size; omega) _
  have HG : Hid (GoodW ws) := HR.out.1 rfl
  have hgl : ws.length ≤ 10000 := HG.out.1
  clear HR
  go_wp2_with (at_make; refine wpList_make_own _ rfl _ _ 27 rfl (w.heap.size + 1) 62 i _ 6 Try.underlying27 HI.out.1 HI.out.2.1 HI.out.2.2.1 _ _ _ ws.length rfl rfl ?_ ?hb ?hm ?hs ?_)
  case hb => rw [HI.out.2.2.2]; omega
  case hm => unfold maxLen; omega
  case hs => omega
  · rfl
  intro w2 hown hgrow
  have hO2 : OwnE w2 (w.heap.size + 1) w1.heap.size ws.length [] := hown
  have hb2 : Below w1.heap.size w1 w2 := (Below.refl _ _).grown hgrow (Nat.le_refl _) (fun j hj => by cases hj)
  have HO2 : Hid (OwnE w2 (w.heap.size + 1) w1.heap.size ws.length []) := hO2
  have hg2 := hO2.lt
  have hs2 := hb2.size
  have HE2 : Hid (EntsAt w2 b off ws) := HE1.out.below hb2 (by omega)
  clear hown hO2 hgrow
  go_wp2_with fail
  refine (gather_core b off cap ws _ HE2.out HO.out (by omega) hws).mono ?_
  rintro r w3 ⟨M, rfl, hM, hb3⟩
  have hs3 := hb3.size
  obtain ⟨D, hD, hv⟩ := hM.map
  have hsd := hD.size_le
  have HV : Hid (∀ c, Col.okc c → (colsOf ws c = none ∧ Maps.has D c.l = false) ∨ ∃ k, colsOf ws c = some k ∧ Maps.has D c.l = true ∧ ∀ z, D.atKey c.l z = .held (.agg #[.bool k.d, .int .u64 k.u, .map (M c)])) := hv
  have HM : Hid (Outer w3 w2.heap.size w2.heap.size ws.length (colsOf ws) M) := hM
  have hMl := hM.lt
  have HO3 : Hid (OwnE w3 (w.heap.size + 1) w1.heap.size ws.length []) := HO2.out.below hb3 hg2.2
  have ca3 : w3.cell? ⟨w.heap.size, 0, none⟩ = some (.slice none 0 0) := by rw [hb3.cell (p := ⟨w.heap.size, 0, none⟩) (by show w.heap.size < _; omega), hb2.cell (p := ⟨w.heap.size, 0, none⟩) (by show w.heap.size < _; omega)]; exact ca1
  have cf3 : w3.frozen? ⟨w.heap.size, 0, none⟩ = false := by rw [hb3.frozen (p := ⟨w.heap.size, 0, none⟩) (by show w.heap.size < _; omega), hb2.frozen (p := ⟨w.heap.size, 0, none⟩) (by show w.heap.size < _; omega)]; exact cf1
  have k3 : Below (w.heap.size + 1) w1 w3 := (hb2.mono (by omega)).trans (hb3.mono (by omega))
  clear hv hM
  go_wp2_with (at_range; refine wpList_range_own _ rfl _ 81 rfl 84 87 lawCol Try.underlying81 Rh w2.heap.size ws.length D rfl hD ?_; intro w4 hrg4 hg4 hs4)
  go_frame
  have hp : ∀ e ∈ ws, 0 ≤ e.ts := fun e he => wf_nonneg (HO.out e he).ts
  have HP : Hid (∀ e ∈ ws, 0 ≤ e.ts) := hp
  clear hp
  have HS0 : Hid (MetC ws (Maps.has D) []) := by
    refine ⟨fun x => ⟨fun h => by simp at h, ?_⟩, List.nodup_nil⟩
    rintro ⟨c, k, h1, h2, _⟩
    rcases HV.out c (HM.out.ok c k h1) with ⟨q1, _⟩ | ⟨k', _, q2, _⟩
    · rw [q1] at h1; cases h1
    · rw [q2] at h2; cases h2
  have HI4 : Hid (∀ c k, colsOf ws c = some k → Inner w4 w2.heap.size ws.length (M c) k.f) := fun c k h => (HM.out.inner c k h).kept hg4 (by cases M c <;> simp)
  have k4 : Below (w.heap.size + 1) w1 w4 := k3.grown hg4 (by omega) (fun j hj => by cases hj)
  go_loopw [3] (fun s wr => ∃ (left : Lit → Bool) (cnt : Nat) (S : List Ent) (g2 cp2 : Nat), s = .slice (some ⟨g2, 0, none⟩) S.length cp2 ∧ OwnE wr (w.heap.size + 1) g2 cp2 S ∧ wr.ranges Try.prog 84 Rh w2.heap.size w3.heap.size ws.length D left cnt ∧ MetC ws left S ∧ cnt ≤ ws.length ∧ S.length ≤ (ws.length - cnt) * 10001 ∧
      (∀ c k, colsOf ws c = some k → Inner wr w2.heap.size ws.length (M c) k.f) ∧ Below (w.heap.size + 1) w1 wr ∧ g2 ≠ w3.heap.size) (fun _ wr => wr.rangeLeft w2.heap.size w3.heap.size)
  case atStart =>
    exact ⟨Maps.has D, Maps.size D, [], w1.heap.size, ws.length, rfl, HO3.out.kept hg4 (by simp), hrg4, HS0.out, hsd, by simp, HI4.out, k4, by omega⟩
  case round =>
    obtain ⟨left, cnt, S, g2, cp2, rfl, hO5, hrg, hH, hcn, hSl, hIn, hbr, hne2⟩ := hrel
    have HR : Hid (OwnE wr (w.heap.size + 1) g2 cp2 S ∧ MetC ws left S ∧ (∀ c k, colsOf ws c = some k → Inner wr w2.heap.size ws.length (M c) k.f)) := ⟨hO5, hH, hIn⟩
    have hg5 := hO5.lt
    have hsr := hbr.size
    have hrl := hrg.lt
    have hne1 : g2 ≠ w2.heap.size := by
      obtain ⟨es, ck, hh, _⟩ := hrg.owns
      exact hO5.ne_map hh
    clear hO5 hH hIn
    go_wp2_with (at_next; refine wpList_next_ranges _ rfl _ rfl 84 lawCol Rh (fun c : Col => Col.v c) (fun v : Value => v) (fun key kl h => by obtain ⟨c, h1, _⟩ := keyCol_inv h; exact ⟨c, h1⟩) (fun v y _ => ⟨v, rfl⟩) w2.heap.size w3.heap.size ws.length D left cnt rfl hrg ?_ ?_)
    · intro h0 hl
      have HL : Hid (∀ kl, left kl = false) := hl
      have hSb : S.length ≤ 2 ^ 40 := by
        have := Nat.mul_le_mul_right 10001 (show ws.length - cnt ≤ 10000 by omega)
        omega
      have car : wr.cell? ⟨w.heap.size, 0, none⟩ = some (.slice none 0 0) := by rw [hbr.cell (p := ⟨w.heap.size, 0, none⟩) (by show w.heap.size < _; omega)]; exact ca1
      have cfr : wr.frozen? ⟨w.heap.size, 0, none⟩ = false := by rw [hbr.frozen (p := ⟨w.heap.size, 0, none⟩) (by show w.heap.size < _; omega)]; exact cf1
      clear hl
      go_wp2_with fail
      refine (sort_core (w.heap.size + 1) g2 cp2 S _ HR.out.1 hSb).mono ?_
      rintro r w7 ⟨rfl, T, hpT, hsT, hO7, hg7⟩
      have ca7 : w7.cell? ⟨w.heap.size, 0, none⟩ = some (.slice none 0 0) := hg7.cell car (fun q => by have q' : w.heap.size = g2 := Option.some.inj q; omega)
      have cf7 : w7.frozen? ⟨w.heap.size, 0, none⟩ = false := by
        rw [World.frozen?_of_block (a := ⟨w.heap.size, 0, none⟩) (hg7.block w.heap.size (by omega) (fun q => by injection q; omega))]; exact cfr
      have hbr7 : Below (w.heap.size + 1) w1 w7 := hbr.grown hg7 (by omega) (fun j hj => by cases hj; exact hg5.1)
      have hTl : T.length = S.length := hpT.length_eq
      have HF : Hid (OwnE w7 (w.heap.size + 1) g2 cp2 T ∧ Kept ws ws.length T) := ⟨hO7, kept_of HG.out.2 (fun x => (HR.out.2.1.1 x).trans (Iff.trans ⟨fun ⟨c, k, a1, _, a2⟩ => ⟨c, k, a1, a2⟩, fun ⟨c, k, a1, a2⟩ => ⟨c, k, a1, HL.out _, a2⟩⟩ (cols_keep HG.out.2 HO.out x))) HR.out.2.1.2 hpT hsT⟩
      have HT : Hid (T.length = S.length) := hTl
      clear hpT hsT hO7 hg7 hTl
      go_wp2_with fail
      refine bodyPost_ret (v := .agg #[.slice (some ⟨g2, 0, none⟩) S.length cp2]) (by simp [results, Try.results21, go_sem, ca7]) rfl ⟨.inr ⟨HG.out, g2, cp2, T, by rw [HT.out], ?_, HF.out.2⟩, ?_⟩
      · exact (HF.out.1.setBelow ⟨w.heap.size, 0, none⟩ (by show w.heap.size < _; omega) _).mono (by omega)
      · exact (k1.trans (hbr7.mono (by omega))).setCell (by show w.heap.size ≤ w.heap.size; omega) _
    · intro xr xf xq c kl y1 y2 w5 cnt1 hkey hlk hvv hat hrg5 hlt5 hg5' hs5 hen
      obtain ⟨x', q1, q2, q3⟩ := keyCol_inv hkey
      have q4 : x' = (xr, xf, xq) := by
        obtain ⟨b1, b2, b3⟩ := x'
        simp at q1
        obtain ⟨rfl, rfl, rfl⟩ := q1
        rfl
      subst q3
      obtain ⟨k, hk, hce⟩ : ∃ k, colsOf ws x' = some k ∧ c = .agg #[.bool k.d, .int .u64 k.u, .map (M x')] := by
        rcases HV.out x' q2 with ⟨_, h2⟩ | ⟨k, h1, h2, h3⟩
        · have := hat (.held (.bool true))
          rw [Maps.atKey_of_not_has h2] at this
          have h5 := hat (.held (.bool false))
          rw [Maps.atKey_of_not_has h2] at h5
          rw [← h5] at this
          cases this
        · refine ⟨k, h1, ?_⟩
          have h4 := hat (.held (.bool true))
          rw [h3] at h4
          have h5 := (Rh_eq hvv).1
          rw [h5] at h4
          injection h4 with h4
          exact h4.symm
      subst hce
      have HK : Hid (colsOf ws x' = some k ∧ left x'.l = true) := ⟨hk, hlk⟩
      have HQ : Hid (x' = (xr, xf, xq)) := q4
      clear hk hlk hat hvv hkey q1 q2 q4
      have HG5 : Hid (wr.grownBy w5 (some w3.heap.size)) := hg5'
      have hle1 : wr.heap.size ≤ w5.heap.size := by omega
      have hle2 : w5.heap.size ≤ wr.heap.size := by omega
      clear hg5' hs5
      have hgB : wr.grownBy ((w5.alloc (Obj.cells #[.string xr, .string xf, .string xq] 84)).alloc (Obj.cells #[.bool k.d, .int .u64 k.u, .map (M x')] 87)) (some w3.heap.size) := HG5.out.trans ((World.grownBy_alloc _ _ _).trans (World.grownBy_alloc _ _ _))
      have hIx : Inner ((w5.alloc (Obj.cells #[.string xr, .string xf, .string xq] 84)).alloc (Obj.cells #[.bool k.d, .int .u64 k.u, .map (M x')] 87)) w2.heap.size ws.length (M x') k.f := by
        refine (HR.out.2.2 x' k HK.out.1).kept hgB ?_
        cases hq : M x' with
        | none => exact .inl rfl
        | some bb =>
          refine .inr (fun q => ?_)
          have := (HM.out.inLt hq).1
          have := Option.some.inj q
          omega
      have hOx : OwnE ((w5.alloc (Obj.cells #[.string xr, .string xf, .string xq] 84)).alloc (Obj.cells #[.bool k.d, .int .u64 k.u, .map (M x')] 87)) (w.heap.size + 1) g2 cp2 S := HR.out.1.kept hgB (fun q => hne2 (Option.some.inj q))
      have hltx : S.length ≤ 2 ^ 28 := by
        have := Nat.mul_le_mul_right 10001 (show ws.length - cnt ≤ 10000 by omega)
        omega
      have HA := appendE_any k (M x') x' (w.heap.size + 1) w2.heap.size ws.length g2 cp2 S ((w5.alloc (Obj.cells #[.string xr, .string xf, .string xq] 84)).alloc (Obj.cells #[.bool k.d, .int .u64 k.u, .map (M x')] 87)) hIx
        (fun t e h => by have h3 := (left_iff ws HP.out x' t e).1 (by rw [HK.out.1]; exact h); exact ⟨h3.2.1, h3.2.2.1⟩)
        (fun t e h => by have h3 := (left_iff ws HP.out x' t e).1 (by rw [HK.out.1]; exact h); obtain ⟨ii, q5, _⟩ := h3.2.2.2; rw [← h3.2.1]; exact (HO.out e (List.mem_of_getElem? q5)).ts)
        hOx hltx (by omega) (by simp; omega)
      have HB : Hid (wr.grownBy ((w5.alloc (Obj.cells #[.string xr, .string xf, .string xq] 84)).alloc (Obj.cells #[.bool k.d, .int .u64 k.u, .map (M x')] 87)) (some w3.heap.size) ∧ OwnE ((w5.alloc (Obj.cells #[.string xr, .string xf, .string xq] 84)).alloc (Obj.cells #[.bool k.d, .int .u64 k.u, .map (M x')] 87)) (w.heap.size + 1) g2 cp2 S ∧ Inner ((w5.alloc (Obj.cells #[.string xr, .string xf, .string xq] 84)).alloc (Obj.cells #[.bool k.d, .int .u64 k.u, .map (M x')] 87)) w2.heap.size ws.length (M x') k.f) := ⟨hgB, hOx, hIx⟩
      have HAA : Hid (Calls Try.prog 53 #[.agg #[.bool k.d, .int .u64 k.u, .map (M x')], .slice (some ⟨g2, 0, none⟩) S.length cp2, .agg #[.string xr, .string xf, .string xq]] ((w5.alloc (Obj.cells #[.string xr, .string xf, .string xq] 84)).alloc (Obj.cells #[.bool k.d, .int .u64 k.u, .map (M x')] 87)) fun r w' =>
        ∃ g' cp' S', r = .returned (.slice (some ⟨g', 0, none⟩) (S ++ S').length cp') ∧ OwnE w' (w.heap.size + 1) g' cp' (S ++ S') ∧ (∀ x, x ∈ S' ↔ InCW x' k x) ∧ S'.Nodup ∧ S'.length ≤ ws.length + 1 ∧ (((w5.alloc (Obj.cells #[.string xr, .string xf, .string xq] 84)).alloc (Obj.cells #[.bool k.d, .int .u64 k.u, .map (M x')] 87))).grownBy w' (some g2) ∧ (g' = g2 ∨ (((w5.alloc (Obj.cells #[.string xr, .string xf, .string xq] 84)).alloc (Obj.cells #[.bool k.d, .int .u64 k.u, .map (M x')] 87))).heap.size ≤ g')) := by
        have h := HA
        rw [HQ.out] at h ⊢
        exact h
      clear HA hgB hOx hIx
      go_wp2_with fail
      refine HAA.out.mono ?_
      rintro r w7 ⟨g', cp', S', rfl, hO7, hS7, hN7, hl7, hg7, hloc7⟩
      have hrg7 := ((hrg5.alloc (Obj.cells #[.string xr, .string xf, .string xq] 84)).alloc (Obj.cells #[.bool k.d, .int .u64 k.u, .map (M x')] 87)).kept hg7 (fun q => hne1 (Option.some.inj q).symm) (fun q => hne2 (Option.some.inj q).symm)
      have hbr6 : Below (w.heap.size + 1) w1 ((w5.alloc (Obj.cells #[.string xr, .string xf, .string xq] 84)).alloc (Obj.cells #[.bool k.d, .int .u64 k.u, .map (M x')] 87)) := hbr.grown HB.out.1 (by omega) (fun j hj => by cases hj; omega)
      have hbr7 : Below (w.heap.size + 1) w1 w7 := hbr6.grown hg7 (by simp; omega) (fun j hj => by cases hj; exact hg5.1)
      have hne7 : g' ≠ w3.heap.size := by
        rcases hloc7 with q | q
        · rw [q]; exact hne2
        · simp at q; omega
      have hIn7 : ∀ c k', colsOf ws c = some k' → Inner w7 w2.heap.size ws.length (M c) k'.f := by
        intro c k' hc
        have h6 : Inner ((w5.alloc (Obj.cells #[.string xr, .string xf, .string xq] 84)).alloc (Obj.cells #[.bool k.d, .int .u64 k.u, .map (M x')] 87)) w2.heap.size ws.length (M c) k'.f := by
          refine (HR.out.2.2 c k' hc).kept HB.out.1 ?_
          cases hq : M c with
          | none => exact .inl rfl
          | some bb =>
            refine .inr (fun q => ?_)
            have := (HM.out.inLt hq).1
            have := Option.some.inj q
            omega
        exact h6.kept hg7 (h6.ne_own HB.out.2.1)
      have HF : Hid (OwnE w7 (w.heap.size + 1) g' cp' (S ++ S') ∧ MetC ws (fun z => left z && !z.sameKey x'.l) (S ++ S') ∧ (∀ c k', colsOf ws c = some k' → Inner w7 w2.heap.size ws.length (M c) k'.f) ∧ (S ++ S').length ≤ (ws.length - cnt1) * 10001) := by
        refine ⟨hO7, metC_step HP.out HM.out.ok HR.out.2.1 HK.out.1 HK.out.2 hS7 hN7, hIn7, ?_⟩
        rw [List.length_append]
        have h1 : (ws.length - cnt + 1) * 10001 ≤ (ws.length - cnt1) * 10001 := Nat.mul_le_mul_right _ (by omega)
        omega
      clear hO7 hS7 hN7 hl7 hg7 hloc7 hIn7 hrg5 hen hltx hbr6
      go_wp2_with fail
      go_roundw
      case rel =>
        exact ⟨_, cnt1, S ++ S', g', cp', by simp, HF.out.1, hrg7, HF.out.2.1, by omega, HF.out.2.2.2, HF.out.2.2.1, hbr7, hne7⟩
      case measure => rw [hrg7.left_eq, hrg.left_eq]; exact hlt5
end Go.Proofs.Ytnncedndlhfdkab

/-
  What BuildRun may hand back.
-/
namespace Go.Proofs.Ytnncedndlhfdkab
set_option linter.unusedVariables false

/-- What a run of 'ws' may be. -/
def RunOf (ws R : List Ent) : Prop := (GoodW ws → Kept ws ws.length R) ∧ (¬ GoodW ws → R = [])
theorem runOf_uniq {ws R S : List Ent} (h : RunOf ws R) (k : RunOf ws S) : R = S := by
  by_cases g : GoodW ws
  · exact kept_uniq (h.1 g) (k.1 g)
  · rw [h.2 g, k.2 g]
end Go.Proofs.Ytnncedndlhfdkab

/-
  What BuildRun hands back.
-/
namespace Go.Proofs.Ytnncedndlhfdkab
open Go.ChangeShapes Go.WideShapes Go.ChangeAt Go.RowKit Go.Deep
set_option linter.unusedVariables false
set_option maxRecDepth 100000

theorem specBuild_any (g : Nat) (ws : List Ent) (base : Nat) (w : World) (hO : OwnE w base g ws.length ws) (hok : ∀ e ∈ ws, e.ok) (hlen : ws.length ≤ 1048576) :
    Calls Try.prog 19 #[.slice (some ⟨g, 0, none⟩) ws.length ws.length] w fun r w' =>
      ∃ (a : Option Addr) (n c : Nat) (R : List Ent), r = .returned (.agg #[.slice a n c]) ∧ OwnU w' w.heap.size (.slice a n c) R ∧ RunOf ws R ∧ R.length ≤ ws.length ∧ Below w.heap.size w w' := by
  refine (specBuild_core g 0 ws.length ws w hO.at hok hO.lt.2 hlen).mono ?_
  rintro r w' ⟨g', cp, R, rfl, h1, h2, h3, h4, h5⟩
  exact ⟨_, _, _, R, rfl, .inr ⟨g', cp, rfl, h1⟩, ⟨h4, h5⟩, h3, h2⟩
theorem implBuild_at (b off cap : Nat) (ws : List Ent) (w : World) (hE : EntsAt w b off ws) (hok : ∀ e ∈ ws, e.ok) (hB : b < w.heap.size) (hl : ws.length ≤ cap) (hcap : cap ≤ maxLen) (hlen : ws.length ≤ 1048576) :
    Calls Try.prog 21 #[.slice (some ⟨b, off, none⟩) ws.length cap] w fun r w' =>
      ∃ (a : Option Addr) (n c : Nat) (R : List Ent), r = .returned (.agg #[.slice a n c]) ∧ OwnU w' w.heap.size (.slice a n c) R ∧ RunOf ws R ∧ Below w.heap.size w w' := by
  refine (implBuild_core b off cap ws w hE hok hB hl hcap hlen).mono ?_
  rintro r w' ⟨h | ⟨h1, g', cp, R, h2, h3, h4⟩, hb⟩
  · exact ⟨_, _, _, [], h.2, .inl ⟨rfl, rfl⟩, ⟨fun q => absurd q h.1, fun _ => rfl⟩, hb⟩
  · exact ⟨_, _, _, R, h2, .inr ⟨g', cp, rfl, h3⟩, ⟨fun _ => h4, fun q => absurd h1 q⟩, hb⟩
theorem implBuild_any (g : Nat) (ws : List Ent) (base : Nat) (w : World) (hO : OwnE w base g ws.length ws) (hok : ∀ e ∈ ws, e.ok) (hlen : ws.length ≤ 1048576) :
    Calls Try.prog 21 #[.slice (some ⟨g, 0, none⟩) ws.length ws.length] w fun r w' =>
      ∃ (a : Option Addr) (n c : Nat) (R : List Ent), r = .returned (.agg #[.slice a n c]) ∧ OwnU w' w.heap.size (.slice a n c) R ∧ RunOf ws R ∧ Below w.heap.size w w' :=
  implBuild_at g 0 ws.length ws w hO.at hok hO.lt.2 hO.caps.1 hO.caps.2 hlen
end Go.Proofs.Ytnncedndlhfdkab

/-
  Visible cells in memory, one behind another: an entry without its kind.
-/
namespace Go.Proofs.Ytnncedndlhfdkab
open Go.ChangeShapes Go.WideShapes Go.ChangeAt Go.RowKit Go.Deep
set_option linter.unusedVariables false
set_option linter.unnecessarySimpa false
set_option linter.unusedSimpArgs false

abbrev Ent.five (e : Ent) : List Value := [.string e.row, .string e.fam, .string e.qual, .int .u64 e.ts, .string e.val]
abbrev Ent.c (e : Ent) : Value := .agg #[.string e.row, .string e.fam, .string e.qual, .int .u64 e.ts, .string e.val]
def cellsC (es : List Ent) : List Value := es.flatMap Ent.five
theorem cellsC_nil : cellsC [] = [] := rfl
theorem cellsC_cons (e : Ent) (es : List Ent) : cellsC (e :: es) = e.five ++ cellsC es := by simp [cellsC]
theorem cellsC_append (es fs : List Ent) : cellsC (es ++ fs) = cellsC es ++ cellsC fs := by simp [cellsC]
theorem length_cellsC (es : List Ent) : (cellsC es).length = es.length * 5 := by
  induction es with
  | nil => rfl
  | cons e es ih => rw [cellsC_cons, List.length_append, ih]; simp; omega
theorem cellsC_get (es : List Ent) : ∀ (k : Nat) (e : Ent), es[k]? = some e → ∀ j, j < 5 → (cellsC es)[k * 5 + j]? = e.five[j]? := by
  induction es with
  | nil => intro k e h; simp at h
  | cons f es ih =>
    intro k e h j hj
    rw [cellsC_cons]
    cases k with
    | zero =>
      simp at h; subst h
      rw [List.getElem?_append_left (by show 0 * 5 + j < 5; omega)]
      simp
    | succ k =>
      simp at h
      rw [List.getElem?_append_right (by show 5 ≤ (k + 1) * 5 + j; omega)]
      have : (k + 1) * 5 + j - f.five.length = k * 5 + j := by show (k + 1) * 5 + j - 5 = _; omega
      rw [this]; exact ih k e h j hj
theorem cellsC_set (es : List Ent) : ∀ (k : Nat) (e e' : Ent) (u : Value) (j : Nat), es[k]? = some e → j < 5 → e'.five = e.five.set j u → (cellsC es).set (k * 5 + j) u = cellsC (es.set k e') := by
  induction es with
  | nil => intro k e e' u j h; simp at h
  | cons f es ih =>
    intro k e e' u j h hj hc
    rw [cellsC_cons]
    cases k with
    | zero =>
      simp at h; subst h
      rw [List.set_append_left _ _ (by show 0 * 5 + j < 5; omega), List.set_cons_zero, cellsC_cons, hc]
      simp
    | succ k =>
      simp at h
      rw [List.set_append_right _ _ (by show 5 ≤ (k + 1) * 5 + j; omega), List.set_cons_succ, cellsC_cons]
      have : (k + 1) * 5 + j - f.five.length = k * 5 + j := by show (k + 1) * 5 + j - 5 = _; omega
      rw [this, ih k e e' u j h hj hc]

/-- The cells 'es' lie at ⟨b, off⟩, five each. -/
def CelsAt (w : World) (b off : Nat) (es : List Ent) : Prop :=
  ∀ i e, es[i]? = some e → w.cell? ⟨b, off + i * 5, none⟩ = some (.string e.row) ∧ w.cell? ⟨b, off + i * 5 + 1, none⟩ = some (.string e.fam) ∧ w.cell? ⟨b, off + i * 5 + 2, none⟩ = some (.string e.qual) ∧
    w.cell? ⟨b, off + i * 5 + 3, none⟩ = some (.int .u64 e.ts) ∧ w.cell? ⟨b, off + i * 5 + 4, none⟩ = some (.string e.val)
theorem CelsAt.below {B : Nat} {w w' : World} {b off : Nat} {es : List Ent} (h : CelsAt w b off es) (hb : Below B w w') (hlt : b < B) : CelsAt w' b off es := by
  intro i e he
  have := h i e he
  refine ⟨?_, ?_, ?_, ?_, ?_⟩
  all_goals rw [hb.cell (by exact hlt)]
  · exact this.1
  · exact this.2.1
  · exact this.2.2.1
  · exact this.2.2.2.1
  · exact this.2.2.2.2

/-- A row of the call's own holds the cells 'es'. -/
def OwnC (w : World) (base g cap : Nat) (es : List Ent) : Prop := w.ownsRow base 71 5 (.slice (some ⟨g, 0, none⟩) es.length cap) es.length (cellsC es)
theorem OwnC.at {w : World} {base g cap : Nat} {es : List Ent} (h : OwnC w base g cap es) : CelsAt w g 0 es := by
  intro i e he
  have hi : i < es.length := (List.getElem?_eq_some_iff.1 he).1
  have c := fun j (hj : j < 5) => (World.ownsRow.cellAt h (i * 5 + j) (by omega)).trans (cellsC_get es i e he j hj)
  refine ⟨?_, ?_, ?_, ?_, ?_⟩
  · simpa using c 0 (by omega)
  · simpa using c 1 (by omega)
  · simpa using c 2 (by omega)
  · simpa using c 3 (by omega)
  · simpa using c 4 (by omega)
theorem OwnC.lt {w : World} {base g cap : Nat} {es : List Ent} (h : OwnC w base g cap es) : base ≤ g ∧ g < w.heap.size := World.ownsRow.lt h g rfl
theorem OwnC.below {B : Nat} {w w' : World} {base g cap : Nat} {es : List Ent} (h : OwnC w base g cap es) (hb : Below B w w') (hg : g < B) : OwnC w' base g cap es := by
  refine ⟨h.1, ?_⟩
  rcases h.2 with hn | ⟨g', cap', cur, hv, h1, h2, rest⟩
  · exact .inl hn
  · simp only [Value.slice.injEq, Option.some.injEq, Addr.mk.injEq, and_true, true_and] at hv
    obtain ⟨rfl, rfl⟩ := hv
    exact .inr ⟨g, cap, cur, rfl, h1, by rw [hb.block g hg]; exact h2, rest⟩
theorem OwnC.set {w : World} {base g cap : Nat} {es : List Ent} (h : OwnC w base g cap es) (k j : Nat) (e e' : Ent) (u : Value) (hk : es[k]? = some e) (hj : j < 5) (hc : e'.five = e.five.set j u) :
    OwnC (w.setCell ⟨g, k * 5 + j, none⟩ u) base g cap (es.set k e') := by
  have := (World.ownsRow.stored h (k * 5 + j) u).1
  rw [cellsC_set es k e e' u j hk hj hc] at this
  unfold OwnC
  rw [List.length_set]
  exact this
theorem OwnC.upd {w : World} {base g cap m j : Nat} {fs : List Ent} {f f' : Ent} {u : Value} (h : OwnC w base g cap (fs.set m f)) (hm : m < fs.length) (hj : j < 5) (hc : f'.five = f.five.set j u) :
    OwnC (w.setCell ⟨g, m * 5 + j, none⟩ u) base g cap (fs.set m f') := by
  have := h.set m j f f' u (by simp [hm]) hj hc
  rwa [List.set_set] at this
theorem OwnC.mono {w : World} {base base' g cap : Nat} {es : List Ent} (h : OwnC w base g cap es) (hb : base' ≤ base) : OwnC w base' g cap es := by
  refine ⟨h.1, ?_⟩
  rcases h.2 with hn | ⟨g', cap', cur, hv, h1, rest⟩
  · exact .inl hn
  · exact .inr ⟨g', cap', cur, hv, Nat.le_trans hb h1, rest⟩
theorem OwnC.kept {w w' : World} {base g cp : Nat} {fs : List Ent} {row : Option Nat} (h : OwnC w base g cp fs) (hg : w.grownBy w' row) (hne : some g ≠ row) : OwnC w' base g cp fs :=
  World.ownsRow.kept h hg (.inr hne)
theorem OwnC.caps {w : World} {base g cp : Nat} {R : List Ent} (h : OwnC w base g cp R) : R.length ≤ cp ∧ cp ≤ maxLen := by
  rcases h.2 with ⟨h0, _⟩ | ⟨g', cap', cur, hv, _, _, hn, hcap, _, _⟩
  · cases h0
  · simp only [Value.slice.injEq, Option.some.injEq, Addr.mk.injEq, and_true, true_and] at hv
    obtain ⟨rfl, rfl⟩ := hv
    exact ⟨hn, hcap⟩
theorem ownC_new (w : World) : OwnC (w.alloc (Obj.cells #[] 71)) w.heap.size w.heap.size 0 [] := World.ownsRow_made w #[] 0 (Nat.le_refl _) (Nat.zero_le _) (by simp)

theorem Try.infoCel : (Try.prog.info? 71).map (fun i => (i.zero, i.size, i.bytes)) = some (some (.agg #[.string ⟨#[]⟩, .string ⟨#[]⟩, .string ⟨#[]⟩, .int .u64 0, .string ⟨#[]⟩]), 5, 72) := by kernel_rfl

theorem cel_new (wx : World) (f : Ent) : CelsAt (wx.alloc (Obj.cells #[.string f.row, .string f.fam, .string f.qual, .int .u64 f.ts, .string f.val] 71)) wx.heap.size 0 [f] := by
  intro j y hy
  obtain rfl : j = 0 := by
    have := (List.getElem?_eq_some_iff.1 hy).1
    simpa using this
  simp at hy
  subst hy
  simp

/-- One cell appended to a row of the call's own. -/
theorem wpList_append_cel {ops : Array Oper} {rest : List Oper} {o : Oper} {a : Act} {Q : Exit → Act → World → Prop} (w : World) (hgd : o.guard = none) (s x : Operand)
    (ho : o.op = .call { callee := .builtin .append, args := #[s, x], argTypes := #[36, 36] })
    (base g cp n blk : Nat) (fs : List Ent) (e : Ent) (hs : a.eval s = .slice (some ⟨g, 0, none⟩) n cp) (hx : a.eval x = .slice (some ⟨blk, 0, none⟩) 1 1) (hn : n = fs.length) (hO : OwnC w base g cp fs)
    (hc : CelsAt w blk 0 [e]) (hlen : fs.length ≤ 2 ^ 30) (hbase : base ≤ w.heap.size)
    (h : ∀ g' cp' w', OwnC w' base g' cp' (fs ++ [e]) → w.grownBy w' (some g) → wpList Try.prog ops Q rest (a.put o.dst (.slice (some ⟨g', 0, none⟩) (n + 1) cp')) w') : wpList Try.prog ops Q (o :: rest) a w := by
  obtain ⟨i, hi, hz0, hz1, hz2⟩ := info_parts Try.infoCel
  subst hn
  obtain ⟨c0, c1, c2, c3, c4⟩ := hc 0 e rfl
  refine wpList_append_own w hgd s x 36 ho base 71 i _ 5 72 Try.underlying36 hi hz0 hz1 hz2 rfl (by decide) (.slice (some ⟨g, 0, none⟩) fs.length cp) fs.length (cellsC fs) hs hO ⟨blk, 0, none⟩ 1 1 (cellsC [e]) hx rfl ?_ ?_ ?_ ?_ hbase ?_
  · intro j u hu
    have hj : j < 5 := by
      have := (List.getElem?_eq_some_iff.1 hu).1
      rw [length_cellsC] at this
      simpa using this
    rw [Addr.add_mid, Nat.zero_add]
    simp only [Nat.zero_mul, Nat.zero_add] at c0 c1 c2 c3 c4
    match j, hj, hu with
    | 0, _, hu => simp [cellsC] at hu; rw [← hu]; exact c0
    | 1, _, hu => simp [cellsC] at hu; rw [← hu]; exact c1
    | 2, _, hu => simp [cellsC] at hu; rw [← hu]; exact c2
    | 3, _, hu => simp [cellsC] at hu; rw [← hu]; exact c3
    | 4, _, hu => simp [cellsC] at hu; rw [← hu]; exact c4
  · intro u hu
    simp [cellsC] at hu
    rcases hu with rfl | rfl | rfl | rfl | rfl <;> rfl
  · unfold maxLen; omega
  · omega
  · intro v' w' hown hgr hnil
    rw [← cellsC_append] at hown
    have hlen' : (fs ++ [e]).length = fs.length + 1 := by simp
    rcases hown.2 with ⟨hv, _⟩ | ⟨g', cap', cur, hv, h1, h2, h3⟩
    · have := (hnil.1 hv).1
      simp at this
    · subst hv
      exact h g' cap' w' (by unfold OwnC; rw [hlen']; exact hown) hgr

set_option maxHeartbeats 400000 in
theorem specCell_any (e : Ent) (w : World) :
    Calls Try.prog 59 #[e.v] w fun r w' => r = .returned e.c ∧ Below w.heap.size w w' := by
  unfold Ent.v
  go_enter Try.func59, Try.ntmps59
  go_wp2
  refine bodyPost_ret (v := e.c) (by simp [results, Try.results59, go_sem]) rfl ⟨rfl, ?_⟩
  exact ((Below.refl _ _).alloc (Nat.le_refl _) _).alloc (by simp) _
set_option maxHeartbeats 400000 in
theorem implCell_any (e : Ent) (w : World) :
    Calls Try.prog 60 #[e.v] w fun r w' => r = .returned e.c ∧ Below w.heap.size w w' := by
  unfold Ent.v
  go_enter Try.func60, Try.ntmps60
  go_wp2
  refine bodyPost_ret (v := e.c) (by simp [results, Try.results60, go_sem]) rfl ⟨rfl, ?_⟩
  exact ((Below.refl _ _).alloc (Nat.le_refl _) _).alloc (by simp) _

set_option maxHeartbeats 400000 in
theorem eqCell_same (a : Ent) (w : World) :
    Calls Try.prog 46 #[a.c, a.c] w fun e w' => e = .returned (.bool true) ∧ Below w.heap.size w w' := by
  unfold Ent.c
  go_enter Try.func46, Try.ntmps46
  go_wp2
  go_ret
  exact ⟨rfl, ((Below.refl _ _).alloc (Nat.le_refl _) _).alloc (by simp) _⟩

set_option maxHeartbeats 1000000 in
theorem eqCellS_same (b off cap b' off' cap' : Nat) (es : List Ent) (w : World) (hE : CelsAt w b off es) (hE' : CelsAt w b' off' es) (hB : b < w.heap.size) (hB' : b' < w.heap.size) (hlen : es.length ≤ maxLen) :
    Calls Try.prog 17 #[.slice (some ⟨b, off, none⟩) es.length cap, .slice (some ⟨b', off', none⟩) es.length cap'] w fun e w' =>
      e = .returned (.bool true) ∧ Below w.heap.size w w' := by
  have HE : Hid (CelsAt w b off es ∧ CelsAt w b' off' es) := ⟨hE, hE'⟩
  clear hE hE'
  unfold maxLen at hlen
  go_enter Try.func17, Try.ntmps17
  go_wp2
  go_loopw [5] (fun i wr => ∃ (k : Nat), k ≤ es.length ∧ i = .int .i64 k ∧ Below w.heap.size w wr) (fun i _ => es.length - (intOf i).toNat)
  case atStart => exact ⟨0, Nat.zero_le _, rfl, Below.refl _ _⟩
  case round =>
    obtain ⟨k, hk, rfl, hb⟩ := hrel
    have hs2 := hb.size
    by_cases hlt : k < es.length
    · obtain ⟨e, he⟩ : ∃ e, es[k]? = some e := ⟨_, List.getElem?_eq_getElem hlt⟩
      obtain ⟨c0, c1, c2, c3, c4⟩ := HE.out.1.below hb hB k e he
      obtain ⟨d0, d1, d2, d3, d4⟩ := HE.out.2.below hb hB' k e he
      clear he
      go_upto_region 6 with fail
      go_cut [26] (fun s wx => s = .bool false ∧ Below w.heap.size w wx)
      case first =>
        have z2 : (k : Int) < (es.length : Int) := by omega
        go_region_with (go_at_call 46; refine (eqCell_same e _).mono ?_; rintro e' w' ⟨rfl, hbb⟩)
        all_goals go_wp2_with fail
        all_goals go_meet
        all_goals exact ⟨rfl, hb.drew.trans (hbb.mono (by simp; omega))⟩
      case rest =>
      obtain ⟨rfl, h3⟩ := hcut
      clear c0 c1 c2 c3 c4 d0 d1 d2 d3 d4
      go_wp2_with fail
      go_roundw
      case rel => exact ⟨k + 1, by omega, by go_num, h3⟩
      case measure => simp [intOf]; omega
    · go_wp2_with fail
      go_ret
      exact ⟨rfl, hb⟩
theorem eqCellS_own {w : World} {base g cp base' g' cp' : Nat} {es : List Ent} (h : OwnC w base g cp es) (h' : OwnC w base' g' cp' es) :
    Calls Try.prog 17 #[.slice (some ⟨g, 0, none⟩) es.length cp, .slice (some ⟨g', 0, none⟩) es.length cp'] w fun e w' => e = .returned (.bool true) ∧ Below w.heap.size w w' :=
  eqCellS_same g 0 cp g' 0 cp' es w h.at h'.at h.lt.2 h'.lt.2 (Nat.le_trans h.caps.1 h.caps.2)
end Go.Proofs.Ytnncedndlhfdkab

/-
  The marks that a law lays into rows of cells and looks for.
-/
namespace Go.Proofs.Ytnncedndlhfdkab
open Go.ChangeShapes Go.WideShapes Go.ChangeAt Go.RowKit Go.Deep
set_option linter.unusedVariables false
set_option linter.unusedSimpArgs false

/-- The cell that the marks from 'k' on make. -/
def mCel (k : Int) : Ent := ⟨mText k.toNat, mText (k + 1).toNat, mText (k + 1 + 1).toNat, k + 1 + 1 + 1, 0, mText (k + 1 + 1 + 1 + 1).toNat⟩
def markedC (k : Int) (es : List Ent) (i : Nat) : Prop := ∀ j : Nat, j < i → (es[j]?.map Ent.five) = some (mCel (k + j * 5)).five
theorem markedC_set {k : Int} {fs : List Ent} {m : Nat} {e : Ent} (h : markedC k fs m) (hm : m < fs.length) (he : e.five = (mCel (k + m * 5)).five) : markedC k (fs.set m e) (m + 1) := by
  intro j hj
  by_cases e1 : j = m
  · subst e1; simp [hm]; simpa using he
  · rw [List.getElem?_set_ne (by omega)]; exact h j (by omega)

set_option maxHeartbeats 1000000 in
theorem markCellS_core (base g cap : Nat) (es : List Ent) (k : Int) (w : World) (hO : OwnC w base g cap es) (h0 : 0 < k) (h1 : k ≤ 2 ^ 30) (hn : es.length ≤ 1048576) :
    Calls Try.prog 28 #[.slice (some ⟨g, 0, none⟩) es.length cap, .int .i64 k] w fun e w' =>
      ∃ fs, e = .returned (.int .i64 (k + es.length * 5)) ∧ OwnC w' base g cap fs ∧ fs.length = es.length ∧ markedC k fs es.length ∧ w.grownBy w' (some g) := by
  have HO : Hid (OwnC w base g cap es) := hO
  clear hO
  go_enter Try.func28, Try.ntmps28
  go_wp2
  go_loopw [1, 5] (fun c i wr => ∃ (m : Nat) (a : Int) (fs : List Ent), m ≤ es.length ∧ i = .int .i64 m ∧ c = .int .i64 a ∧ a = k + m * 5 ∧ OwnC wr base g cap fs ∧ fs.length = es.length ∧ markedC k fs m ∧ w.grownBy wr (some g)) (fun _ i _ => es.length - (intOf i).toNat)
  case atStart => exact ⟨0, k, es, Nat.zero_le _, rfl, rfl, by simp, HO.out, rfl, fun j hj => by omega, grown_of_below (Below.refl _ _) _⟩
  case round =>
    obtain ⟨m, a, fs, hm, rfl, rfl, ha, hO, hfl, hmk, hgr⟩ := hrel
    have HR : Hid (a = k + m * 5 ∧ OwnC wr base g cap fs ∧ fs.length = es.length ∧ markedC k fs m) := ⟨ha, hO, hfl, hmk⟩
    have ha0 : 0 < a := by omega
    have ha1 : a ≤ 2 ^ 31 := by omega
    have HG : Hid (w.grownBy wr (some g)) := hgr
    clear hO hfl hmk ha hgr
    by_cases hlt : m < es.length
    · obtain ⟨f, hf⟩ : ∃ f, fs[m]? = some f := ⟨_, List.getElem?_eq_getElem (by rw [HR.out.2.2.1]; exact hlt)⟩
      have HF : Hid (fs[m]? = some f ∧ m < fs.length) := ⟨hf, by rw [HR.out.2.2.1]; exact hlt⟩
      clear hf
      go_wp2_with fail
      refine (markText_any a _ (by omega) (by omega)).mono ?_
      rintro e w1 ⟨rfl, hb1⟩
      have hO1 := HR.out.2.1.below hb1 HR.out.2.1.lt.2
      have c1 := (hO1.at m f HF.out.1).1
      simp only [Nat.zero_add] at c1
      have z1 := fun j => World.ownsRow.frozenAt hO1 j
      have hO1' := hO1.set m 0 f { f with row := mText a.toNat } (.string (mText a.toNat)) HF.out.1 (by omega) rfl
      have H1 : Hid (OwnC (w1.setCell ⟨g, m * 5, none⟩ (.string (mText a.toNat))) base g cap (fs.set m { f with row := mText a.toNat }) ∧ w.grownBy (w1.setCell ⟨g, m * 5, none⟩ (.string (mText a.toNat))) (some g)) := ⟨hO1', (HG.out.trans (grown_of_below hb1 _)).trans (grown_set _ _ _ _)⟩
      clear hO1 hO1' hb1
      go_wp2_with fail
      refine (markText_any (a + 1) _ (by omega) (by omega)).mono ?_
      rintro e w2 ⟨rfl, hb2⟩
      have hO2 := H1.out.1.below hb2 H1.out.1.lt.2
      have c2 := (hO2.at m _ (by simp [HF.out.2]; rfl)).2.1
      simp only [Nat.zero_add] at c2
      have z2 := fun j => World.ownsRow.frozenAt hO2 j
      have H2 : Hid (OwnC (w2.setCell ⟨g, m * 5 + 1, none⟩ (.string (mText (a + 1).toNat))) base g cap (fs.set m { f with row := mText a.toNat, fam := mText (a + 1).toNat }) ∧ w.grownBy (w2.setCell ⟨g, m * 5 + 1, none⟩ (.string (mText (a + 1).toNat))) (some g)) :=
        ⟨hO2.upd HF.out.2 (by omega) rfl, (H1.out.2.trans (grown_of_below hb2 _)).trans (grown_set _ _ _ _)⟩
      clear hO2 hb2 c1 z1
      go_wp2_with fail
      refine (markText_any (a + 1 + 1) _ (by omega) (by omega)).mono ?_
      rintro e w3 ⟨rfl, hb3⟩
      have hO3 := H2.out.1.below hb3 H2.out.1.lt.2
      obtain ⟨_, _, c3, c4, _⟩ := hO3.at m _ (by simp [HF.out.2]; rfl)
      simp only [Nat.zero_add] at c3 c4
      have z3 := fun j => World.ownsRow.frozenAt hO3 j
      have H3 : Hid (OwnC w3 base g cap (fs.set m { f with row := mText a.toNat, fam := mText (a + 1).toNat }) ∧ w.grownBy w3 (some g)) := ⟨hO3, H2.out.2.trans (grown_of_below hb3 _)⟩
      clear hO3 hb3 c2 z2
      go_wp2_with fail
      refine (markText_any (a + 1 + 1 + 1 + 1) _ (by omega) (by omega)).mono ?_
      rintro e w4 ⟨rfl, hb4⟩
      have hO3 := (H3.out.1.upd (j := 2) (u := .string (mText (a + 1 + 1).toNat)) (f' := { f with row := mText a.toNat, fam := mText (a + 1).toNat, qual := mText (a + 1 + 1).toNat }) HF.out.2 (by omega) rfl).upd (j := 3) (u := .int .u64 (a + 1 + 1 + 1))
        (f' := { f with row := mText a.toNat, fam := mText (a + 1).toNat, qual := mText (a + 1 + 1).toNat, ts := a + 1 + 1 + 1 }) HF.out.2 (by omega) rfl
      have hO4 := hO3.below hb4 hO3.lt.2
      have c6 := (hO4.at m _ (by simp [HF.out.2]; rfl)).2.2.2.2
      simp only [Nat.zero_add] at c6
      have z4 := fun j => World.ownsRow.frozenAt hO4 j
      have H4 : Hid (OwnC (w4.setCell ⟨g, m * 5 + 4, none⟩ (.string (mText (a + 1 + 1 + 1 + 1).toNat))) base g cap (fs.set m (mCel a)) ∧ w.grownBy (w4.setCell ⟨g, m * 5 + 4, none⟩ (.string (mText (a + 1 + 1 + 1 + 1).toNat))) (some g)) :=
        ⟨hO4.upd HF.out.2 (by omega) rfl, (((((H3.out.2.trans (grown_set _ _ _ _)).trans (grown_set _ _ _ _))).trans (grown_of_below hb4 _)).trans (grown_set _ _ _ _))⟩
      have HE : Hid (a = k + m * 5) := HR.out.1
      clear hO3 hO4 hb4 c3 c4 z3
      go_wp2_with fail
      refine ⟨⟨m + 1, a + 1 + 1 + 1 + 1 + 1, fs.set m (mCel a), by omega, by go_num, rfl, ?_, H4.out.1, by rw [List.length_set]; exact HR.out.2.2.1, ?_, H4.out.2⟩, ?_⟩
      · go_light
        have := HE.out
        omega
      · go_light
        exact markedC_set HR.out.2.2.2 HF.out.2 (by rw [← HE.out])
      · go_light
        simp [intOf]; omega
    · go_wp2_with fail
      go_ret
      have e1 : m = es.length := by omega
      refine ⟨fs, ?_, HR.out.2.1, HR.out.2.2.1, ?_, HG.out⟩
      · rw [HR.out.1, e1]; rfl
      · rw [← e1]; exact HR.out.2.2.2

set_option maxHeartbeats 2000000 in
theorem heldCellS_core (b off cap : Nat) (es : List Ent) (k : Int) (w : World) (hE : CelsAt w b off es) (hmk : markedC k es es.length) (hB : b < w.heap.size) (h0 : 0 < k) (h1 : k ≤ 2 ^ 30) (hn : es.length ≤ 1048576) :
    Calls Try.prog 29 #[.slice (some ⟨b, off, none⟩) es.length cap, .int .i64 k] w fun e w' =>
      e = .returned (.int .i64 (k + es.length * 5)) ∧ Below w.heap.size w w' := by
  have HE : Hid (CelsAt w b off es ∧ markedC k es es.length) := ⟨hE, hmk⟩
  clear hE hmk
  go_enter Try.func29, Try.ntmps29
  go_wp2
  go_loopw [1, 5] (fun c i wr => ∃ (m : Nat) (a : Int), m ≤ es.length ∧ i = .int .i64 m ∧ c = .int .i64 a ∧ a = k + m * 5 ∧ Below w.heap.size w wr) (fun _ i _ => es.length - (intOf i).toNat)
  case atStart => exact ⟨0, k, Nat.zero_le _, rfl, rfl, by simp, Below.refl _ _⟩
  case round =>
    obtain ⟨m, a, hm, rfl, rfl, ha, hb⟩ := hrel
    have ha0 : 0 < a := by omega
    have ha1 : a ≤ 2 ^ 31 := by omega
    have HA : Hid (a = k + m * 5) := ha
    clear ha
    have hs := hb.size
    by_cases hlt : m < es.length
    · obtain ⟨f, he⟩ : ∃ f, es[m]? = some f := ⟨_, List.getElem?_eq_getElem hlt⟩
      have hf : f.five = (mCel a).five := by
        have h := HE.out.2 m hlt
        rw [he, ← HA.out] at h
        simpa using h
      simp only [Ent.five, List.cons.injEq, Value.string.injEq, Value.int.injEq, and_true, true_and] at hf
      obtain ⟨f1, f2, f3, f4, f5⟩ := hf
      have HM : Hid (es[m]? = some f) := he
      clear he
      have z2 : (m : Int) < (es.length : Int) := by omega
      have hce : ∀ wx, Below w.heap.size w wx → wx.cell? ⟨b, off + m * 5, none⟩ = some (.string (mText a.toNat)) ∧ wx.cell? ⟨b, off + m * 5 + 1, none⟩ = some (.string (mText (a + 1).toNat)) ∧ wx.cell? ⟨b, off + m * 5 + 2, none⟩ = some (.string (mText (a + 1 + 1).toNat)) ∧
          wx.cell? ⟨b, off + m * 5 + 3, none⟩ = some (.int .u64 (a + 1 + 1 + 1)) ∧ wx.cell? ⟨b, off + m * 5 + 4, none⟩ = some (.string (mText (a + 1 + 1 + 1 + 1).toNat)) := by
        intro wx hx
        have h := (HE.out.1.below hx hB) m _ HM.out
        rw [f1, f2, f3, f4, f5] at h
        exact h
      have HC : Hid (∀ wx, Below w.heap.size w wx → wx.cell? ⟨b, off + m * 5, none⟩ = some (.string (mText a.toNat)) ∧ wx.cell? ⟨b, off + m * 5 + 1, none⟩ = some (.string (mText (a + 1).toNat)) ∧ wx.cell? ⟨b, off + m * 5 + 2, none⟩ = some (.string (mText (a + 1 + 1).toNat)) ∧
          wx.cell? ⟨b, off + m * 5 + 3, none⟩ = some (.int .u64 (a + 1 + 1 + 1)) ∧ wx.cell? ⟨b, off + m * 5 + 4, none⟩ = some (.string (mText (a + 1 + 1 + 1 + 1).toNat))) := hce
      clear f1 f2 f3 f4 f5
      clear hce
      have c1 := (HC.out wr hb).1
      go_upto_region 4 with fail
      go_cut [19] (fun s wx => s = .bool false ∧ Below w.heap.size w wx)
      case first =>
        go_region_with (go_at_call 57; refine (markText_in w _ _ ?hB (by omega) (by omega)).mono ?_; (case hB => (repeat (first | assumption | refine Below.drew ?_))); rintro e' w' ⟨rfl, hbb⟩; have cx := (HC.out w' hbb).1)
        all_goals go_wp2_with fail
        all_goals go_meet
        all_goals exact ⟨rfl, by assumption⟩
      case rest =>
      obtain ⟨rfl, h2⟩ := hcut
      clear c1
      obtain ⟨wa, rfl⟩ : ∃ wa : World, wa = wc := ⟨_, rfl⟩
      have c2 := (HC.out wa h2).2.1
      go_upto_region 7 with fail
      go_cut [29] (fun s wx => s = .bool false ∧ Below w.heap.size w wx)
      case first =>
        go_region_with (go_at_call 57; refine (markText_in w _ _ ?hB (by omega) (by omega)).mono ?_; (case hB => (repeat (first | assumption | refine Below.drew ?_))); rintro e' w' ⟨rfl, hbb⟩; have cx := (HC.out w' hbb).2.1)
        all_goals go_wp2_with fail
        all_goals go_meet
        all_goals exact ⟨rfl, by assumption⟩
      case rest =>
      obtain ⟨rfl, h3⟩ := hcut
      clear c2
      obtain ⟨wb, rfl⟩ : ∃ wb : World, wb = wc := ⟨_, rfl⟩
      have c3 := (HC.out wb h3).2.2.1
      go_upto_region 10 with fail
      go_cut [39] (fun s wx => s = .bool false ∧ Below w.heap.size w wx)
      case first =>
        go_region_with (go_at_call 57; refine (markText_in w _ _ ?hB (by omega) (by omega)).mono ?_; (case hB => (repeat (first | assumption | refine Below.drew ?_))); rintro e' w' ⟨rfl, hbb⟩; have cx := (HC.out w' hbb).2.2.1)
        all_goals go_wp2_with fail
        all_goals go_meet
        all_goals exact ⟨rfl, by assumption⟩
      case rest =>
      obtain ⟨rfl, h4⟩ := hcut
      clear c3
      obtain ⟨wd, rfl⟩ : ∃ wd : World, wd = wc := ⟨_, rfl⟩
      have c4 := (HC.out wd h4).2.2.2.1
      have c5 := (HC.out wd h4).2.2.2.2
      go_upto_region 16 with fail
      go_cut [59] (fun s wx => s = .bool false ∧ Below w.heap.size w wx)
      case first =>
        go_region_with (go_at_call 57; refine (markText_in w _ _ ?hB (by omega) (by omega)).mono ?_; (case hB => (repeat (first | assumption | refine Below.drew ?_))); rintro e' w' ⟨rfl, hbb⟩; have cx := (HC.out w' hbb).2.2.2.2)
        all_goals go_wp2_with fail
        all_goals go_meet
        all_goals exact ⟨rfl, by assumption⟩
      case rest =>
      obtain ⟨rfl, h5⟩ := hcut
      clear c4 c5
      go_wp2_with fail
      refine ⟨⟨m + 1, a + 1 + 1 + 1 + 1 + 1, by omega, by go_num, rfl, ?_, h5⟩, ?_⟩
      · go_light
        have := HA.out
        omega
      · go_light
        simp [intOf]; omega
    · go_wp2_with fail
      go_ret
      have e1 : m = es.length := by omega
      refine ⟨?_, hb⟩
      rw [HA.out, e1]; rfl
end Go.Proofs.Ytnncedndlhfdkab

/-
  What is left of a list of writes when it is played from its front: the puts of its run.
-/
namespace Go.Proofs.Ytnncedndlhfdkab
set_option linter.unusedVariables false

/-- The list that is played up to 'k'. -/
def Rep (ws : List Ent) (k : Nat) (L : List Ent) : Prop := Ord L ∧ ∀ x, x ∈ L ↔ ∃ i, i < k ∧ ws[i]? = some x ∧ x.kind = 0 ∧ StandsTo ws i k
/-- A delete does away with this one. -/
def hit (x e : Ent) : Bool := sameCol x e && ((x.ts == e.ts) || ((e.kind == 2) && decide (x.ts ≤ e.ts)))

theorem sameCol_comm (a b : Ent) : sameCol a b = sameCol b a := by
  rw [Bool.eq_iff_iff, sameCol_iff, sameCol_iff]
  constructor <;> rintro ⟨h1, h2, h3⟩ <;> exact ⟨h1.symm, h2.symm, h3.symm⟩
theorem hit_kills (x e : Ent) : hit x e = kills e x := by
  unfold hit kills
  rw [sameCol_comm x e]
  cases sameCol e x
  · rfl
  · by_cases h2 : e.kind = 2
    · by_cases h : x.ts ≤ e.ts
      · simp [h2, h]
      · have : ¬ x.ts = e.ts := by omega
        simp [h2, h, this]
    · rw [Bool.eq_iff_iff]
      simp [h2]
      exact eq_comm

theorem rep_zero (ws : List Ent) : Rep ws 0 [] := ⟨List.Pairwise.nil, fun x => ⟨fun h => by simp at h, fun ⟨i, hi, _⟩ => by omega⟩⟩
theorem standsTo_self (ws : List Ent) (k : Nat) : StandsTo ws k (k + 1) := fun j v e h1 h2 => by omega
theorem standsTo_iff {ws : List Ent} {i k : Nat} {x e : Ent} (hx : ws[i]? = some x) (he : ws[k]? = some e) (hik : i < k) : StandsTo ws i (k + 1) ↔ StandsTo ws i k ∧ kills e x = false :=
  ⟨fun h => ⟨fun j v y h1 h2 => h j v y h1 (by omega), h k e x hik (by omega) he hx⟩, fun h => standsTo_succ h.1 he hx h.2⟩
theorem key_kills {x e : Ent} (hx : x.kind = 0) (he : e.kind = 0) : keyCmp x e = 0 ↔ kills e x = true := by
  rw [keyCmp_zero]
  unfold kills
  simp [sameCol_iff, hx, he]
  constructor
  · rintro ⟨h1, h2, h3, h4⟩; exact ⟨⟨h1.symm, h2.symm, h3.symm⟩, h4.symm⟩
  · rintro ⟨⟨h1, h2, h3⟩, h4⟩; exact ⟨h1.symm, h2.symm, h3.symm, h4.symm⟩
theorem rep_put {ws : List Ent} {k : Nat} {e : Ent} {L : List Ent} (h : Rep ws k L) (he : ws[k]? = some e) (h0 : e.kind = 0) : Rep ws (k + 1) (into L e) := by
  obtain ⟨h1, h2⟩ := into_spec e L h.1
  refine ⟨h1, fun x => (h2 x).trans ⟨?_, ?_⟩⟩
  · rintro (rfl | ⟨hx, hz⟩)
    · exact ⟨k, by omega, he, h0, standsTo_self ws k⟩
    · obtain ⟨i, hi, a, b, c⟩ := (h.2 x).1 hx
      refine ⟨i, by omega, a, b, (standsTo_iff a he hi).2 ⟨c, ?_⟩⟩
      cases hk : kills e x
      · rfl
      · exact absurd ((key_kills b h0).2 hk) hz
  · rintro ⟨i, hi, a, b, c⟩
    by_cases hik : i = k
    · subst hik
      rw [he] at a
      simp at a
      exact .inl a.symm
    · obtain ⟨c1, c2⟩ := (standsTo_iff a he (by omega)).1 c
      refine .inr ⟨(h.2 x).2 ⟨i, by omega, a, b, c1⟩, fun hz => ?_⟩
      rw [(key_kills b h0).1 hz] at c2
      cases c2
theorem rep_del {ws : List Ent} {k : Nat} {e : Ent} {L : List Ent} (h : Rep ws k L) (he : ws[k]? = some e) (h0 : ¬ e.kind = 0) : Rep ws (k + 1) (L.filter fun x => !(hit x e)) := by
  refine ⟨h.1.filter _, fun x => ?_⟩
  rw [List.mem_filter, hit_kills, h.2 x]
  constructor
  · rintro ⟨⟨i, hi, a, b, c⟩, hk⟩
    exact ⟨i, by omega, a, b, (standsTo_iff a he hi).2 ⟨c, by simpa using hk⟩⟩
  · rintro ⟨i, hi, a, b, c⟩
    by_cases hik : i = k
    · subst hik
      rw [he] at a
      simp at a
      subst a
      exact absurd b h0
    · obtain ⟨c1, c2⟩ := (standsTo_iff a he (by omega)).1 c
      exact ⟨⟨i, by omega, a, b, c1⟩, by simp [c2]⟩

/-- The puts of a list of entries. -/
def puts (R : List Ent) : List Ent := R.filter fun x => x.kind == 0
theorem length_puts (R : List Ent) : (puts R).length ≤ R.length := List.length_filter_le _ _
theorem rep_kept {ws L R : List Ent} (h : Rep ws ws.length L) (hk : Kept ws ws.length R) : L = puts R := by
  refine ord_ext h.1 (hk.1.filter _) (fun x => ?_)
  rw [h.2 x]
  unfold puts
  rw [List.mem_filter, hk.2 x]
  constructor
  · rintro ⟨i, hi, a, b, c⟩
    refine ⟨⟨i, hi, a, .inl ⟨by omega, fun j v e h1 h2 h3 => c j v e h1 (List.getElem?_eq_some_iff.1 h2).1 h2 h3⟩⟩, by simp [b]⟩
  · rintro ⟨⟨i, hi, a, b⟩, h0⟩
    have h0' : x.kind = 0 := by simpa using h0
    rcases b with ⟨_, hs⟩ | ⟨h2, _⟩
    · exact ⟨i, hi, a, h0', fun j v e h1 _ h2 h3 => hs j v e h1 h2 h3⟩
    · omega
end Go.Proofs.Ytnncedndlhfdkab

/-
  A region that draws its order, whose operations read and whose callees leave alone what lay there: one walk.
-/
namespace Go.Proofs.Ytnncedndlhfdkab
open Go.ChangeShapes Go.WideShapes Go.ChangeAt Go.RowKit Go.Deep
set_option linter.unusedVariables false

/-- A world that has grown out of 'w'. -/
structure Out (w : World) where
  u : World
  out : Below w.heap.size w u

theorem wp_region_out {id : Nat} {Q : Exit → Act → World → Prop} {a : Act} {w : World} {l : List Oper} (hm : Try.prog.follows .mixedOrders = true) (hB : Region.lexB .any l.toArray = true)
    (h : wpQuiet Try.prog l.toArray (fun w' => ∃ n : Out w, w' = n.u) (fun a' => ∀ w', (∃ n : Out w, w' = n.u) → Q .normal a' w') l a) : (Code.region id l.toArray true).wp Try.prog Q a w :=
  wp_region_quiet (C := fun w' => ∃ n : Out w, w' = n.u) hm hB ⟨⟨_, (Below.refl _ _).drew⟩, rfl⟩ (by simpa using h)
theorem Calls.out_of {f : FuncId} {args : Array Value} {w : World} {n : Out w} {v : Value}
    (h : Calls Try.prog f args n.u fun e w' => e = .returned v ∧ Below n.u.heap.size n.u w') : Calls Try.prog f args n.u fun e w'' => e = .returned v ∧ ∃ m : Out w, w'' = m.u :=
  h.mono fun _ w' ⟨he, hb⟩ => ⟨he, ⟨w', n.out.trans (hb.mono n.out.size)⟩, rfl⟩
theorem ents_out {w : World} {b off j : Nat} {L : List Ent} {x : Ent} (h : EntsAt w b off L) (hb : b < w.heap.size) (hx : L[j]? = some x) :
    (∀ n : Out w, n.u.cell? ⟨b, off + j * 6, none⟩ = some (.string x.row)) ∧ (∀ n : Out w, n.u.cell? ⟨b, off + j * 6 + 1, none⟩ = some (.string x.fam)) ∧ (∀ n : Out w, n.u.cell? ⟨b, off + j * 6 + 2, none⟩ = some (.string x.qual)) ∧
    (∀ n : Out w, n.u.cell? ⟨b, off + j * 6 + 3, none⟩ = some (.int .u64 x.ts)) ∧ (∀ n : Out w, n.u.cell? ⟨b, off + j * 6 + 4, none⟩ = some (.int .i64 x.kind)) ∧ (∀ n : Out w, n.u.cell? ⟨b, off + j * 6 + 5, none⟩ = some (.string x.val)) :=
  ⟨fun n => (h.below n.out hb j x hx).1, fun n => (h.below n.out hb j x hx).2.1, fun n => (h.below n.out hb j x hx).2.2.1, fun n => (h.below n.out hb j x hx).2.2.2.1, fun n => (h.below n.out hb j x hx).2.2.2.2.1, fun n => (h.below n.out hb j x hx).2.2.2.2.2⟩
end Go.Proofs.Ytnncedndlhfdkab

/-
  spec.Replay.
-/
namespace Go.Proofs.Ytnncedndlhfdkab
open Go.ChangeShapes Go.WideShapes Go.ChangeAt Go.RowKit Go.Deep
set_option linter.unusedVariables false
set_option linter.unusedSimpArgs false

theorem ord_len : ∀ (R ws : List Ent), Ord R → (∀ x ∈ R, x ∈ ws) → R.length ≤ ws.length
  | [], _, _, _ => by simp
  | a :: R, ws, h, hs => by
    have h' := List.pairwise_cons.1 h
    obtain ⟨l1, l2, rfl⟩ := List.append_of_mem (hs a (by simp))
    have := ord_len R (l1 ++ l2) h'.2 (fun x hx => by
      have h1 := hs x (List.mem_cons_of_mem _ hx)
      simp only [List.mem_append, List.mem_cons] at h1 ⊢
      rcases h1 with h1 | rfl | h1
      · exact .inl h1
      · have := h'.1 x hx
        rw [keyCmp_self] at this
        omega
      · exact .inr h1)
    simp at this ⊢
    omega
theorem rep_len {ws L : List Ent} {k : Nat} (h : Rep ws k L) : L.length ≤ ws.length :=
  ord_len L ws h.1 (fun x hx => by
    obtain ⟨i, _, a, _⟩ := (h.2 x).1 hx
    exact List.mem_of_getElem? a)
theorem kept_len {ws R : List Ent} {k : Nat} (h : Kept ws k R) : R.length ≤ ws.length :=
  ord_len R ws h.1 (fun x hx => by
    obtain ⟨i, _, a, _⟩ := (h.2 x).1 hx
    exact List.mem_of_getElem? a)

/-- What the replay of 'ws' may be. -/
def RepOf (ws L : List Ent) : Prop := (GoodW ws → Rep ws ws.length L) ∧ (¬ GoodW ws → L = [])
/-- What a delete leaves of the first 'j'. -/
def leftTo (e : Ent) (L : List Ent) (j : Nat) : List Ent := (L.take j).filter fun x => !(hit x e)
theorem leftTo_succ {e : Ent} {L : List Ent} {j : Nat} {x : Ent} (hx : L[j]? = some x) : leftTo e L (j + 1) = leftTo e L j ++ (if hit x e = true then [] else [x]) := by
  unfold leftTo
  rw [List.take_add_one, hx, List.filter_append]
  cases h : hit x e <;> simp [h]
theorem leftTo_all (e : Ent) (L : List Ent) : leftTo e L L.length = L.filter fun x => !(hit x e) := by unfold leftTo; rw [List.take_length]
theorem leftTo_len (e : Ent) (L : List Ent) (j : Nat) : (leftTo e L j).length ≤ L.length := Nat.le_trans (List.length_filter_le _ _) (by rw [List.length_take]; exact Nat.min_le_right _ _)
theorem OwnC.setBelow {w : World} {base g cap : Nat} {es : List Ent} (h : OwnC w base g cap es) (a : Addr) (ha : a.block < base) (u : Value) : OwnC (w.setCell a u) base g cap es := ownsRow_setCell_below h ha u

theorem OwnE.keptG {w w' : World} {base g cp : Nat} {fs : List Ent} {row : Option Nat} (h : OwnE w base g cp fs) (hg : w.grownBy w' row) (hne : some g ≠ row) : OwnE w' base g cp fs :=
  World.ownsRow.kept h hg (.inr hne)
theorem OwnC.ne_ent {w : World} {base g cp base' g' cp' : Nat} {es fs : List Ent} (h : OwnC w base g cp es) (h' : OwnE w base' g' cp' fs) : g ≠ g' := by
  rcases h.2 with ⟨h0, _⟩ | ⟨g1, cap1, cur, hv, _, hc, _⟩
  · cases h0
  · rcases h'.2 with ⟨h0, _⟩ | ⟨g2, cap2, cur2, hv2, _, hc2, _⟩
    · cases h0
    · simp only [Value.slice.injEq, Option.some.injEq, Addr.mk.injEq, and_true, true_and] at hv hv2
      obtain ⟨rfl, rfl⟩ := hv
      obtain ⟨rfl, rfl⟩ := hv2
      intro q
      rw [q, hc2] at hc
      simp at hc
theorem sameColumn_is (a b : Ent) {s : Bool} (hs : sameCol a b = s) (w : World) :
    Calls Try.prog 37 #[a.v, b.v] w fun e w' => e = .returned (.bool s) ∧ Below w.heap.size w w' := hs ▸ sameColumn_any a b w

set_option maxHeartbeats 8000000 in
set_option maxRecDepth 100000 in
theorem specReplay_core (b off cap : Nat) (ws : List Ent) (w : World) (hE : EntsAt w b off ws) (hok : ∀ e ∈ ws, e.ok) (hB : b < w.heap.size) (hlen : ws.length ≤ 1048576) :
    Calls Try.prog 26 #[.slice (some ⟨b, off, none⟩) ws.length cap] w fun r w' =>
      ∃ (g cp : Nat) (L : List Ent), r = .returned (.slice (some ⟨g, 0, none⟩) L.length cp) ∧ OwnC w' w.heap.size g cp L ∧ Below w.heap.size w w' ∧ L.length ≤ ws.length ∧ RepOf ws L := by
  have HE : Hid (EntsAt w b off ws) := hE
  have HO : Hid (∀ e ∈ ws, e.ok) := hok
  clear hE hok
  obtain ⟨W0, hW0⟩ : ∃ W0 : World, W0 = w.alloc (Obj.cells #[] 71) := ⟨_, rfl⟩
  have hb0 : Below w.heap.size w W0 := by rw [hW0]; exact (Below.refl _ _).alloc (Nat.le_refl _) _
  have hz0 : w.heap.size < W0.heap.size := by rw [hW0]; simp
  have HC0 : Hid (OwnC W0 w.heap.size w.heap.size 0 []) := by show OwnC W0 w.heap.size w.heap.size 0 []; rw [hW0]; exact ownC_new w
  have HE0 : Hid (EntsAt W0 b off ws) := HE.out.below hb0 hB
  go_enter Try.func26, Try.ntmps26
  go_wp2_with fail
  rw [← hW0]
  clear hW0
  refine (goodWrites_core b off cap ws _ HE0.out HO.out (by omega) hlen).mono ?_
  rintro e w1 ⟨r, rfl, hr, hb1⟩
  have HR : Hid (r = true ↔ GoodW ws) := hr
  clear hr
  have hs1 := hb1.size
  have k1 : Below w.heap.size w w1 := hb0.trans (hb1.mono (by omega))
  have HC1 : Hid (OwnC w1 w.heap.size w.heap.size 0 []) := HC0.out.below hb1 hz0
  cases r
  · have HN : Hid (¬ GoodW ws) := fun h => Bool.noConfusion (HR.out.2 h)
    go_wp2_with fail
    go_ret
    exact ⟨_, 0, [], rfl, HC1.out, k1, by simp, fun h => absurd h HN.out, fun _ => rfl⟩
  have HG : Hid (GoodW ws) := HR.out.1 rfl
  clear HR
  obtain ⟨W1, hW1⟩ : ∃ W1 : World, W1 = w1.alloc (Obj.cells #[] 62) := ⟨_, rfl⟩
  have hbA : Below w1.heap.size w1 W1 := by rw [hW1]; exact (Below.refl _ _).alloc (Nat.le_refl _) _
  have hzA : w1.heap.size < W1.heap.size := by rw [hW1]; simp
  have HL1 : Hid (OwnE W1 w1.heap.size w1.heap.size 0 []) := by
    show OwnE W1 w1.heap.size w1.heap.size 0 []
    rw [hW1]
    exact World.ownsRow_made w1 #[] 0 (Nat.le_refl _) (Nat.zero_le _) (by simp)
  have HE1 : Hid (EntsAt W1 b off ws) := (HE0.out.below hb1 (by omega)).below hbA (by omega)
  have HCA : Hid (OwnC W1 w.heap.size w.heap.size 0 []) := HC1.out.below hbA (by omega)
  go_wp2_with fail
  rw [← hW1]
  clear hW1
  go_loopw [4, 5] (fun o i wr => ∃ (k g cp : Nat) (L : List Ent), k ≤ ws.length ∧ i = .int .i64 k ∧ o = .slice (some ⟨g, 0, none⟩) L.length cp ∧ OwnE wr w1.heap.size g cp L ∧ Rep ws k L ∧ Below W1.heap.size W1 wr) (fun _ i _ => ws.length - (intOf i).toNat)
  case atStart => exact ⟨0, _, 0, [], Nat.zero_le _, rfl, rfl, HL1.out, rep_zero ws, Below.refl _ _⟩
  case round =>
    obtain ⟨k, g, cp, L, hk, rfl, rfl, hO, hK, hb⟩ := hrel
    obtain ⟨wo, rfl⟩ : ∃ wo : World, wo = wr := ⟨_, rfl⟩
    have HK : Hid (OwnE wo w1.heap.size g cp L ∧ Rep ws k L) := ⟨hO, hK⟩
    have hg := hO.lt
    have hLl := rep_len hK
    have hs := hb.size
    clear hO hK
    by_cases hlt : k < ws.length
    · obtain ⟨e, he⟩ : ∃ e, ws[k]? = some e := ⟨_, List.getElem?_eq_getElem hlt⟩
      have HEo : Hid (EntsAt wo b off ws) := HE1.out.below hb (by omega)
      obtain ⟨c0, c1, c2, c3, c4, c5⟩ := HEo.out k e he
      have HKe : Hid (ws[k]? = some e) := he
      clear he
      obtain ⟨W2, hW2⟩ : ∃ W2 : World, W2 = wo.alloc (Obj.cells #[.string e.row, .string e.fam, .string e.qual, .int .u64 e.ts, .int .i64 e.kind, .string e.val] 62) := ⟨_, rfl⟩
      have hbW : Below wo.heap.size wo W2 := by rw [hW2]; exact (Below.refl _ _).alloc (Nat.le_refl _) _
      have hzW : wo.heap.size < W2.heap.size := by rw [hW2]; simp
      have hzE : W2.heap.size = wo.heap.size + 1 := by rw [hW2]; simp
      have HN1 : Hid (EntsAt W2 wo.heap.size 0 [e]) := by show EntsAt W2 wo.heap.size 0 [e]; rw [hW2]; exact ent_new wo e
      have HL2 : Hid (OwnE W2 w1.heap.size g cp L) := HK.out.1.below hbW hg.2
      have hbX : Below W1.heap.size W1 W2 := hb.trans (hbW.mono hs)
      cases g2 : (e.kind == 0)
      · have HK2 : Hid (¬ e.kind = 0) := by show ¬ e.kind = 0; simpa using g2
        obtain ⟨W3, hW3⟩ : ∃ W3 : World, W3 = W2.alloc (Obj.cells #[] 62) := ⟨_, rfl⟩
        have hb3 : Below W2.heap.size W2 W3 := by rw [hW3]; exact (Below.refl _ _).alloc (Nat.le_refl _) _
        have hz3 : W2.heap.size < W3.heap.size := by rw [hW3]; simp
        have HL3 : Hid (OwnE W3 w1.heap.size g cp L) := HL2.out.below hb3 (by omega)
        have HN3 : Hid (EntsAt W3 wo.heap.size 0 [e]) := HN1.out.below hb3 hzW
        have HF3 : Hid (OwnE W3 W2.heap.size W2.heap.size 0 []) := by
          show OwnE W3 W2.heap.size W2.heap.size 0 []
          rw [hW3]
          exact World.ownsRow_made W2 #[] 0 (Nat.le_refl _) (Nat.zero_le _) (by simp)
        go_wp2_with fail
        rw [← hW2, ← hzE, ← hW3]
        clear hW2 hW3 hzE c0 c1 c2 c3 c4 c5
        go_loopw [7, 8] (fun l i wr => ∃ (j g2 cp2 : Nat), j ≤ L.length ∧ i = .int .i64 j ∧ l = .slice (some ⟨g2, 0, none⟩) (leftTo e L j).length cp2 ∧ OwnE wr W2.heap.size g2 cp2 (leftTo e L j) ∧ Below W2.heap.size W2 wr) (fun _ i _ => L.length - (intOf i).toNat)
        case atStart => exact ⟨0, _, 0, Nat.zero_le _, rfl, rfl, HF3.out, hb3⟩
        case round =>
          obtain ⟨j, g3, cp3, hj, rfl, rfl, hF, hbi⟩ := hrel
          have HF : Hid (OwnE wr W2.heap.size g3 cp3 (leftTo e L j)) := hF
          have hg3 := hF.lt
          have hlf := leftTo_len e L j
          clear hF
          have hsi := hbi.size
          by_cases hjl : j < L.length
          · obtain ⟨x, hx⟩ : ∃ x, L[j]? = some x := ⟨_, List.getElem?_eq_getElem hjl⟩
            have HX : Hid (L[j]? = some x) := hx
            have hec : ∀ wx, Below W2.heap.size W2 wx → EntsAt wx g 0 L ∧ EntsAt wx wo.heap.size 0 [e] := fun wx h => ⟨(HL2.out.below h (by omega)).at, HN1.out.below h hzW⟩
            have HEC : Hid (∀ wx, Below W2.heap.size W2 wx → EntsAt wx g 0 L ∧ EntsAt wx wo.heap.size 0 [e]) := hec
            clear hec hx
            obtain ⟨c0, c1, c2, c3, c4, c5⟩ := (HEC.out wr hbi).1 j x HX.out
            obtain ⟨d0, d1, d2, d3, d4, d5⟩ := (HEC.out wr hbi).2 0 e rfl
            simp only [Nat.zero_add, Nat.zero_mul] at c0 c1 c2 c3 c4 c5 d0 d1 d2 d3 d4 d5
            have z2 : (j : Int) < (L.length : Int) := by omega
            go_upto_region 15 with fail
            go_cut [9] (fun s wx => s = .bool (hit x e) ∧ Below wr.heap.size wr wx)
            case first =>
              obtain ⟨q0, q1, q2, q3, q4, q5⟩ := ents_out (HEC.out wr hbi).1 (by omega) HX.out
              obtain ⟨r0, r1, r2, r3, r4, r5⟩ := ents_out (HEC.out wr hbi).2 (by omega) (rfl : [e][0]? = some e)
              simp only [Nat.zero_add, Nat.zero_mul] at q0 q1 q2 q3 q4 q5 r0 r1 r2 r3 r4 r5
              clear c0 c1 c2 c3 c4 c5 d0 d1 d2 d3 d4 d5
              have inh : Nonempty (Out wr) := ⟨⟨wr, Below.refl _ _⟩⟩
              cases hsc : sameCol x e
              · have hh : hit x e = false := by unfold hit; rw [hsc]; rfl
                refine wp_region_out (by kernel_rfl) (by kernel_rfl) ?_
                repeat (go_big_quiet_step ((go_at_call 37; exact Calls.out_of (sameColumn_is x e hsc _))))
                refine wpQuiet_nil ?_
                rintro wx ⟨⟨wy, hby⟩, rfl⟩
                go_wp2_with fail
                go_meet
                exact ⟨by rw [hh], hby⟩
              · cases hts : (x.ts == e.ts)
                · cases hk2 : (e.kind == 2)
                  · have hh : hit x e = false := by unfold hit; rw [hsc, hts, hk2]; rfl
                    refine wp_region_out (by kernel_rfl) (by kernel_rfl) ?_
                    repeat (go_big_quiet_step ((go_at_call 37; exact Calls.out_of (sameColumn_is x e hsc _))))
                    refine wpQuiet_nil ?_
                    rintro wx ⟨⟨wy, hby⟩, rfl⟩
                    go_wp2_with fail
                    go_meet
                    exact ⟨by rw [hh], hby⟩
                  · have hh : hit x e = decide (x.ts ≤ e.ts) := by unfold hit; rw [hsc, hts, hk2]; rfl
                    refine wp_region_out (by kernel_rfl) (by kernel_rfl) ?_
                    repeat (go_big_quiet_step ((go_at_call 37; exact Calls.out_of (sameColumn_is x e hsc _))))
                    refine wpQuiet_nil ?_
                    rintro wx ⟨⟨wy, hby⟩, rfl⟩
                    go_wp2_with fail
                    go_meet
                    exact ⟨by rw [hh], hby⟩
                · have hh : hit x e = true := by unfold hit; rw [hsc, hts]; rfl
                  refine wp_region_out (by kernel_rfl) (by kernel_rfl) ?_
                  repeat (go_big_quiet_step ((go_at_call 37; exact Calls.out_of (sameColumn_is x e hsc _))))
                  refine wpQuiet_nil ?_
                  rintro wx ⟨⟨wy, hby⟩, rfl⟩
                  go_wp2_with fail
                  go_meet
                  exact ⟨by rw [hh], hby⟩
            case rest =>
            obtain ⟨rfl, h3⟩ := hcut
            have hb4 : Below W2.heap.size W2 wc := hbi.trans (h3.mono hsi)
            have HF4 : Hid (OwnE wc W2.heap.size g3 cp3 (leftTo e L j)) := HF.out.below h3 hg3.2
            have hs4 := h3.size
            clear c0 c1 c2 c3 c4 c5 d0 d1 d2 d3 d4 d5
            obtain ⟨c0, c1, c2, c3, c4, c5⟩ := (HEC.out wc hb4).1 j x HX.out
            simp only [Nat.zero_add, Nat.zero_mul] at c0 c1 c2 c3 c4 c5
            cases hh : hit x e
            · have HH : Hid (leftTo e L (j + 1) = leftTo e L j ++ [x]) := by show leftTo e L (j + 1) = leftTo e L j ++ [x]; rw [leftTo_succ HX.out, hh]; rfl
              go_wp2_with (at_builtin; refine wpList_append_ent _ rfl _ _ rfl W2.heap.size g3 cp3 _ _ (leftTo e L j) x rfl rfl rfl ?hO ?hc ?hl ?hb ?_)
              case hO => exact HF4.out.below ((Below.refl _ _).alloc (Nat.le_refl _) _) (by omega)
              case hc => exact ent_new wc x
              case hl => omega
              case hb => simp; omega
              intro g' cp' w' hO' hgr
              have HO' : Hid (OwnE w' W2.heap.size g' cp' (leftTo e L (j + 1))) := by show OwnE w' W2.heap.size g' cp' (leftTo e L (j + 1)); rw [HH.out]; exact hO'
              have hb' : Below W2.heap.size W2 w' := (hb4.alloc hb4.size _).grown hgr (by simp; omega) (fun j hj => by cases hj; omega)
              have hle : (leftTo e L (j + 1)).length = (leftTo e L j).length + 1 := by rw [HH.out]; simp
              have HLE : Hid ((leftTo e L (j + 1)).length = (leftTo e L j).length + 1) := hle
              clear hO' hgr hle
              go_wp2_with fail
              go_roundw
              case rel => exact ⟨j + 1, g', cp', by omega, by go_num, by rw [HLE.out], HO'.out, hb'⟩
              case measure => go_light; simp [intOf]; omega
            · have HH : Hid (leftTo e L (j + 1) = leftTo e L j) := by show leftTo e L (j + 1) = leftTo e L j; rw [leftTo_succ HX.out, hh]; simp
              go_wp2_with fail
              go_roundw
              case rel => exact ⟨j + 1, g3, cp3, by omega, by go_num, by rw [HH.out], by rw [HH.out]; exact HF4.out, hb4⟩
              case measure => go_light; simp [intOf]; omega
          · have HJ : Hid (j = L.length) := by show j = L.length; omega
            have HS' : Hid (Rep ws (k + 1) (leftTo e L j)) := by
              show Rep ws (k + 1) (leftTo e L j)
              rw [HJ.out, leftTo_all]
              exact rep_del HK.out.2 HKe.out HK2.out
            have hb5 : Below W1.heap.size W1 wr := hbX.trans (hbi.mono (by omega))
            go_wp2_with fail
            go_roundw
            case rel => exact ⟨k + 1, g3, cp3, leftTo e L j, by omega, by go_num, rfl, HF.out.mono (by omega), HS'.out, hb5⟩
            case measure => go_light; simp [intOf]; omega
      · have HK2 : Hid (e.kind = 0) := by show e.kind = 0; simpa using g2
        have HS' : Hid (Rep ws (k + 1) (into L e)) := rep_put HK.out.2 HKe.out HK2.out
        go_wp2_with fail
        rw [← hW2]
        clear hW2 hzE c0 c1 c2 c3 c4 c5
        refine (into_core g 0 cp L e _ HL2.out.at (by omega) (by omega)).mono ?_
        rintro e' w3 ⟨g', cp', rfl, hO', hb4⟩
        have HO' : Hid (OwnE w3 W2.heap.size g' cp' (into L e)) := hO'
        have hb5 := hbX.trans (hb4.mono (by omega))
        clear hO'
        go_wp2_with fail
        go_roundw
        case rel => exact ⟨k + 1, g', cp', into L e, by omega, by go_num, rfl, HO'.out.mono (by omega), HS'.out, hb5⟩
        case measure => go_light; simp [intOf]; omega
    · have hkk : k = ws.length := by omega
      have HKK : Hid (RepOf ws L) := by
        refine ⟨fun _ => ?_, fun h => absurd HG.out h⟩
        rw [← hkk]; exact HK.out.2
      clear hkk
      have hbw : Below w.heap.size w wo := (k1.trans (hbA.mono (by omega))).trans (hb.mono (by omega))
      have HCo : Hid (OwnC wo w.heap.size w.heap.size 0 []) := HCA.out.below hb (by omega)
      go_wp2_with fail
      go_loopw [3, 10] (fun o i wr => ∃ (m g5 cp5 : Nat), m ≤ L.length ∧ i = .int .i64 m ∧ o = .slice (some ⟨g5, 0, none⟩) m cp5 ∧ OwnC wr w.heap.size g5 cp5 (L.take m) ∧ OwnE wr w1.heap.size g cp L ∧ Below w.heap.size w wr) (fun _ i _ => L.length - (intOf i).toNat)
      case atStart => exact ⟨0, _, 0, Nat.zero_le _, rfl, rfl, HCo.out, HK.out.1, hbw⟩
      case round =>
        obtain ⟨m, g5, cp5, hm, rfl, rfl, hC, hL, hbm⟩ := hrel
        have HM : Hid (OwnC wr w.heap.size g5 cp5 (L.take m) ∧ OwnE wr w1.heap.size g cp L) := ⟨hC, hL⟩
        have hg5 := hC.lt
        have hgl := hL.lt
        have hne := hC.ne_ent hL
        have hsm := hbm.size
        have HTM : Hid (m = (L.take m).length) := by show m = (L.take m).length; rw [List.length_take]; omega
        clear hC hL
        by_cases hlt : m < L.length
        · obtain ⟨x, hx⟩ : ∃ x, L[m]? = some x := ⟨_, List.getElem?_eq_getElem hlt⟩
          have HX : Hid (L.take (m + 1) = L.take m ++ [x]) := by show L.take (m + 1) = L.take m ++ [x]; rw [List.take_add_one, hx]; rfl
          obtain ⟨c0, c1, c2, c3, c4, c5⟩ := HM.out.2.at m x hx
          simp only [Nat.zero_add, Nat.zero_mul] at c0 c1 c2 c3 c4 c5
          clear hx
          go_wp2_with fail
          refine (specCell_any x _).mono ?_
          rintro e' w3 ⟨rfl, hb3⟩
          have hs3 := hb3.size
          have HM3 : Hid (OwnC w3 w.heap.size g5 cp5 (L.take m) ∧ OwnE w3 w1.heap.size g cp L) := ⟨HM.out.1.below hb3 hg5.2, HM.out.2.below hb3 hgl.2⟩
          have hbm3 : Below w.heap.size w w3 := hbm.trans (hb3.mono (by omega))
          clear c0 c1 c2 c3 c4 c5 hb3
          go_wp2_with (at_builtin; refine wpList_append_cel _ rfl _ _ rfl w.heap.size g5 cp5 _ _ (L.take m) x rfl rfl HTM.out ?hO ?hc ?hl ?hb ?_)
          case hO => exact HM3.out.1.below ((Below.refl _ _).alloc (Nat.le_refl _) _) (by omega)
          case hc => exact cel_new w3 x
          case hl => rw [← HTM.out]; omega
          case hb => simp; omega
          intro g' cp' w' hO' hgr
          have HO' : Hid (OwnC w' w.heap.size g' cp' (L.take (m + 1))) := by show OwnC w' w.heap.size g' cp' (L.take (m + 1)); rw [HX.out]; exact hO'
          have hb' : Below w.heap.size w w' := (hbm3.alloc hbm3.size _).grown hgr (by simp; omega) (fun j hj => by cases hj; omega)
          have HL' : Hid (OwnE w' w1.heap.size g cp L) := OwnE.keptG (HM3.out.2.below ((Below.refl _ _).alloc (Nat.le_refl _) _) (by omega)) hgr (fun q => hne (Option.some.inj q).symm)
          clear hO' hgr
          go_wp2_with fail
          go_roundw
          case rel => exact ⟨m + 1, g', cp', by omega, by go_num, rfl, HO'.out, HL'.out, hb'⟩
          case measure => go_light; simp [intOf]; omega
        · have HT : Hid (L.take m = L) := List.take_of_length_le (by omega)
          go_wp2_with fail
          go_ret
          refine ⟨g5, cp5, L, ?_, ?_, hbm, hLl, HKK.out⟩
          · have e1 : m = L.length := by omega
            show Ending.returned (Value.slice (some ⟨g5, 0, none⟩) m cp5) = _
            rw [e1]
          · have h := HM.out.1
            rw [HT.out] at h
            exact h
end Go.Proofs.Ytnncedndlhfdkab

/-
  Replay and the run of the same writes.
-/
namespace Go.Proofs.Ytnncedndlhfdkab
open Go.ChangeShapes Go.WideShapes Go.ChangeAt Go.RowKit Go.Deep
set_option linter.unusedVariables false

theorem runOf_len {ws R : List Ent} (h : RunOf ws R) : R.length ≤ ws.length := by
  by_cases g : GoodW ws
  · exact kept_len (h.1 g)
  · rw [h.2 g]; simp
theorem repOf_puts {ws L R : List Ent} (h : RepOf ws L) (k : RunOf ws R) : L = puts R := by
  by_cases g : GoodW ws
  · exact rep_kept (h.1 g) (k.1 g)
  · rw [h.2 g, k.2 g]; rfl
theorem runField (a : Option Addr) (n c : Nat) (w : World) : (Instr.field 29 (.agg #[.slice a n c]) 0).run Try.prog w = .ok (.slice a n c) w := by
  simp [Instr.field, go_sem, part, asAgg]
end Go.Proofs.Ytnncedndlhfdkab

