import Derived.Test.YtnncedndlhfdkabPkAC
import Derived.Test.YtnncedndlhfdkabPkAB
import Derived.Test.YtnncedndlhfdkabPkAA
/-
  impl.BuildRun: the entries of the columns, put in order.
-/
namespace Go.Proofs.Ytnncedndlhfdkab
open Go.ChangeShapes Go.WideShapes Go.ChangeAt Go.RowKit Go.Deep Go.Maps
set_option linter.unusedVariables false
set_option maxRecDepth 100000

theorem wf_nonneg {t : Int} (h : (Lit.int .u64 t).wf = true) : 0 ≤ t := by
  simp only [Lit.wf, Bool.and_eq_true, decide_eq_true_eq] at h
  have : IntKind.u64.min = 0 := rfl
  omega
/-- An entry that a column's state tells. -/
def InCW (c : Col) (k : CW) (x : Ent) : Prop := (k.d = true ∧ x = delE c k.u) ∨ ∃ t, (Lit.int .u64 t).wf = true ∧ k.f t = some x

theorem cols_keep {ws : List Ent} (hv : ∀ e ∈ ws, e.vld = true) (hok : ∀ e ∈ ws, e.ok) (x : Ent) : (∃ c k, colsOf ws c = some k ∧ InCW c k x) ↔ KeepTo ws ws.length x := by
  have hp : ∀ e ∈ ws, 0 ≤ e.ts := fun e he => wf_nonneg (hok e he).ts
  constructor
  · rintro ⟨c, k, hk, h⟩
    have hd := delOk ws hp c
    rw [hk] at hd
    simp only [Option.getD_some] at hd
    rcases h with ⟨h1, rfl⟩ | ⟨t, h1, h2⟩
    · obtain ⟨e, he, g1, g2, g3⟩ := hd.has h1
      have he2 : e = delE c k.u := by
        have v1 := vld_val (hv e he) g2
        subst g1
        obtain ⟨r, f, q, t, kk, v⟩ := e
        simp only at *
        subst g2 g3
        unfold delE Ent.wcol
        simp only
        rw [size_zero_eq v1 (show (⟨#[]⟩ : ByteArray).size = 0 from rfl)]
      rw [he2] at he
      obtain ⟨i, hi⟩ := List.getElem?_of_mem he
      refine ⟨i, (List.getElem?_eq_some_iff.1 hi).1, hi, .inr ⟨rfl, fun v hvv g4 g5 => ?_⟩⟩
      exact (hd.all v hvv (sameCol_wcol.1 g5) g4).2
    · have h3 := (left_iff ws hp c t x).1 (by rw [hk]; exact h2)
      obtain ⟨i, g1, g2⟩ := h3.2.2.2
      exact ⟨i, (List.getElem?_eq_some_iff.1 g1).1, g1, .inl ⟨h3.2.2.1, g2⟩⟩
  · rintro ⟨i, hi, hx, hk⟩
    have hm := List.mem_of_getElem? hx
    obtain ⟨k, hk2⟩ := (colsOf_mem ws x.wcol).2 ⟨x, hm, rfl⟩
    refine ⟨x.wcol, k, hk2, ?_⟩
    have hd := delOk ws hp x.wcol
    rw [hk2] at hd
    simp only [Option.getD_some] at hd
    rcases hk with ⟨h1, h2⟩ | ⟨h1, h2⟩
    · right
      refine ⟨x.ts, (hok x hm).ts, ?_⟩
      have := (left_iff ws hp x.wcol x.ts x).2 ⟨rfl, rfl, h1, i, hx, h2⟩
      rw [hk2] at this
      exact this
    · left
      obtain ⟨g1, g2⟩ := hd.all x hm rfl h1
      obtain ⟨e, he, q1, q2, q3⟩ := hd.has g1
      have q4 := h2 e he q2 (sameCol_wcol.2 q1)
      have v1 := vld_val (hv x hm) h1
      refine ⟨g1, ?_⟩
      obtain ⟨r, f, q, t, kk, v⟩ := x
      simp only at *
      have ht : t = k.u := by omega
      subst h1 ht
      unfold delE Ent.wcol
      simp only
      rw [size_zero_eq v1 (show (⟨#[]⟩ : ByteArray).size = 0 from rfl)]

theorem keepTo_key {ws : List Ent} (hv : ∀ x ∈ ws, x.vld = true) {x y : Ent} (hx : KeepTo ws ws.length x) (hy : KeepTo ws ws.length y) (h : keyCmp x y = 0) : x = y := by
  obtain ⟨i, _, h1, h2⟩ := hx
  obtain ⟨j, _, g1, g2⟩ := hy
  rcases Nat.lt_trichotomy i j with q | q | q
  · exact keep_uniq hv q h1 g1 h2 g2 h
  · subst q
    rw [h1] at g1
    simpa using g1
  · exact (keep_uniq hv q g1 h1 g2 h2 (by have := keyCmp_neg x y; omega)).symm
/-- A list in order, without repeats, of just what is kept: it is the run. -/
theorem kept_of {ws : List Ent} (hv : ∀ x ∈ ws, x.vld = true) {S T : List Ent} (hm : ∀ x, x ∈ S ↔ KeepTo ws ws.length x) (hn : S.Nodup) (hp : T.Perm S) (hs : T.Pairwise (fun a b => ¬ keyCmp b a = -1)) : Kept ws ws.length T := by
  have hmT : ∀ x, x ∈ T ↔ KeepTo ws ws.length x := fun x => (hp.mem_iff).trans (hm x)
  refine ⟨?_, hmT⟩
  have hnT : T.Nodup := hp.nodup_iff.2 hn
  unfold Ord
  have h2 : T.Pairwise (fun a b => a ≠ b) := hnT
  have h3 := hs.and h2
  refine List.Pairwise.imp_of_mem ?_ h3
  intro a b ha hb ⟨h4, h5⟩
  rcases keyCmp_vals a b with q | q | q
  · exact q
  · exact absurd (keepTo_key hv ((hmT a).1 ha) ((hmT b).1 hb) q) h5
  · exact absurd (by have := keyCmp_neg a b; omega) h4

theorem Inner.ne_own {w : World} {base base' N g cp : Nat} {m : Option Nat} {f : Int → Option Ent} {fs : List Ent} (h : Inner w base N m f) (hO : OwnE w base' g cp fs) : m = none ∨ m ≠ some g := by
  rcases h with ⟨h, _⟩ | ⟨b, n, rfl, hI, _, _⟩
  · exact .inl h
  · right
    intro q
    obtain ⟨D, ⟨es, ck, hh, _⟩, _⟩ := hI
    exact hO.ne_map hh (Option.some.inj q).symm

theorem appendE_any (k : CW) (m : Option Nat) (c : Col) (base base' N g cp : Nat) (fs : List Ent) (w : World) (hI : Inner w base' N m k.f) (hts : ∀ t e, k.f t = some e → e.ts = t ∧ ¬ e.kind = 2) (hwf : ∀ t e, k.f t = some e → (Lit.int .u64 t).wf = true)
    (hO : OwnE w base g cp fs) (hlen : fs.length ≤ 2 ^ 28) (hn : N ≤ 2 ^ 20) (hbase : base ≤ w.heap.size) :
    Calls Try.prog 53 #[.agg #[.bool k.d, .int .u64 k.u, .map m], .slice (some ⟨g, 0, none⟩) fs.length cp, c.v] w fun r w' =>
      ∃ g' cp' S, r = .returned (.slice (some ⟨g', 0, none⟩) (fs ++ S).length cp') ∧ OwnE w' base g' cp' (fs ++ S) ∧ (∀ x, x ∈ S ↔ InCW c k x) ∧ S.Nodup ∧ S.length ≤ N + 1 ∧ w.grownBy w' (some g) ∧ (g' = g ∨ w.heap.size ≤ g') := by
  rcases hI with ⟨rfl, hf⟩ | ⟨b, n, rfl, hI, hn', _⟩
  · refine (appendE_none k.d k.u c base g cp fs w hO hlen hbase).mono ?_
    rintro r w' ⟨g', cp', h1, h2, h3, h4⟩
    refine ⟨g', cp', del0 k.d c k.u, h1, h2, fun x => ?_, ?_, ?_, h3, h4⟩
    · unfold InCW del0
      rw [hf]
      cases k.d <;> simp
    · unfold del0; split <;> simp
    · unfold del0; split <;> simp
  · refine (appendE_some k.d k.u c b n base g cp k.f fs w hI (fun t e h => (hts t e h).1) hO hlen (Nat.le_trans hn' hn) hbase).mono ?_
    rintro r w' ⟨g', cp', S, h1, h2, h3, h4, h5, h6⟩
    rw [List.append_assoc] at h1 h2
    refine ⟨g', cp', del0 k.d c k.u ++ S, h1, h2, fun x => ?_, ?_, ?_, h4, h5⟩
    · rw [List.mem_append, h3.1 x]
      unfold InCW del0
      cases k.d <;> simp
    · rw [List.nodup_append]
      refine ⟨?_, h3.2, fun a ha x hx q => ?_⟩
      · unfold del0; split <;> simp
      · subst q
        obtain ⟨t, _, g2⟩ := (h3.1 a).1 hx
        have hk := (hts t a g2).2
        unfold del0 at ha
        split at ha
        · simp at ha
          rw [ha] at hk
          exact hk rfl
        · simp at ha
    · rw [List.length_append]
      have : (del0 k.d c k.u).length ≤ 1 := by unfold del0; split <;> simp
      omega

/-- The entries of the columns that the loop has met. -/
def MetC (ws : List Ent) (left : Lit → Bool) (S : List Ent) : Prop := (∀ x, x ∈ S ↔ ∃ c k, colsOf ws c = some k ∧ left c.l = false ∧ InCW c k x) ∧ S.Nodup
theorem inCW_col {ws : List Ent} (hp : ∀ e ∈ ws, 0 ≤ e.ts) {c : Col} {k : CW} {x : Ent} (hk : colsOf ws c = some k) (h : InCW c k x) : x.wcol = c := by
  rcases h with ⟨_, rfl⟩ | ⟨t, _, h2⟩
  · rfl
  · exact ((left_iff ws hp c t x).1 (by rw [hk]; exact h2)).1
theorem metC_step {ws : List Ent} (hp : ∀ e ∈ ws, 0 ≤ e.ts) (hokc : ∀ c k, colsOf ws c = some k → Col.okc c) {left : Lit → Bool} {S S' : List Ent} {c : Col} {k : CW} (h : MetC ws left S) (hk : colsOf ws c = some k) (hl : left c.l = true)
    (hS : ∀ x, x ∈ S' ↔ InCW c k x) (hN : S'.Nodup) : MetC ws (fun z => left z && !z.sameKey c.l) (S ++ S') := by
  refine ⟨fun x => ?_, ?_⟩
  · rw [List.mem_append, h.1 x, hS x]
    constructor
    · rintro (⟨c', k', h1, h2, h3⟩ | h3)
      · exact ⟨c', k', h1, by simp [h2], h3⟩
      · exact ⟨c, k, hk, by simp [Col.l, colL, Lit.sameKey], h3⟩
    · rintro ⟨c', k', h1, h2, h3⟩
      by_cases q : c' = c
      · subst q
        rw [hk] at h1
        injection h1 with h1
        subst h1
        exact .inr h3
      · left
        have hs : c'.l.sameKey c.l = false := Maps.sameKey_ne (fun e => q (Col.inj (hokc c' k' h1) (hokc c k hk) e))
        refine ⟨c', k', h1, ?_, h3⟩
        simpa [hs] using h2
  · rw [List.nodup_append]
    refine ⟨h.2, hN, fun a ha b hb q => ?_⟩
    subst q
    obtain ⟨c', k', h1, h2, h3⟩ := (h.1 a).1 ha
    have e1 := inCW_col hp h1 h3
    have e2 := inCW_col hp hk ((hS a).1 hb)
    rw [e1] at e2
    subst e2
    rw [hl] at h2
    cases h2

theorem keyCol_inv {v : Value} {l : Lit} (h : keyOf Try.prog 84 v = some l) : ∃ c : Col, v = c.v ∧ Col.okc c ∧ l = c.l := by
  have h1 : Try.prog.keyType 84 = true := by kernel_rfl
  have h2 : Try.prog.cellsOf 84 = 3 := by kernel_rfl
  obtain ⟨n, hn⟩ := typesSome
  have hcopy := h
  unfold keyOf at h
  rw [Try.underlying84] at h
  simp only [h1, Bool.true_and] at h
  split at h
  · rename_i hf
    cases v with
    | agg cs =>
      simp only [Value.formed, Try.underlying84, h2, beq_iff_eq] at hf
      obtain ⟨a, b, c, rfl⟩ := Go.Joins.array3 hf
      rw [hn] at h
      cases a <;> first
        | (exfalso; simp [Program.keyLits, Try.underlying84, Try.underlying9, h2, Try.cellsStr, Value.cells] at h; done)
        | skip
      rename_i s0
      cases b <;> first
        | (exfalso; simp [Program.keyLits, Try.underlying84, Try.underlying9, h2, Try.cellsStr, Value.cells] at h; done)
        | skip
      rename_i s1
      cases c <;> first
        | (exfalso; simp [Program.keyLits, Try.underlying84, Try.underlying9, h2, Try.cellsStr, Value.cells] at h; done)
        | skip
      rename_i s2
      by_cases z0 : s0.size ≤ maxLen
      · by_cases z1 : s1.size ≤ maxLen
        · by_cases z2 : s2.size ≤ maxLen
          · refine ⟨(s0, s1, s2), rfl, ⟨z0, z1, z2⟩, ?_⟩
            have := keyCol z0 z1 z2
            rw [this] at hcopy
            exact (Option.some.inj hcopy).symm
          · exfalso; simp [Program.keyLits, Try.underlying84, Try.underlying9, h2, Try.cellsStr, Value.cells, z2] at h
        · exfalso; simp [Program.keyLits, Try.underlying84, Try.underlying9, h2, Try.cellsStr, Value.cells, z1] at h
      · exfalso; simp [Program.keyLits, Try.underlying84, Try.underlying9, h2, Try.cellsStr, Value.cells, z0] at h
    | _ => simp [Value.formed, Try.underlying84] at hf
  · cases h

set_option maxHeartbeats 4000000 in
set_option maxRecDepth 100000 in
theorem implBuild_core (b off cap : Nat) (ws : List Ent) (w : World) (hE : EntsAt w b off ws) (hok : ∀ e ∈ ws, e.ok) (hB : b < w.heap.size) (hlen : ws.length ≤ cap) (hcap : cap ≤ maxLen) (hws : ws.length ≤ 1048576) :
    Calls Try.prog 21 #[.slice (some ⟨b, off, none⟩) ws.length cap] w fun r w' =>
      ((¬ GoodW ws ∧ r = .returned (.agg #[.slice none 0 0])) ∨ (GoodW ws ∧ ∃ g cp R, r = .returned (.agg #[.slice (some ⟨g, 0, none⟩) R.length cp]) ∧ OwnE w' w.heap.size g cp R ∧ Kept ws ws.length R)) ∧ Below w.heap.size w w' := by
  have HO : Hid (∀ e ∈ ws, e.ok) := hok
  have HC : Hid (ws.length ≤ cap ∧ cap ≤ maxLen) := ⟨hlen, hcap⟩
  obtain ⟨W0, hW0⟩ : ∃ W0 : World, W0 = w.alloc (Obj.cells #[.slice none 0 0] 29) := ⟨_, rfl⟩
  have hb0 : Below w.heap.size w W0 := by rw [hW0]; exact (Below.refl _ _).alloc (Nat.le_refl _) _
  have hz0 : w.heap.size < W0.heap.size := by rw [hW0]; simp
  have ca : W0.cell? ⟨w.heap.size, 0, none⟩ = some (.slice none 0 0) := by rw [hW0]; simp
  have cf : W0.frozen? ⟨w.heap.size, 0, none⟩ = false := by rw [hW0]; simp
  have HE0 : Hid (EntsAt W0 b off ws) := hE.below hb0 hB
  clear hE hok hlen hcap
  obtain ⟨i, hi, hi0, hi1, hi2⟩ := info_parts Try.infoEnt
  have HI : Hid (Try.prog.info? 62 = some i ∧ i.zero = some (.agg #[.string ⟨#[]⟩, .string ⟨#[]⟩, .string ⟨#[]⟩, .int .u64 0, .int .i64 0, .string ⟨#[]⟩]) ∧ i.size = 6 ∧ i.bytes = 80) := ⟨hi, hi0, hi1, hi2⟩
  clear hi hi0 hi1 hi2
  go_enter Try.func21, Try.ntmps21
  go_wp2_with fail
  rw [← hW0]
  clear hW0
  refine (validWrites_core b off cap ws _ HE0.out HO.out (by omega) HC.out.1 HC.out.2).mono ?_
  rintro e w1 ⟨rb, rfl, hr, hb1⟩
  have HR : Hid (rb = true ↔ GoodW ws) := hr
  clear hr
  have hs1 := hb1.size
  have ca1 : w1.cell? ⟨w.heap.size, 0, none⟩ = some (.slice none 0 0) := by rw [hb1.cell (p := ⟨w.heap.size, 0, none⟩) hz0]; exact ca
  have cf1 : w1.frozen? ⟨w.heap.size, 0, none⟩ = false := by rw [hb1.frozen (p := ⟨w.heap.size, 0, none⟩) hz0]; exact cf
  have HE1 : Hid (EntsAt w1 b off ws) := HE0.out.below hb1 (by omega)
  have k1 : Below w.heap.size w w1 := hb0.trans (hb1.mono (by omega))
  cases rb
  · have HN : Hid (¬ GoodW ws) := fun h => Bool.noConfusion (HR.out.2 h)
    go_wp2_with fail
    refine bodyPost_ret (v := .agg #[.slice none 0 0]) (by simp [results, Try.results21, go_sem, ca1]) rfl ⟨.inl ⟨HN.out, rfl⟩, ?_⟩
    exact k1.setCell (by show w.heap.size ≤ w.heap.size; omega) _
  have HG : Hid (GoodW ws) := HR.out.1 rfl
  have hgl : ws.length ≤ 10000 := HG.out.1
  clear HR
  go_wp2_with (at_make; refine wpList_make_own _ rfl _ _ 27 rfl (w.heap.size + 1) 62 i _ 6 Try.underlying27 HI.out.1 HI.out.2.1 HI.out.2.2.1 _ _ _ ws.length rfl rfl ?_ ?hb ?hm ?hs ?_)
  case hb => rw [HI.out.2.2.2]; omega
  case hm => unfold maxLen; omega
  case hs => omega
  · rfl
  intro w2 hown hgrow
  have hO2 : OwnE w2 (w.heap.size + 1) w1.heap.size ws.length [] := hown
  have hb2 : Below w1.heap.size w1 w2 := (Below.refl _ _).grown hgrow (Nat.le_refl _) (fun j hj => by cases hj)
  have HO2 : Hid (OwnE w2 (w.heap.size + 1) w1.heap.size ws.length []) := hO2
  have hg2 := hO2.lt
  have hs2 := hb2.size
  have HE2 : Hid (EntsAt w2 b off ws) := HE1.out.below hb2 (by omega)
  clear hown hO2 hgrow
  go_wp2_with fail
  refine (gather_core b off cap ws _ HE2.out HO.out (by omega) hws).mono ?_
  rintro r w3 ⟨M, rfl, hM, hb3⟩
  have hs3 := hb3.size
  obtain ⟨D, hD, hv⟩ := hM.map
  have hsd := hD.size_le
  have HV : Hid (∀ c, Col.okc c → (colsOf ws c = none ∧ Maps.has D c.l = false) ∨ ∃ k, colsOf ws c = some k ∧ Maps.has D c.l = true ∧ ∀ z, D.atKey c.l z = .held (.agg #[.bool k.d, .int .u64 k.u, .map (M c)])) := hv
  have HM : Hid (Outer w3 w2.heap.size w2.heap.size ws.length (colsOf ws) M) := hM
  have hMl := hM.lt
  have HO3 : Hid (OwnE w3 (w.heap.size + 1) w1.heap.size ws.length []) := HO2.out.below hb3 hg2.2
  have ca3 : w3.cell? ⟨w.heap.size, 0, none⟩ = some (.slice none 0 0) := by rw [hb3.cell (p := ⟨w.heap.size, 0, none⟩) (by show w.heap.size < _; omega), hb2.cell (p := ⟨w.heap.size, 0, none⟩) (by show w.heap.size < _; omega)]; exact ca1
  have cf3 : w3.frozen? ⟨w.heap.size, 0, none⟩ = false := by rw [hb3.frozen (p := ⟨w.heap.size, 0, none⟩) (by show w.heap.size < _; omega), hb2.frozen (p := ⟨w.heap.size, 0, none⟩) (by show w.heap.size < _; omega)]; exact cf1
  have k3 : Below (w.heap.size + 1) w1 w3 := (hb2.mono (by omega)).trans (hb3.mono (by omega))
  clear hv hM
  go_wp2_with (at_range; refine wpList_range_own _ rfl _ 81 rfl 84 87 lawCol Try.underlying81 Rh w2.heap.size ws.length D rfl hD ?_; intro w4 hrg4 hg4 hs4)
  go_frame
  have hp : ∀ e ∈ ws, 0 ≤ e.ts := fun e he => wf_nonneg (HO.out e he).ts
  have HP : Hid (∀ e ∈ ws, 0 ≤ e.ts) := hp
  clear hp
  have HS0 : Hid (MetC ws (Maps.has D) []) := by
    refine ⟨fun x => ⟨fun h => by simp at h, ?_⟩, List.nodup_nil⟩
    rintro ⟨c, k, h1, h2, _⟩
    rcases HV.out c (HM.out.ok c k h1) with ⟨q1, _⟩ | ⟨k', _, q2, _⟩
    · rw [q1] at h1; cases h1
    · rw [q2] at h2; cases h2
  have HI4 : Hid (∀ c k, colsOf ws c = some k → Inner w4 w2.heap.size ws.length (M c) k.f) := fun c k h => (HM.out.inner c k h).kept hg4 (by cases M c <;> simp)
  have k4 : Below (w.heap.size + 1) w1 w4 := k3.grown hg4 (by omega) (fun j hj => by cases hj)
  go_loopw [3] (fun s wr => ∃ (left : Lit → Bool) (cnt : Nat) (S : List Ent) (g2 cp2 : Nat), s = .slice (some ⟨g2, 0, none⟩) S.length cp2 ∧ OwnE wr (w.heap.size + 1) g2 cp2 S ∧ wr.ranges Try.prog 84 Rh w2.heap.size w3.heap.size ws.length D left cnt ∧ MetC ws left S ∧ cnt ≤ ws.length ∧ S.length ≤ (ws.length - cnt) * 10001 ∧
      (∀ c k, colsOf ws c = some k → Inner wr w2.heap.size ws.length (M c) k.f) ∧ Below (w.heap.size + 1) w1 wr ∧ g2 ≠ w3.heap.size) (fun _ wr => wr.rangeLeft w2.heap.size w3.heap.size)
  case atStart =>
    exact ⟨Maps.has D, Maps.size D, [], w1.heap.size, ws.length, rfl, HO3.out.kept hg4 (by simp), hrg4, HS0.out, hsd, by simp, HI4.out, k4, by omega⟩
  case round =>
    obtain ⟨left, cnt, S, g2, cp2, rfl, hO5, hrg, hH, hcn, hSl, hIn, hbr, hne2⟩ := hrel
    have HR : Hid (OwnE wr (w.heap.size + 1) g2 cp2 S ∧ MetC ws left S ∧ (∀ c k, colsOf ws c = some k → Inner wr w2.heap.size ws.length (M c) k.f)) := ⟨hO5, hH, hIn⟩
    have hg5 := hO5.lt
    have hsr := hbr.size
    have hrl := hrg.lt
    have hne1 : g2 ≠ w2.heap.size := by
      obtain ⟨es, ck, hh, _⟩ := hrg.owns
      exact hO5.ne_map hh
    clear hO5 hH hIn
    go_wp2_with (at_next; refine wpList_next_ranges _ rfl _ rfl 84 lawCol Rh (fun c : Col => Col.v c) (fun v : Value => v) (fun key kl h => by obtain ⟨c, h1, _⟩ := keyCol_inv h; exact ⟨c, h1⟩) (fun v y _ => ⟨v, rfl⟩) w2.heap.size w3.heap.size ws.length D left cnt rfl hrg ?_ ?_)
    · intro h0 hl
      have HL : Hid (∀ kl, left kl = false) := hl
      have hSb : S.length ≤ 2 ^ 40 := by
        have := Nat.mul_le_mul_right 10001 (show ws.length - cnt ≤ 10000 by omega)
        omega
      have car : wr.cell? ⟨w.heap.size, 0, none⟩ = some (.slice none 0 0) := by rw [hbr.cell (p := ⟨w.heap.size, 0, none⟩) (by show w.heap.size < _; omega)]; exact ca1
      have cfr : wr.frozen? ⟨w.heap.size, 0, none⟩ = false := by rw [hbr.frozen (p := ⟨w.heap.size, 0, none⟩) (by show w.heap.size < _; omega)]; exact cf1
      clear hl
      go_wp2_with fail
      refine (sort_core (w.heap.size + 1) g2 cp2 S _ HR.out.1 hSb).mono ?_
      rintro r w7 ⟨rfl, T, hpT, hsT, hO7, hg7⟩
      have ca7 : w7.cell? ⟨w.heap.size, 0, none⟩ = some (.slice none 0 0) := hg7.cell car (fun q => by have q' : w.heap.size = g2 := Option.some.inj q; omega)
      have cf7 : w7.frozen? ⟨w.heap.size, 0, none⟩ = false := by
        rw [World.frozen?_of_block (a := ⟨w.heap.size, 0, none⟩) (hg7.block w.heap.size (by omega) (fun q => by injection q; omega))]; exact cfr
      have hbr7 : Below (w.heap.size + 1) w1 w7 := hbr.grown hg7 (by omega) (fun j hj => by cases hj; exact hg5.1)
      have hTl : T.length = S.length := hpT.length_eq
      have HF : Hid (OwnE w7 (w.heap.size + 1) g2 cp2 T ∧ Kept ws ws.length T) := ⟨hO7, kept_of HG.out.2 (fun x => (HR.out.2.1.1 x).trans (Iff.trans ⟨fun ⟨c, k, a1, _, a2⟩ => ⟨c, k, a1, a2⟩, fun ⟨c, k, a1, a2⟩ => ⟨c, k, a1, HL.out _, a2⟩⟩ (cols_keep HG.out.2 HO.out x))) HR.out.2.1.2 hpT hsT⟩
      have HT : Hid (T.length = S.length) := hTl
      clear hpT hsT hO7 hg7 hTl
      go_wp2_with fail
      refine bodyPost_ret (v := .agg #[.slice (some ⟨g2, 0, none⟩) S.length cp2]) (by simp [results, Try.results21, go_sem, ca7]) rfl ⟨.inr ⟨HG.out, g2, cp2, T, by rw [HT.out], ?_, HF.out.2⟩, ?_⟩
      · exact (HF.out.1.setBelow ⟨w.heap.size, 0, none⟩ (by show w.heap.size < _; omega) _).mono (by omega)
      · exact (k1.trans (hbr7.mono (by omega))).setCell (by show w.heap.size ≤ w.heap.size; omega) _
    · intro xr xf xq c kl y1 y2 w5 cnt1 hkey hlk hvv hat hrg5 hlt5 hg5' hs5 hen
      obtain ⟨x', q1, q2, q3⟩ := keyCol_inv hkey
      have q4 : x' = (xr, xf, xq) := by
        obtain ⟨b1, b2, b3⟩ := x'
        simp at q1
        obtain ⟨rfl, rfl, rfl⟩ := q1
        rfl
      subst q3
      obtain ⟨k, hk, hce⟩ : ∃ k, colsOf ws x' = some k ∧ c = .agg #[.bool k.d, .int .u64 k.u, .map (M x')] := by
        rcases HV.out x' q2 with ⟨_, h2⟩ | ⟨k, h1, h2, h3⟩
        · have := hat (.held (.bool true))
          rw [Maps.atKey_of_not_has h2] at this
          have h5 := hat (.held (.bool false))
          rw [Maps.atKey_of_not_has h2] at h5
          rw [← h5] at this
          cases this
        · refine ⟨k, h1, ?_⟩
          have h4 := hat (.held (.bool true))
          rw [h3] at h4
          have h5 := (Rh_eq hvv).1
          rw [h5] at h4
          injection h4 with h4
          exact h4.symm
      subst hce
      have HK : Hid (colsOf ws x' = some k ∧ left x'.l = true) := ⟨hk, hlk⟩
      have HQ : Hid (x' = (xr, xf, xq)) := q4
      clear hk hlk hat hvv hkey q1 q2 q4
      have HG5 : Hid (wr.grownBy w5 (some w3.heap.size)) := hg5'
      have hle1 : wr.heap.size ≤ w5.heap.size := by omega
      have hle2 : w5.heap.size ≤ wr.heap.size := by omega
      clear hg5' hs5
      have hgB : wr.grownBy ((w5.alloc (Obj.cells #[.string xr, .string xf, .string xq] 84)).alloc (Obj.cells #[.bool k.d, .int .u64 k.u, .map (M x')] 87)) (some w3.heap.size) := HG5.out.trans ((World.grownBy_alloc _ _ _).trans (World.grownBy_alloc _ _ _))
      have hIx : Inner ((w5.alloc (Obj.cells #[.string xr, .string xf, .string xq] 84)).alloc (Obj.cells #[.bool k.d, .int .u64 k.u, .map (M x')] 87)) w2.heap.size ws.length (M x') k.f := by
        refine (HR.out.2.2 x' k HK.out.1).kept hgB ?_
        cases hq : M x' with
        | none => exact .inl rfl
        | some bb =>
          refine .inr (fun q => ?_)
          have := (HM.out.inLt hq).1
          have := Option.some.inj q
          omega
      have hOx : OwnE ((w5.alloc (Obj.cells #[.string xr, .string xf, .string xq] 84)).alloc (Obj.cells #[.bool k.d, .int .u64 k.u, .map (M x')] 87)) (w.heap.size + 1) g2 cp2 S := HR.out.1.kept hgB (fun q => hne2 (Option.some.inj q))
      have hltx : S.length ≤ 2 ^ 28 := by
        have := Nat.mul_le_mul_right 10001 (show ws.length - cnt ≤ 10000 by omega)
        omega
      have HA := appendE_any k (M x') x' (w.heap.size + 1) w2.heap.size ws.length g2 cp2 S ((w5.alloc (Obj.cells #[.string xr, .string xf, .string xq] 84)).alloc (Obj.cells #[.bool k.d, .int .u64 k.u, .map (M x')] 87)) hIx
        (fun t e h => by have h3 := (left_iff ws HP.out x' t e).1 (by rw [HK.out.1]; exact h); exact ⟨h3.2.1, h3.2.2.1⟩)
        (fun t e h => by have h3 := (left_iff ws HP.out x' t e).1 (by rw [HK.out.1]; exact h); obtain ⟨ii, q5, _⟩ := h3.2.2.2; rw [← h3.2.1]; exact (HO.out e (List.mem_of_getElem? q5)).ts)
        hOx hltx (by omega) (by simp; omega)
      have HB : Hid (wr.grownBy ((w5.alloc (Obj.cells #[.string xr, .string xf, .string xq] 84)).alloc (Obj.cells #[.bool k.d, .int .u64 k.u, .map (M x')] 87)) (some w3.heap.size) ∧ OwnE ((w5.alloc (Obj.cells #[.string xr, .string xf, .string xq] 84)).alloc (Obj.cells #[.bool k.d, .int .u64 k.u, .map (M x')] 87)) (w.heap.size + 1) g2 cp2 S ∧ Inner ((w5.alloc (Obj.cells #[.string xr, .string xf, .string xq] 84)).alloc (Obj.cells #[.bool k.d, .int .u64 k.u, .map (M x')] 87)) w2.heap.size ws.length (M x') k.f) := ⟨hgB, hOx, hIx⟩
      have HAA : Hid (Calls Try.prog 53 #[.agg #[.bool k.d, .int .u64 k.u, .map (M x')], .slice (some ⟨g2, 0, none⟩) S.length cp2, .agg #[.string xr, .string xf, .string xq]] ((w5.alloc (Obj.cells #[.string xr, .string xf, .string xq] 84)).alloc (Obj.cells #[.bool k.d, .int .u64 k.u, .map (M x')] 87)) fun r w' =>
        ∃ g' cp' S', r = .returned (.slice (some ⟨g', 0, none⟩) (S ++ S').length cp') ∧ OwnE w' (w.heap.size + 1) g' cp' (S ++ S') ∧ (∀ x, x ∈ S' ↔ InCW x' k x) ∧ S'.Nodup ∧ S'.length ≤ ws.length + 1 ∧ (((w5.alloc (Obj.cells #[.string xr, .string xf, .string xq] 84)).alloc (Obj.cells #[.bool k.d, .int .u64 k.u, .map (M x')] 87))).grownBy w' (some g2) ∧ (g' = g2 ∨ (((w5.alloc (Obj.cells #[.string xr, .string xf, .string xq] 84)).alloc (Obj.cells #[.bool k.d, .int .u64 k.u, .map (M x')] 87))).heap.size ≤ g')) := by
        have h := HA
        rw [HQ.out] at h ⊢
        exact h
      clear HA hgB hOx hIx
      go_wp2_with fail
      refine HAA.out.mono ?_
      rintro r w7 ⟨g', cp', S', rfl, hO7, hS7, hN7, hl7, hg7, hloc7⟩
      have hrg7 := ((hrg5.alloc (Obj.cells #[.string xr, .string xf, .string xq] 84)).alloc (Obj.cells #[.bool k.d, .int .u64 k.u, .map (M x')] 87)).kept hg7 (fun q => hne1 (Option.some.inj q).symm) (fun q => hne2 (Option.some.inj q).symm)
      have hbr6 : Below (w.heap.size + 1) w1 ((w5.alloc (Obj.cells #[.string xr, .string xf, .string xq] 84)).alloc (Obj.cells #[.bool k.d, .int .u64 k.u, .map (M x')] 87)) := hbr.grown HB.out.1 (by omega) (fun j hj => by cases hj; omega)
      have hbr7 : Below (w.heap.size + 1) w1 w7 := hbr6.grown hg7 (by simp; omega) (fun j hj => by cases hj; exact hg5.1)
      have hne7 : g' ≠ w3.heap.size := by
        rcases hloc7 with q | q
        · rw [q]; exact hne2
        · simp at q; omega
      have hIn7 : ∀ c k', colsOf ws c = some k' → Inner w7 w2.heap.size ws.length (M c) k'.f := by
        intro c k' hc
        have h6 : Inner ((w5.alloc (Obj.cells #[.string xr, .string xf, .string xq] 84)).alloc (Obj.cells #[.bool k.d, .int .u64 k.u, .map (M x')] 87)) w2.heap.size ws.length (M c) k'.f := by
          refine (HR.out.2.2 c k' hc).kept HB.out.1 ?_
          cases hq : M c with
          | none => exact .inl rfl
          | some bb =>
            refine .inr (fun q => ?_)
            have := (HM.out.inLt hq).1
            have := Option.some.inj q
            omega
        exact h6.kept hg7 (h6.ne_own HB.out.2.1)
      have HF : Hid (OwnE w7 (w.heap.size + 1) g' cp' (S ++ S') ∧ MetC ws (fun z => left z && !z.sameKey x'.l) (S ++ S') ∧ (∀ c k', colsOf ws c = some k' → Inner w7 w2.heap.size ws.length (M c) k'.f) ∧ (S ++ S').length ≤ (ws.length - cnt1) * 10001) := by
        refine ⟨hO7, metC_step HP.out HM.out.ok HR.out.2.1 HK.out.1 HK.out.2 hS7 hN7, hIn7, ?_⟩
        rw [List.length_append]
        have h1 : (ws.length - cnt + 1) * 10001 ≤ (ws.length - cnt1) * 10001 := Nat.mul_le_mul_right _ (by omega)
        omega
      clear hO7 hS7 hN7 hl7 hg7 hloc7 hIn7 hrg5 hen hltx hbr6
      go_wp2_with fail
      go_roundw
      case rel =>
        exact ⟨_, cnt1, S ++ S', g', cp', by simp, HF.out.1, hrg7, HF.out.2.1, by omega, HF.out.2.2.2, HF.out.2.2.1, hbr7, hne7⟩
      case measure => rw [hrg7.left_eq, hrg.left_eq]; exact hlt5
end Go.Proofs.Ytnncedndlhfdkab

/-
  What BuildRun may hand back.
-/
namespace Go.Proofs.Ytnncedndlhfdkab
set_option linter.unusedVariables false

/-- What a run of 'ws' may be. -/
def RunOf (ws R : List Ent) : Prop := (GoodW ws → Kept ws ws.length R) ∧ (¬ GoodW ws → R = [])
theorem runOf_uniq {ws R S : List Ent} (h : RunOf ws R) (k : RunOf ws S) : R = S := by
  by_cases g : GoodW ws
  · exact kept_uniq (h.1 g) (k.1 g)
  · rw [h.2 g, k.2 g]
end Go.Proofs.Ytnncedndlhfdkab

/-
  What BuildRun hands back.
-/
namespace Go.Proofs.Ytnncedndlhfdkab
open Go.ChangeShapes Go.WideShapes Go.ChangeAt Go.RowKit Go.Deep
set_option linter.unusedVariables false
set_option maxRecDepth 100000

theorem specBuild_any (g : Nat) (ws : List Ent) (base : Nat) (w : World) (hO : OwnE w base g ws.length ws) (hok : ∀ e ∈ ws, e.ok) (hlen : ws.length ≤ 1048576) :
    Calls Try.prog 19 #[.slice (some ⟨g, 0, none⟩) ws.length ws.length] w fun r w' =>
      ∃ (a : Option Addr) (n c : Nat) (R : List Ent), r = .returned (.agg #[.slice a n c]) ∧ OwnU w' w.heap.size (.slice a n c) R ∧ RunOf ws R ∧ R.length ≤ ws.length ∧ Below w.heap.size w w' := by
  refine (specBuild_core g 0 ws.length ws w hO.at hok hO.lt.2 hlen).mono ?_
  rintro r w' ⟨g', cp, R, rfl, h1, h2, h3, h4, h5⟩
  exact ⟨_, _, _, R, rfl, .inr ⟨g', cp, rfl, h1⟩, ⟨h4, h5⟩, h3, h2⟩
theorem implBuild_at (b off cap : Nat) (ws : List Ent) (w : World) (hE : EntsAt w b off ws) (hok : ∀ e ∈ ws, e.ok) (hB : b < w.heap.size) (hl : ws.length ≤ cap) (hcap : cap ≤ maxLen) (hlen : ws.length ≤ 1048576) :
    Calls Try.prog 21 #[.slice (some ⟨b, off, none⟩) ws.length cap] w fun r w' =>
      ∃ (a : Option Addr) (n c : Nat) (R : List Ent), r = .returned (.agg #[.slice a n c]) ∧ OwnU w' w.heap.size (.slice a n c) R ∧ RunOf ws R ∧ Below w.heap.size w w' := by
  refine (implBuild_core b off cap ws w hE hok hB hl hcap hlen).mono ?_
  rintro r w' ⟨h | ⟨h1, g', cp, R, h2, h3, h4⟩, hb⟩
  · exact ⟨_, _, _, [], h.2, .inl ⟨rfl, rfl⟩, ⟨fun q => absurd q h.1, fun _ => rfl⟩, hb⟩
  · exact ⟨_, _, _, R, h2, .inr ⟨g', cp, rfl, h3⟩, ⟨fun _ => h4, fun q => absurd h1 q⟩, hb⟩
theorem implBuild_any (g : Nat) (ws : List Ent) (base : Nat) (w : World) (hO : OwnE w base g ws.length ws) (hok : ∀ e ∈ ws, e.ok) (hlen : ws.length ≤ 1048576) :
    Calls Try.prog 21 #[.slice (some ⟨g, 0, none⟩) ws.length ws.length] w fun r w' =>
      ∃ (a : Option Addr) (n c : Nat) (R : List Ent), r = .returned (.agg #[.slice a n c]) ∧ OwnU w' w.heap.size (.slice a n c) R ∧ RunOf ws R ∧ Below w.heap.size w w' :=
  implBuild_at g 0 ws.length ws w hO.at hok hO.lt.2 hO.caps.1 hO.caps.2 hlen
end Go.Proofs.Ytnncedndlhfdkab

/-
  The law FnExactBuildRun.
-/
namespace Go.Proofs.Ytnncedndlhfdkab.exBuildRun
open Go.ChangeShapes Go.WideShapes Go.ChangeAt Go.RowKit Go.Deep
set_option linter.unusedVariables false

theorem own : ownKnob Try.prog.godebug = none := by kernel_rfl
theorem laidOut : laidOutB Try.prog = true := by kernel_rfl

theorem InEnts.cells {w : World} {v : Value} {es : List Ent} (h : InEnts w v es) : v.cells = #[v] := by
  rcases h with ⟨a, cap, rfl, _⟩ | ⟨b, off, cap, rfl, _⟩ <;> rfl

set_option maxHeartbeats 4000000 in
theorem walk (v : Value) (es : List Ent) (w : World) (h : InEnts w v es) (hok : ∀ e ∈ es, e.ok) :
    Calls Try.prog 5 #[v] w fun e w' => e = .returned (.bool true) ∧ Below w.heap.size w w' := by
  have HE : Hid (InEnts w v es ∧ ∀ e ∈ es, e.ok) := ⟨h, hok⟩
  clear h hok
  go_enter Try.func5, Try.ntmps5
  go_wp2_with fail
  refine (szEntryS_any v es _ _ HE.out.1 HE.out.2 (by omega) (by omega)).mono ?_
  rintro e w1 ⟨x, rfl, hx, hb1⟩
  have hs1 := hb1.size
  by_cases hx0 : x < 0
  · clear hx
    go_wp2_with fail
    go_ret
    exact ⟨rfl, hb1⟩
  have hn : es.length ≤ 1048576 := by omega
  clear hx
  have HE1 : Hid (InEnts w1 v es) := HE.out.1.below hb1 (Nat.le_refl _)
  go_wp2_with fail
  refine (toEntryS_any v es _ HE1.out hn).mono ?_
  rintro e w2 ⟨ga, rfl, hO2, hb2⟩
  have hs2 := hb2.size
  have HO2 : Hid (OwnE w2 w1.heap.size ga es.length es) := hO2
  have HE2 : Hid (InEnts w2 v es) := HE1.out.below hb2 (Nat.le_refl _)
  clear hO2
  go_wp2_with fail
  refine (specBuild_any ga es _ _ HO2.out HE.out.2 hn).mono ?_
  rintro e w3 ⟨sa, sn, sc, Rs, rfl, hUs, hRs, hRl, hb3⟩
  have hs3 := hb3.size
  obtain ⟨W3, hW3⟩ : ∃ W3 : World, W3 = w3.alloc (Obj.cells #[(.slice sa sn sc)] 29) := ⟨_, rfl⟩
  have hb3' : Below w3.heap.size w3 W3 := by rw [hW3]; exact (Below.refl _ _).alloc (Nat.le_refl _) _
  have hz3 : w3.heap.size < W3.heap.size := by rw [hW3]; simp
  have cs3 : W3.cell? ⟨w3.heap.size, 0, none⟩ = some (.slice sa sn sc) := by rw [hW3]; simp
  have HS3 : Hid (OwnU W3 w2.heap.size (.slice sa sn sc) Rs ∧ RunOf es Rs) := ⟨hUs.kept (grown_of_below hb3' none) (fun g q => by cases q), hRs⟩
  have HE3 : Hid (InEnts W3 v es) := (HE2.out.below hb3 (Nat.le_refl _)).below hb3' (Nat.le_refl _)
  clear hUs hRs
  go_wp2_with fail
  rw [← hW3]
  clear hW3
  refine (toEntryS_any v es _ HE3.out hn).mono ?_
  rintro e w4 ⟨gx, rfl, hO4, hb4⟩
  have hs4 := hb4.size
  have HO4 : Hid (OwnE w4 W3.heap.size gx es.length es) := hO4
  have hgx := hO4.lt
  clear hO4
  go_wp2_with fail
  refine (implBuild_any gx es _ _ HO4.out HE.out.2 hn).mono ?_
  rintro e w5 ⟨ia, ni, ic, Ri, rfl, hUi, hRi, hb5⟩
  have hs5 := hb5.size
  obtain rfl : Ri = Rs := runOf_uniq hRi HS3.out.2
  obtain ⟨W5, hW5⟩ : ∃ W5 : World, W5 = w5.alloc (Obj.cells #[(.slice ia ni ic)] 29) := ⟨_, rfl⟩
  have hb5' : Below w5.heap.size w5 W5 := by rw [hW5]; exact (Below.refl _ _).alloc (Nat.le_refl _) _
  have hz5 : w5.heap.size < W5.heap.size := by rw [hW5]; simp
  have ci5 : W5.cell? ⟨w5.heap.size, 0, none⟩ = some (.slice ia ni ic) := by rw [hW5]; simp
  have k35 : Below W3.heap.size W3 W5 := (hb4.trans (hb5.mono (by omega))).trans (hb5'.mono (by omega))
  have cs5 : W5.cell? ⟨w3.heap.size, 0, none⟩ = some (.slice sa sn sc) := by rw [k35.cell (p := ⟨w3.heap.size, 0, none⟩) hz3]; exact cs3
  have hlt35 : w3.heap.size < w5.heap.size := by omega
  have cs5w : w5.cell? ⟨w3.heap.size, 0, none⟩ = some (.slice sa sn sc) := by rw [(hb4.trans (hb5.mono (by omega))).cell (p := ⟨w3.heap.size, 0, none⟩) hz3]; exact cs3
  have HI5 : Hid (OwnU W5 w4.heap.size (.slice ia ni ic) Ri) := hUi.kept (grown_of_below hb5' none) (fun g q => by cases q)
  have HS5 : Hid (OwnU W5 w2.heap.size (.slice sa sn sc) Ri) := HS3.out.1.kept (grown_of_below k35 none) (fun g q => by cases q)
  have HX5 : Hid (OwnE W5 W3.heap.size gx es.length es) := (HO4.out.below hb5 hgx.2).below hb5' (by omega)
  have HE5 : Hid (InEnts W5 v es) := HE3.out.below k35 (Nat.le_refl _)
  have HR : Hid (RunOf es Ri) := HS3.out.2
  have HW : Hid (∀ g, (Value.slice ia ni ic).ownBlock = some g → w4.heap.size ≤ g ∧ g < w5.heap.size) := fun g q => hUi.row g q
  clear hUi hRi
  go_wp2_with fail
  rw [← hW5]
  clear hW5
  refine (eqRun_any (.slice ia ni ic) (.slice sa sn sc) Ri _ HI5.out.ins HS5.out.ins).mono ?_
  rintro e w6 ⟨rfl, hb6⟩
  have hs6 := hb6.size
  have HE6 : Hid (InEnts w6 v es) := HE5.out.below hb6 (Nat.le_refl _)
  go_wp2_with fail
  refine (toEntryS_any v es _ HE6.out hn).mono ?_
  rintro e w7 ⟨gy, rfl, hO7, hb7⟩
  have hs7 := hb7.size
  have hgy := hO7.lt
  have HO7 : Hid (OwnE w7 w6.heap.size gy es.length es) := hO7
  clear hO7
  have HM : Hid (es.length ≤ maxLen) := Nat.le_trans hn (by decide)
  have k57 : Below W5.heap.size W5 w7 := hb6.trans (hb7.mono (by omega))
  have HX7 : Hid (OwnE w7 W3.heap.size gx es.length es) := HX5.out.below k57 (by omega)
  go_wp2_with fail
  refine (eqEntryS_any (.slice (some ⟨gx, 0, none⟩) es.length es.length) (.slice (some ⟨gy, 0, none⟩) es.length es.length) es _ (InEnts.own HX7.out (Nat.le_refl _) HM.out) (InEnts.own HO7.out (Nat.le_refl _) HM.out)).mono ?_
  rintro e w8 ⟨rfl, hb8⟩
  have hs8 := hb8.size
  have k58 : Below W5.heap.size W5 w8 := k57.trans (hb8.mono (by omega))
  have HX8 : Hid (OwnE w8 W3.heap.size gx es.length es) := HX5.out.below k58 (by omega)
  have hlt55 : w5.heap.size < w8.heap.size := by omega
  -- where the rows lie
  have rs : ∀ g, (Value.slice sa sn sc).ownBlock = some g → g < W3.heap.size := fun g q => (HS3.out.1.row g q).2
  have ri : ∀ g, (Value.slice ia ni ic).ownBlock = some g → w4.heap.size ≤ g ∧ g < w5.heap.size := fun g q => HW.out g q
  have HRs : Hid (∀ g, (Value.slice sa sn sc).ownBlock = some g → g < W3.heap.size) := rs
  have HRi : Hid (∀ g, (Value.slice ia ni ic).ownBlock = some g → w4.heap.size ≤ g ∧ g < w5.heap.size) := ri
  clear rs ri
  have HS8 : Hid (OwnU w8 w2.heap.size (.slice sa sn sc) Ri) := HS5.out.kept (grown_of_below k58 none) (fun g q => by cases q)
  have HI8 : Hid (OwnU w8 w4.heap.size (.slice ia ni ic) Ri) := HI5.out.kept (grown_of_below k58 none) (fun g q => by cases q)
  have HE8 : Hid (InEnts w8 v es) := HE5.out.below k58 (Nat.le_refl _)
  have cs8 : w8.cell? ⟨w3.heap.size, 0, none⟩ = some (.slice sa sn sc) := by rw [k58.cell (p := ⟨w3.heap.size, 0, none⟩) (by show w3.heap.size < _; omega)]; exact cs5
  have ci8 : w8.cell? ⟨w5.heap.size, 0, none⟩ = some (.slice ia ni ic) := by rw [k58.cell (p := ⟨w5.heap.size, 0, none⟩) hz5]; exact ci5
  have k8 : Below w.heap.size w w8 := (((((hb1.trans (hb2.mono (by omega))).trans (hb3.mono (by omega))).trans (hb3'.mono (by omega))).trans (k35.mono (by omega))).trans (k58.mono (by omega)))
  have hRn : Ri.length ≤ 1048576 := by omega
  go_wp2_with fail
  refine (markEntryS_core W3.heap.size gx es.length es 1 _ HX8.out (by omega) (by omega) hn).mono ?_
  rintro e w9 ⟨fx, rfl, _, _, _, hg9⟩
  have hs9 := hg9.size
  have HS9 : Hid (OwnU w9 w2.heap.size (.slice sa sn sc) Ri) := HS8.out.keptNe hg9 (fun g q q2 => by have := HRs.out g q; have := Option.some.inj q2; omega)
  have HI9 : Hid (OwnU w9 w4.heap.size (.slice ia ni ic) Ri) := HI8.out.keptNe hg9 (fun g q q2 => by have := HRi.out g q; have := Option.some.inj q2; omega)
  have cs9 : w9.cell? ⟨w3.heap.size, 0, none⟩ = some (.slice sa sn sc) := hg9.cell cs8 (fun q => by have q' : w3.heap.size = gx := Option.some.inj q; omega)
  have ci9 : w9.cell? ⟨w5.heap.size, 0, none⟩ = some (.slice ia ni ic) := hg9.cell ci8 (fun q => by have q' : w5.heap.size = gx := Option.some.inj q; omega)
  have k9 : Below w.heap.size w w9 := k8.grown hg9 (by omega) (fun j hj => by cases hj; omega)
  have HE9 : Hid (InEnts w9 v es) := HE.out.1.below k9 (Nat.le_refl _)
  have hk1 : (0 : Int) ≤ 1 + (es.length : Int) * 6 := by omega
  go_wp2_with fail
  refine (eqRun_any (.slice ia ni ic) (.slice sa sn sc) Ri _ HI9.out.ins HS9.out.ins).mono ?_
  rintro e w10 ⟨rfl, hb10⟩
  have hs10 := hb10.size
  have HI10 : Hid (OwnU w10 w4.heap.size (.slice ia ni ic) Ri) := HI9.out.kept (grown_of_below hb10 none) (fun g q => by cases q)
  have HS10 : Hid (OwnU w10 w2.heap.size (.slice sa sn sc) Ri) := HS9.out.kept (grown_of_below hb10 none) (fun g q => by cases q)
  have cs10 : w10.cell? ⟨w3.heap.size, 0, none⟩ = some (.slice sa sn sc) := by rw [hb10.cell (p := ⟨w3.heap.size, 0, none⟩) (by show w3.heap.size < _; omega)]; exact cs9
  have ci10 : w10.cell? ⟨w5.heap.size, 0, none⟩ = some (.slice ia ni ic) := by rw [hb10.cell (p := ⟨w5.heap.size, 0, none⟩) (by show w5.heap.size < _; omega)]; exact ci9
  go_wp2_with fail
  refine (markRun_own w4.heap.size (.slice ia ni ic) Ri 1 _ HI10.out (by omega) (by omega) hRn (by omega)).mono ?_
  rintro e w11 ⟨R', rfl, hU11, hl11, hm11, hg11⟩
  have hs11 := hg11.size
  have HF11 : Hid (OwnU w11 w4.heap.size (.slice ia ni ic) R' ∧ R'.length = Ri.length ∧ marked 1 R' R'.length) := ⟨hU11, hl11, hm11⟩
  have HS11 : Hid (OwnU w11 w2.heap.size (.slice sa sn sc) Ri) := HS10.out.keptNe hg11 (fun g q q2 => by have := HRs.out g q; have := (HRi.out g q2).1; omega)
  have cs11 : w11.cell? ⟨w3.heap.size, 0, none⟩ = some (.slice sa sn sc) := hg11.cell cs10 (fun q => by have := (HRi.out w3.heap.size q.symm).1; omega)
  have ci11 : w11.cell? ⟨w5.heap.size, 0, none⟩ = some (.slice ia ni ic) := hg11.cell ci10 (fun q => by have := (HRi.out w5.heap.size q.symm).2; omega)
  have k11 : Below w.heap.size w w11 := (k9.trans (hb10.mono (by omega))).grown hg11 (by omega) (fun j hj => by have := (HRi.out j hj).1; omega)
  have HRl : Hid (R'.length = Ri.length) := hl11
  have hRn' : R'.length ≤ 1048576 := by omega
  clear hU11 hl11 hm11 hg11
  go_wp2_with fail
  refine (heldRun_own w4.heap.size (.slice ia ni ic) R' 1 _ HF11.out.1 HF11.out.2.2 (by omega) (by omega) hRn').mono ?_
  rintro e w12 ⟨rfl, hb12⟩
  rw [HRl.out]
  have hs12 := hb12.size
  have HS12 : Hid (OwnU w12 w2.heap.size (.slice sa sn sc) Ri) := HS11.out.kept (grown_of_below hb12 none) (fun g q => by cases q)
  have cs12 : w12.cell? ⟨w3.heap.size, 0, none⟩ = some (.slice sa sn sc) := by rw [hb12.cell (p := ⟨w3.heap.size, 0, none⟩) (by show w3.heap.size < _; omega)]; exact cs11
  have k12 : Below w.heap.size w w12 := k11.trans (hb12.mono (by omega))
  have HE12 : Hid (InEnts w12 v es) := HE.out.1.below k12 (Nat.le_refl _)
  have hk2 : (0 : Int) ≤ 1 + (Ri.length : Int) * 6 := by omega
  go_wp2_with fail
  refine (toEntryS_any v es _ HE12.out hn).mono ?_
  rintro e w13 ⟨gz, rfl, hO13, hb13⟩
  have hs13 := hb13.size
  have HO13 : Hid (OwnE w13 w12.heap.size gz es.length es) := hO13
  clear hO13
  go_wp2_with fail
  refine (implBuild_any gz es _ _ HO13.out HE.out.2 hn).mono ?_
  rintro e w14 ⟨ja, nj, jc, Rj, rfl, hUj, hRj, hb14⟩
  have hs14 := hb14.size
  obtain rfl : Rj = Ri := runOf_uniq hRj HR.out
  have k14 : Below w12.heap.size w12 w14 := hb13.trans (hb14.mono (by omega))
  have cs14 : w14.cell? ⟨w3.heap.size, 0, none⟩ = some (.slice sa sn sc) := by rw [k14.cell (p := ⟨w3.heap.size, 0, none⟩) (by show w3.heap.size < _; omega)]; exact cs12
  have hlt314 : w3.heap.size < w14.heap.size := by omega
  have hb15 : Below w14.heap.size w14 (w14.alloc (Obj.cells #[.slice ja nj jc] 29)) := (Below.refl _ _).alloc (Nat.le_refl _) _
  have HJ : Hid (OwnU (w14.alloc (Obj.cells #[.slice ja nj jc] 29)) w13.heap.size (.slice ja nj jc) Rj) := hUj.kept (grown_of_below hb15 none) (fun g q => by cases q)
  have HS15 : Hid (OwnU (w14.alloc (Obj.cells #[.slice ja nj jc] 29)) w2.heap.size (.slice sa sn sc) Rj) := (HS12.out.kept (grown_of_below k14 none) (fun g q => by cases q)).kept (grown_of_below hb15 none) (fun g q => by cases q)
  clear hUj hRj
  go_wp2_with fail
  refine (eqRun_any (.slice ja nj jc) (.slice sa sn sc) Rj _ HJ.out.ins HS15.out.ins).mono ?_
  rintro e w16 ⟨rfl, hb16⟩
  go_wp2_with fail
  go_ret
  exact ⟨rfl, ((k12.trans (k14.mono (by omega))).trans (hb15.mono (by omega))).trans (hb16.mono (by simp; omega))⟩

set_option maxRecDepth 100000 in
theorem lifted (os : Os) (started : os.Started) (H : Type) (enc : TypeId × Value → H) :
    ReturnsInHanded {} Try.checked os 5 .any (Rows.fnExactBuildRunSpec.pre6 enc Try.prog Try.f5 Rows.fnExactBuildRunRow.domain false) (Rows.fnExactBuildRunSpec.post enc Try.prog Try.f5 false true false false) := by
  refine returnsInHanded_of_change (C := Try.checked) own started (by kernel_rfl) Try.func5
    (ChangeSpec.witness6 (enc := enc) (C := Try.checked) false ⟨#[], #[.slice none 0 0], []⟩ 8 (by kernel_rfl) (by kernel_rfl) (by kernel_rfl) (by kernel_rfl)) ?_
  intro W base args ds gs before hval0 hW hcnd _
  have hval : ∀ (j : Nat) t v, Try.f5.params[j]? = some t → args[j]? = some v → Value.okWide Try.prog W .any base t v := hval0
  have hW' := hW
  obtain ⟨p, q, hA0, hV, rfl, hfz, hnd⟩ := hW
  have hA : DataW.TrodAll enc Try.prog W 0 (fun _ => true) true Try.f5.params.toList args.toList ds p := hA0
  rw [Try.params5] at hA hval
  obtain ⟨v0, vs0, d0, ds0, p0, q0, hargs, rfl, rfl, h0, r0⟩ := trodAll_cons hA
  obtain ⟨rfl, rfl, rfl⟩ := trodAll_nil r0
  obtain rfl : args = #[v0] := by cases args; simp_all
  obtain ⟨rfl, rfl⟩ := trodVars_none hV
  have k0 := h0
  have lt0 : ∀ x ∈ p0, x.block < W.heap.size := by obtain ⟨m, hm⟩ := k0; exact DataW.trod_lt m _ _ _ hm
  obtain ⟨es, hin, ok0⟩ : ∃ es : List Ent, InEnts W v0 es ∧ ∀ e ∈ es, e.ok := by
    obtain ⟨a0, len0, cap0, rfl⟩ := okWide_slice Try.underlying22 (hval 0 22 v0 rfl rfl)
    obtain ⟨fuel, hf⟩ := h0
    exact ents_of_trod (by simpa [Value.cells] using hf)
  clear hA0 hval0
  refine (walk v0 es W hin ok0).mono fun e W' ⟨he, bel⟩ => ?_
  subst he
  exact ⟨_, rfl, _, _, _, [], _, [], hW', trodAll_mk1 (shut_bool Try.underlying4 _), (trodAll_cons_mk (Below.trod laidOut (by kernel_rfl) (of_decide_eq_true (by kernel_rfl)) k0 bel lt0) trodAll_mk0), rfl, bel.frame _, fun h => by cases h⟩

theorem over : Rows.fnExactBuildRunRow.holds Try.pinned (OpenSpec.ofChange Rows.fnExactBuildRunSpec) :=
  OpenClaim.holds_of_wide 5 Try.f5 rfl rfl rfl rfl rfl rfl rfl ⟨rfl, rfl, rfl, rfl, rfl⟩ rfl rfl rfl rfl rfl (by kernel_rfl) Try.func5 (by kernel_rfl)
    (of_decide_eq_true (by kernel_rfl)) (by unfold Func.isWrapper; first | (rw [if_pos (by decide +kernel)]; kernel_rfl) | (rw [if_neg (by decide +kernel)]; exact ⟨rfl, rfl⟩))
    (fun os started H enc _ => lifted os started H enc)

end Go.Proofs.Ytnncedndlhfdkab.exBuildRun
namespace Go.Proofs.Ytnncedndlhfdkab
theorem exactBuildRun_holds : Rows.FnExactBuildRunSaid := exBuildRun.over
#print axioms exactBuildRun_holds
end Go.Proofs.Ytnncedndlhfdkab

