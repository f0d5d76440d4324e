/-
  Marks of tablets and stores, laid and looked for.
-/
import Derived.Test.YtlgeffinhbodeaeQMkT2
namespace Go.Proofs.Ytlgeffinhbodeae
open Go.ChangeShapes Go.WideShapes Go.ChangeAt Go.RowKit Go.Deep
set_option linter.unusedVariables false
set_option linter.unusedSimpArgs false
set_option maxRecDepth 100000

theorem trow_row_ne {w : World} {base base' : Nat} {v v' : Value} {ts : List Tx} {rs : List Rw} (h : OwnTRow w base v ts) (h' : OwnRow w base' v' rs) : ∀ g, v.ownBlock = some g → ts ≠ [] → v'.ownBlock = some g → rs ≠ [] → False := by
  intro g hg hts hg' hrs
  rcases h with ⟨h, _⟩ | ⟨g1, cp, rfl, hO⟩
  · exact hts h
  · rcases h' with ⟨h, _⟩ | ⟨g2, cp2, rfl, hO'⟩
    · exact hrs h
    · have e1 : g1 = g := Option.some.inj hg
      have e2 : g2 = g := Option.some.inj hg'
      subst e1 e2
      exact own_apart hO hO' (by decide) _ rfl rfl
theorem trow_k_ne {w : World} {base base' : Nat} {v : Value} {ts : List Tx} {r : Rw} (h : OwnTRow w base v ts) (h' : OwnK w base' r) : ∀ g, v.ownBlock = some g → ts ≠ [] → r.k ≠ some g := by
  intro g hg hts hg'
  rcases h with ⟨h, _⟩ | ⟨g1, cp, rfl, hO⟩
  · exact hts h
  · rcases h' with ⟨h, _⟩ | ⟨g2, cp2, hk, hu, hO'⟩
    · rw [h] at hg'; cases hg'
    · have e1 : g1 = g := Option.some.inj hg
      rw [hk] at hg'
      have e2 : g2 = g := Option.some.inj hg'
      subst e1 e2
      exact own_apart hO hO' (by decide) _ rfl rfl
theorem OwnTRow.chg {S : Nat → Prop} {w w' : World} {base : Nat} {v : Value} {ts : List Tx} (h : OwnTRow w base v ts) (hc : Chg S w w') (hne : ∀ g, v.ownBlock = some g → ts ≠ [] → ¬ S g) : OwnTRow w' base v ts := by
  rcases h with h | ⟨g, cp, hv, hO⟩
  · exact .inl h
  · by_cases hr : ts = []
    · subst hr; exact .inl ⟨rfl, _, _, hv⟩
    · exact .inr ⟨g, cp, hv, own_chg hO hc (fun k q => by have : g = k := Option.some.inj q; subst this; exact hne g (by rw [hv]; rfl) hr)⟩
theorem OwnRow.chg {S : Nat → Prop} {w w' : World} {base : Nat} {v : Value} {ts : List Rw} (h : OwnRow w base v ts) (hc : Chg S w w') (hne : ∀ g, v.ownBlock = some g → ts ≠ [] → ¬ S g) : OwnRow w' base v ts := by
  rcases h with h | ⟨g, cp, hv, hO⟩
  · exact .inl h
  · by_cases hr : ts = []
    · subst hr; exact .inl ⟨rfl, _, _, hv⟩
    · exact .inr ⟨g, cp, hv, own_chg hO hc (fun k q => by have : g = k := Option.some.inj q; subst this; exact hne g (by rw [hv]; rfl) hr)⟩
theorem OwnSt.chg {S : Nat → Prop} {w w' : World} {base : Nat} {v : Value} {ts : List Tx} (h : OwnSt w base v ts) (hc : Chg S w w') (hne : ∀ k, base ≤ k → k < w.heap.size → ¬ S k) : OwnSt w' base v ts := by
  refine ⟨h.row.chg hc (fun g hg hts => ?_), fun t ht => (h.runs t ht).chg hc (fun g hg hts => ?_), fun t ht r hr => (h.ents t ht r hr).chg hc (fun g hg => hne g ((h.ents t ht r hr).key hg).1 ((h.ents t ht r hr).key hg).2)⟩
  · have := h.key (.inl ⟨hts, hg⟩)
    exact hne g this.1 this.2
  · rcases h.runs t ht with ⟨q, _⟩ | ⟨g', cp, hv, hO⟩
    · exact absurd q hts
    · rw [hv] at hg
      have e1 : g' = g := Option.some.inj hg
      subst e1
      have := World.ownsRow.lt hO g' rfl
      exact hne g' this.1 this.2

/-- A tablet's first row set. -/
theorem OwnTRow.put {w : World} {base g : Nat} {n cp : Nat} {ts ts' : List Tx} {m : Nat} {t : Tx} (h : OwnTRow w base (.slice (some ⟨g, 0, none⟩) n cp) ts) (ht : ts[m]? = some t) (lo : ByteArray) (he : ts'.map Tx.pr = (ts.map Tx.pr).set m (lo, t.v)) :
    OwnTRow (w.setCell ⟨g, m * 2, none⟩ (.string lo)) base (.slice (some ⟨g, 0, none⟩) n cp) ts' := by
  rcases h with ⟨rfl, _⟩ | ⟨g', cp', hv, hO⟩
  · simp at ht
  · simp only [Value.slice.injEq, Option.some.injEq, Addr.mk.injEq, and_true, true_and] at hv
    obtain ⟨rfl, rfl, rfl⟩ := hv
    have hl : ts'.length = ts.length := by have := congrArg List.length he; simpa using this
    refine .inr ⟨g, cp, by rw [hl], ?_⟩
    have := hO.set m 0 t.pr (lo, t.v) (.string lo) (by rw [List.getElem?_map, ht]; rfl) (by omega) rfl
    rw [Nat.add_zero] at this
    rw [he]
    exact this

set_option maxHeartbeats 4000000 in
theorem markTabletS_gen (base : Nat) (v : Value) (ts : List Tx) (a : Int) (w : World) (hst : OwnSt w base v ts) (hap : ApartT ts) (h0 : 0 < a) (h1 : a + totX ts ≤ 2 ^ 30) (hn : ∀ t ∈ ts, totW t.rs ≤ 1048576 ∧ t.rs.length ≤ 1048576) (hl : ts.length ≤ 1048576) :
    Calls Try.prog 84 #[v, .int .i64 a] w fun e w' =>
      ∃ ts' : List Tx, e = .returned (.int .i64 (a + totX ts)) ∧ ts'.map shpT = ts.map shpT ∧ OwnSt w' base v ts' ∧ MarkedT a ts' ∧ Chg (KeysT v ts) w w' := by
  have HA : Hid (OwnSt w base v ts ∧ ApartT ts ∧ ∀ t ∈ ts, totW t.rs ≤ 1048576 ∧ t.rs.length ≤ 1048576) := ⟨hst, hap, hn⟩
  have hvl : ∃ ad c, v = .slice ad ts.length c := by
    rcases hst.row with ⟨rfl, a, c, h⟩ | ⟨g, cp, h, _⟩
    · exact ⟨a, c, h⟩
    · exact ⟨_, cp, h⟩
  obtain ⟨ad, vc, rfl⟩ := hvl
  clear hst hap hn
  go_enter Try.func84, Try.ntmps84
  go_wp2_with fail
  go_loopw [1, 5] (fun c i wr => ∃ (m : Nat) (b : Int) (done : List Tx), m ≤ ts.length ∧ i = .int .i64 m ∧ c = .int .i64 b ∧ b = a + totX (ts.take m) ∧ done.length = m ∧ done.map shpT = (ts.take m).map shpT ∧ MarkedT a done ∧ OwnSt wr base (.slice ad ts.length vc) (done ++ ts.drop m) ∧ Chg (KeysT (.slice ad ts.length vc) ts) w wr) (fun _ i _ => ts.length - (intOf i).toNat)
  case atStart => exact ⟨0, a, [], Nat.zero_le _, rfl, rfl, by simp [totX], rfl, rfl, fun i r h => by simp at h, HA.out.1, Chg.refl _ _⟩
  case round =>
    obtain ⟨m, b, done, hm, rfl, rfl, hb, hdl, hds, hmk, hS, hC⟩ := hrel
    have HR : Hid (b = a + totX (ts.take m) ∧ done.length = m ∧ done.map shpT = (ts.take m).map shpT ∧ MarkedT a done ∧ OwnSt wr base (.slice ad ts.length vc) (done ++ ts.drop m) ∧ Chg (KeysT (.slice ad ts.length vc) ts) w wr) := ⟨hb, hdl, hds, hmk, hS, hC⟩
    have hb0 : 0 < b := by omega
    have hb1 : b ≤ 2 ^ 30 := by have := totX_le ts m; omega
    clear hb hdl hds hmk hS hC
    by_cases hlt : m < ts.length
    · obtain ⟨t, ht⟩ : ∃ t, ts[m]? = some t := ⟨_, List.getElem?_eq_getElem hlt⟩
      have hdr : ts.drop m = t :: ts.drop (m + 1) := by
        obtain ⟨h1, h2⟩ := List.getElem?_eq_some_iff.1 ht
        rw [← h2]; exact List.drop_eq_getElem_cons h1
      have hat : (done ++ ts.drop m)[m]? = some t := by
        rw [List.getElem?_append_right (by rw [HR.out.2.1]; exact Nat.le_refl _), HR.out.2.1, Nat.sub_self, hdr]; rfl
      have htm := List.mem_of_getElem? ht
      obtain ⟨g, hg, hO⟩ : ∃ g, ad = some ⟨g, 0, none⟩ ∧ OwnP wr base g vc ((done ++ ts.drop m).map Tx.pr) := by
        rcases HR.out.2.2.2.2.1.row with ⟨h, _⟩ | ⟨g, cp, hv, hO⟩
        · rw [hdr] at h; simp at h
        · simp only [Value.slice.injEq] at hv
          obtain ⟨h1, h2, rfl⟩ := hv
          exact ⟨g, h1, hO⟩
      subst hg
      have htv : t.v.cells = #[t.v] := (HR.out.2.2.2.2.1.runs t (by rw [hdr]; simp)).ucells
      have hw1 : b + 1 + totW t.rs * 6 ≤ 2 ^ 30 := by
        have h2 := totX_take ht
        have h3 := totX_le ts (m + 1)
        have h4 := HR.out.1
        unfold wx at h2
        omega
      have HD : Hid (ts[m]? = some t ∧ ts.drop m = t :: ts.drop (m + 1) ∧ (done ++ ts.drop m)[m]? = some t ∧ OwnP wr base g vc ((done ++ ts.drop m).map Tx.pr) ∧ t ∈ ts ∧ totW t.rs ≤ 1048576 ∧ t.rs.length ≤ 1048576) := ⟨ht, hdr, hat, hO, htm, HA.out.2.2 t htm⟩
      clear ht hdr hat hO htm
      have zm : (m : Int) < (ts.length : Int) := by omega
      go_wp2_with fail
      refine (markText_any b _ hb0 (by omega)).mono ?_
      rintro e w1 ⟨rfl, hb1'⟩
      have hO1 := HD.out.2.2.2.1.below hb1' HD.out.2.2.2.1.lt.2
      obtain ⟨c0, c1⟩ := hO1.cells (p := t.pr) (i := m) (by rw [List.getElem?_map, HD.out.2.2.1]; rfl)
      have hfz := fun j => World.ownsRow.frozenAt hO1 j
      have H1 : Hid (OwnSt w1 base (.slice (some ⟨g, 0, none⟩) ts.length vc) (done ++ ts.drop m) ∧ Below wr.heap.size wr w1) := ⟨HR.out.2.2.2.2.1.below hb1', hb1'⟩
      unfold Tx.pr at c0 c1
      simp only at c0 c1
      clear hO1 hb1'
      -- the tablets with the first row set
      obtain ⟨W2, hW2⟩ : ∃ W2 : World, W2 = w1.setCell ⟨g, m * 2, none⟩ (.string (mText b.toNat)) := ⟨_, rfl⟩
      have H2 : Hid (OwnSt W2 base (.slice (some ⟨g, 0, none⟩) ts.length vc) (done ++ (Tx.mk (mText b.toNat) t.v t.rs) :: ts.drop (m + 1)) ∧ Chg (KeysT (.slice (some ⟨g, 0, none⟩) ts.length vc) ts) wr W2) := by
        have hne : done ++ ts.drop m ≠ [] := by rw [HD.out.2.1]; simp
        have hg1 := grown_set w1 g (m * 2) (.string (mText b.toNat))
        refine ⟨⟨?_, fun x hx => ?_, fun x hx r hr => ?_⟩, ?_⟩
        · rw [hW2]
          refine H1.out.1.row.put HD.out.2.2.1 (mText b.toNat) ?_
          rw [HD.out.2.1, List.map_append, List.map_append, List.set_append_right _ _ (by rw [List.length_map, HR.out.2.1]; exact Nat.le_refl _), List.length_map, HR.out.2.1, Nat.sub_self]
          rfl
        · obtain ⟨y, hy, e1, e2⟩ : ∃ y ∈ done ++ ts.drop m, y.v = x.v ∧ y.rs = x.rs := by
            rcases List.mem_append.1 hx with hx | hx
            · exact ⟨x, List.mem_append_left _ hx, rfl, rfl⟩
            · rcases List.mem_cons.1 hx with rfl | hx
              · exact ⟨t, by rw [HD.out.2.1]; simp, rfl, rfl⟩
              · exact ⟨x, by rw [HD.out.2.1]; exact List.mem_append_right _ (List.mem_cons_of_mem _ hx), rfl, rfl⟩
          have q := H1.out.1.runs y hy
          rw [e1, e2] at q
          rw [hW2]
          exact q.kept hg1 (fun g' hg' hr hk => trow_row_ne H1.out.1.row q g rfl hne (by rw [hg', ← hk]) hr)
        · obtain ⟨y, hy, e2⟩ : ∃ y ∈ done ++ ts.drop m, y.rs = x.rs := by
            rcases List.mem_append.1 hx with hx | hx
            · exact ⟨x, List.mem_append_left _ hx, rfl⟩
            · rcases List.mem_cons.1 hx with rfl | hx
              · exact ⟨t, by rw [HD.out.2.1]; simp, rfl⟩
              · exact ⟨x, by rw [HD.out.2.1]; exact List.mem_append_right _ (List.mem_cons_of_mem _ hx), rfl⟩
          have q := H1.out.1.ents y hy r (by rw [e2]; exact hr)
          rw [hW2]
          exact q.kept hg1 (fun g' hg' hk => trow_k_ne H1.out.1.row q g rfl hne (by rw [hg', ← hk]))
        · rw [hW2]
          refine (Chg.of_below H1.out.2).trans (Chg.of_grown hg1 (fun k hk => .inl ⟨?_, hk⟩))
          intro q
          have := HD.out.2.2.2.2.1
          rw [q] at this
          cases this
      go_wp2_with fail
      rw [← hW2]
      clear hW2 c0 c1 hfz
      have hmem : Tx.mk (mText b.toNat) t.v t.rs ∈ done ++ (Tx.mk (mText b.toNat) t.v t.rs) :: ts.drop (m + 1) := by simp
      have hapt : Apart t.rs := by
        have h3 : ts.take m ++ ts.drop m = ts := List.take_append_drop m ts
        have h4 := HA.out.2.1
        unfold ApartT at h4
        rw [← h3, HD.out.2.1, List.flatMap_append, List.flatMap_cons] at h4
        exact (List.pairwise_append.1 (List.pairwise_append.1 h4).2.1).1
      refine (markRunS_gen base t.v t.rs (b + 1) _ (H2.out.1.runs ⟨mText b.toNat, t.v, t.rs⟩ hmem) (H2.out.1.ents ⟨mText b.toNat, t.v, t.rs⟩ hmem) hapt (by omega) hw1 HD.out.2.2.2.2.2.1 HD.out.2.2.2.2.2.2).mono ?_
      rintro e w3 ⟨rs', rfl, hsh, hrw3, hks3, hmk3, hC3⟩
      have HN : Hid (∃ done' : List Tx, done'.length = m + 1 ∧ done'.map shpT = (ts.take (m + 1)).map shpT ∧ MarkedT a done' ∧ OwnSt w3 base (.slice (some ⟨g, 0, none⟩) ts.length vc) (done' ++ ts.drop (m + 1)) ∧ Chg (KeysT (.slice (some ⟨g, 0, none⟩) ts.length vc) ts) w w3) := by
        obtain ⟨q1, q2, q3, q4, q5, q6⟩ := HR.out
        have hkeys : ∀ x ∈ done ++ ts.drop (m + 1), ∀ r ∈ x.rs, ∀ k, r.k = some k → ¬ KeysOf t.rs k := by
          intro x hx r hr k hk hK
          obtain ⟨s, hs, hsk⟩ := hK
          have h3 : ts.take m ++ ts.drop m = ts := List.take_append_drop m ts
          have h4 := HA.out.2.1
          unfold ApartT at h4
          rw [← h3, HD.out.2.1, List.flatMap_append, List.flatMap_cons] at h4
          rcases List.mem_append.1 hx with hx | hx
          · -- a tablet that has been marked: its runs have the keys of those ahead
            obtain ⟨i, hi⟩ := List.getElem?_of_mem hx
            have e1 := congrArg (fun l => l[i]?) q3
            simp only [List.getElem?_map, hi] at e1
            cases h2 : (ts.take m)[i]? with
            | none => rw [h2] at e1; simp at e1
            | some y =>
              rw [h2] at e1
              simp only [Option.map_some, Option.some.injEq] at e1
              have e2 : x.rs.map shp = y.rs.map shp := by simpa [shpT] using congrArg Prod.snd e1
              obtain ⟨j, hj⟩ := List.getElem?_of_mem hr
              have e3 := congrArg (fun l => l[j]?) e2
              simp only [List.getElem?_map, hj] at e3
              cases h5 : y.rs[j]? with
              | none => rw [h5] at e3; simp at e3
              | some z =>
                rw [h5] at e3
                simp [shp] at e3
                have h6 := (List.pairwise_append.1 h4).2.2 z (List.mem_flatMap.2 ⟨y, List.mem_of_getElem? h2, List.mem_of_getElem? h5⟩) s (List.mem_append_left _ hs)
                exact h6 k (by rw [← e3.2.1]; exact hk) hsk
          · have h6 := (List.pairwise_append.1 (List.pairwise_append.1 h4).2.1).2.2 s hs r (List.mem_flatMap.2 ⟨x, hx, hr⟩)
            exact h6 k hsk hk
        refine ⟨done ++ [⟨mText b.toNat, t.v, rs'⟩], by simp [q2], ?_, ?_, ⟨?_, ?_, ?_⟩, ?_⟩
        · rw [List.take_add_one, HD.out.1, List.map_append, List.map_append, q3]
          simp [shpT, hsh]
        · intro i x hx
          by_cases hi : i < done.length
          · rw [List.getElem?_append_left hi] at hx
            have := q4 i x hx
            rw [List.take_append_of_le_length (by omega)]
            exact this
          · rw [List.getElem?_append_right (by omega)] at hx
            have h5 : i - done.length = 0 := by
              have := (List.getElem?_eq_some_iff.1 hx).1
              simp at this; omega
            rw [h5] at hx
            simp at hx
            subst hx
            have h6 : i = done.length := by omega
            subst h6
            rw [List.take_append_of_le_length (Nat.le_refl _), List.take_of_length_le (Nat.le_refl _), shpT_tot q3, ← q1]
            exact ⟨rfl, hmk3⟩
        · have hsame : (done ++ [Tx.mk (mText b.toNat) t.v rs'] ++ ts.drop (m + 1)).map Tx.pr = (done ++ (Tx.mk (mText b.toNat) t.v t.rs) :: ts.drop (m + 1)).map Tx.pr := by simp [Tx.pr]
          have hr3 := H2.out.1.row.chg hC3 (fun g' hg' hne hK => by
            obtain ⟨s, hs, hsk⟩ := hK
            exact trow_k_ne H2.out.1.row (H2.out.1.ents _ hmem s hs) g' hg' hne hsk)
          have hll := congrArg List.length hsame
          simp only [List.length_map] at hll
          rcases hr3 with ⟨h, _⟩ | ⟨g', cp, hv, hO⟩
          · simp at h
          · exact .inr ⟨g', cp, by rw [hll]; exact hv, by rw [hsame]; exact hO⟩
        · intro x hx
          rw [List.append_assoc] at hx
          have hk : ∀ {y : Tx}, y ∈ done ++ (Tx.mk (mText b.toNat) t.v t.rs) :: ts.drop (m + 1) → OwnRow w3 base y.v y.rs := fun {y} hy => by
            refine (H2.out.1.runs y hy).chg hC3 (fun g' hg' hne hK => ?_)
            obtain ⟨s, hs, hsk⟩ := hK
            exact row_ne (H2.out.1.runs y hy) (H2.out.1.ents _ hmem s hs) g' hg' hne hsk
          rcases List.mem_append.1 hx with hx | hx
          · exact hk (List.mem_append_left _ hx)
          · rcases List.mem_append.1 hx with hx | hx
            · simp at hx
              subst hx
              exact hrw3
            · exact hk (List.mem_append_right _ (List.mem_cons_of_mem _ hx))
        · intro x hx r hr
          rw [List.append_assoc] at hx
          rcases List.mem_append.1 hx with hx | hx
          · exact (H2.out.1.ents x (List.mem_append_left _ hx) r hr).chg hC3 (fun k hk => hkeys x (List.mem_append_left _ hx) r hr k hk)
          · rcases List.mem_append.1 hx with hx | hx
            · simp at hx
              subst hx
              exact hks3 r hr
            · exact (H2.out.1.ents x (List.mem_append_right _ (List.mem_cons_of_mem _ hx)) r hr).chg hC3 (fun k hk => hkeys x (List.mem_append_right _ hx) r hr k hk)
        · exact (q6.trans H2.out.2).trans (hC3.mono (fun k hk => .inr ⟨t, HD.out.2.2.2.2.1, hk⟩))
      have HB : Hid (b + 1 + (totW t.rs : Int) * 6 = a + totX (ts.take (m + 1))) := by
        have h2 := totX_take HD.out.1
        have h3 := HR.out.1
        unfold wx at h2
        show b + 1 + (totW t.rs : Int) * 6 = a + totX (ts.take (m + 1))
        omega
      clear hsh hrw3 hks3 hmk3 hC3 hmem hapt
      go_wp2_with fail
      go_roundw
      case rel =>
        go_light
        obtain ⟨d', a1, a2, a3, a4, a5⟩ := HN.out
        exact ⟨m + 1, b + 1 + totW t.rs * 6, d', by omega, by go_num, rfl, HB.out, a1, a2, a3, a4, a5⟩
      case measure => go_light; simp [intOf]; omega
    · have zm : ¬ (m : Int) < (ts.length : Int) := by omega
      have HF : Hid (b = a + totX ts ∧ done.map shpT = ts.map shpT ∧ MarkedT a done ∧ OwnSt wr base (.slice ad ts.length vc) done ∧ Chg (KeysT (.slice ad ts.length vc) ts) w wr) := by
        obtain ⟨q1, q2, q3, q4, q5, q6⟩ := HR.out
        rw [List.take_of_length_le (by omega)] at q1 q3
        rw [List.drop_eq_nil_of_le (by omega), List.append_nil] at q5
        exact ⟨q1, q3, q4, q5, q6⟩
      go_wp2_with fail
      go_ret
      exact ⟨by rw [HF.out.1]; rfl, done, HF.out.2.1, HF.out.2.2.2.1, HF.out.2.2.1, HF.out.2.2.2.2⟩

set_option maxHeartbeats 4000000 in
theorem heldTabletS_gen (base : Nat) (v : Value) (ts : List Tx) (a : Int) (w : World) (hst : OwnSt w base v ts) (hmk : MarkedT a ts) (h0 : 0 < a) (h1 : a + totX ts ≤ 2 ^ 30) (hn : ∀ t ∈ ts, totW t.rs ≤ 1048576 ∧ t.rs.length ≤ 1048576) (hl : ts.length ≤ 1048576) :
    Calls Try.prog 85 #[v, .int .i64 a] w fun e w' => e = .returned (.int .i64 (a + totX ts)) ∧ Below w.heap.size w w' := by
  have HA : Hid (OwnSt w base v ts ∧ MarkedT a ts ∧ ∀ t ∈ ts, totW t.rs ≤ 1048576 ∧ t.rs.length ≤ 1048576) := ⟨hst, hmk, hn⟩
  have hvl : ∃ ad c, v = .slice ad ts.length c := by
    rcases hst.row with ⟨rfl, a, c, h⟩ | ⟨g, cp, h, _⟩
    · exact ⟨a, c, h⟩
    · exact ⟨_, cp, h⟩
  obtain ⟨ad, vc, rfl⟩ := hvl
  clear hst hmk hn
  go_enter Try.func85, Try.ntmps85
  go_wp2_with fail
  go_loopw [1, 5] (fun c i wr => ∃ (m : Nat) (b : Int), m ≤ ts.length ∧ i = .int .i64 m ∧ c = .int .i64 b ∧ b = a + totX (ts.take m) ∧ Below w.heap.size w wr) (fun _ i _ => ts.length - (intOf i).toNat)
  case atStart => exact ⟨0, a, Nat.zero_le _, rfl, rfl, by simp [totX], Below.refl _ _⟩
  case round =>
    obtain ⟨m, b, hm, rfl, rfl, hb, hbw⟩ := hrel
    have HB : Hid (b = a + totX (ts.take m)) := hb
    have hb0 : 0 < b := by omega
    have hb1 : b ≤ 2 ^ 30 := by have := totX_le ts m; omega
    have hsz := hbw.size
    clear hb
    by_cases hlt : m < ts.length
    · obtain ⟨t, ht⟩ : ∃ t, ts[m]? = some t := ⟨_, List.getElem?_eq_getElem hlt⟩
      have htm := List.mem_of_getElem? ht
      obtain ⟨g, hg, hO⟩ : ∃ g, ad = some ⟨g, 0, none⟩ ∧ OwnP w base g vc (ts.map Tx.pr) := by
        rcases HA.out.1.row with ⟨h, _⟩ | ⟨g, cp, hv, hO⟩
        · rw [h] at ht; simp at ht
        · simp only [Value.slice.injEq] at hv
          obtain ⟨h1, h2, rfl⟩ := hv
          exact ⟨g, h1, hO⟩
      subst hg
      have htv : t.v.cells = #[t.v] := (HA.out.1.runs t htm).ucells
      have hmt := HA.out.2.1 m t ht
      rw [← HB.out] at hmt
      have hw1 : b + 1 + totW t.rs * 6 ≤ 2 ^ 30 := by
        have h2 := totX_take ht
        have h3 := totX_le ts (m + 1)
        have h4 := HB.out
        unfold wx at h2
        omega
      have HB2 : Hid (b + 1 + (totW t.rs : Int) * 6 = a + totX (ts.take (m + 1))) := by
        have h2 := totX_take ht
        have h3 := HB.out
        unfold wx at h2
        show b + 1 + (totW t.rs : Int) * 6 = a + totX (ts.take (m + 1))
        omega
      have hpr : (ts.map Tx.pr)[m]? = some (mText b.toNat, t.v) := by rw [List.getElem?_map, ht, ← hmt.1]; rfl
      have HD : Hid (t ∈ ts ∧ OwnP w base g vc (ts.map Tx.pr) ∧ (ts.map Tx.pr)[m]? = some (mText b.toNat, t.v) ∧ MarkedR (b + 1) t.rs ∧ (totW t.rs ≤ 1048576 ∧ t.rs.length ≤ 1048576)) := ⟨htm, hO, hpr, hmt.2, HA.out.2.2 t htm⟩
      have hgl := hO.lt.2
      clear ht hO htm hmt hpr
      have c0 : ∀ n : Out wr, n.u.cell? ⟨g, m * 2, none⟩ = some (.string (mText b.toNat)) := fun n => ((HD.out.2.1.below (hbw.trans (n.out.mono hsz)) hgl).cells HD.out.2.2.1).1
      have zm : (m : Int) < (ts.length : Int) := by omega
      have inh : Nonempty (Out wr) := ⟨⟨wr, Below.refl _ _⟩⟩
      go_upto_region 4 with fail
      refine wp_region_out (by kernel_rfl) (by kernel_rfl) ?_
      repeat (go_big_quiet_step ((go_at_call 124; exact Calls.out_of (markText_any b _ hb0 (by omega)))))
      refine wpQuiet_nil ?_
      rintro wy ⟨⟨wx', hby⟩, rfl⟩
      have hbw2 := hbw.trans (hby.mono hsz)
      have hsz2 := hbw2.size
      obtain ⟨_, c1⟩ := (HD.out.2.1.below hbw2 hgl).cells HD.out.2.2.1
      clear c0 hby
      go_wp2_with fail
      refine (heldRunS_gen base t.v t.rs (b + 1) _ ((HA.out.1.below hbw2).runs t HD.out.1) ((HA.out.1.below hbw2).ents t HD.out.1) HD.out.2.2.2.1 (by omega) hw1 HD.out.2.2.2.2.1 HD.out.2.2.2.2.2).mono ?_
      rintro e w1 ⟨rfl, hb2⟩
      have hb3 := hbw2.trans (hb2.mono hsz2)
      have zz : ¬ b + 1 + (totW t.rs : Int) * 6 < 0 := by omega
      clear c1 hb2
      go_wp2_with fail
      go_roundw
      case rel => go_light; exact ⟨m + 1, b + 1 + totW t.rs * 6, by omega, by go_num, rfl, HB2.out, hb3⟩
      case measure => go_light; simp [intOf]; omega
    · have zm : ¬ (m : Int) < (ts.length : Int) := by omega
      have HF : Hid (b = a + totX ts) := by
        have q1 := HB.out
        rw [List.take_of_length_le (by omega)] at q1
        exact q1
      go_wp2_with fail
      go_ret
      exact ⟨by rw [HF.out]; rfl, hbw⟩

set_option maxHeartbeats 1000000 in
theorem markStore_gen (base : Nat) (v : Value) (ts : List Tx) (a : Int) (w : World) (hst : OwnSt w base v ts) (hap : ApartT ts) (h0 : 0 < a) (h1 : a + totX ts ≤ 2 ^ 30) (hn : ∀ t ∈ ts, totW t.rs ≤ 1048576 ∧ t.rs.length ≤ 1048576) (hl : ts.length ≤ 1048576) :
    Calls Try.prog 30 #[.agg #[v], .int .i64 a] w fun e w' =>
      ∃ ts' : List Tx, e = .returned (.int .i64 (a + totX ts)) ∧ ts'.map shpT = ts.map shpT ∧ OwnSt w' base v ts' ∧ MarkedT a ts' ∧ Chg (KeysT v ts) w w' := by
  have hu := hst.row.ucells
  have hb0 : Below w.heap.size w (w.alloc (Obj.cells #[v] 66)) := (Below.refl _ _).alloc (Nat.le_refl _) _
  have HU : Hid (OwnSt (w.alloc (Obj.cells #[v] 66)) base v ts ∧ ApartT ts ∧ ∀ t ∈ ts, totW t.rs ≤ 1048576 ∧ t.rs.length ≤ 1048576) := ⟨hst.below hb0, hap, hn⟩
  clear hst hap hn
  go_enter Try.func30, Try.ntmps30
  go_wp2_with fail
  refine (markTabletS_gen base v ts a _ HU.out.1 HU.out.2.1 h0 h1 HU.out.2.2 hl).mono ?_
  rintro e w1 ⟨ts', rfl, h2, h3, h4, h5⟩
  have HF : Hid (ts'.map shpT = ts.map shpT ∧ OwnSt w1 base v ts' ∧ MarkedT a ts' ∧ Chg (KeysT v ts) w w1) := ⟨h2, h3, h4, (Chg.of_below hb0).trans h5⟩
  clear h2 h3 h4 h5
  go_wp2_with fail
  go_ret
  exact ⟨ts', rfl, HF.out.1, HF.out.2.1, HF.out.2.2.1, HF.out.2.2.2⟩
set_option maxHeartbeats 1000000 in
theorem heldStore_gen (base : Nat) (v : Value) (ts : List Tx) (a : Int) (w : World) (hst : OwnSt w base v ts) (hmk : MarkedT a ts) (h0 : 0 < a) (h1 : a + totX ts ≤ 2 ^ 30) (hn : ∀ t ∈ ts, totW t.rs ≤ 1048576 ∧ t.rs.length ≤ 1048576) (hl : ts.length ≤ 1048576) :
    Calls Try.prog 31 #[.agg #[v], .int .i64 a] w fun e w' => e = .returned (.int .i64 (a + totX ts)) ∧ Below w.heap.size w w' := by
  have hu := hst.row.ucells
  have hb0 : Below w.heap.size w (w.alloc (Obj.cells #[v] 66)) := (Below.refl _ _).alloc (Nat.le_refl _) _
  have HU : Hid (OwnSt (w.alloc (Obj.cells #[v] 66)) base v ts ∧ MarkedT a ts ∧ ∀ t ∈ ts, totW t.rs ≤ 1048576 ∧ t.rs.length ≤ 1048576) := ⟨hst.below hb0, hmk, hn⟩
  clear hst hmk hn
  go_enter Try.func31, Try.ntmps31
  go_wp2_with fail
  refine (heldTabletS_gen base v ts a _ HU.out.1 HU.out.2.1 h0 h1 HU.out.2.2 hl).mono ?_
  rintro e w1 ⟨rfl, hb1⟩
  have zz : ¬ a + (totX ts : Int) < 0 := by omega
  go_wp2_with fail
  go_ret
  exact ⟨rfl, hb0.trans (hb1.mono (by simp))⟩
theorem shpT_ok {a b : List Tx} (h : a.map shpT = b.map shpT) (hn : ∀ t ∈ b, totW t.rs ≤ 1048576 ∧ t.rs.length ≤ 1048576) : ∀ t ∈ a, totW t.rs ≤ 1048576 ∧ t.rs.length ≤ 1048576 := by
  intro t ht
  have h1 : shpT t ∈ b.map shpT := by rw [← h]; exact List.mem_map.2 ⟨t, ht, rfl⟩
  obtain ⟨u, hu, he⟩ := List.mem_map.1 h1
  have e2 : u.rs.map shp = t.rs.map shp := by simpa [shpT] using congrArg Prod.snd he
  have := hn u hu
  have e3 := congrArg List.length e2
  simp at e3
  rw [← shp_tot e2, ← e3]
  exact this
end Go.Proofs.Ytlgeffinhbodeae
