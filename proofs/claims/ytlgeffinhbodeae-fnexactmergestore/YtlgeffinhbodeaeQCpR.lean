/-
  Tablets as they are read by a copy; spec.l7CopyRuns.
-/
import Derived.Test.YtlgeffinhbodeaeQApR
import Derived.Test.YtlgeffinhbodeaeQMkT3
namespace Go.Proofs.Ytlgeffinhbodeae
open Go.ChangeShapes Go.WideShapes Go.ChangeAt Go.RowKit Go.Deep
set_option linter.unusedVariables false
set_option linter.unusedSimpArgs false
set_option maxRecDepth 100000

/-- A slice of runs, nil too. -/
def InRms (w : World) (v : Value) (l : List Rm) : Prop :=
  (∃ a cap, v = .slice a 0 cap ∧ l = []) ∨ ∃ b off cap, v = .slice (some ⟨b, off, none⟩) l.length cap ∧ RmsAt w b off l ∧ b < w.heap.size ∧ l.length ≤ cap ∧ cap ≤ maxLen
theorem InRms.below {w w' : World} {v : Value} {l : List Rm} (h : InRms w v l) (hb : Below w.heap.size w w') : InRms w' v l := by
  rcases h with h | ⟨b, off, cap, hv, hE, hlt, h1, h2⟩
  · exact .inl h
  · exact .inr ⟨b, off, cap, hv, hE.below hb hlt, by have := hb.size; omega, h1, h2⟩
theorem InRms.ucells {w : World} {v : Value} {l : List Rm} (h : InRms w v l) : v.cells = #[v] := by
  rcases h with ⟨a, cap, rfl, _⟩ | ⟨b, off, cap, rfl, _⟩ <;> rfl
theorem InRms.one {w : World} {v : Value} {l : List Rm} (h : InRms w v l) : v.oneCell' = true := by
  rcases h with ⟨a, cap, rfl, _⟩ | ⟨b, off, cap, rfl, _⟩ <;> rfl
theorem InRms.shape {w : World} {v : Value} {l : List Rm} (h : InRms w v l) : ∃ ad c, v = .slice ad l.length c ∧ ∀ (i : Nat) (r : Rm), l[i]? = some r → ∃ b off, ad = some ⟨b, off, none⟩ ∧ b < w.heap.size ∧ RmsAt w b off l := by
  rcases h with ⟨a, cap, rfl, rfl⟩ | ⟨b, off, cap, rfl, hE, hlt, h1, h2⟩
  · exact ⟨a, cap, rfl, fun i r hi => by simp at hi⟩
  · exact ⟨_, cap, rfl, fun i r hi => ⟨b, off, rfl, hlt, hE⟩⟩
theorem OwnRow.of {w : World} {base : Nat} {v : Value} {rs : List Rw} {us : List Value} (h : w.ownsRow base 30 1 v us.length us) (hu : us = rs.map Rw.u) : OwnRow w base v rs := by
  have hl : us.length = rs.length := by rw [hu, List.length_map]
  rcases h.2 with ⟨h0, h1⟩ | ⟨g, cap, cur, hv, _⟩
  · refine .inl ⟨List.eq_nil_of_length_eq_zero (by omega), none, 0, h0⟩
  · refine .inr ⟨g, cap, by rw [← hl]; exact hv, ?_⟩
    rw [hl, hu] at h
    rw [hl] at hv
    rw [hv] at h
    exact h
/-- Runs copied: a row of the call's own, and entries of the call's own in blocks apart. -/
structure CopyR (w : World) (base : Nat) (v : Value) (l : List Rm) (rs : List Rw) : Prop where
  row : OwnRow w base v rs
  ents : ∀ r ∈ rs, OwnK w base r
  apart : Apart rs
  same : rs.map Rw.es = esM l
theorem CopyR.below {w w' : World} {base : Nat} {v : Value} {l : List Rm} {rs : List Rw} (h : CopyR w base v l rs) (hb : Below w.heap.size w w') : CopyR w' base v l rs :=
  ⟨h.row.below hb, fun r hr => (h.ents r hr).below hb, h.apart, h.same⟩
theorem OwnE.mono' {w : World} {base base' g cap : Nat} {es : List Ent} (h : OwnE w base g cap es) (hb : base' ≤ base) : OwnE w base' g cap es := h.mono hb
theorem OwnK.mono {w : World} {base base' : Nat} {r : Rw} (h : OwnK w base r) (hb : base' ≤ base) : OwnK w base' r := by
  rcases h with h | ⟨g, cp, hk, hu, hO⟩
  · exact .inl h
  · exact .inr ⟨g, cp, hk, hu, hO.mono hb⟩
theorem row_mono {w : World} {base base' e size : Nat} {v : Value} {n : Nat} {xs : List Value} (h : w.ownsRow base e size v n xs) (hb : base' ≤ base) : w.ownsRow base' e size v n xs := by
  refine ⟨h.1, ?_⟩
  rcases h.2 with hn | ⟨g', cap', cur, hv, h1, rest⟩
  · exact .inl hn
  · exact .inr ⟨g', cap', cur, hv, Nat.le_trans hb h1, rest⟩
theorem OwnRow.mono {w : World} {base base' : Nat} {v : Value} {rs : List Rw} (h : OwnRow w base v rs) (hb : base' ≤ base) : OwnRow w base' v rs := by
  rcases h with h | ⟨g, cp, hv, hO⟩
  · exact .inl h
  · exact .inr ⟨g, cp, hv, row_mono hO hb⟩
/-- One copied run more: its entries lie in a block that is new. -/
theorem apart_snoc {rs : List Rw} {r : Rw} {n : Nat} (h : Apart rs) (h1 : ∀ x ∈ rs, ∀ k, x.k = some k → k < n) (h2 : ∀ k, r.k = some k → n ≤ k) : Apart (rs ++ [r]) := by
  refine List.pairwise_append.2 ⟨h, by simp, fun a ha b hb k hk hk' => ?_⟩
  simp at hb
  subst hb
  have := h1 a ha k hk
  have := h2 k hk'
  omega
theorem one_cell_new {w : World} {x : Value} {t : TypeId} : ∀ j u, [x][j]? = some u → (w.alloc (.cells #[x] t)).cell? ⟨w.heap.size, 0 + j, none⟩ = some u := by
  intro j u hj
  have := cell_one_new w x t j u hj
  rw [Addr.add_mid] at this
  exact this
def totM : List Rm → Nat
  | [] => 0
  | r :: rs => r.es.length + totM rs
theorem totM_mem {l : List Rm} {r : Rm} (h : r ∈ l) : r.es.length ≤ totM l := by
  induction l with
  | nil => cases h
  | cons a l ih =>
    rcases List.mem_cons.1 h with rfl | h
    · simp [totM]
    · have := ih h; simp only [totM]; omega

/-- What a copy of runs hands back. -/
def CpRPost (w : World) (l : List Rm) (e : Ending) (w' : World) : Prop := ∃ (u : Value) (rs : List Rw), e = .returned u ∧ CopyR w' w.heap.size u l rs ∧ (∃ g cp, u = .slice (some ⟨g, 0, none⟩) rs.length cp ∧ w'.ownsRow w.heap.size 30 1 (.slice (some ⟨g, 0, none⟩) rs.length cp) rs.length (rs.map Rw.u)) ∧ Below w.heap.size w w'

set_option maxHeartbeats 4000000 in
theorem specCopyRuns_core (v : Value) (l : List Rm) (w : World) (h : InRms w v l) (hn : l.length ≤ 1048576) (ht : totM l ≤ 1048576) :
    Calls Try.prog 75 #[v] w fun e w' => CpRPost w l e w' := by
  obtain ⟨ad, vc, rfl, hcell⟩ := h.shape
  have HA : Hid (∀ (i : Nat) (r : Rm), l[i]? = some r → ∃ b off, ad = some ⟨b, off, none⟩ ∧ b < w.heap.size ∧ RmsAt w b off l) := hcell
  clear h hcell
  obtain ⟨W0, hW0⟩ : ∃ W0 : World, W0 = w.alloc (Obj.cells #[] 30) := ⟨_, rfl⟩
  have hb0 : Below w.heap.size w W0 := by rw [hW0]; exact (Below.refl _ _).alloc (Nat.le_refl _) _
  have hz0 : W0.heap.size = w.heap.size + 1 := by rw [hW0]; simp
  have HR0 : Hid (W0.ownsRow w.heap.size 30 1 (.slice (some ⟨w.heap.size, 0, none⟩) 0 0) 0 []) := by rw [hW0]; exact ownR_empty w _ (Nat.le_refl _)
  go_enter Try.func75, Try.ntmps75
  go_wp2_with fail
  rw [← hW0]
  clear hW0
  go_loopw [3, 4] (fun o i wr => ∃ (k g cp : Nat) (rs : List Rw), k ≤ l.length ∧ i = .int .i64 k ∧ o = .slice (some ⟨g, 0, none⟩) k cp ∧ rs.length = k ∧ rs.map Rw.es = esM (l.take k) ∧ wr.ownsRow w.heap.size 30 1 (.slice (some ⟨g, 0, none⟩) k cp) k (rs.map Rw.u) ∧ (∀ r ∈ rs, OwnK wr w.heap.size r) ∧ Apart rs ∧ Below w.heap.size w wr) (fun _ i _ => l.length - (intOf i).toNat)
  case atStart => exact ⟨0, w.heap.size, 0, [], Nat.zero_le _, rfl, rfl, rfl, rfl, HR0.out, fun r hr => by simp at hr, List.Pairwise.nil, hb0⟩
  case round =>
    obtain ⟨k, g, cp, rs, hk, rfl, rfl, hrl, hes, hrow, hks, hap, hb⟩ := hrel
    have HR : Hid (rs.length = k ∧ rs.map Rw.es = esM (l.take k) ∧ wr.ownsRow w.heap.size 30 1 (.slice (some ⟨g, 0, none⟩) k cp) k (rs.map Rw.u) ∧ (∀ r ∈ rs, OwnK wr w.heap.size r) ∧ Apart rs) := ⟨hrl, hes, hrow, hks, hap⟩
    have hg := World.ownsRow.lt hrow g rfl
    have hsz := hb.size
    clear hrl hes hrow hks hap
    by_cases hlt : k < l.length
    · obtain ⟨r, hr⟩ : ∃ r, l[k]? = some r := ⟨_, List.getElem?_eq_getElem hlt⟩
      obtain ⟨b, off, rfl, hB, hat⟩ := HA.out k r hr
      obtain ⟨c0, ha⟩ := (hat.below hb hB) k r hr
      have hrm := List.mem_of_getElem? hr
      have hrt : r.es.length ≤ 1048576 := by have := totM_mem hrm; omega
      have HD : Hid (l[k]? = some r ∧ r.at wr) := ⟨hr, ha⟩
      clear hr ha hat hrm
      have zk : (k : Int) < (l.length : Int) := by omega
      -- the new empty row of entries
      obtain ⟨W1, hW1⟩ : ∃ W1 : World, W1 = wr.alloc (Obj.cells #[] 85) := ⟨_, rfl⟩
      have hbA : Below wr.heap.size wr W1 := by rw [hW1]; exact (Below.refl _ _).alloc (Nat.le_refl _) _
      have hzA : W1.heap.size = wr.heap.size + 1 := by rw [hW1]; simp
      have HE1 : Hid (OwnE W1 wr.heap.size wr.heap.size 0 []) := by rw [hW1]; exact ownE_empty wr _ (Nat.le_refl _)
      have c1 : W1.cell? ⟨b, off + k, none⟩ = some (.slice (some ⟨r.b, r.off, none⟩) r.es.length r.cap) := by rw [hbA.cell (p := ⟨b, off + k, none⟩) (by show b < _; omega)]; exact c0
      have c1' : (wr.alloc (Obj.cells #[] 85)).cell? ⟨b, off + k, none⟩ = some (.slice (some ⟨r.b, r.off, none⟩) r.es.length r.cap) := by rw [← hW1]; exact c1
      go_wp2_with (at_builtin; rw [← hW1]; refine wpList_append_entO _ rfl _ _ rfl wr.heap.size wr.heap.size 0 0 r.b r.off r.es.length r.cap [] r.es rfl rfl rfl rfl HE1.out ?hc ?hl ?hb ?_)
      case hc => exact (HD.out.2.below hbA).ents
      case hl => simp; omega
      case hb => omega
      intro g' cp' w2 hO' hgr hat'
      rw [← hW1] at hgr
      have hb2 : Below wr.heap.size wr w2 := hbA.grown hgr hbA.size (fun j hj => by cases hj; exact Nat.le_refl _)
      have HO2 : Hid (OwnE w2 wr.heap.size g' cp' r.es) := hO'
      have s2 := hb2.size
      clear hO' hgr hW1 c1 c1' c0
      have hus : (rs.map Rw.u).length = k := by rw [List.length_map]; exact HR.out.1
      have HR2 : Hid ((w2.alloc (Obj.cells #[.slice (some ⟨g', 0, none⟩) r.es.length cp'] 30)).ownsRow w.heap.size 30 1 (.slice (some ⟨g, 0, none⟩) k cp) (rs.map Rw.u).length (rs.map Rw.u)) := by
        show World.ownsRow _ _ _ _ _ _ _
        rw [hus]
        exact World.ownsRow.alloc (World.ownsRow.kept HR.out.2.2.1 (grown_of_below hb2 none) (.inr (fun q => by cases q))) _
      go_wp2_with (at_builtin; refine wpList_append_runO _ rfl _ _ rfl w.heap.size (.slice (some ⟨g, 0, none⟩) k cp) (rs.map Rw.u) w2.heap.size 0 1 1 [.slice (some ⟨g', 0, none⟩) r.es.length cp'] rfl rfl rfl HR2.out one_cell_new ?h1 ?hl ?hb ?_)
      case h1 => intro u hu; simp at hu; subst hu; rfl
      case hl => rw [hus]; simp; omega
      case hb => simp; omega
      intro v' w3 hA3
      have hz : (rs.map Rw.u ++ [Value.slice (some ⟨g', 0, none⟩) r.es.length cp']).length = k + 1 := by simp [hus]
      obtain ⟨g3, cp3, rfl⟩ := hA3.form (by intro q; cases q)
      have hO3 := hA3.row
      rw [hz] at hO3 ⊢
      have hgr3 := hA3.grown
      clear hA3
      have HN : Hid (∃ rs' : List Rw, rs'.length = k + 1 ∧ rs'.map Rw.es = esM (l.take (k + 1)) ∧ w3.ownsRow w.heap.size 30 1 (.slice (some ⟨g3, 0, none⟩) (k + 1) cp3) (k + 1) (rs'.map Rw.u) ∧ (∀ r ∈ rs', OwnK w3 w.heap.size r) ∧ Apart rs') := by
        obtain ⟨q1, q2, q3, q4, q5⟩ := HR.out
        have hbz : Below w2.heap.size w2 (w2.alloc (Obj.cells #[.slice (some ⟨g', 0, none⟩) r.es.length cp'] 30)) := (Below.refl _ _).alloc (Nat.le_refl _) _
        have hkk : ∀ x : Rw, OwnK w2 w.heap.size x → OwnK w3 w.heap.size x := fun x hx => by
          refine (hx.below hbz).kept hgr3 (fun k' hk' q => ?_)
          -- the row of runs is no row of entries
          have hq : g = k' := Option.some.inj q
          subst hq
          rcases hx with ⟨h0, _⟩ | ⟨g2, cp2, h1, h2, hE⟩
          · rw [h0] at hk'; cases hk'
          · rw [h1] at hk'
            have e2 : g2 = g := Option.some.inj hk'
            subst e2
            exact own_apart (World.ownsRow.kept q3 (grown_of_below hb2 none) (.inr (fun q => by cases q))) hE (by decide) _ rfl rfl
        refine ⟨rs ++ [⟨.slice (some ⟨g', 0, none⟩) r.es.length cp', r.es, some g'⟩], by simp [q1], ?_, ?_, ?_, ?_⟩
        · rw [List.map_append, q2, List.take_add_one, HD.out.1]; simp [esM]
        · rw [List.map_append]
          exact hO3
        · intro x hx
          rcases List.mem_append.1 hx with hx | hx
          · exact hkk x ((q4 x hx).below hb2)
          · simp at hx
            subst hx
            exact hkk _ ((OwnK.mono (.inr ⟨g', cp', rfl, rfl, HO2.out⟩) (by omega)))
        · refine apart_snoc (n := wr.heap.size) q5 (fun x hx k' hk' => ((q4 x hx).key hk').2) (fun k' hk' => ?_)
          have e2 : g' = k' := Option.some.inj hk'
          subst e2
          exact HO2.out.lt.1
      have hb3 : Below w.heap.size w w3 := ((hb.trans (hb2.mono hsz)).alloc (by omega) _).grown hgr3 (by simp; omega) (fun j hj => by cases hj; exact hg.1)
      clear hO3 hgr3 hus hz
      go_wp2_with fail
      go_roundw
      case rel =>
        go_light
        obtain ⟨rs', a1, a2, a3, a4, a5⟩ := HN.out
        exact ⟨k + 1, g3, cp3, rs', by omega, by go_num, rfl, a1, a2, a3, a4, a5, hb3⟩
      case measure => go_light; simp [intOf]; omega
    · have zk : ¬ (k : Int) < (l.length : Int) := by omega
      have HF : Hid (∃ rs : List Rw, CopyR wr w.heap.size (.slice (some ⟨g, 0, none⟩) k cp) l rs ∧ rs.length = k ∧ wr.ownsRow w.heap.size 30 1 (.slice (some ⟨g, 0, none⟩) rs.length cp) rs.length (rs.map Rw.u)) := by
        obtain ⟨q1, q2, q3, q4, q5⟩ := HR.out
        refine ⟨rs, ⟨OwnRow.of (us := rs.map Rw.u) ?_ rfl, q4, q5, ?_⟩, q1, by rw [q1]; exact q3⟩
        · rw [List.length_map, q1]; exact q3
        · rw [List.take_of_length_le (by omega)] at q2; exact q2
      go_wp2_with fail
      go_ret
      obtain ⟨rs', hc, hl', hr'⟩ := HF.out
      exact ⟨_, rs', rfl, hc, ⟨g, cp, (by rw [hl']; rfl), hr'⟩, hb⟩
end Go.Proofs.Ytlgeffinhbodeae
