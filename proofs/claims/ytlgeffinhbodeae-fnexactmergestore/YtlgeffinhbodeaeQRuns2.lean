/-
  toRunS, eqRunS, markRunS.
-/
import Derived.Test.YtlgeffinhbodeaeQRuns
namespace Go.Proofs.Ytlgeffinhbodeae
open Go.ChangeShapes Go.WideShapes Go.ChangeAt Go.RowKit Go.Deep
set_option linter.unusedVariables false
set_option linter.unusedSimpArgs false
set_option maxRecDepth 100000

theorem esOf_take {rs : List Rn} {k : Nat} {r : Rn} (h : rs[k]? = some r) : esOf (rs.take (k + 1)) = esOf (rs.take k) ++ [r.es] := by
  unfold esOf
  rw [List.take_add_one, h]; simp
theorem usOf_append (l : List (Nat × List Ent)) (p : Nat × List Ent) : usOf (l ++ [p]) = usOf l ++ [.slice (some ⟨p.1, 0, none⟩) p.2.length p.2.length] := by simp [usOf]
theorem usOf_set {l : List (Nat × List Ent)} {p : Nat × List Ent} {n k : Nat} (hk : l.length = k) (hn : k < n) :
    (usOf l ++ List.replicate (n - k) (Value.slice none 0 0)).set k (.slice (some ⟨p.1, 0, none⟩) p.2.length p.2.length) = usOf (l ++ [p]) ++ List.replicate (n - (k + 1)) (Value.slice none 0 0) := by
  rw [usOf_append, List.set_append_right _ _ (by simp [usOf, hk])]
  have : n - k = (n - (k + 1)) + 1 := by omega
  rw [this, List.replicate_succ]
  simp [usOf, hk]

set_option maxHeartbeats 1000000 in
theorem toRunS_any (v : Value) (rs : List Rn) (w : World) (h : InRuns w v rs) (h1 : rs.length + tot rs ≤ 1048576) :
    Calls Try.prog 153 #[v] w fun e w' =>
      ∃ (g : Nat) (l : List (Nat × List Ent)), e = .returned (.slice (some ⟨g, 0, none⟩) l.length l.length) ∧ l.map Prod.snd = esOf rs ∧ OwnR w' w.heap.size g (usOf l) ∧ OwnRs w' w.heap.size l ∧ (∀ p ∈ l, g < p.1) ∧ Below w.heap.size w w' := by
  obtain ⟨i, hi, hz0, hz1, hz2⟩ := info_parts Try.infoRun
  have HI : Hid (Try.prog.info? 30 = some i ∧ i.zero = some (.agg #[.slice none 0 0]) ∧ i.size = 1 ∧ i.bytes = 24) := ⟨hi, hz0, hz1, hz2⟩
  clear hi hz0 hz1 hz2
  rcases h with ⟨a, cap, rfl, rfl⟩ | ⟨b, off, cap, rfl, hE, hB, hlen, hcap⟩
  · go_enter Try.func153, Try.ntmps153
    go_wp2_with (at_make; refine wpList_make_full _ rfl _ _ 23 rfl w.heap.size 30 i _ 1 Try.underlying23 HI.out.1 HI.out.2.1 HI.out.2.2.1 _ _ _ _ 0 rfl rfl ?_ ?_ ?hb ?hm ?hs ?_)
    case hb => rw [HI.out.2.2.2]; omega
    case hm => unfold maxLen; omega
    case hs => exact Nat.le_refl _
    · rfl
    · rfl
    intro w1 hown hgrow
    rw [made_runs] at hown
    have HW : Hid (OwnR w1 w.heap.size w.heap.size []) := hown
    have hb1 : Below w.heap.size w w1 := (Below.refl _ _).grown hgrow (Nat.le_refl _) (fun k hk => by cases hk)
    clear hown hgrow
    go_wp2_with fail
    go_loopw [4] (fun i wr => i = .int .i64 0 ∧ wr = w1) (fun i _ => 0)
    case atStart => exact ⟨rfl, rfl⟩
    case round =>
      obtain ⟨rfl, rfl⟩ := hrel
      go_wp2_with fail
      go_ret
      exact ⟨_, [], rfl, rfl, HW.out, ⟨List.Pairwise.nil, fun p hp => by simp at hp⟩, fun p hp => by simp at hp, hb1⟩
  · have HE : Hid (RunsAt w b off rs) := hE
    clear hE
    unfold maxLen at hcap
    go_enter Try.func153, Try.ntmps153
    go_wp2_with (at_make; refine wpList_make_full _ rfl _ _ 23 rfl w.heap.size 30 i _ 1 Try.underlying23 HI.out.1 HI.out.2.1 HI.out.2.2.1 _ _ _ _ rs.length rfl rfl ?_ ?_ ?hb ?hm ?hs ?_)
    case hb => rw [HI.out.2.2.2]; omega
    case hm => unfold maxLen; omega
    case hs => exact Nat.le_refl _
    · rfl
    · rfl
    intro w1 hown hgrow
    rw [made_runs] at hown
    have hown1 : OwnR w1 w.heap.size w.heap.size (List.replicate rs.length (.slice none 0 0)) := by
      unfold OwnR; rw [List.length_replicate]; exact hown
    have HW : Hid (OwnR w1 w.heap.size w.heap.size (List.replicate rs.length (.slice none 0 0))) := hown1
    have hb1 : Below w.heap.size w w1 := (Below.refl _ _).grown hgrow (Nat.le_refl _) (fun k hk => by cases hk)
    have hs1 := hown1.lt.2
    clear hown hown1 hgrow
    go_wp2_with fail
    go_loopw [4] (fun i wr => ∃ (k : Nat) (l : List (Nat × List Ent)), k ≤ rs.length ∧ i = .int .i64 k ∧ l.length = k ∧ l.map Prod.snd = esOf (rs.take k) ∧ OwnR wr w.heap.size w.heap.size (usOf l ++ List.replicate (rs.length - k) (.slice none 0 0)) ∧ OwnRs wr w.heap.size l ∧ (∀ p ∈ l, w.heap.size < p.1) ∧ Below w.heap.size w wr) (fun i _ => rs.length - (intOf i).toNat)
    case atStart => exact ⟨0, [], Nat.zero_le _, rfl, rfl, rfl, HW.out, ⟨List.Pairwise.nil, fun p hp => by simp at hp⟩, fun p hp => by simp at hp, hb1⟩
    case round =>
      obtain ⟨k, l, hk, rfl, hlk, hes, hR, hO, hgt, hb⟩ := hrel
      have HL : Hid (l.length = k ∧ l.map Prod.snd = esOf (rs.take k) ∧ OwnR wr w.heap.size w.heap.size (usOf l ++ List.replicate (rs.length - k) (.slice none 0 0)) ∧ OwnRs wr w.heap.size l ∧ (∀ p ∈ l, w.heap.size < p.1)) := ⟨hlk, hes, hR, hO, hgt⟩
      have hg := hR.lt
      have hsz := hb.size
      clear hlk hes hR hO hgt
      by_cases hlt : k < rs.length
      · obtain ⟨r, hr⟩ : ∃ r, rs[k]? = some r := ⟨_, List.getElem?_eq_getElem hlt⟩
        obtain ⟨c0, hin⟩ := (HE.out.below hb hB) k r hr
        have HR : Hid (rs[k]? = some r ∧ InEnts wr r.u r.es ∧ r.es.length ≤ 1048576) := ⟨hr, hin, by have := tot_mem hr; omega⟩
        clear hr hin
        go_wp2_with fail
        refine (toRun_any r.u r.es _ HR.out.2.1 HR.out.2.2).mono ?_
        rintro e w2 ⟨g', rfl, hO', hb2⟩
        have hR2 := HL.out.2.2.1.below hb2 hg.2
        have hs2 := hb2.size
        have hg' := hO'.lt
        have hkk : k < (usOf l ++ List.replicate (rs.length - k) (Value.slice none 0 0)).length := by
          have := HL.out.1
          simp [usOf]; omega
        have hul : (usOf l).length = k := by simp [usOf, HL.out.1]
        have d0 : w2.cell? ⟨w.heap.size, k, none⟩ = some (.slice none 0 0) := hR2.cell (by
          rw [List.getElem?_append_right (by omega), hul, Nat.sub_self, List.getElem?_replicate, if_pos (by omega)])
        have hfz := fun j => World.ownsRow.frozenAt hR2 j
        have HN : Hid (∃ l', l'.length = k + 1 ∧ l'.map Prod.snd = esOf (rs.take (k + 1)) ∧ OwnR (w2.setCell ⟨w.heap.size, k, none⟩ (.slice (some ⟨g', 0, none⟩) r.es.length r.es.length)) w.heap.size w.heap.size (usOf l' ++ List.replicate (rs.length - (k + 1)) (.slice none 0 0)) ∧
            OwnRs (w2.setCell ⟨w.heap.size, k, none⟩ (.slice (some ⟨g', 0, none⟩) r.es.length r.es.length)) w.heap.size l' ∧ (∀ p ∈ l', w.heap.size < p.1)) := by
          refine ⟨l ++ [(g', r.es)], by simp [HL.out.1], ?_, ?_, ⟨?_, ?_⟩, ?_⟩
          · rw [esOf_take HR.out.1, List.map_append, HL.out.2.1]; rfl
          · rw [← usOf_set (p := (g', r.es)) HL.out.1 hlt]; exact hR2.set k _
          · refine List.pairwise_append.2 ⟨HL.out.2.2.2.1.1, by simp, fun p hp q hq => ?_⟩
            simp at hq
            subst hq
            have := (HL.out.2.2.2.1.2 p hp).lt
            show p.1 < g'
            omega
          · intro p hp
            rcases List.mem_append.1 hp with hp | hp
            · have h1 := HL.out.2.2.2.1.2 p hp
              have h2 := HL.out.2.2.2.2 p hp
              exact (h1.below hb2 h1.lt.2).setNe _ _ _ (by omega)
            · simp at hp
              subst hp
              exact (hO'.setNe _ _ _ (by show g' ≠ w.heap.size; omega)).mono (by omega)
          · intro p hp
            rcases List.mem_append.1 hp with hp | hp
            · exact HL.out.2.2.2.2 p hp
            · simp at hp
              subst hp
              show w.heap.size < g'
              omega
        have hb3 : Below w.heap.size w (w2.setCell ⟨w.heap.size, k, none⟩ (.slice (some ⟨g', 0, none⟩) r.es.length r.es.length)) := (hb.trans (hb2.mono hsz)).setCell (by show w.heap.size ≤ w.heap.size; omega) _
        clear hR2 hO' hb2 c0 hkk hul
        go_wp2_with fail
        go_roundw
        case rel =>
          go_light
          obtain ⟨l', a1, a2, a3, a4, a5⟩ := HN.out
          exact ⟨k + 1, l', by omega, by go_num, a1, a2, a3, a4, a5, hb3⟩
        case measure => simp [intOf]; omega
      · have hkr : k = rs.length := by omega
        have HF : Hid (l.length = rs.length ∧ l.map Prod.snd = esOf rs ∧ OwnR wr w.heap.size w.heap.size (usOf l)) := by
          have h2 := HL.out.2.1
          have h3 := HL.out.2.2.1
          rw [List.take_of_length_le (by omega)] at h2
          rw [show rs.length - k = 0 by omega] at h3
          simp at h3
          exact ⟨by rw [HL.out.1, hkr], h2, h3⟩
        clear hkr
        go_wp2_with fail
        go_ret
        refine ⟨_, l, ?_, HF.out.2.1, HF.out.2.2, HL.out.2.2.2.1, HL.out.2.2.2.2, hb⟩
        rw [HF.out.1]; rfl
end Go.Proofs.Ytlgeffinhbodeae
