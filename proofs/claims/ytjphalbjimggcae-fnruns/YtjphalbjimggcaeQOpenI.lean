/-
  impl.openCursors.
-/
import Derived.Test.YtjphalbjimggcaeQOpenM
namespace Go.Proofs.Ytjphalbjimggcae
open Go.ChangeShapes Go.WideShapes Go.ChangeAt Go.RowKit Go.Deep
set_option linter.unusedVariables false
set_option linter.unusedSimpArgs false
set_option maxRecDepth 100000

theorem Try.infoCur : (Try.prog.info? 95).map (fun i => (i.zero, i.size, i.bytes)) = some (some .nilIface, 1, 16) := by kernel_rfl

/-- One cursor appended to the row. -/
theorem wpList_append_cu {ops : Array Oper} {rest : List Oper} {o : Oper} {a : Act} {Q : Exit → Act → World → Prop} (w : World) (hgd : o.guard = none) (s x : Operand)
    (ho : o.op = .call { callee := .builtin .append, args := #[s, x], argTypes := #[90, 90] })
    (base g cp blk : Nat) (d : Array Cu) (c : Cu) (hs : a.eval s = .slice (some ⟨g, 0, none⟩) d.size cp) (hx : a.eval x = .slice (some ⟨blk, 0, none⟩) 1 1) (hO : OwnH w base g cp d)
    (hc : w.cell? ⟨blk, 0, none⟩ = some (ifc c)) (hlen : d.size ≤ 2 ^ 30) (hbase : base ≤ w.heap.size)
    (h : ∀ g' cp' w', OwnH w' base g' cp' (d.push c) → w.grownBy w' (some g) → (g = g' ∨ g' = w.heap.size) → wpList Try.prog ops Q rest (a.put o.dst (.slice (some ⟨g', 0, none⟩) (d.size + 1) cp')) w') : wpList Try.prog ops Q (o :: rest) a w := by
  obtain ⟨i, hi, hz0, hz1, hz2⟩ := info_parts Try.infoCur
  refine wpList_append_lies w hgd s x 90 ho base 95 i _ 1 16 Try.underlying90 hi hz0 hz1 hz2 rfl (by decide) (.slice (some ⟨g, 0, none⟩) d.size cp) d.size (d.toList.map ifc) hs hO ⟨blk, 0, none⟩ 1 1 [ifc c] hx rfl ?_ ?_ (by decide) ?_ ?_ hbase w.heap.size rfl ?_
  · intro j u hu
    have hj : j < 1 := by simpa using (List.getElem?_eq_some_iff.1 hu).1
    obtain rfl : j = 0 := by omega
    simp at hu
    rw [← hu]
    simpa [Addr.add] using hc
  · intro u hu
    simp at hu
    subst hu
    rfl
  · unfold maxLen; omega
  · omega
  · intro g' cp' w' hO' hgr hat hlt
    refine h g' cp' w' ?_ hgr ?_
    · unfold OwnH
      have e : (d.push c).toList.map ifc = d.toList.map ifc ++ [ifc c] := by simp
      rw [Array.size_push, e]
      exact hO'
    · rcases hat with q | q
      · exact .inl (by simpa [Value.ownBlock] using q)
      · exact .inr q

set_option maxHeartbeats 4000000 in
theorem openCursors_core (b off cap : Nat) (l : List Rm) (lo hi : ByteArray) (hh : Bool) (w : World) (hR : RmsAt w b off l) (hG : GoodRs (esM l)) (hB : b < w.heap.size) :
    Calls Try.prog 42 #[.slice (some ⟨b, off, none⟩) l.length cap, .agg #[.string lo, .bool hh, .string hi]] w fun e w' =>
      ∃ (g cp : Nat) (d : Array Cu), e = .returned (.slice (some ⟨g, 0, none⟩) d.size cp) ∧ RowOk w' w.heap.size g cp d ∧ Heap d ∧ OpenTo l lo hh hi l.length d.toList ∧ Below w.heap.size w w' := by
  have HR : Hid (RmsAt w b off l) := hR
  have HG : Hid (GoodRs (esM l)) := hG
  have hl50 : l.length ≤ 50 := by simpa using hG.1
  clear hR hG
  obtain ⟨i, hi0, hz0, hz1, hz2⟩ := info_parts Try.infoCur
  have HI : Hid (Try.prog.info? 95 = some i ∧ i.zero = some .nilIface ∧ i.size = 1 ∧ i.bytes = 16) := ⟨hi0, hz0, hz1, hz2⟩
  clear hi0 hz0 hz1 hz2
  obtain ⟨W1, hW1⟩ : ∃ W1 : World, W1 = w.alloc (Obj.cells #[.string lo, .bool hh, .string hi] 25) := ⟨_, rfl⟩
  have hb1 : Below w.heap.size w W1 := by rw [hW1]; exact (Below.refl _ _).alloc (Nat.le_refl _) _
  have hz1 : W1.heap.size = w.heap.size + 1 := by rw [hW1]; simp
  have HG1 : Hid (W1.cell? ⟨w.heap.size, 0, none⟩ = some (.string lo) ∧ W1.cell? ⟨w.heap.size, 1, none⟩ = some (.bool hh) ∧ W1.cell? ⟨w.heap.size, 2, none⟩ = some (.string hi)) := by
    refine ⟨?_, ?_, ?_⟩ <;> (rw [hW1]; simp)
  go_enter Try.func42, Try.ntmps42
  go_wp2_with (at_make; refine wpList_make_own _ rfl _ _ 90 rfl w.heap.size 95 i _ 1 Try.underlying90 HI.out.1 HI.out.2.1 HI.out.2.2.1 _ _ _ l.length rfl rfl ?_ ?hb ?hm ?hs ?_)
  case hb => rw [HI.out.2.2.2]; omega
  case hm => unfold maxLen; omega
  case hs => simp
  · rfl
  rw [← hW1]
  clear hW1
  intro w2 hown hgr
  have hb2 : Below W1.heap.size W1 w2 := (Below.refl _ _).grown hgr (Nat.le_refl _) (fun k hk => by cases hk)
  have hs2 : w.heap.size + 1 < w2.heap.size := (World.ownsRow.lt hown _ rfl).2
  obtain ⟨W3, hW3⟩ : ∃ W3 : World, W3 = w2.alloc (Obj.cells #[.slice (some ⟨w.heap.size + 1, 0, none⟩) 0 l.length] 90) := ⟨_, rfl⟩
  have hb3 : Below w2.heap.size w2 W3 := by rw [hW3]; exact (Below.refl _ _).alloc (Nat.le_refl _) _
  have hz3 : W3.heap.size = w2.heap.size + 1 := by rw [hW3]; simp
  have HO : Hid (OInv w w2.heap.size l lo hh hi 0 (w.heap.size + 1) l.length #[] W3) := by
    have k13 : Below W1.heap.size W1 W3 := hb2.trans (hb3.mono hb2.size)
    exact {
      below := hb1.trans (k13.mono (by omega))
      hdr := by rw [hW3]; simp
      free := fun j => by
        rw [hW3]
        exact World.ownsRow.frozenAt (World.ownsRow_lit (base := 0) (e := 90) (size := 1) w2 #[.slice (some ⟨w.heap.size + 1, 0, none⟩) 0 l.length] 1 (Nat.zero_le _) (by decide) rfl) j
      lt := by omega
      own := by omega
      new := by omega
      ne := by omega
      apart := fun c hc => by simp at hc
      row := ⟨OwnH.below (d := #[]) hown hb3 (by omega), fun c hc => by simp at hc, fun c hc => by simp at hc, fun c hc => by simp at hc⟩
      opened := openTo_zero l lo hi hh
      rg0 := by rw [k13.cell (p := ⟨w.heap.size, 0, none⟩) (by show w.heap.size < W1.heap.size; omega)]; exact HG1.out.1
      rg1 := by rw [k13.cell (p := ⟨w.heap.size, 1, none⟩) (by show w.heap.size < W1.heap.size; omega)]; exact HG1.out.2.1
      rg2 := by rw [k13.cell (p := ⟨w.heap.size, 2, none⟩) (by show w.heap.size < W1.heap.size; omega)]; exact HG1.out.2.2 }
  clear hown hgr
  go_wp2_with fail
  rw [← hW3]
  clear hW3 HG1 hb1 hb2 hb3
  generalize hhv : w2.heap.size = hv at *
  clear hhv
  go_loopw [14] (fun c wr => ∃ (k g cp : Nat) (d : Array Cu), k ≤ l.length ∧ c = .int .i64 k ∧ OInv w hv l lo hh hi k g cp d wr) (fun c _ => l.length - (intOf c).toNat)
  case atStart => exact ⟨0, _, _, #[], Nat.zero_le _, rfl, HO.out⟩
  case round =>
    obtain ⟨k, g, cp, d, hk, rfl, hI⟩ := hrel
    have HV : Hid (OInv w hv l lo hh hi k g cp d wr) := hI
    have hbw := hI.below
    have hsw := hbw.size
    clear hI HO
    by_cases hlt : k < l.length
    · obtain ⟨r, hr⟩ : ∃ r, l[k]? = some r := ⟨_, List.getElem?_eq_getElem hlt⟩
      obtain ⟨c0, ha⟩ := (HR.out.below hbw hB) k r hr
      have HA : Hid (r.at wr ∧ l[k]? = some r ∧ GoodR r.es ∧ r.b < w.heap.size) := ⟨ha, hr, goodRs_mem HG.out (List.mem_of_getElem? hr), (HR.out k r hr).2.lt⟩
      clear ha hr
      obtain ⟨Wa, hWa⟩ : ∃ Wa : World, Wa = wr.alloc (Obj.cells #[.slice (some ⟨r.b, r.off, none⟩) r.es.length r.cap] 30) := ⟨_, rfl⟩
      have hba : Below wr.heap.size wr Wa := by rw [hWa]; exact (Below.refl _ _).alloc (Nat.le_refl _) _
      have hca : Wa.cell? ⟨wr.heap.size, 0, none⟩ = some (.slice (some ⟨r.b, r.off, none⟩) r.es.length r.cap) := by rw [hWa]; simp
      have HVa : Hid (OInv w hv l lo hh hi k g cp d Wa) := HV.out.step hba
      have HAa : Hid (r.at Wa) := HA.out.1.below hba
      go_upto_region 5 with fail
      rw [← hWa]
      clear hWa c0
      have q0 := HVa.out.rg0
      have q1 := HVa.out.rg1
      have q2 := HVa.out.rg2
      go_wp2_with fail
      refine (entriesIn_core r lo hi hh _ HAa.out HA.out.2.2.1).mono ?_
      rintro e wb ⟨p, rfl, hpa, hpp, hbb⟩
      have HP : Hid (p.at wb ∧ PartOf r p lo hh hi) := ⟨hpa, hpp⟩
      have HVb : Hid (OInv w hv l lo hh hi k g cp d wb) := HVa.out.step hbb
      clear hpa hpp q0 q1 q2 hca
      by_cases hp0 : p.es.length = 0
      · have HN : Hid (OInv w hv l lo hh hi (k + 1) g cp d wb) := { HVb.out with opened := openTo_skip HVb.out.opened HA.out.2.1 HP.out.2 (List.eq_nil_of_length_eq_zero hp0) }
        go_wp2_with fail
        go_roundw
        case rel => exact ⟨k + 1, g, cp, d, by omega, by go_num, HN.out⟩
        case measure => go_light; simp [intOf]; omega
      · have zp : (0 : Int) < (p.es.length : Int) := by omega
        have q0 := HVb.out.hdr
        have hdk : d.size ≤ k := by simpa using HVb.out.opened.few
        have hgl := HVb.out.row.row.lt.2
        have hvl := HVb.out.lt
        have f0 := HVb.out.free 0
        have hnv := HVb.out.ne
        have hws := HVb.out.below.size
        clear hba hbb hbw hsw
        go_wp2_with (at_builtin; refine wpList_append_cu _ rfl _ _ rfl w.heap.size g cp (wb.heap.size + 1) d ⟨wb.heap.size, p, 0, k⟩ rfl rfl ?hO ?hc ?hl ?hb ?_)
        case hO => exact (HVb.out.row.row.below ((Below.refl _ _).alloc (Nat.le_refl _) _) hgl).below ((Below.refl _ _).alloc (Nat.le_refl _) _) (by simp; omega)
        case hc => simp
        case hl => omega
        case hb => simp; omega
        intro g' cp' w4 hO hgr hgg
        have hb3 : Below (wb.heap.size + 1) (wb.alloc (Obj.cells #[.slice (some ⟨p.b, p.off, none⟩) p.es.length p.cap, .int .i64 0, .int .i64 k] 126)) ((wb.alloc (Obj.cells #[.slice (some ⟨p.b, p.off, none⟩) p.es.length p.cap, .int .i64 0, .int .i64 k] 126)).alloc (Obj.cells #[.iface 124 (.pointer (some ⟨wb.heap.size, 0, none⟩))] 95)) := (Below.refl _ _).alloc (by simp) _
        have HN : Hid (OInv w hv l lo hh hi (k + 1) g' cp' (d.push ⟨wb.heap.size, p, 0, k⟩) (w4.setCell ⟨hv, 0, none⟩ (.slice (some ⟨g', 0, none⟩) (d.size + 1) cp'))) :=
          HVb.out.push HA.out.2.1 HA.out.2.2.1 HA.out.2.2.2 HP.out.2 HP.out.1 (by omega) (by omega) hb3 hO hgr (by simpa using hgg)
        have hx := (HVb.out.step ((Below.refl wb.heap.size wb).alloc (Nat.le_refl _) (Obj.cells #[.slice (some ⟨p.b, p.off, none⟩) p.es.length p.cap, .int .i64 0, .int .i64 k] 126))).step (w' := (wb.alloc (Obj.cells #[.slice (some ⟨p.b, p.off, none⟩) p.es.length p.cap, .int .i64 0, .int .i64 k] 126)).alloc (Obj.cells #[.iface 124 (.pointer (some ⟨wb.heap.size, 0, none⟩))] 95)) ((Below.refl _ _).alloc (Nat.le_refl _) _)
        have c4 : w4.cell? ⟨hv, 0, none⟩ = some (.slice (some ⟨g, 0, none⟩) d.size cp) := by rw [hgr.cell_far ⟨hv, 0, none⟩ hx.lt (fun q => hnv (Option.some.inj q))]; exact hx.hdr
        have f4 : w4.frozen? ⟨hv, 0, none⟩ = false := by rw [hgr.frozen_far ⟨hv, 0, none⟩ hx.lt (fun q => hnv (Option.some.inj q))]; exact hx.free 0
        clear hO hgr hgg hb3 hx q0 f0
        go_wp2_with fail
        go_roundw
        case rel => exact ⟨k + 1, g', cp', _, by omega, by go_num, HN.out⟩
        case measure => go_light; simp [intOf]; omega
    · have hkl : k = l.length := by omega
      have HW : Hid (HeapW wr hv w.heap.size g cp d) := by
        have h := HV.out
        exact ⟨h.hdr, h.free, h.lt, h.ne, h.row.row, by have := h.own; omega, h.row.cur, h.row.low, fun c hc => ⟨(h.row.high c hc).1, (h.row.high c hc).2, (h.apart c hc).2⟩⟩
      have HK : Hid (OpenTo l lo hh hi l.length d.toList) := by have := HV.out.opened; rw [hkl] at this; exact this
      have hdk : d.size ≤ k := by simpa using HV.out.opened.few
      clear hkl
      go_wp2_with fail
      refine (init_core hv w.heap.size g cp d _ HW.out (by omega)).mono ?_
      rintro e wf ⟨rfl, hHf, hCf⟩
      have hb := heap_build (d := d)
      have hgl := HW.out.row.lt.1
      have HF : Hid (RowOk wf w.heap.size g cp (Go.Sort.heapBuild gtC d.size 0 (d.size / 2) d) ∧ Heap (Go.Sort.heapBuild gtC d.size 0 (d.size / 2) d) ∧ OpenTo l lo hh hi l.length (Go.Sort.heapBuild gtC d.size 0 (d.size / 2) d).toList ∧ Below w.heap.size w wf) :=
        ⟨hHf.rowOk, hb.1, HK.out.perm hb.2.symm, Chg.below hbw hCf hsw (fun k q => by omega)⟩
      have q0 := hHf.hdr
      clear hHf hCf hb
      go_wp2_with fail
      go_ret
      exact ⟨g, cp, _, rfl, HF.out.1, HF.out.2.1, HF.out.2.2.1, HF.out.2.2.2⟩
end Go.Proofs.Ytjphalbjimggcae
