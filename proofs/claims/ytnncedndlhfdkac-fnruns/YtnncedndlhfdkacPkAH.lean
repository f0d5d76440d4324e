import Derived.Deep.AppendLies
import Derived.Deep.RegionHeld3
import Derived.Deep.RegionLaw
import Derived.Test.YtnncedndlhfdkacPkAG
import Derived.Test.YtnncedndlhfdkacPkAF
import Derived.Test.YtnncedndlhfdkacPkAC
/-
  impl.openCursors.
-/
namespace Go.Proofs.Ytnncedndlhfdkac
open Go.ChangeShapes Go.WideShapes Go.ChangeAt Go.RowKit Go.Deep
set_option linter.unusedVariables false
set_option linter.unusedSimpArgs false
set_option maxRecDepth 100000

theorem Try.infoCur : (Try.prog.info? 83).map (fun i => (i.zero, i.size, i.bytes)) = some (some .nilIface, 1, 16) := by kernel_rfl

/-- One cursor appended to the row. -/
theorem wpList_append_cu {ops : Array Oper} {rest : List Oper} {o : Oper} {a : Act} {Q : Exit → Act → World → Prop} (w : World) (hgd : o.guard = none) (s x : Operand)
    (ho : o.op = .call { callee := .builtin .append, args := #[s, x], argTypes := #[78, 78] })
    (base g cp blk : Nat) (d : Array Cu) (c : Cu) (hs : a.eval s = .slice (some ⟨g, 0, none⟩) d.size cp) (hx : a.eval x = .slice (some ⟨blk, 0, none⟩) 1 1) (hO : OwnH w base g cp d)
    (hc : w.cell? ⟨blk, 0, none⟩ = some (ifc c)) (hlen : d.size ≤ 2 ^ 30) (hbase : base ≤ w.heap.size)
    (h : ∀ g' cp' w', OwnH w' base g' cp' (d.push c) → w.grownBy w' (some g) → (g = g' ∨ g' = w.heap.size) → wpList Try.prog ops Q rest (a.put o.dst (.slice (some ⟨g', 0, none⟩) (d.size + 1) cp')) w') : wpList Try.prog ops Q (o :: rest) a w := by
  obtain ⟨i, hi, hz0, hz1, hz2⟩ := info_parts Try.infoCur
  refine wpList_append_lies w hgd s x 78 ho base 83 i _ 1 16 Try.underlying78 hi hz0 hz1 hz2 rfl (by decide) (.slice (some ⟨g, 0, none⟩) d.size cp) d.size (d.toList.map ifc) hs hO ⟨blk, 0, none⟩ 1 1 [ifc c] hx rfl ?_ ?_ (by decide) ?_ ?_ hbase w.heap.size rfl ?_
  · intro j u hu
    have hj : j < 1 := by simpa using (List.getElem?_eq_some_iff.1 hu).1
    obtain rfl : j = 0 := by omega
    simp at hu
    rw [← hu]
    simpa [Addr.add] using hc
  · intro u hu
    simp at hu
    subst hu
    rfl
  · unfold maxLen; omega
  · omega
  · intro g' cp' w' hO' hgr hat hlt
    refine h g' cp' w' ?_ hgr ?_
    · unfold OwnH
      have e : (d.push c).toList.map ifc = d.toList.map ifc ++ [ifc c] := by simp
      rw [Array.size_push, e]
      exact hO'
    · rcases hat with q | q
      · exact .inl (by simpa [Value.ownBlock] using q)
      · exact .inr q

set_option maxHeartbeats 4000000 in
theorem openCursors_core (b off cap : Nat) (l : List Rm) (lo hi : ByteArray) (hh : Bool) (w : World) (hR : RmsAt w b off l) (hG : GoodRs (esM l)) (hB : b < w.heap.size) :
    Calls Try.prog 41 #[.slice (some ⟨b, off, none⟩) l.length cap, .agg #[.string lo, .bool hh, .string hi]] w fun e w' =>
      ∃ (g cp : Nat) (d : Array Cu), e = .returned (.slice (some ⟨g, 0, none⟩) d.size cp) ∧ RowOk w' w.heap.size g cp d ∧ Heap d ∧ OpenTo l lo hh hi l.length d.toList ∧ Below w.heap.size w w' := by
  have HR : Hid (RmsAt w b off l) := hR
  have HG : Hid (GoodRs (esM l)) := hG
  have hl50 : l.length ≤ 50 := by simpa using hG.1
  clear hR hG
  obtain ⟨i, hi0, hz0, hz1, hz2⟩ := info_parts Try.infoCur
  have HI : Hid (Try.prog.info? 83 = some i ∧ i.zero = some .nilIface ∧ i.size = 1 ∧ i.bytes = 16) := ⟨hi0, hz0, hz1, hz2⟩
  clear hi0 hz0 hz1 hz2
  obtain ⟨W1, hW1⟩ : ∃ W1 : World, W1 = w.alloc (Obj.cells #[.string lo, .bool hh, .string hi] 31) := ⟨_, rfl⟩
  have hb1 : Below w.heap.size w W1 := by rw [hW1]; exact (Below.refl _ _).alloc (Nat.le_refl _) _
  have hz1 : W1.heap.size = w.heap.size + 1 := by rw [hW1]; simp
  have HG1 : Hid (W1.cell? ⟨w.heap.size, 0, none⟩ = some (.string lo) ∧ W1.cell? ⟨w.heap.size, 1, none⟩ = some (.bool hh) ∧ W1.cell? ⟨w.heap.size, 2, none⟩ = some (.string hi)) := by
    refine ⟨?_, ?_, ?_⟩ <;> (rw [hW1]; simp)
  go_enter Try.func41, Try.ntmps41
  go_wp2_with (at_make; refine wpList_make_own _ rfl _ _ 78 rfl w.heap.size 83 i _ 1 Try.underlying78 HI.out.1 HI.out.2.1 HI.out.2.2.1 _ _ _ l.length rfl rfl ?_ ?hb ?hm ?hs ?_)
  case hb => rw [HI.out.2.2.2]; omega
  case hm => unfold maxLen; omega
  case hs => simp
  · rfl
  rw [← hW1]
  clear hW1
  intro w2 hown hgr
  have hb2 : Below W1.heap.size W1 w2 := (Below.refl _ _).grown hgr (Nat.le_refl _) (fun k hk => by cases hk)
  have hs2 : w.heap.size + 1 < w2.heap.size := (World.ownsRow.lt hown _ rfl).2
  obtain ⟨W3, hW3⟩ : ∃ W3 : World, W3 = w2.alloc (Obj.cells #[.slice (some ⟨w.heap.size + 1, 0, none⟩) 0 l.length] 78) := ⟨_, rfl⟩
  have hb3 : Below w2.heap.size w2 W3 := by rw [hW3]; exact (Below.refl _ _).alloc (Nat.le_refl _) _
  have hz3 : W3.heap.size = w2.heap.size + 1 := by rw [hW3]; simp
  have HO : Hid (OInv w w2.heap.size l lo hh hi 0 (w.heap.size + 1) l.length #[] W3) := by
    have k13 : Below W1.heap.size W1 W3 := hb2.trans (hb3.mono hb2.size)
    exact {
      below := hb1.trans (k13.mono (by omega))
      hdr := by rw [hW3]; simp
      free := fun j => by
        rw [hW3]
        exact World.ownsRow.frozenAt (World.ownsRow_lit (base := 0) (e := 78) (size := 1) w2 #[.slice (some ⟨w.heap.size + 1, 0, none⟩) 0 l.length] 1 (Nat.zero_le _) (by decide) rfl) j
      lt := by omega
      own := by omega
      new := by omega
      ne := by omega
      apart := fun c hc => by simp at hc
      row := ⟨OwnH.below (d := #[]) hown hb3 (by omega), fun c hc => by simp at hc, fun c hc => by simp at hc, fun c hc => by simp at hc⟩
      opened := openTo_zero l lo hi hh
      rg0 := by rw [k13.cell (p := ⟨w.heap.size, 0, none⟩) (by show w.heap.size < W1.heap.size; omega)]; exact HG1.out.1
      rg1 := by rw [k13.cell (p := ⟨w.heap.size, 1, none⟩) (by show w.heap.size < W1.heap.size; omega)]; exact HG1.out.2.1
      rg2 := by rw [k13.cell (p := ⟨w.heap.size, 2, none⟩) (by show w.heap.size < W1.heap.size; omega)]; exact HG1.out.2.2 }
  clear hown hgr
  go_wp2_with fail
  rw [← hW3]
  clear hW3 HG1 hb1 hb2 hb3
  generalize hhv : w2.heap.size = hv at *
  clear hhv
  go_loopw [14] (fun c wr => ∃ (k g cp : Nat) (d : Array Cu), k ≤ l.length ∧ c = .int .i64 k ∧ OInv w hv l lo hh hi k g cp d wr) (fun c _ => l.length - (intOf c).toNat)
  case atStart => exact ⟨0, _, _, #[], Nat.zero_le _, rfl, HO.out⟩
  case round =>
    obtain ⟨k, g, cp, d, hk, rfl, hI⟩ := hrel
    have HV : Hid (OInv w hv l lo hh hi k g cp d wr) := hI
    have hbw := hI.below
    have hsw := hbw.size
    clear hI HO
    by_cases hlt : k < l.length
    · obtain ⟨r, hr⟩ : ∃ r, l[k]? = some r := ⟨_, List.getElem?_eq_getElem hlt⟩
      obtain ⟨c0, ha⟩ := (HR.out.below hbw hB) k r hr
      have HA : Hid (r.at wr ∧ l[k]? = some r ∧ GoodR r.es ∧ r.b < w.heap.size) := ⟨ha, hr, goodRs_mem HG.out (List.mem_of_getElem? hr), (HR.out k r hr).2.lt⟩
      clear ha hr
      obtain ⟨Wa, hWa⟩ : ∃ Wa : World, Wa = wr.alloc (Obj.cells #[.slice (some ⟨r.b, r.off, none⟩) r.es.length r.cap] 40) := ⟨_, rfl⟩
      have hba : Below wr.heap.size wr Wa := by rw [hWa]; exact (Below.refl _ _).alloc (Nat.le_refl _) _
      have hca : Wa.cell? ⟨wr.heap.size, 0, none⟩ = some (.slice (some ⟨r.b, r.off, none⟩) r.es.length r.cap) := by rw [hWa]; simp
      have HVa : Hid (OInv w hv l lo hh hi k g cp d Wa) := HV.out.step hba
      have HAa : Hid (r.at Wa) := HA.out.1.below hba
      go_upto_region 5 with fail
      rw [← hWa]
      clear hWa c0
      have q0 := HVa.out.rg0
      have q1 := HVa.out.rg1
      have q2 := HVa.out.rg2
      go_wp2_with fail
      refine (entriesIn_core r lo hi hh _ HAa.out HA.out.2.2.1).mono ?_
      rintro e wb ⟨p, rfl, hpa, hpp, hbb⟩
      have HP : Hid (p.at wb ∧ PartOf r p lo hh hi) := ⟨hpa, hpp⟩
      have HVb : Hid (OInv w hv l lo hh hi k g cp d wb) := HVa.out.step hbb
      clear hpa hpp q0 q1 q2 hca
      by_cases hp0 : p.es.length = 0
      · have HN : Hid (OInv w hv l lo hh hi (k + 1) g cp d wb) := { HVb.out with opened := openTo_skip HVb.out.opened HA.out.2.1 HP.out.2 (List.eq_nil_of_length_eq_zero hp0) }
        go_wp2_with fail
        go_roundw
        case rel => exact ⟨k + 1, g, cp, d, by omega, by go_num, HN.out⟩
        case measure => go_light; simp [intOf]; omega
      · have zp : (0 : Int) < (p.es.length : Int) := by omega
        have q0 := HVb.out.hdr
        have hdk : d.size ≤ k := by simpa using HVb.out.opened.few
        have hgl := HVb.out.row.row.lt.2
        have hvl := HVb.out.lt
        have f0 := HVb.out.free 0
        have hnv := HVb.out.ne
        have hws := HVb.out.below.size
        clear hba hbb hbw hsw
        go_wp2_with (at_builtin; refine wpList_append_cu _ rfl _ _ rfl w.heap.size g cp (wb.heap.size + 1) d ⟨wb.heap.size, p, 0, k⟩ rfl rfl ?hO ?hc ?hl ?hb ?_)
        case hO => exact (HVb.out.row.row.below ((Below.refl _ _).alloc (Nat.le_refl _) _) hgl).below ((Below.refl _ _).alloc (Nat.le_refl _) _) (by simp; omega)
        case hc => simp
        case hl => omega
        case hb => simp; omega
        intro g' cp' w4 hO hgr hgg
        have hb3 : Below (wb.heap.size + 1) (wb.alloc (Obj.cells #[.slice (some ⟨p.b, p.off, none⟩) p.es.length p.cap, .int .i64 0, .int .i64 k] 119)) ((wb.alloc (Obj.cells #[.slice (some ⟨p.b, p.off, none⟩) p.es.length p.cap, .int .i64 0, .int .i64 k] 119)).alloc (Obj.cells #[.iface 117 (.pointer (some ⟨wb.heap.size, 0, none⟩))] 83)) := (Below.refl _ _).alloc (by simp) _
        have HN : Hid (OInv w hv l lo hh hi (k + 1) g' cp' (d.push ⟨wb.heap.size, p, 0, k⟩) (w4.setCell ⟨hv, 0, none⟩ (.slice (some ⟨g', 0, none⟩) (d.size + 1) cp'))) :=
          HVb.out.push HA.out.2.1 HA.out.2.2.1 HA.out.2.2.2 HP.out.2 HP.out.1 (by omega) (by omega) hb3 hO hgr (by simpa using hgg)
        have hx := (HVb.out.step ((Below.refl wb.heap.size wb).alloc (Nat.le_refl _) (Obj.cells #[.slice (some ⟨p.b, p.off, none⟩) p.es.length p.cap, .int .i64 0, .int .i64 k] 119))).step (w' := (wb.alloc (Obj.cells #[.slice (some ⟨p.b, p.off, none⟩) p.es.length p.cap, .int .i64 0, .int .i64 k] 119)).alloc (Obj.cells #[.iface 117 (.pointer (some ⟨wb.heap.size, 0, none⟩))] 83)) ((Below.refl _ _).alloc (Nat.le_refl _) _)
        have c4 : w4.cell? ⟨hv, 0, none⟩ = some (.slice (some ⟨g, 0, none⟩) d.size cp) := by rw [hgr.cell_far ⟨hv, 0, none⟩ hx.lt (fun q => hnv (Option.some.inj q))]; exact hx.hdr
        have f4 : w4.frozen? ⟨hv, 0, none⟩ = false := by rw [hgr.frozen_far ⟨hv, 0, none⟩ hx.lt (fun q => hnv (Option.some.inj q))]; exact hx.free 0
        clear hO hgr hgg hb3 hx q0 f0
        go_wp2_with fail
        go_roundw
        case rel => exact ⟨k + 1, g', cp', _, by omega, by go_num, HN.out⟩
        case measure => go_light; simp [intOf]; omega
    · have hkl : k = l.length := by omega
      have HW : Hid (HeapW wr hv w.heap.size g cp d) := by
        have h := HV.out
        exact ⟨h.hdr, h.free, h.lt, h.ne, h.row.row, by have := h.own; omega, h.row.cur, h.row.low, fun c hc => ⟨(h.row.high c hc).1, (h.row.high c hc).2, (h.apart c hc).2⟩⟩
      have HK : Hid (OpenTo l lo hh hi l.length d.toList) := by have := HV.out.opened; rw [hkl] at this; exact this
      have hdk : d.size ≤ k := by simpa using HV.out.opened.few
      clear hkl
      go_wp2_with fail
      refine (init_core hv w.heap.size g cp d _ HW.out (by omega)).mono ?_
      rintro e wf ⟨rfl, hHf, hCf⟩
      have hb := heap_build (d := d)
      have hgl := HW.out.row.lt.1
      have HF : Hid (RowOk wf w.heap.size g cp (Go.Sort.heapBuild gtC d.size 0 (d.size / 2) d) ∧ Heap (Go.Sort.heapBuild gtC d.size 0 (d.size / 2) d) ∧ OpenTo l lo hh hi l.length (Go.Sort.heapBuild gtC d.size 0 (d.size / 2) d).toList ∧ Below w.heap.size w wf) :=
        ⟨hHf.rowOk, hb.1, HK.out.perm hb.2.symm, Chg.below hbw hCf hsw (fun k q => by omega)⟩
      have q0 := hHf.hdr
      clear hHf hCf hb
      go_wp2_with fail
      go_ret
      exact ⟨g, cp, _, rfl, HF.out.1, HF.out.2.1, HF.out.2.2.1, HF.out.2.2.2⟩
end Go.Proofs.Ytnncedndlhfdkac

/-
  The merger in memory; its look at the deletes.
-/
namespace Go.Proofs.Ytnncedndlhfdkac
open Go.ChangeShapes Go.WideShapes Go.ChangeAt Go.RowKit Go.Deep
set_option linter.unusedVariables false
set_option linter.unusedSimpArgs false
set_option maxRecDepth 100000

def cellsD (ds : List (Nat × Int)) : List Value := ds.flatMap fun d => [.int .i64 d.1, .int .u64 d.2]
theorem cellsD_append (a b : List (Nat × Int)) : cellsD (a ++ b) = cellsD a ++ cellsD b := by simp [cellsD]
theorem cellsD_len : ∀ ds : List (Nat × Int), (cellsD ds).length = ds.length * 2
  | [] => rfl
  | d :: ds => by
    have := cellsD_len ds
    unfold cellsD at *
    rw [List.flatMap_cons, List.length_append, this]; simp; omega
theorem cellsD_get : ∀ (ds : List (Nat × Int)) (k : Nat) (d : Nat × Int), ds[k]? = some d → (cellsD ds)[k * 2]? = some (.int .i64 d.1) ∧ (cellsD ds)[k * 2 + 1]? = some (.int .u64 d.2)
  | [], k, d, h => by simp at h
  | x :: ds, 0, d, h => by
    simp at h
    subst h
    exact ⟨rfl, rfl⟩
  | x :: ds, k + 1, d, h => by
    simp at h
    have := cellsD_get ds k d h
    have e : cellsD (x :: ds) = .int .i64 x.1 :: .int .u64 x.2 :: cellsD ds := rfl
    rw [e, show (k + 1) * 2 = k * 2 + 1 + 1 by omega, show k * 2 + 1 + 1 + 1 = (k * 2 + 1) + 1 + 1 by omega]
    simpa using this

/-- The merger's own variable. -/
def OwnM (w : World) (base mb : Nat) (vs : List Value) : Prop := w.ownsRow base 76 7 (.slice (some ⟨mb, 0, none⟩) 1 1) 1 vs
def OwnD (w : World) (base : Nat) (dv : Value) (ds : List (Nat × Int)) : Prop := w.ownsRow base 125 2 dv ds.length (cellsD ds)
/-- The merger with its two rows. -/
structure MgAt (w : World) (base mb : Nat) (c : ByteArray × ByteArray × ByteArray) (dv : Value) (ds : List (Nat × Int)) (dec : Bool) (ts : Int) (cg cc : Nat) (L : List Ent) : Prop where
  own : OwnM w base mb [.string c.1, .string c.2.1, .string c.2.2, dv, .bool dec, .int .u64 ts, .slice (some ⟨cg, 0, none⟩) L.length cc]
  dels : OwnD w base dv ds
  cells : OwnC w base cg cc L
/-- The merger's blocks. -/
def Mine (mb : Nat) (dv : Value) (cg : Nat) (k : Nat) : Prop := k = mb ∨ dv.ownBlock = some k ∨ k = cg
theorem MgAt.chg {S : Nat → Prop} {w w' : World} {base mb : Nat} {c : ByteArray × ByteArray × ByteArray} {dv : Value} {ds : List (Nat × Int)} {dec : Bool} {ts : Int} {cg cc : Nat} {L : List Ent} (h : MgAt w base mb c dv ds dec ts cg cc L) (hb : Chg S w w') (hn : ∀ k, Mine mb dv cg k → ¬ S k) : MgAt w' base mb c dv ds dec ts cg cc L where
  own := own_chg h.own hb (fun k q => hn k (.inl (by simpa [Value.ownBlock] using q.symm)))
  dels := own_chg h.dels hb (fun k q => hn k (.inr (.inl q)))
  cells := own_chg h.cells hb (fun k q => hn k (.inr (.inr (by simpa [Value.ownBlock] using q.symm))))
theorem MgAt.below {w w' : World} {base mb : Nat} {c : ByteArray × ByteArray × ByteArray} {dv : Value} {ds : List (Nat × Int)} {dec : Bool} {ts : Int} {cg cc : Nat} {L : List Ent} (h : MgAt w base mb c dv ds dec ts cg cc L) (hb : Below w.heap.size w w') : MgAt w' base mb c dv ds dec ts cg cc L :=
  h.chg (S := fun _ => False) (Chg.of_below hb) (fun k _ q => q)
theorem MgAt.low {w : World} {base mb : Nat} {c : ByteArray × ByteArray × ByteArray} {dv : Value} {ds : List (Nat × Int)} {dec : Bool} {ts : Int} {cg cc : Nat} {L : List Ent} (h : MgAt w base mb c dv ds dec ts cg cc L) : ∀ k, Mine mb dv cg k → base ≤ k ∧ k < w.heap.size := by
  rintro k (rfl | q | rfl)
  · exact World.ownsRow.lt h.own k rfl
  · exact World.ownsRow.lt h.dels k q
  · exact World.ownsRow.lt h.cells k rfl
theorem MgAt.cell {w : World} {base mb : Nat} {c : ByteArray × ByteArray × ByteArray} {dv : Value} {ds : List (Nat × Int)} {dec : Bool} {ts : Int} {cg cc : Nat} {L : List Ent} (h : MgAt w base mb c dv ds dec ts cg cc L) :
    w.cell? ⟨mb, 0, none⟩ = some (.string c.1) ∧ w.cell? ⟨mb, 1, none⟩ = some (.string c.2.1) ∧ w.cell? ⟨mb, 2, none⟩ = some (.string c.2.2) ∧ w.cell? ⟨mb, 3, none⟩ = some dv ∧ w.cell? ⟨mb, 4, none⟩ = some (.bool dec) ∧ w.cell? ⟨mb, 5, none⟩ = some (.int .u64 ts) ∧ w.cell? ⟨mb, 6, none⟩ = some (.slice (some ⟨cg, 0, none⟩) L.length cc) ∧ (∀ j, w.frozen? ⟨mb, j, none⟩ = false) :=
  ⟨World.ownsRow.cellAt h.own 0 (by decide), World.ownsRow.cellAt h.own 1 (by decide), World.ownsRow.cellAt h.own 2 (by decide), World.ownsRow.cellAt h.own 3 (by decide), World.ownsRow.cellAt h.own 4 (by decide), World.ownsRow.cellAt h.own 5 (by decide), World.ownsRow.cellAt h.own 6 (by decide), fun j => World.ownsRow.frozenAt h.own j⟩
/-- A cell of the merger written: its rows stay. -/
theorem MgAt.apart {w : World} {base mb : Nat} {c : ByteArray × ByteArray × ByteArray} {dv : Value} {ds : List (Nat × Int)} {dec : Bool} {ts : Int} {cg cc : Nat} {L : List Ent} (h : MgAt w base mb c dv ds dec ts cg cc L) : (∀ k, dv.ownBlock = some k → ¬ k = mb) ∧ ¬ cg = mb ∧ (∀ k, dv.ownBlock = some k → ¬ k = cg) := by
  refine ⟨fun k hk q => ?_, fun q => ?_, fun k hk q => ?_⟩
  · exact own_apart h.dels h.own (by decide) k hk (by rw [q]; rfl)
  · exact own_apart h.cells h.own (by decide) cg rfl (by rw [q]; rfl)
  · exact own_apart h.dels h.cells (by decide) k hk (by rw [q]; rfl)
theorem rows_set {w : World} {base mb : Nat} {c : ByteArray × ByteArray × ByteArray} {dv : Value} {ds : List (Nat × Int)} {dec : Bool} {ts : Int} {cg cc : Nat} {L : List Ent} (h : MgAt w base mb c dv ds dec ts cg cc L) (j : Nat) (u : Value) :
    OwnD (w.setCell ⟨mb, j, none⟩ u) base dv ds ∧ OwnC (w.setCell ⟨mb, j, none⟩ u) base cg cc L :=
  ⟨own_chg h.dels (Chg.of_set (S := fun k => k = mb) w mb j u rfl) h.apart.1, own_chg h.cells (Chg.of_set (S := fun k => k = mb) w mb j u rfl) (fun k q => by simp [Value.ownBlock] at q; subst q; exact h.apart.2.1)⟩
theorem MgAt.setCol {w : World} {base mb : Nat} {c : ByteArray × ByteArray × ByteArray} {dv : Value} {ds : List (Nat × Int)} {dec : Bool} {ts : Int} {cg cc : Nat} {L : List Ent} (h : MgAt w base mb c dv ds dec ts cg cc L) (c' : ByteArray × ByteArray × ByteArray) :
    MgAt (((w.setCell ⟨mb, 0, none⟩ (.string c'.1)).setCell ⟨mb, 1, none⟩ (.string c'.2.1)).setCell ⟨mb, 2, none⟩ (.string c'.2.2)) base mb c' dv ds dec ts cg cc L := by
  have h1 : MgAt (w.setCell ⟨mb, 0, none⟩ (.string c'.1)) base mb (c'.1, c.2.1, c.2.2) dv ds dec ts cg cc L := ⟨(World.ownsRow.stored h.own 0 _).1, (rows_set h 0 _).1, (rows_set h 0 _).2⟩
  have h2 : MgAt ((w.setCell ⟨mb, 0, none⟩ (.string c'.1)).setCell ⟨mb, 1, none⟩ (.string c'.2.1)) base mb (c'.1, c'.2.1, c.2.2) dv ds dec ts cg cc L := ⟨(World.ownsRow.stored h1.own 1 _).1, (rows_set h1 1 _).1, (rows_set h1 1 _).2⟩
  exact ⟨(World.ownsRow.stored h2.own 2 _).1, (rows_set h2 2 _).1, (rows_set h2 2 _).2⟩
theorem MgAt.setDec {w : World} {base mb : Nat} {c : ByteArray × ByteArray × ByteArray} {dv : Value} {ds : List (Nat × Int)} {dec : Bool} {ts : Int} {cg cc : Nat} {L : List Ent} (h : MgAt w base mb c dv ds dec ts cg cc L) (dec' : Bool) :
    MgAt (w.setCell ⟨mb, 4, none⟩ (.bool dec')) base mb c dv ds dec' ts cg cc L := ⟨(World.ownsRow.stored h.own 4 _).1, (rows_set h 4 _).1, (rows_set h 4 _).2⟩
theorem MgAt.setTs {w : World} {base mb : Nat} {c : ByteArray × ByteArray × ByteArray} {dv : Value} {ds : List (Nat × Int)} {dec : Bool} {ts : Int} {cg cc : Nat} {L : List Ent} (h : MgAt w base mb c dv ds dec ts cg cc L) (ts' : Int) :
    MgAt (w.setCell ⟨mb, 5, none⟩ (.int .u64 ts')) base mb c dv ds dec ts' cg cc L := ⟨(World.ownsRow.stored h.own 5 _).1, (rows_set h 5 _).1, (rows_set h 5 _).2⟩
/-- Cut to nothing. -/
def cut0 : Value → Value
  | .slice a _ cap => .slice a 0 cap
  | v => v
theorem cut0_block {w : World} {base : Nat} {dv : Value} {ds : List (Nat × Int)} (h : OwnD w base dv ds) : (cut0 dv).ownBlock = dv.ownBlock := by
  rcases h.2 with ⟨rfl, _⟩ | ⟨g, cap, cur, rfl, _⟩ <;> rfl
theorem OwnD.cut {w : World} {base : Nat} {dv : Value} {ds : List (Nat × Int)} (h : OwnD w base dv ds) : OwnD w base (cut0 dv) [] := by
  rcases h.2 with ⟨rfl, _⟩ | ⟨g, cap, cur, rfl, h1, h2, h3, h4, h5, h6⟩
  · exact ⟨rfl, .inl ⟨rfl, rfl⟩⟩
  · exact ⟨rfl, .inr ⟨g, cap, cur, rfl, h1, h2, Nat.zero_le _, h4, h5, by simp [cellsD]⟩⟩
theorem MgAt.setDels {w : World} {base mb : Nat} {c : ByteArray × ByteArray × ByteArray} {dv dv' : Value} {ds ds' : List (Nat × Int)} {dec : Bool} {ts : Int} {cg cc : Nat} {L : List Ent} (h : MgAt w base mb c dv ds dec ts cg cc L) (hd : OwnD w base dv' ds') :
    MgAt (w.setCell ⟨mb, 3, none⟩ dv') base mb c dv' ds' dec ts cg cc L :=
  ⟨(World.ownsRow.stored h.own 3 _).1, own_chg hd (Chg.of_set (S := fun k => k = mb) w mb 3 dv' rfl) (fun k hk q => own_apart hd h.own (by decide) k hk (by rw [q]; rfl)), (rows_set h 3 _).2⟩
theorem MgAt.setCells {w : World} {base mb : Nat} {c : ByteArray × ByteArray × ByteArray} {dv : Value} {ds : List (Nat × Int)} {dec : Bool} {ts : Int} {cg cc cg' cc' : Nat} {L L' : List Ent} (h : MgAt w base mb c dv ds dec ts cg cc L) (hd : OwnC w base cg' cc' L') :
    MgAt (w.setCell ⟨mb, 6, none⟩ (.slice (some ⟨cg', 0, none⟩) L'.length cc')) base mb c dv ds dec ts cg' cc' L' :=
  ⟨(World.ownsRow.stored h.own 6 _).1, (rows_set h 6 _).1, own_chg hd (Chg.of_set (S := fun k => k = mb) w mb 6 _ rfl) (fun k hk q => own_apart hd h.own (by decide) k hk (by rw [q]; rfl))⟩

set_option maxHeartbeats 1000000 in
theorem hides_core (base mb : Nat) (c : ByteArray × ByteArray × ByteArray) (dv : Value) (ds : List (Nat × Int)) (dec : Bool) (ts : Int) (cg cc : Nat) (L : List Ent) (t : Int) (a : Nat) (w : World) (h : MgAt w base mb c dv ds dec ts cg cc L) (hn : ds.length ≤ 1048576) :
    Calls Try.prog 78 #[.pointer (some ⟨mb, 0, none⟩), .int .u64 t, .int .i64 a] w fun e w' => e = .returned (.bool (hides ds t a)) ∧ Below w.heap.size w w' := by
  obtain ⟨_, _, _, c3, _, _, _, _⟩ := h.cell
  rcases h.dels.2 with ⟨rfl, h0⟩ | ⟨g, cap, cur, rfl, h1, h2, h3, h4, h5, h6⟩
  · have hd : ds = [] := List.eq_nil_of_length_eq_zero h0
    subst hd
    clear h
    go_enter Try.func78, Try.ntmps78
    go_wp2_with fail
    go_loopw [14] (fun c wr => c = .int .i64 0 ∧ wr = w) (fun _ _ => 0)
    case atStart => exact ⟨rfl, rfl⟩
    case round =>
      obtain ⟨rfl, rfl⟩ := hrel
      go_wp2_with fail
      go_ret
      exact ⟨rfl, Below.refl _ _⟩
  · have HD : Hid (OwnD w base (.slice (some ⟨g, 0, none⟩) ds.length cap) ds) := h.dels
    have hgl : g < w.heap.size := (World.ownsRow.lt h.dels g rfl).2
    clear h h1 h2 h3 h4 h5 h6
    go_enter Try.func78, Try.ntmps78
    go_wp2_with fail
    go_loopw [14] (fun c wr => ∃ k : Nat, k ≤ ds.length ∧ c = .int .i64 k ∧ hides (ds.take k) t a = false ∧ Below w.heap.size w wr) (fun c _ => ds.length - (intOf c).toNat)
    case atStart => exact ⟨0, Nat.zero_le _, rfl, rfl, Below.refl _ _⟩
    case round =>
      obtain ⟨k, hk, rfl, hf, hb⟩ := hrel
      have HF : Hid (hides (ds.take k) t a = false) := hf
      have hs := hb.size
      clear hf c3
      by_cases hlt : k < ds.length
      · obtain ⟨d, hd⟩ : ∃ d, ds[k]? = some d := ⟨_, List.getElem?_eq_getElem hlt⟩
        have hg2 := cellsD_get ds k d hd
        have q0 : wr.cell? ⟨g, k * 2, none⟩ = some (.int .i64 d.1) := by
          rw [hb.cell (p := ⟨g, k * 2, none⟩) hgl]; exact (World.ownsRow.cellAt HD.out (k * 2) (by omega)).trans hg2.1
        have q1 : wr.cell? ⟨g, k * 2 + 1, none⟩ = some (.int .u64 d.2) := by
          rw [hb.cell (p := ⟨g, k * 2 + 1, none⟩) hgl]; exact (World.ownsRow.cellAt HD.out (k * 2 + 1) (by omega)).trans hg2.2
        have HN : Hid (ds[k]? = some d) := hd
        have HT : Hid (hides (ds.take (k + 1)) t a = (decide (d.1 < a) && decide (t ≤ d.2))) := by
          show hides (ds.take (k + 1)) t a = _
          have := HF.out
          unfold hides at *
          rw [List.take_add_one, hd, List.any_append, this]; simp
        clear hg2 hd
        have zk : (k : Int) < (ds.length : Int) := by omega
        by_cases h1 : d.1 < a
        · have z1 : (d.1 : Int) < (a : Int) := by omega
          by_cases h2 : t ≤ d.2
          · have HX : Hid (hides ds t a = true) := by
              show hides ds t a = true
              unfold hides
              rw [List.any_eq_true]
              exact ⟨d, List.mem_of_getElem? HN.out, by simp [h1, h2]⟩
            go_wp2_with fail
            go_ret
            exact ⟨by rw [HX.out]; rfl, (hb.alloc (by omega) _)⟩
          · have HX : Hid (hides (ds.take (k + 1)) t a = false) := by show _ = _; rw [HT.out]; simp [h2]
            go_wp2_with fail
            go_roundw
            case rel => exact ⟨k + 1, by omega, by go_num, HX.out, hb.alloc (by omega) _⟩
            case measure => go_light; simp [intOf]; omega
        · have z1 : ¬ (d.1 : Int) < (a : Int) := by omega
          have HX : Hid (hides (ds.take (k + 1)) t a = false) := by show _ = _; rw [HT.out]; simp [h1]
          go_wp2_with fail
          go_roundw
          case rel => exact ⟨k + 1, by omega, by go_num, HX.out, hb.alloc (by omega) _⟩
          case measure => go_light; simp [intOf]; omega
      · have HX : Hid (hides ds t a = false) := by
          have := HF.out
          rw [List.take_of_length_le (by omega)] at this
          exact this
        go_wp2_with fail
        go_ret
        exact ⟨by rw [HX.out]; rfl, hb⟩
end Go.Proofs.Ytnncedndlhfdkac

/-
  (*impl.merger).take.
-/
namespace Go.Proofs.Ytnncedndlhfdkac
open Go.ChangeShapes Go.WideShapes Go.ChangeAt Go.RowKit Go.Deep
set_option linter.unusedVariables false
set_option linter.unusedSimpArgs false
set_option maxRecDepth 100000

theorem colNe_run (e : Ent) (r f q : ByteArray) (b : Bool) (h : sameCol e ⟨r, f, q, 0, 0, ⟨#[]⟩⟩ = !b) (wx : World) : (binOp .neq 73 (.agg #[.string e.row, .string e.fam, .string e.qual]) (.agg #[.string r, .string f, .string q])).run Try.prog wx = .ok (.bool b) wx := by
  have hb : b = !(sameCol e ⟨r, f, q, 0, 0, ⟨#[]⟩⟩) := by rw [h]; simp
  rw [hb]
  unfold sameCol
  cases h1 : (e.row.toList == r.toList)
  · go_simp
  · cases h2 : (e.fam.toList == f.toList)
    · go_simp
    · cases h3 : (e.qual.toList == q.toList)
      · go_simp
      · go_simp
theorem Try.infoDel : (Try.prog.info? 125).map (fun i => (i.zero, i.size, i.bytes)) = some (some (.agg #[.int .i64 0, .int .u64 0]), 2, 16) := by kernel_rfl

/-- One cell appended, at a step of a region that draws. -/
theorem step_append_cel {ops : Array Oper} {o : Oper} {a : Act} {K : Act → World → Prop} {Q : Exit → Act → World → Prop} {E : Prop} (w : World) (hgd : o.guard = none) (s x : Operand)
    (ho : o.op = .call { callee := .builtin .append, args := #[s, x], argTypes := #[27, 27] })
    (base g cp blk : Nat) (fs : List Ent) (e : Ent) (hs : a.eval s = .slice (some ⟨g, 0, none⟩) fs.length cp) (hx : a.eval x = .slice (some ⟨blk, 0, none⟩) 1 1) (hO : OwnC w base g cp fs)
    (hc : CelsAt w blk 0 [e]) (hlen : fs.length ≤ 2 ^ 30) (hbase : base ≤ w.heap.size)
    (h : ∀ g' cp' w', OwnC w' base g' cp' (fs ++ [e]) → w.grownBy w' (some g) → (g = g' ∨ g' = w.heap.size) → K (a.put o.dst (.slice (some ⟨g', 0, none⟩) (fs.length + 1) cp')) w') : if Region.wanted o (yielded ops a.tmps) = true then Oper.wp Try.prog o a w K Q else E := by
  obtain ⟨i, hi, hz0, hz1, hz2⟩ := info_parts Try.infoCel
  obtain ⟨c0, c1, c2, c3, c4⟩ := hc 0 e rfl
  refine step_append_lies w hgd s x 27 ho base 69 i _ 5 72 Try.underlying27 hi hz0 hz1 hz2 rfl (by decide) (.slice (some ⟨g, 0, none⟩) fs.length cp) fs.length (cellsC fs) hs hO ⟨blk, 0, none⟩ 1 1 (cellsC [e]) hx rfl ?_ ?_ (by decide) ?_ ?_ hbase w.heap.size rfl ?_
  · intro j u hu
    have hj : j < 5 := by
      have := (List.getElem?_eq_some_iff.1 hu).1
      rw [length_cellsC] at this
      simpa using this
    rw [Addr.add_mid, Nat.zero_add]
    simp only [Nat.zero_mul, Nat.zero_add] at c0 c1 c2 c3 c4
    match j, hj, hu with
    | 0, _, hu => simp [cellsC] at hu; rw [← hu]; exact c0
    | 1, _, hu => simp [cellsC] at hu; rw [← hu]; exact c1
    | 2, _, hu => simp [cellsC] at hu; rw [← hu]; exact c2
    | 3, _, hu => simp [cellsC] at hu; rw [← hu]; exact c3
    | 4, _, hu => simp [cellsC] at hu; rw [← hu]; exact c4
  · intro u hu
    simp [cellsC] at hu
    rcases hu with rfl | rfl | rfl | rfl | rfl <;> rfl
  · unfold maxLen; omega
  · omega
  · intro g' cp' w' hO' hgr hat hlt
    refine h g' cp' w' ?_ hgr ?_
    · unfold OwnC
      rw [List.length_append, cellsC_append]
      exact hO'
    · rcases hat with q | q
      · exact .inl (by simpa [Value.ownBlock] using q)
      · exact .inr q

/-- One delete appended, at a step of a region that draws. -/
theorem step_append_del {ops : Array Oper} {o : Oper} {a : Act} {K : Act → World → Prop} {Q : Exit → Act → World → Prop} {E : Prop} (w : World) (hgd : o.guard = none) (s x : Operand)
    (ho : o.op = .call { callee := .builtin .append, args := #[s, x], argTypes := #[74, 74] })
    (base blk : Nat) (dv : Value) (ds : List (Nat × Int)) (ag : Nat) (t : Int) (hs : a.eval s = dv) (hx : a.eval x = .slice (some ⟨blk, 0, none⟩) 1 1) (hO : OwnD w base dv ds)
    (h0 : w.cell? ⟨blk, 0, none⟩ = some (.int .i64 ag)) (h1 : w.cell? ⟨blk, 1, none⟩ = some (.int .u64 t)) (hlen : ds.length ≤ 2 ^ 30) (hbase : base ≤ w.heap.size)
    (h : ∀ g' cp' w', OwnD w' base (.slice (some ⟨g', 0, none⟩) (ds.length + 1) cp') (ds ++ [(ag, t)]) → w.grownBy w' dv.ownBlock → (dv.ownBlock = some g' ∨ g' = w.heap.size) → K (a.put o.dst (.slice (some ⟨g', 0, none⟩) (ds.length + 1) cp')) w') : if Region.wanted o (yielded ops a.tmps) = true then Oper.wp Try.prog o a w K Q else E := by
  obtain ⟨i, hi, hz0, hz1, hz2⟩ := info_parts Try.infoDel
  refine step_append_lies w hgd s x 74 ho base 125 i _ 2 16 Try.underlying74 hi hz0 hz1 hz2 rfl (by decide) dv ds.length (cellsD ds) hs hO ⟨blk, 0, none⟩ 1 1 (cellsD [(ag, t)]) hx rfl ?_ ?_ (by decide) ?_ ?_ hbase w.heap.size rfl ?_
  · intro j u hu
    have hj : j < 2 := by
      have := (List.getElem?_eq_some_iff.1 hu).1
      rw [cellsD_len] at this
      simpa using this
    rw [Addr.add_mid, Nat.zero_add]
    match j, hj, hu with
    | 0, _, hu => simp [cellsD] at hu; rw [← hu]; exact h0
    | 1, _, hu => simp [cellsD] at hu; rw [← hu]; exact h1
  · intro u hu
    simp [cellsD] at hu
    rcases hu with rfl | rfl <;> rfl
  · unfold maxLen; omega
  · omega
  · intro g' cp' w' hO' hgr hat hlt
    refine h g' cp' w' ?_ hgr hat
    unfold OwnD
    rw [List.length_append, cellsD_append]
    exact hO'

/-- What the merger has behind 'P', with its memory. -/
structure MInv (S : Nat → Prop) (base mb : Nat) (P : List (Nat × Ent)) (w : World) (c : ByteArray × ByteArray × ByteArray) (dv : Value) (ds : List (Nat × Int)) (dec : Bool) (ts : Int) (cg cc : Nat) (L : List Ent) : Prop where
  at_ : MgAt w base mb c dv ds dec ts cg cc L
  mem : Mem P c ds dec ts
  shown : Shown P L
  out : ∀ k, Mine mb dv cg k → ¬ S k
  short : L.length ≤ P.length

def MSt (S : Nat → Prop) (base mb : Nat) (P : List (Nat × Ent)) (w : World) (c : ByteArray × ByteArray × ByteArray) : Prop := ∃ dv ds dec ts cg cc L, MInv S base mb P w c dv ds dec ts cg cc L
theorem MSt.below {S : Nat → Prop} {base mb : Nat} {P : List (Nat × Ent)} {w w' : World} {c : ByteArray × ByteArray × ByteArray} (h : MSt S base mb P w c) (hb : Below w.heap.size w w') : MSt S base mb P w' c := by
  obtain ⟨dv, ds, dec, ts, cg, cc, L, hR⟩ := h
  exact ⟨dv, ds, dec, ts, cg, cc, L, ⟨hR.at_.below hb, hR.mem, hR.shown, hR.out, hR.short⟩⟩

theorem mg_cells {w : World} {base mb : Nat} {c : ByteArray × ByteArray × ByteArray} {dv old : Value} {ds : List (Nat × Int)} {dec : Bool} {ts : Int} {cg' cc' : Nat} {L' : List Ent} (ho : OwnM w base mb [.string c.1, .string c.2.1, .string c.2.2, dv, .bool dec, .int .u64 ts, old]) (hd : OwnD w base dv ds) (hc : OwnC w base cg' cc' L') :
    MgAt (w.setCell ⟨mb, 6, none⟩ (.slice (some ⟨cg', 0, none⟩) L'.length cc')) base mb c dv ds dec ts cg' cc' L' :=
  ⟨(World.ownsRow.stored ho 6 _).1, own_chg hd (Chg.of_set (S := fun k => k = mb) w mb 6 _ rfl) (fun k hk q => own_apart hd ho (by decide) k hk (by rw [q]; rfl)), own_chg hc (Chg.of_set (S := fun k => k = mb) w mb 6 _ rfl) (fun k hk q => own_apart hc ho (by decide) k hk (by rw [q]; rfl))⟩
theorem mg_dels {w : World} {base mb : Nat} {c : ByteArray × ByteArray × ByteArray} {old dv' : Value} {ds' : List (Nat × Int)} {dec : Bool} {ts : Int} {cg cc : Nat} {L : List Ent} (ho : OwnM w base mb [.string c.1, .string c.2.1, .string c.2.2, old, .bool dec, .int .u64 ts, .slice (some ⟨cg, 0, none⟩) L.length cc]) (hd : OwnD w base dv' ds') (hc : OwnC w base cg cc L) :
    MgAt (w.setCell ⟨mb, 3, none⟩ dv') base mb c dv' ds' dec ts cg cc L :=
  ⟨(World.ownsRow.stored ho 3 _).1, own_chg hd (Chg.of_set (S := fun k => k = mb) w mb 3 _ rfl) (fun k hk q => own_apart hd ho (by decide) k hk (by rw [q]; rfl)), own_chg hc (Chg.of_set (S := fun k => k = mb) w mb 3 _ rfl) (fun k hk q => own_apart hc ho (by decide) k hk (by rw [q]; rfl))⟩
theorem put_fin {S : Nat → Prop} {base mb : Nat} {P : List (Nat × Ent)} {a : Nat} {e : Ent} {dv : Value} {ds : List (Nat × Int)} {cg cc : Nat} {L : List Ent} {w5 w6 w7 : World} {g7 cp7 : Nat} (hM : MgAt w5 base mb e.col dv ds true e.ts cg cc L) (hq : Below w5.heap.size w5 w6) (hO : OwnC w7 base g7 cp7 (L ++ [e]))
    (hgr : (w6.alloc (Obj.cells #[.string e.row, .string e.fam, .string e.qual, .int .u64 e.ts, .string e.val] 69)).grownBy w7 (some cg)) (hgg : cg = g7 ∨ g7 = (w6.alloc (Obj.cells #[.string e.row, .string e.fam, .string e.qual, .int .u64 e.ts, .string e.val] 69)).heap.size)
    (hmem : Mem (P ++ [(a, e)]) e.col ds true e.ts) (hsh : Shown (P ++ [(a, e)]) (L ++ [e])) (hout : ∀ k, Mine mb dv cg k → ¬ S k) (hin : ∀ k, S k → k < w5.heap.size) (hsl : L.length ≤ P.length) :
    MSt S base mb (P ++ [(a, e)]) (w7.setCell ⟨mb, 6, none⟩ (.slice (some ⟨g7, 0, none⟩) (L.length + 1) cp7)) e.col ∧ Chg (Mine mb dv cg) w5 (w7.setCell ⟨mb, 6, none⟩ (.slice (some ⟨g7, 0, none⟩) (L.length + 1) cp7)) := by
  have hbA : Below w6.heap.size w6 (w6.alloc (Obj.cells #[.string e.row, .string e.fam, .string e.qual, .int .u64 e.ts, .string e.val] 69)) := (Below.refl _ _).alloc (Nat.le_refl _) _
  generalize w6.alloc (Obj.cells #[.string e.row, .string e.fam, .string e.qual, .int .u64 e.ts, .string e.val] 69) = wA at *
  have hb : Below w5.heap.size w5 wA := hq.trans (hbA.mono hq.size)
  have hsA := hb.size
  have hMA := hM.below hb
  have hc7 : Chg (fun k => k = cg) wA w7 := Chg.of_grown hgr (fun k hk => by cases hk; rfl)
  have ho7 := own_chg hMA.own hc7 (fun k hk q => by simp [Value.ownBlock] at hk; subst hk; exact hMA.apart.2.1 q.symm)
  have hd7 := own_chg hMA.dels hc7 (fun k hk q => hMA.apart.2.2 k hk q)
  have hfin := mg_cells (c := e.col) (dec := true) (ts := e.ts) ho7 hd7 hO
  rw [List.length_append] at hfin
  refine ⟨⟨dv, ds, true, e.ts, g7, cp7, L ++ [e], ⟨hfin, hmem, hsh, ?_, by simp; exact hsl⟩⟩, ?_⟩
  · rintro k (rfl | q | rfl) hS
    · exact hout k (.inl rfl) hS
    · exact hout k (.inr (.inl q)) hS
    · rcases hgg with q | q
      · exact hout k (.inr (.inr q.symm)) hS
      · have := hin k hS
        omega
  · exact ((Chg.of_below hb).trans (hc7.mono (fun k q => .inr (.inr q)))).trans (Chg.of_set _ _ _ _ (.inl rfl))

theorem del_fin {S : Nat → Prop} {base mb : Nat} {P : List (Nat × Ent)} {a : Nat} {e : Ent} {dv : Value} {ds : List (Nat × Int)} {dec : Bool} {ts : Int} {cg cc : Nat} {L : List Ent} {w5 wA w7 : World} {g7 cp7 : Nat} (hM : MgAt w5 base mb e.col dv ds dec ts cg cc L) (hb : Below w5.heap.size w5 wA) (hO : OwnD w7 base (.slice (some ⟨g7, 0, none⟩) (ds.length + 1) cp7) (ds ++ [(a, e.ts)]))
    (hgr : wA.grownBy w7 dv.ownBlock) (hgg : dv.ownBlock = some g7 ∨ g7 = wA.heap.size)
    (hmem : Mem (P ++ [(a, e)]) e.col (ds ++ [(a, e.ts)]) dec ts) (hsh : Shown (P ++ [(a, e)]) L) (hout : ∀ k, Mine mb dv cg k → ¬ S k) (hin : ∀ k, S k → k < w5.heap.size) (hsl : L.length ≤ P.length) :
    MSt S base mb (P ++ [(a, e)]) (w7.setCell ⟨mb, 3, none⟩ (.slice (some ⟨g7, 0, none⟩) (ds.length + 1) cp7)) e.col ∧ Chg (Mine mb dv cg) w5 (w7.setCell ⟨mb, 3, none⟩ (.slice (some ⟨g7, 0, none⟩) (ds.length + 1) cp7)) ∧ w7.cell? ⟨mb, 3, none⟩ = some dv ∧ w7.frozen? ⟨mb, 3, none⟩ = false := by
  have hsA := hb.size
  have hMA := hM.below hb
  have hc7 : Chg (fun k => dv.ownBlock = some k) wA w7 := Chg.of_grown hgr (fun k hk => hk)
  have ho7 : OwnM w7 base mb [.string e.col.1, .string e.col.2.1, .string e.col.2.2, dv, .bool dec, .int .u64 ts, .slice (some ⟨cg, 0, none⟩) L.length cc] := own_chg hMA.own hc7 (fun k hk q => by simp [Value.ownBlock] at hk; subst hk; exact hMA.apart.1 mb q rfl)
  have hd7 : OwnC w7 base cg cc L := own_chg hMA.cells hc7 (fun k hk q => by simp [Value.ownBlock] at hk; subst hk; exact hMA.apart.2.2 cg q rfl)
  have hfin := mg_dels ho7 hO hd7
  refine ⟨⟨_, ds ++ [(a, e.ts)], dec, ts, cg, cc, L, ⟨hfin, hmem, hsh, ?_, by simp; omega⟩⟩, ?_, World.ownsRow.cellAt ho7 3 (by decide), World.ownsRow.frozenAt ho7 3⟩
  · rintro k (rfl | q | rfl) hS
    · exact hout k (.inl rfl) hS
    · simp [Value.ownBlock] at q
      subst q
      rcases hgg with q | q
      · exact hout g7 (.inr (.inl q)) hS
      · have := hin g7 hS
        omega
    · exact hout k (.inr (.inr rfl)) hS
  · exact ((Chg.of_below hb).trans (hc7.mono (fun k q => .inr (.inl q)))).trans (Chg.of_set _ _ _ _ (.inl rfl))

end Go.Proofs.Ytnncedndlhfdkac

/-
  (*impl.merger).take: one column more of the same.
-/
namespace Go.Proofs.Ytnncedndlhfdkac
open Go.ChangeShapes Go.WideShapes Go.ChangeAt Go.RowKit Go.Deep
set_option linter.unusedVariables false
set_option linter.unusedSimpArgs false
set_option maxRecDepth 100000

set_option maxHeartbeats 16000000 in
theorem take_same (S : Nat → Prop) (base mb : Nat) (P : List (Nat × Ent)) (c : ByteArray × ByteArray × ByteArray) (dv : Value) (ds : List (Nat × Int)) (dec : Bool) (ts : Int) (cg cc : Nat) (L : List Ent) (a : Nat) (e : Ent) (w : World)
    (h : MInv S base mb P w c dv ds dec ts cg cc L) (hl : Last P c) (hS : P.Pairwise Lt2) (hP : ∀ p ∈ P, Lt2 p (a, e)) (hin : ∀ k, S k → k < w.heap.size) (hB : base ≤ w.heap.size) (hN : P.length ≤ 1048576) (hcol : e.col = c) :
    Calls Try.prog 43 #[.pointer (some ⟨mb, 0, none⟩), .agg #[.string e.row, .string e.fam, .string e.qual, .int .u64 e.ts, .int .i64 e.kind, .string e.val], .int .i64 a] w fun r w' =>
      r = .returned (.tuple #[]) ∧ MSt S base mb (P ++ [(a, e)]) w' e.col ∧ Chg (Mine mb dv cg) w w' := by
  have H0 : Hid (MInv S base mb P w c dv ds dec ts cg cc L ∧ Last P c ∧ P.Pairwise Lt2 ∧ (∀ p ∈ P, Lt2 p (a, e)) ∧ ∀ k, S k → k < w.heap.size) := ⟨h, hl, hS, hP, hin⟩
  clear h hl hS hP hin
  obtain ⟨Wa, hWa⟩ : ∃ Wa : World, Wa = w.alloc (Obj.cells #[.string e.row, .string e.fam, .string e.qual, .int .u64 e.ts, .int .i64 e.kind, .string e.val] 63) := ⟨_, rfl⟩
  have hba : Below w.heap.size w Wa := by rw [hWa]; exact (Below.refl _ _).alloc (Nat.le_refl _) _
  have hza : Wa.heap.size = w.heap.size + 1 := by rw [hWa]; simp
  have HXa : Hid (EntsAt Wa w.heap.size 0 [e]) := by show EntsAt Wa w.heap.size 0 [e]; rw [hWa]; exact ent_box w e
  have hmb := (H0.out.1.at_.low mb (.inl rfl)).2
  go_enter Try.func43, Try.ntmps43
  go_upto_region 1 with fail
  rw [← hWa]
  clear hWa
  obtain ⟨d0, d1, d2, d3, d4, d5⟩ := HXa.out 0 e rfl
  simp only [Nat.zero_add, Nat.zero_mul] at d0 d1 d2 d3 d4 d5
  go_wp2_with fail
  refine (column_any e _).mono ?_
  rintro e' wb ⟨rfl, hbb⟩
  obtain ⟨W1, hW1⟩ : ∃ W1 : World, W1 = wb.alloc (Obj.cells #[.string e.row, .string e.fam, .string e.qual] 73) := ⟨_, rfl⟩
  have hbc : Below wb.heap.size wb W1 := by rw [hW1]; exact (Below.refl _ _).alloc (Nat.le_refl _) _
  have hsb := hbb.size
  have hsc := hbc.size
  have HX1 : Hid (EntsAt W1 w.heap.size 0 [e]) := (HXa.out.below hbb (by omega)).below hbc (by omega)
  have k1 : Below w.heap.size w W1 := (hba.trans (hbb.mono (by omega))).trans (hbc.mono (by omega))
  have HM1 : Hid (MgAt W1 base mb c dv ds dec ts cg cc L) := H0.out.1.at_.below k1
  have HC1 : Hid (W1.cell? ⟨wb.heap.size, 0, none⟩ = some (.string e.row) ∧ W1.cell? ⟨wb.heap.size, 1, none⟩ = some (.string e.fam) ∧ W1.cell? ⟨wb.heap.size, 2, none⟩ = some (.string e.qual)) := by
    refine ⟨?_, ?_, ?_⟩ <;> (rw [hW1]; simp)
  clear d0 d1 d2 d3 d4 d5
  go_upto_region 2 with fail
  rw [← hW1]
  clear hW1
  obtain ⟨q0, q1, q2⟩ := HC1.out
  obtain ⟨m0, m1, m2, m3, m4, m5, m6, mf⟩ := HM1.out.cell
  obtain ⟨cr, cf, cq⟩ := c
  simp only at m0 m1 m2
  have hne := colNe_run e cr cf cq false (by rw [show (!false) = true from rfl, sameCol_col]; exact hcol)
  go_quiet (fail)
  have HMem : Hid (Mem P e.col ds dec ts) := by have := H0.out.1.mem; rw [← hcol] at this; exact this
  have hsz := k1.size
  obtain ⟨W2, hW2⟩ : ∃ W2 : World, W2 = W1.drewN nq := ⟨_, rfl⟩
  have hb2 : Below W1.heap.size W1 W2 := by rw [hW2]; exact below_drewN (Below.refl _ _) _
  have hsd := hb2.size
  have hw2 : w.heap.size < W2.heap.size := by omega
  have HX2 : Hid (EntsAt W2 w.heap.size 0 [e]) := HX1.out.below hb2 (by omega)
  have HM2 : Hid (MgAt W2 base mb e.col dv ds dec ts cg cc L) := by have := HM1.out.below hb2; rw [← hcol] at this; exact this
  have HK2 : Hid (Chg (Mine mb dv cg) w W2) := Chg.of_below (k1.trans (hb2.mono (by omega)))
  rw [← hW2]
  clear hW2 q0 q1 q2 m0 m1 m2 m3 m4 m5 m6 mf hne hcol
  have HOut : Hid (∀ k, Mine mb dv cg k → ¬ S k) := H0.out.1.out
  obtain ⟨d0, d1, d2, d3, d4, d5⟩ := HX2.out 0 e rfl
  simp only [Nat.zero_add, Nat.zero_mul] at d0 d1 d2 d3 d4 d5
  obtain ⟨m0, m1, m2, m3, m4, m5, m6, mf⟩ := HM2.out.cell
  have hs2 := HK2.out.size
  have HMine : Hid (∀ k, Mine mb dv cg k → Mine mb dv cg k) := fun k q => q
  cases kk : (e.kind == 2)
  · have HK : Hid (¬ e.kind = 2) := by show ¬ e.kind = 2; simpa using kk
    by_cases hd : dec = true ∧ ts = e.ts
    · have HD : Hid (dec = true ∧ ts = e.ts) := hd
      have ht : (ts == e.ts) = true := by simp [hd.2]
      have hdt : dec = true := hd.1
      rw [hdt] at m4
      clear hd hdt
      have HR : Hid (MSt S base mb (P ++ [(a, e)]) W2 e.col) :=
        ⟨_, _, _, _, _, _, _, HM2.out, mem_same HMem.out HK.out HD.out.1 HD.out.2, shown_skip H0.out.1.shown H0.out.2.2.2.1 (fun q => q.2 (over_decided HMem.out H0.out.2.2.2.1 HK.out HD.out.1 HD.out.2)), HOut.out, by have := H0.out.1.short; simp; omega⟩
      go_upto_region 8 with fail
      go_quiet (fail)
      go_wp2_with fail
      (try simp only [Exit.inBlock, Exit.then])
      refine bodyPost_ret (results_none rfl _ _ _) rfl ?_
      have hbn := below_drewN (Below.refl W2.heap.size W2) nq
      exact ⟨rfl, HR.out.below hbn, HK2.out.trans (Chg.of_below hbn)⟩
    · have HD : Hid (¬ (dec = true ∧ ts = e.ts)) := hd
      have ht : ∀ b, dec = b → b = true → (ts == e.ts) = false := fun b h1 h2 => by simp; exact fun q => hd ⟨h1.trans h2, q⟩
      clear hd
      go_upto_region 8 with fail
      go_cut [58] (fun s wx => s = .bool false ∧ Below W2.heap.size W2 wx)
      case first =>
        cases hdd : dec
        · rw [hdd] at m4
          go_quiet (fail)
          go_wp2_with fail
          go_meet
          exact ⟨rfl, below_drewN (Below.refl _ _) _⟩
        · rw [hdd] at m4
          have ht1 := ht true hdd rfl
          go_quiet (fail)
          go_wp2_with fail
          go_meet
          exact ⟨rfl, below_drewN (Below.refl _ _) _⟩
      case rest =>
      obtain ⟨rfl, hb3⟩ := hcut
      have hs3 := hb3.size
      have HM3 : Hid (MgAt wc base mb e.col dv ds dec ts cg cc L) := HM2.out.below hb3
      have HK3 : Hid (Chg (Mine mb dv cg) w wc) := HK2.out.trans (Chg.of_below hb3)
      clear m0 m1 m2 m3 m4 m5 m6 mf d0 d1 d2 d3 d4 d5 ht
      obtain ⟨d0, d1, d2, d3, d4, d5⟩ := (HX2.out.below hb3 (by omega)) 0 e rfl
      simp only [Nat.zero_add, Nat.zero_mul] at d0 d1 d2 d3 d4 d5
      obtain ⟨m0, m1, m2, m3, m4, m5, m6, mf⟩ := HM3.out.cell
      obtain ⟨W4, hW4⟩ : ∃ W4 : World, W4 = (wc.setCell ⟨mb, 4, none⟩ (.bool true)).setCell ⟨mb, 5, none⟩ (.int .u64 e.ts) := ⟨_, rfl⟩
      have HM4 : Hid (MgAt W4 base mb e.col dv ds true e.ts cg cc L) := by show MgAt W4 base mb e.col dv ds true e.ts cg cc L; rw [hW4]; exact (HM3.out.setDec true).setTs e.ts
      have hC4 : Chg (fun k => k = mb) wc W4 := by rw [hW4]; exact (Chg.of_set (S := fun k => k = mb) _ _ _ _ rfl).trans (Chg.of_set (S := fun k => k = mb) _ _ _ _ rfl)
      have hs4 := hC4.size
      have HX4 : Hid (EntsAt W4 w.heap.size 0 [e]) := (HX2.out.below hb3 (by omega)).chg hC4 (by omega) (by omega)
      have HK4 : Hid (Chg (Mine mb dv cg) w W4) := HK3.out.trans (hC4.mono (fun k q => .inl q))
      have HMn : Hid (Mem (P ++ [(a, e)]) e.col ds true e.ts) := mem_new HMem.out H0.out.2.2.2.1 HK.out
      cases k0 : (e.kind == 0)
      · have HR : Hid (MSt S base mb (P ++ [(a, e)]) W4 e.col) :=
          ⟨_, _, _, _, _, _, _, HM4.out, HMn.out, shown_skip H0.out.1.shown H0.out.2.2.2.1 (fun q => by have := q.1; simp at k0; exact k0 this), HOut.out, by have := H0.out.1.short; simp; omega⟩
        go_wp2_with fail
        rw [← hW4]
        go_end0
        exact ⟨rfl, HR.out, HK4.out⟩
      · go_upto_region 11 with fail
        rw [← hW4]
        clear hW4 m0 m1 m2 m3 m4 m5 m6 mf d0 d1 d2 d3 d4 d5
        obtain ⟨d0, d1, d2, d3, d4, d5⟩ := HX4.out 0 e rfl
        simp only [Nat.zero_add, Nat.zero_mul] at d0 d1 d2 d3 d4 d5
        go_wp2_with fail
        refine (hides_core base mb e.col dv ds true e.ts cg cc L e.ts a _ HM4.out (by have := HMem.out.len; omega)).mono ?_
        rintro e' w5 ⟨rfl, hb5⟩
        have hs5 := hb5.size
        have HM5 : Hid (MgAt w5 base mb e.col dv ds true e.ts cg cc L) := HM4.out.below hb5
        have HK5 : Hid (Chg (Mine mb dv cg) w w5) := HK4.out.trans (Chg.of_below hb5)
        have HX5 : Hid (EntsAt w5 w.heap.size 0 [e]) := HX4.out.below hb5 (by omega)
        have HOv : Hid (Over P a e ↔ hides ds e.ts a = true) := over_hides HMem.out H0.out.2.2.2.1 HK.out HD.out
        clear d0 d1 d2 d3 d4 d5
        cases hh : hides ds e.ts a
        · obtain ⟨d0, d1, d2, d3, d4, d5⟩ := HX5.out 0 e rfl
          simp only [Nat.zero_add, Nat.zero_mul] at d0 d1 d2 d3 d4 d5
          obtain ⟨m0, m1, m2, m3, m4, m5, m6, mf⟩ := HM5.out.cell
          go_upto_region 12 with fail
          have nmb : mb ≠ w.heap.size := by omega
          have hLl : L.length ≤ 2 ^ 30 := by have := H0.out.1.short; omega
          have hbs : base ≤ w5.heap.size := by omega
          have ncg : cg ≠ w.heap.size := by have := (H0.out.1.at_.low cg (.inr (.inr rfl))).2; omega
          have nmc : mb ≠ cg := fun q => HM5.out.apart.2.1 q.symm
          have hcl : cg < w5.heap.size := (HM5.out.low cg (.inr (.inr rfl))).2
          have hml : mb < w5.heap.size := (HM5.out.low mb (.inl rfl)).2
          have HSp : Hid (Shown (P ++ [(a, e)]) (L ++ [e])) := shown_put H0.out.1.shown H0.out.2.2.2.1 (by simpa using k0) (fun q => by have := HOv.out.1 q; rw [hh] at this; cases this)
          go_region_law ((first
              | (go_simp; go_at_call 66; refine (implCell_any e _).mono ?_; rintro e' w6 ⟨rfl, hb6⟩; have hq6 : Below w5.heap.size w5 w6 := ((Below.refl w5.heap.size w5).drew).trans hb6; obtain ⟨y0, y1, y2, y3, y4, y5⟩ := (HX5.out.below hq6 (by omega)) 0 e rfl; simp only [Nat.zero_add, Nat.zero_mul] at y0 y1 y2 y3 y4 y5; have m6' := (HM5.out.below hq6).cell.2.2.2.2.2.2.1; have m6a : ∀ o, (w6.alloc o).cell? ⟨mb, 6, none⟩ = some (.slice (some ⟨cg, 0, none⟩) L.length cc) := fun o => by { rw [((Below.refl w6.heap.size w6).alloc (Nat.le_refl _) o).cell (p := ⟨mb, 6, none⟩) (Nat.lt_of_lt_of_le hml hq6.size)]; exact m6' })
              | (refine step_append_cel _ (by rfl) _ _ (by rfl) base cg cc w6.heap.size L e (by rfl) (by rfl) ?hO ?hc hLl ?hb ?_
                 case hO => exact (HM5.out.below hq6).cells.below ((Below.refl _ _).alloc (Nat.le_refl _) _) (Nat.lt_of_lt_of_le hcl hq6.size)
                 case hc => exact cel_new w6 e
                 case hb => exact Nat.le_trans hbs (Nat.le_trans hq6.size (by simp))
                 intro g7 cp7 w7 hO7 hgr7 hgg7
                 have fin7 : Hid (MSt S base mb (P ++ [(a, e)]) (w7.setCell ⟨mb, 6, none⟩ (.slice (some ⟨g7, 0, none⟩) (L.length + 1) cp7)) e.col ∧ Chg (Mine mb dv cg) w (w7.setCell ⟨mb, 6, none⟩ (.slice (some ⟨g7, 0, none⟩) (L.length + 1) cp7))) := by { have hpf := put_fin HM5.out hq6 hO7 hgr7 (by simpa using hgg7) HMn.out HSp.out HOut.out (fun k hk => by have := H0.out.2.2.2.2 k hk; omega) H0.out.1.short; exact ⟨hpf.1, HK5.out.trans (hpf.2.mono HMine.out)⟩ }
                 have hm7 := (HM5.out.below hq6).below ((Below.refl w6.heap.size w6).alloc (Nat.le_refl _) (Obj.cells #[.string e.row, .string e.fam, .string e.qual, .int .u64 e.ts, .string e.val] 69))
                 have hc7 : Chg (fun k => k = cg) (w6.alloc (Obj.cells #[.string e.row, .string e.fam, .string e.qual, .int .u64 e.ts, .string e.val] 69)) w7 := Chg.of_grown hgr7 (fun k hk => by cases hk; rfl)
                 have m7 : w7.cell? ⟨mb, 6, none⟩ = some (.slice (some ⟨cg, 0, none⟩) L.length cc) := by rw [hc7.cell (p := ⟨mb, 6, none⟩) (hm7.low mb (.inl rfl)).2 nmc]; exact hm7.cell.2.2.2.2.2.2.1
                 have f7 : w7.frozen? ⟨mb, 6, none⟩ = false := by rw [hc7.frozen (p := ⟨mb, 6, none⟩) (hm7.low mb (.inl rfl)).2 nmc]; exact hm7.cell.2.2.2.2.2.2.2 6
                 clear hm7 hc7 hO7 hgr7 hgg7)))
          all_goals go_end0
          all_goals exact ⟨rfl, fin7.out.1, fin7.out.2⟩
        · have HR : Hid (MSt S base mb (P ++ [(a, e)]) w5 e.col) :=
            ⟨_, _, _, _, _, _, _, HM5.out, HMn.out, shown_skip H0.out.1.shown H0.out.2.2.2.1 (fun q => q.2 (HOv.out.2 hh)), HOut.out, by have := H0.out.1.short; simp; omega⟩
          go_wp2_with fail
          go_end0
          exact ⟨rfl, HR.out, HK5.out⟩
  · have HK : Hid (e.kind = 2) := by show e.kind = 2; simpa using kk
    have hdl : ds.length ≤ 2 ^ 30 := by have := HMem.out.len; omega
    have hbs : base ≤ W2.heap.size := by omega
    have HMn : Hid (Mem (P ++ [(a, e)]) e.col (ds ++ [(a, e.ts)]) dec ts) := mem_del HMem.out HK.out
    have HSp : Hid (Shown (P ++ [(a, e)]) L) := shown_skip H0.out.1.shown H0.out.2.2.2.1 (fun q => by have := q.1; have := HK.out; omega)
    have hml : mb < W2.heap.size := (HM2.out.low mb (.inl rfl)).2
    have f3 := mf 3
    go_upto_region 7 with fail
    go_region_law ((refine step_append_del _ (by rfl) _ _ (by rfl) base W2.heap.size dv ds a e.ts (by rfl) (by rfl) ?hO ?h0 ?h1 hdl ?hb ?_
                    case hO => exact own_chg (S := fun _ => False) HM2.out.dels (Chg.of_below (((Below.refl W2.heap.size W2).drew).alloc (Nat.le_refl _) _)) (fun k _ q => q)
                    case h0 => simp
                    case h1 => simp
                    case hb => exact Nat.le_trans hbs (by simp)
                    intro g7 cp7 w7 hO7 hgr7 hgg7
                    have fin7 : Hid (MSt S base mb (P ++ [(a, e)]) (w7.setCell ⟨mb, 3, none⟩ (.slice (some ⟨g7, 0, none⟩) (ds.length + 1) cp7)) e.col ∧ Chg (Mine mb dv cg) w (w7.setCell ⟨mb, 3, none⟩ (.slice (some ⟨g7, 0, none⟩) (ds.length + 1) cp7)) ∧ w7.cell? ⟨mb, 3, none⟩ = some dv ∧ w7.frozen? ⟨mb, 3, none⟩ = false) := by { have hpf := del_fin HM2.out (((Below.refl W2.heap.size W2).drew).alloc (Nat.le_refl _) _) hO7 hgr7 (by simpa using hgg7) HMn.out HSp.out HOut.out (fun k hk => by have := H0.out.2.2.2.2 k hk; omega) H0.out.1.short; exact ⟨hpf.1, HK2.out.trans (hpf.2.1.mono HMine.out), hpf.2.2.1, hpf.2.2.2⟩ }
                    have m7 := fin7.out.2.2.1
                    have f7 := fin7.out.2.2.2
                    clear hO7 hgr7 hgg7))
    all_goals go_wp2_with fail
    all_goals (try simp only [Exit.inBlock, Exit.then])
    all_goals refine bodyPost_ret (results_none rfl _ _ _) rfl ?_
    all_goals exact ⟨rfl, fin7.out.1, fin7.out.2.1⟩
end Go.Proofs.Ytnncedndlhfdkac

/-
  (*impl.merger).take: a new column.
-/
namespace Go.Proofs.Ytnncedndlhfdkac
open Go.ChangeShapes Go.WideShapes Go.ChangeAt Go.RowKit Go.Deep
set_option linter.unusedVariables false
set_option linter.unusedSimpArgs false
set_option maxRecDepth 100000

set_option maxHeartbeats 16000000 in
theorem take_nil (S : Nat → Prop) (base mb : Nat) (P : List (Nat × Ent)) (c : ByteArray × ByteArray × ByteArray) (dv : Value) (ds : List (Nat × Int)) (dec : Bool) (ts : Int) (cg cc : Nat) (L : List Ent) (a : Nat) (e : Ent) (w : World)
    (h : MInv S base mb P w c dv ds dec ts cg cc L) (hl : Last P c) (hS : P.Pairwise Lt2) (hP : ∀ p ∈ P, Lt2 p (a, e)) (hin : ∀ k, S k → k < w.heap.size) (hB : base ≤ w.heap.size) (hN : P.length ≤ 1048576) (hcol : ¬ e.col = c) (hdv : dv = .slice none 0 0) :
    Calls Try.prog 43 #[.pointer (some ⟨mb, 0, none⟩), .agg #[.string e.row, .string e.fam, .string e.qual, .int .u64 e.ts, .int .i64 e.kind, .string e.val], .int .i64 a] w fun r w' =>
      r = .returned (.tuple #[]) ∧ MSt S base mb (P ++ [(a, e)]) w' e.col ∧ Chg (Mine mb dv cg) w w' := by
  have H0 : Hid (MInv S base mb P w c dv ds dec ts cg cc L ∧ Last P c ∧ P.Pairwise Lt2 ∧ (∀ p ∈ P, Lt2 p (a, e)) ∧ ∀ k, S k → k < w.heap.size) := ⟨h, hl, hS, hP, hin⟩
  clear h hl hS hP hin
  obtain ⟨Wa, hWa⟩ : ∃ Wa : World, Wa = w.alloc (Obj.cells #[.string e.row, .string e.fam, .string e.qual, .int .u64 e.ts, .int .i64 e.kind, .string e.val] 63) := ⟨_, rfl⟩
  have hba : Below w.heap.size w Wa := by rw [hWa]; exact (Below.refl _ _).alloc (Nat.le_refl _) _
  have hza : Wa.heap.size = w.heap.size + 1 := by rw [hWa]; simp
  have HXa : Hid (EntsAt Wa w.heap.size 0 [e]) := by show EntsAt Wa w.heap.size 0 [e]; rw [hWa]; exact ent_box w e
  have hmb := (H0.out.1.at_.low mb (.inl rfl)).2
  go_enter Try.func43, Try.ntmps43
  go_upto_region 1 with fail
  rw [← hWa]
  clear hWa
  obtain ⟨d0, d1, d2, d3, d4, d5⟩ := HXa.out 0 e rfl
  simp only [Nat.zero_add, Nat.zero_mul] at d0 d1 d2 d3 d4 d5
  go_wp2_with fail
  refine (column_any e _).mono ?_
  rintro e' wb ⟨rfl, hbb⟩
  obtain ⟨W1, hW1⟩ : ∃ W1 : World, W1 = wb.alloc (Obj.cells #[.string e.row, .string e.fam, .string e.qual] 73) := ⟨_, rfl⟩
  have hbc : Below wb.heap.size wb W1 := by rw [hW1]; exact (Below.refl _ _).alloc (Nat.le_refl _) _
  have hsb := hbb.size
  have hsc := hbc.size
  have HX1 : Hid (EntsAt W1 w.heap.size 0 [e]) := (HXa.out.below hbb (by omega)).below hbc (by omega)
  have k1 : Below w.heap.size w W1 := (hba.trans (hbb.mono (by omega))).trans (hbc.mono (by omega))
  have HM1 : Hid (MgAt W1 base mb c dv ds dec ts cg cc L) := H0.out.1.at_.below k1
  have HC1 : Hid (W1.cell? ⟨wb.heap.size, 0, none⟩ = some (.string e.row) ∧ W1.cell? ⟨wb.heap.size, 1, none⟩ = some (.string e.fam) ∧ W1.cell? ⟨wb.heap.size, 2, none⟩ = some (.string e.qual)) := by
    refine ⟨?_, ?_, ?_⟩ <;> (rw [hW1]; simp)
  clear d0 d1 d2 d3 d4 d5
  go_upto_region 2 with fail
  rw [← hW1]
  clear hW1
  obtain ⟨q0, q1, q2⟩ := HC1.out
  obtain ⟨m0, m1, m2, m3, m4, m5, m6, mf⟩ := HM1.out.cell
  obtain ⟨cr, cf, cq⟩ := c
  simp only at m0 m1 m2
  have hne := colNe_run e cr cf cq true (by rw [show (!true) = false from rfl, Bool.eq_false_iff, ne_eq, sameCol_col]; exact hcol)
  go_quiet (fail)
  have hcut : cut0 dv = .slice none 0 0 := by rw [hdv]; rfl
  have hcl : ([] : List (Nat × Int)).length = 0 := rfl
  clear hcl
  rw [hdv] at m3
  have HMem : Hid (Mem P e.col ([] : List (Nat × Int)) false ts) := mem_turn H0.out.2.1 H0.out.2.2.1 H0.out.2.2.2.1 hcol ts
  have HCut : Hid (cut0 dv = .slice none 0 0) := hcut
  have f0 := mf 0
  have f1 := mf 1
  have f2 := mf 2
  have f3 := mf 3
  have f4 := mf 4
  obtain ⟨W2, hW2⟩ : ∃ W2 : World, W2 = (((((W1.drewN nq).setCell ⟨mb, 0, none⟩ (.string e.row)).setCell ⟨mb, 1, none⟩ (.string e.fam)).setCell ⟨mb, 2, none⟩ (.string e.qual)).setCell ⟨mb, 3, none⟩ (.slice none 0 0)).setCell ⟨mb, 4, none⟩ (.bool false) := ⟨_, rfl⟩
  have hb1 : Below W1.heap.size W1 (W1.drewN nq) := below_drewN (Below.refl _ _) _
  have hsd := hb1.size
  have hcw : Chg (fun k => k = mb) (W1.drewN nq) W2 := by rw [hW2]; exact ((((Chg.of_set (S := fun k => k = mb) _ _ _ _ rfl).trans (Chg.of_set (S := fun k => k = mb) _ _ _ _ rfl)).trans (Chg.of_set (S := fun k => k = mb) _ _ _ _ rfl)).trans (Chg.of_set (S := fun k => k = mb) _ _ _ _ rfl)).trans (Chg.of_set (S := fun k => k = mb) _ _ _ _ rfl)
  have hse := hcw.size
  have hw2 : w.heap.size < W2.heap.size := by omega
  have hmw : ¬ w.heap.size = mb := by omega
  have HX2 : Hid (EntsAt W2 w.heap.size 0 [e]) := (HX1.out.below hb1 (by omega)).chg hcw (by omega) hmw
  have HM2 : Hid (MgAt W2 base mb e.col (cut0 dv) [] false ts cg cc L) := by
    show MgAt W2 base mb e.col (cut0 dv) [] false ts cg cc L
    rw [hW2, ← hcut]
    have hA := (HM1.out.below hb1).setCol e.col
    exact (hA.setDels hA.dels.cut).setDec false
  have HK2 : Hid (Chg (Mine mb dv cg) w W2) := (Chg.of_below (k1.trans (hb1.mono (by have := k1.size; omega)))).trans (hcw.mono (fun k q => .inl q))
  have HOut : Hid (∀ k, Mine mb (cut0 dv) cg k → ¬ S k) := fun k q => H0.out.1.out k (by unfold Mine at *; rw [cut0_block H0.out.1.at_.dels] at q; exact q)
  go_upto_region 6 with fail
  rw [← hW2]
  clear hW2 q0 q1 q2 m0 m1 m2 m3 m4 m5 m6 mf hne hcol f0 f1 f2 f3 f4 hcut hdv
  obtain ⟨d0, d1, d2, d3, d4, d5⟩ := HX2.out 0 e rfl
  simp only [Nat.zero_add, Nat.zero_mul] at d0 d1 d2 d3 d4 d5
  obtain ⟨m0, m1, m2, m3, m4, m5, m6, mf⟩ := HM2.out.cell
  have hs2 := HK2.out.size
  have HMine : Hid (∀ k, Mine mb (cut0 dv) cg k → Mine mb dv cg k) := fun k q => by unfold Mine at *; rw [cut0_block H0.out.1.at_.dels] at q; exact q
  cases kk : (e.kind == 2)
  · have HK : Hid (¬ e.kind = 2) := by show ¬ e.kind = 2; simpa using kk
    by_cases hd : false = true ∧ ts = e.ts
    · exact absurd hd.1 (by decide)
    · have HD : Hid (¬ (false = true ∧ ts = e.ts)) := hd
      have ht : ∀ b, false = b → b = true → (ts == e.ts) = false := fun b h1 h2 => by simp; exact fun q => hd ⟨h1.trans h2, q⟩
      clear hd
      go_upto_region 8 with fail
      go_cut [58] (fun s wx => s = .bool false ∧ Below W2.heap.size W2 wx)
      case first =>
        go_quiet (fail)
        go_wp2_with fail
        go_meet
        exact ⟨rfl, below_drewN (Below.refl _ _) _⟩
      case rest =>
      obtain ⟨rfl, hb3⟩ := hcut
      have hs3 := hb3.size
      have HM3 : Hid (MgAt wc base mb e.col (cut0 dv) ([] : List (Nat × Int)) false ts cg cc L) := HM2.out.below hb3
      have HK3 : Hid (Chg (Mine mb dv cg) w wc) := HK2.out.trans (Chg.of_below hb3)
      clear m0 m1 m2 m3 m4 m5 m6 mf d0 d1 d2 d3 d4 d5 ht
      obtain ⟨d0, d1, d2, d3, d4, d5⟩ := (HX2.out.below hb3 (by omega)) 0 e rfl
      simp only [Nat.zero_add, Nat.zero_mul] at d0 d1 d2 d3 d4 d5
      obtain ⟨m0, m1, m2, m3, m4, m5, m6, mf⟩ := HM3.out.cell
      obtain ⟨W4, hW4⟩ : ∃ W4 : World, W4 = (wc.setCell ⟨mb, 4, none⟩ (.bool true)).setCell ⟨mb, 5, none⟩ (.int .u64 e.ts) := ⟨_, rfl⟩
      have HM4 : Hid (MgAt W4 base mb e.col (cut0 dv) ([] : List (Nat × Int)) true e.ts cg cc L) := by show MgAt W4 base mb e.col (cut0 dv) ([] : List (Nat × Int)) true e.ts cg cc L; rw [hW4]; exact (HM3.out.setDec true).setTs e.ts
      have hC4 : Chg (fun k => k = mb) wc W4 := by rw [hW4]; exact (Chg.of_set (S := fun k => k = mb) _ _ _ _ rfl).trans (Chg.of_set (S := fun k => k = mb) _ _ _ _ rfl)
      have hs4 := hC4.size
      have HX4 : Hid (EntsAt W4 w.heap.size 0 [e]) := (HX2.out.below hb3 (by omega)).chg hC4 (by omega) (by omega)
      have HK4 : Hid (Chg (Mine mb dv cg) w W4) := HK3.out.trans (hC4.mono (fun k q => .inl q))
      have HMn : Hid (Mem (P ++ [(a, e)]) e.col ([] : List (Nat × Int)) true e.ts) := mem_new HMem.out H0.out.2.2.2.1 HK.out
      cases k0 : (e.kind == 0)
      · have HR : Hid (MSt S base mb (P ++ [(a, e)]) W4 e.col) :=
          ⟨_, _, _, _, _, _, _, HM4.out, HMn.out, shown_skip H0.out.1.shown H0.out.2.2.2.1 (fun q => by have := q.1; simp at k0; exact k0 this), HOut.out, by have := H0.out.1.short; simp; omega⟩
        go_wp2_with fail
        rw [← hW4]
        go_end0
        exact ⟨rfl, HR.out, HK4.out⟩
      · go_upto_region 11 with fail
        rw [← hW4]
        clear hW4 m0 m1 m2 m3 m4 m5 m6 mf d0 d1 d2 d3 d4 d5
        obtain ⟨d0, d1, d2, d3, d4, d5⟩ := HX4.out 0 e rfl
        simp only [Nat.zero_add, Nat.zero_mul] at d0 d1 d2 d3 d4 d5
        go_wp2_with fail
        refine (hides_core base mb e.col (cut0 dv) ([] : List (Nat × Int)) true e.ts cg cc L e.ts a _ HM4.out (by have := HMem.out.len; omega)).mono ?_
        rintro e' w5 ⟨rfl, hb5⟩
        have hs5 := hb5.size
        have HM5 : Hid (MgAt w5 base mb e.col (cut0 dv) ([] : List (Nat × Int)) true e.ts cg cc L) := HM4.out.below hb5
        have HK5 : Hid (Chg (Mine mb dv cg) w w5) := HK4.out.trans (Chg.of_below hb5)
        have HX5 : Hid (EntsAt w5 w.heap.size 0 [e]) := HX4.out.below hb5 (by omega)
        have HOv : Hid (Over P a e ↔ hides ([] : List (Nat × Int)) e.ts a = true) := over_hides HMem.out H0.out.2.2.2.1 HK.out HD.out
        clear d0 d1 d2 d3 d4 d5
        cases hh : hides ([] : List (Nat × Int)) e.ts a
        · obtain ⟨d0, d1, d2, d3, d4, d5⟩ := HX5.out 0 e rfl
          simp only [Nat.zero_add, Nat.zero_mul] at d0 d1 d2 d3 d4 d5
          obtain ⟨m0, m1, m2, m3, m4, m5, m6, mf⟩ := HM5.out.cell
          go_upto_region 12 with fail
          have nmb : mb ≠ w.heap.size := by omega
          have hLl : L.length ≤ 2 ^ 30 := by have := H0.out.1.short; omega
          have hbs : base ≤ w5.heap.size := by omega
          have ncg : cg ≠ w.heap.size := by have := (H0.out.1.at_.low cg (.inr (.inr rfl))).2; omega
          have nmc : mb ≠ cg := fun q => HM5.out.apart.2.1 q.symm
          have hcl : cg < w5.heap.size := (HM5.out.low cg (.inr (.inr rfl))).2
          have hml : mb < w5.heap.size := (HM5.out.low mb (.inl rfl)).2
          have HSp : Hid (Shown (P ++ [(a, e)]) (L ++ [e])) := shown_put H0.out.1.shown H0.out.2.2.2.1 (by simpa using k0) (fun q => by have := HOv.out.1 q; rw [hh] at this; cases this)
          go_region_law ((first
              | (go_simp; go_at_call 66; refine (implCell_any e _).mono ?_; rintro e' w6 ⟨rfl, hb6⟩; have hq6 : Below w5.heap.size w5 w6 := ((Below.refl w5.heap.size w5).drew).trans hb6; obtain ⟨y0, y1, y2, y3, y4, y5⟩ := (HX5.out.below hq6 (by omega)) 0 e rfl; simp only [Nat.zero_add, Nat.zero_mul] at y0 y1 y2 y3 y4 y5; have m6' := (HM5.out.below hq6).cell.2.2.2.2.2.2.1; have m6a : ∀ o, (w6.alloc o).cell? ⟨mb, 6, none⟩ = some (.slice (some ⟨cg, 0, none⟩) L.length cc) := fun o => by { rw [((Below.refl w6.heap.size w6).alloc (Nat.le_refl _) o).cell (p := ⟨mb, 6, none⟩) (Nat.lt_of_lt_of_le hml hq6.size)]; exact m6' })
              | (refine step_append_cel _ (by rfl) _ _ (by rfl) base cg cc w6.heap.size L e (by rfl) (by rfl) ?hO ?hc hLl ?hb ?_
                 case hO => exact (HM5.out.below hq6).cells.below ((Below.refl _ _).alloc (Nat.le_refl _) _) (Nat.lt_of_lt_of_le hcl hq6.size)
                 case hc => exact cel_new w6 e
                 case hb => exact Nat.le_trans hbs (Nat.le_trans hq6.size (by simp))
                 intro g7 cp7 w7 hO7 hgr7 hgg7
                 have fin7 : Hid (MSt S base mb (P ++ [(a, e)]) (w7.setCell ⟨mb, 6, none⟩ (.slice (some ⟨g7, 0, none⟩) (L.length + 1) cp7)) e.col ∧ Chg (Mine mb dv cg) w (w7.setCell ⟨mb, 6, none⟩ (.slice (some ⟨g7, 0, none⟩) (L.length + 1) cp7))) := by { have hpf := put_fin HM5.out hq6 hO7 hgr7 (by simpa using hgg7) HMn.out HSp.out HOut.out (fun k hk => by have := H0.out.2.2.2.2 k hk; omega) H0.out.1.short; exact ⟨hpf.1, HK5.out.trans (hpf.2.mono HMine.out)⟩ }
                 have hm7 := (HM5.out.below hq6).below ((Below.refl w6.heap.size w6).alloc (Nat.le_refl _) (Obj.cells #[.string e.row, .string e.fam, .string e.qual, .int .u64 e.ts, .string e.val] 69))
                 have hc7 : Chg (fun k => k = cg) (w6.alloc (Obj.cells #[.string e.row, .string e.fam, .string e.qual, .int .u64 e.ts, .string e.val] 69)) w7 := Chg.of_grown hgr7 (fun k hk => by cases hk; rfl)
                 have m7 : w7.cell? ⟨mb, 6, none⟩ = some (.slice (some ⟨cg, 0, none⟩) L.length cc) := by rw [hc7.cell (p := ⟨mb, 6, none⟩) (hm7.low mb (.inl rfl)).2 nmc]; exact hm7.cell.2.2.2.2.2.2.1
                 have f7 : w7.frozen? ⟨mb, 6, none⟩ = false := by rw [hc7.frozen (p := ⟨mb, 6, none⟩) (hm7.low mb (.inl rfl)).2 nmc]; exact hm7.cell.2.2.2.2.2.2.2 6
                 clear hm7 hc7 hO7 hgr7 hgg7)))
          all_goals go_end0
          all_goals exact ⟨rfl, fin7.out.1, fin7.out.2⟩
        · have HR : Hid (MSt S base mb (P ++ [(a, e)]) w5 e.col) :=
            ⟨_, _, _, _, _, _, _, HM5.out, HMn.out, shown_skip H0.out.1.shown H0.out.2.2.2.1 (fun q => q.2 (HOv.out.2 hh)), HOut.out, by have := H0.out.1.short; simp; omega⟩
          go_wp2_with fail
          go_end0
          exact ⟨rfl, HR.out, HK5.out⟩
  · have HK : Hid (e.kind = 2) := by show e.kind = 2; simpa using kk
    have hdl : ([] : List (Nat × Int)).length ≤ 2 ^ 30 := by have := HMem.out.len; omega
    have hbs : base ≤ W2.heap.size := by omega
    have HMn : Hid (Mem (P ++ [(a, e)]) e.col (([] : List (Nat × Int)) ++ [(a, e.ts)]) false ts) := mem_del HMem.out HK.out
    have HSp : Hid (Shown (P ++ [(a, e)]) L) := shown_skip H0.out.1.shown H0.out.2.2.2.1 (fun q => by have := q.1; have := HK.out; omega)
    have hml : mb < W2.heap.size := (HM2.out.low mb (.inl rfl)).2
    have f3 := mf 3
    go_upto_region 7 with fail
    go_region_law ((refine step_append_del _ (by rfl) _ _ (by rfl) base W2.heap.size (cut0 dv) ([] : List (Nat × Int)) a e.ts (by rfl) (by rfl) ?hO ?h0 ?h1 hdl ?hb ?_
                    case hO => exact own_chg (S := fun _ => False) HM2.out.dels (Chg.of_below (((Below.refl W2.heap.size W2).drew).alloc (Nat.le_refl _) _)) (fun k _ q => q)
                    case h0 => simp
                    case h1 => simp
                    case hb => exact Nat.le_trans hbs (by simp)
                    intro g7 cp7 w7 hO7 hgr7 hgg7
                    have fin7 : Hid (MSt S base mb (P ++ [(a, e)]) (w7.setCell ⟨mb, 3, none⟩ (.slice (some ⟨g7, 0, none⟩) (([] : List (Nat × Int)).length + 1) cp7)) e.col ∧ Chg (Mine mb dv cg) w (w7.setCell ⟨mb, 3, none⟩ (.slice (some ⟨g7, 0, none⟩) (([] : List (Nat × Int)).length + 1) cp7)) ∧ w7.cell? ⟨mb, 3, none⟩ = some (cut0 dv) ∧ w7.frozen? ⟨mb, 3, none⟩ = false) := by { have hpf := del_fin HM2.out (((Below.refl W2.heap.size W2).drew).alloc (Nat.le_refl _) _) hO7 hgr7 (by simpa using hgg7) HMn.out HSp.out HOut.out (fun k hk => by have := H0.out.2.2.2.2 k hk; omega) H0.out.1.short; exact ⟨hpf.1, HK2.out.trans (hpf.2.1.mono HMine.out), hpf.2.2.1, hpf.2.2.2⟩ }
                    have m7 := fin7.out.2.2.1
                    have f7 := fin7.out.2.2.2
                    clear hO7 hgr7 hgg7))
    all_goals go_wp2_with fail
    all_goals (try simp only [Exit.inBlock, Exit.then])
    all_goals refine bodyPost_ret (results_none rfl _ _ _) rfl ?_
    all_goals exact ⟨rfl, fin7.out.1, fin7.out.2.1⟩
end Go.Proofs.Ytnncedndlhfdkac

/-
  (*impl.merger).take: a new column.
-/
namespace Go.Proofs.Ytnncedndlhfdkac
open Go.ChangeShapes Go.WideShapes Go.ChangeAt Go.RowKit Go.Deep
set_option linter.unusedVariables false
set_option linter.unusedSimpArgs false
set_option maxRecDepth 100000

set_option maxHeartbeats 16000000 in
theorem take_some (S : Nat → Prop) (base mb : Nat) (P : List (Nat × Ent)) (c : ByteArray × ByteArray × ByteArray) (dv : Value) (ds : List (Nat × Int)) (dec : Bool) (ts : Int) (cg cc : Nat) (L : List Ent) (a : Nat) (e : Ent) (w : World)
    (h : MInv S base mb P w c dv ds dec ts cg cc L) (hl : Last P c) (hS : P.Pairwise Lt2) (hP : ∀ p ∈ P, Lt2 p (a, e)) (hin : ∀ k, S k → k < w.heap.size) (hB : base ≤ w.heap.size) (hN : P.length ≤ 1048576) (hcol : ¬ e.col = c) (dg dcap : Nat) (hdv : dv = .slice (some ⟨dg, 0, none⟩) ds.length dcap) :
    Calls Try.prog 43 #[.pointer (some ⟨mb, 0, none⟩), .agg #[.string e.row, .string e.fam, .string e.qual, .int .u64 e.ts, .int .i64 e.kind, .string e.val], .int .i64 a] w fun r w' =>
      r = .returned (.tuple #[]) ∧ MSt S base mb (P ++ [(a, e)]) w' e.col ∧ Chg (Mine mb dv cg) w w' := by
  have H0 : Hid (MInv S base mb P w c dv ds dec ts cg cc L ∧ Last P c ∧ P.Pairwise Lt2 ∧ (∀ p ∈ P, Lt2 p (a, e)) ∧ ∀ k, S k → k < w.heap.size) := ⟨h, hl, hS, hP, hin⟩
  clear h hl hS hP hin
  obtain ⟨Wa, hWa⟩ : ∃ Wa : World, Wa = w.alloc (Obj.cells #[.string e.row, .string e.fam, .string e.qual, .int .u64 e.ts, .int .i64 e.kind, .string e.val] 63) := ⟨_, rfl⟩
  have hba : Below w.heap.size w Wa := by rw [hWa]; exact (Below.refl _ _).alloc (Nat.le_refl _) _
  have hza : Wa.heap.size = w.heap.size + 1 := by rw [hWa]; simp
  have HXa : Hid (EntsAt Wa w.heap.size 0 [e]) := by show EntsAt Wa w.heap.size 0 [e]; rw [hWa]; exact ent_box w e
  have hmb := (H0.out.1.at_.low mb (.inl rfl)).2
  go_enter Try.func43, Try.ntmps43
  go_upto_region 1 with fail
  rw [← hWa]
  clear hWa
  obtain ⟨d0, d1, d2, d3, d4, d5⟩ := HXa.out 0 e rfl
  simp only [Nat.zero_add, Nat.zero_mul] at d0 d1 d2 d3 d4 d5
  go_wp2_with fail
  refine (column_any e _).mono ?_
  rintro e' wb ⟨rfl, hbb⟩
  obtain ⟨W1, hW1⟩ : ∃ W1 : World, W1 = wb.alloc (Obj.cells #[.string e.row, .string e.fam, .string e.qual] 73) := ⟨_, rfl⟩
  have hbc : Below wb.heap.size wb W1 := by rw [hW1]; exact (Below.refl _ _).alloc (Nat.le_refl _) _
  have hsb := hbb.size
  have hsc := hbc.size
  have HX1 : Hid (EntsAt W1 w.heap.size 0 [e]) := (HXa.out.below hbb (by omega)).below hbc (by omega)
  have k1 : Below w.heap.size w W1 := (hba.trans (hbb.mono (by omega))).trans (hbc.mono (by omega))
  have HM1 : Hid (MgAt W1 base mb c dv ds dec ts cg cc L) := H0.out.1.at_.below k1
  have HC1 : Hid (W1.cell? ⟨wb.heap.size, 0, none⟩ = some (.string e.row) ∧ W1.cell? ⟨wb.heap.size, 1, none⟩ = some (.string e.fam) ∧ W1.cell? ⟨wb.heap.size, 2, none⟩ = some (.string e.qual)) := by
    refine ⟨?_, ?_, ?_⟩ <;> (rw [hW1]; simp)
  clear d0 d1 d2 d3 d4 d5
  go_upto_region 2 with fail
  rw [← hW1]
  clear hW1
  obtain ⟨q0, q1, q2⟩ := HC1.out
  obtain ⟨m0, m1, m2, m3, m4, m5, m6, mf⟩ := HM1.out.cell
  obtain ⟨cr, cf, cq⟩ := c
  simp only at m0 m1 m2
  have hne := colNe_run e cr cf cq true (by rw [show (!true) = false from rfl, Bool.eq_false_iff, ne_eq, sameCol_col]; exact hcol)
  go_quiet (fail)
  have hcut : cut0 dv = .slice (some ⟨dg, 0, none⟩) 0 dcap := by rw [hdv]; rfl
  have hcl : ([] : List (Nat × Int)).length = 0 := rfl
  clear hcl
  rw [hdv] at m3
  have HMem : Hid (Mem P e.col ([] : List (Nat × Int)) false ts) := mem_turn H0.out.2.1 H0.out.2.2.1 H0.out.2.2.2.1 hcol ts
  have HCut : Hid (cut0 dv = .slice (some ⟨dg, 0, none⟩) 0 dcap) := hcut
  have f0 := mf 0
  have f1 := mf 1
  have f2 := mf 2
  have f3 := mf 3
  have f4 := mf 4
  obtain ⟨W2, hW2⟩ : ∃ W2 : World, W2 = (((((W1.drewN nq).setCell ⟨mb, 0, none⟩ (.string e.row)).setCell ⟨mb, 1, none⟩ (.string e.fam)).setCell ⟨mb, 2, none⟩ (.string e.qual)).setCell ⟨mb, 3, none⟩ (.slice (some ⟨dg, 0, none⟩) 0 dcap)).setCell ⟨mb, 4, none⟩ (.bool false) := ⟨_, rfl⟩
  have hb1 : Below W1.heap.size W1 (W1.drewN nq) := below_drewN (Below.refl _ _) _
  have hsd := hb1.size
  have hcw : Chg (fun k => k = mb) (W1.drewN nq) W2 := by rw [hW2]; exact ((((Chg.of_set (S := fun k => k = mb) _ _ _ _ rfl).trans (Chg.of_set (S := fun k => k = mb) _ _ _ _ rfl)).trans (Chg.of_set (S := fun k => k = mb) _ _ _ _ rfl)).trans (Chg.of_set (S := fun k => k = mb) _ _ _ _ rfl)).trans (Chg.of_set (S := fun k => k = mb) _ _ _ _ rfl)
  have hse := hcw.size
  have hw2 : w.heap.size < W2.heap.size := by omega
  have hmw : ¬ w.heap.size = mb := by omega
  have HX2 : Hid (EntsAt W2 w.heap.size 0 [e]) := (HX1.out.below hb1 (by omega)).chg hcw (by omega) hmw
  have HM2 : Hid (MgAt W2 base mb e.col (cut0 dv) [] false ts cg cc L) := by
    show MgAt W2 base mb e.col (cut0 dv) [] false ts cg cc L
    rw [hW2, ← hcut]
    have hA := (HM1.out.below hb1).setCol e.col
    exact (hA.setDels hA.dels.cut).setDec false
  have HK2 : Hid (Chg (Mine mb dv cg) w W2) := (Chg.of_below (k1.trans (hb1.mono (by have := k1.size; omega)))).trans (hcw.mono (fun k q => .inl q))
  have HOut : Hid (∀ k, Mine mb (cut0 dv) cg k → ¬ S k) := fun k q => H0.out.1.out k (by unfold Mine at *; rw [cut0_block H0.out.1.at_.dels] at q; exact q)
  go_upto_region 6 with fail
  rw [← hW2]
  clear hW2 q0 q1 q2 m0 m1 m2 m3 m4 m5 m6 mf hne hcol f0 f1 f2 f3 f4 hcut hdv
  obtain ⟨d0, d1, d2, d3, d4, d5⟩ := HX2.out 0 e rfl
  simp only [Nat.zero_add, Nat.zero_mul] at d0 d1 d2 d3 d4 d5
  obtain ⟨m0, m1, m2, m3, m4, m5, m6, mf⟩ := HM2.out.cell
  have hs2 := HK2.out.size
  have HMine : Hid (∀ k, Mine mb (cut0 dv) cg k → Mine mb dv cg k) := fun k q => by unfold Mine at *; rw [cut0_block H0.out.1.at_.dels] at q; exact q
  cases kk : (e.kind == 2)
  · have HK : Hid (¬ e.kind = 2) := by show ¬ e.kind = 2; simpa using kk
    by_cases hd : false = true ∧ ts = e.ts
    · exact absurd hd.1 (by decide)
    · have HD : Hid (¬ (false = true ∧ ts = e.ts)) := hd
      have ht : ∀ b, false = b → b = true → (ts == e.ts) = false := fun b h1 h2 => by simp; exact fun q => hd ⟨h1.trans h2, q⟩
      clear hd
      go_upto_region 8 with fail
      go_cut [58] (fun s wx => s = .bool false ∧ Below W2.heap.size W2 wx)
      case first =>
        go_quiet (fail)
        go_wp2_with fail
        go_meet
        exact ⟨rfl, below_drewN (Below.refl _ _) _⟩
      case rest =>
      obtain ⟨rfl, hb3⟩ := hcut
      have hs3 := hb3.size
      have HM3 : Hid (MgAt wc base mb e.col (cut0 dv) ([] : List (Nat × Int)) false ts cg cc L) := HM2.out.below hb3
      have HK3 : Hid (Chg (Mine mb dv cg) w wc) := HK2.out.trans (Chg.of_below hb3)
      clear m0 m1 m2 m3 m4 m5 m6 mf d0 d1 d2 d3 d4 d5 ht
      obtain ⟨d0, d1, d2, d3, d4, d5⟩ := (HX2.out.below hb3 (by omega)) 0 e rfl
      simp only [Nat.zero_add, Nat.zero_mul] at d0 d1 d2 d3 d4 d5
      obtain ⟨m0, m1, m2, m3, m4, m5, m6, mf⟩ := HM3.out.cell
      obtain ⟨W4, hW4⟩ : ∃ W4 : World, W4 = (wc.setCell ⟨mb, 4, none⟩ (.bool true)).setCell ⟨mb, 5, none⟩ (.int .u64 e.ts) := ⟨_, rfl⟩
      have HM4 : Hid (MgAt W4 base mb e.col (cut0 dv) ([] : List (Nat × Int)) true e.ts cg cc L) := by show MgAt W4 base mb e.col (cut0 dv) ([] : List (Nat × Int)) true e.ts cg cc L; rw [hW4]; exact (HM3.out.setDec true).setTs e.ts
      have hC4 : Chg (fun k => k = mb) wc W4 := by rw [hW4]; exact (Chg.of_set (S := fun k => k = mb) _ _ _ _ rfl).trans (Chg.of_set (S := fun k => k = mb) _ _ _ _ rfl)
      have hs4 := hC4.size
      have HX4 : Hid (EntsAt W4 w.heap.size 0 [e]) := (HX2.out.below hb3 (by omega)).chg hC4 (by omega) (by omega)
      have HK4 : Hid (Chg (Mine mb dv cg) w W4) := HK3.out.trans (hC4.mono (fun k q => .inl q))
      have HMn : Hid (Mem (P ++ [(a, e)]) e.col ([] : List (Nat × Int)) true e.ts) := mem_new HMem.out H0.out.2.2.2.1 HK.out
      cases k0 : (e.kind == 0)
      · have HR : Hid (MSt S base mb (P ++ [(a, e)]) W4 e.col) :=
          ⟨_, _, _, _, _, _, _, HM4.out, HMn.out, shown_skip H0.out.1.shown H0.out.2.2.2.1 (fun q => by have := q.1; simp at k0; exact k0 this), HOut.out, by have := H0.out.1.short; simp; omega⟩
        go_wp2_with fail
        rw [← hW4]
        go_end0
        exact ⟨rfl, HR.out, HK4.out⟩
      · go_upto_region 11 with fail
        rw [← hW4]
        clear hW4 m0 m1 m2 m3 m4 m5 m6 mf d0 d1 d2 d3 d4 d5
        obtain ⟨d0, d1, d2, d3, d4, d5⟩ := HX4.out 0 e rfl
        simp only [Nat.zero_add, Nat.zero_mul] at d0 d1 d2 d3 d4 d5
        go_wp2_with fail
        refine (hides_core base mb e.col (cut0 dv) ([] : List (Nat × Int)) true e.ts cg cc L e.ts a _ HM4.out (by have := HMem.out.len; omega)).mono ?_
        rintro e' w5 ⟨rfl, hb5⟩
        have hs5 := hb5.size
        have HM5 : Hid (MgAt w5 base mb e.col (cut0 dv) ([] : List (Nat × Int)) true e.ts cg cc L) := HM4.out.below hb5
        have HK5 : Hid (Chg (Mine mb dv cg) w w5) := HK4.out.trans (Chg.of_below hb5)
        have HX5 : Hid (EntsAt w5 w.heap.size 0 [e]) := HX4.out.below hb5 (by omega)
        have HOv : Hid (Over P a e ↔ hides ([] : List (Nat × Int)) e.ts a = true) := over_hides HMem.out H0.out.2.2.2.1 HK.out HD.out
        clear d0 d1 d2 d3 d4 d5
        cases hh : hides ([] : List (Nat × Int)) e.ts a
        · obtain ⟨d0, d1, d2, d3, d4, d5⟩ := HX5.out 0 e rfl
          simp only [Nat.zero_add, Nat.zero_mul] at d0 d1 d2 d3 d4 d5
          obtain ⟨m0, m1, m2, m3, m4, m5, m6, mf⟩ := HM5.out.cell
          go_upto_region 12 with fail
          have nmb : mb ≠ w.heap.size := by omega
          have hLl : L.length ≤ 2 ^ 30 := by have := H0.out.1.short; omega
          have hbs : base ≤ w5.heap.size := by omega
          have ncg : cg ≠ w.heap.size := by have := (H0.out.1.at_.low cg (.inr (.inr rfl))).2; omega
          have nmc : mb ≠ cg := fun q => HM5.out.apart.2.1 q.symm
          have hcl : cg < w5.heap.size := (HM5.out.low cg (.inr (.inr rfl))).2
          have hml : mb < w5.heap.size := (HM5.out.low mb (.inl rfl)).2
          have HSp : Hid (Shown (P ++ [(a, e)]) (L ++ [e])) := shown_put H0.out.1.shown H0.out.2.2.2.1 (by simpa using k0) (fun q => by have := HOv.out.1 q; rw [hh] at this; cases this)
          go_region_law ((first
              | (go_simp; go_at_call 66; refine (implCell_any e _).mono ?_; rintro e' w6 ⟨rfl, hb6⟩; have hq6 : Below w5.heap.size w5 w6 := ((Below.refl w5.heap.size w5).drew).trans hb6; obtain ⟨y0, y1, y2, y3, y4, y5⟩ := (HX5.out.below hq6 (by omega)) 0 e rfl; simp only [Nat.zero_add, Nat.zero_mul] at y0 y1 y2 y3 y4 y5; have m6' := (HM5.out.below hq6).cell.2.2.2.2.2.2.1; have m6a : ∀ o, (w6.alloc o).cell? ⟨mb, 6, none⟩ = some (.slice (some ⟨cg, 0, none⟩) L.length cc) := fun o => by { rw [((Below.refl w6.heap.size w6).alloc (Nat.le_refl _) o).cell (p := ⟨mb, 6, none⟩) (Nat.lt_of_lt_of_le hml hq6.size)]; exact m6' })
              | (refine step_append_cel _ (by rfl) _ _ (by rfl) base cg cc w6.heap.size L e (by rfl) (by rfl) ?hO ?hc hLl ?hb ?_
                 case hO => exact (HM5.out.below hq6).cells.below ((Below.refl _ _).alloc (Nat.le_refl _) _) (Nat.lt_of_lt_of_le hcl hq6.size)
                 case hc => exact cel_new w6 e
                 case hb => exact Nat.le_trans hbs (Nat.le_trans hq6.size (by simp))
                 intro g7 cp7 w7 hO7 hgr7 hgg7
                 have fin7 : Hid (MSt S base mb (P ++ [(a, e)]) (w7.setCell ⟨mb, 6, none⟩ (.slice (some ⟨g7, 0, none⟩) (L.length + 1) cp7)) e.col ∧ Chg (Mine mb dv cg) w (w7.setCell ⟨mb, 6, none⟩ (.slice (some ⟨g7, 0, none⟩) (L.length + 1) cp7))) := by { have hpf := put_fin HM5.out hq6 hO7 hgr7 (by simpa using hgg7) HMn.out HSp.out HOut.out (fun k hk => by have := H0.out.2.2.2.2 k hk; omega) H0.out.1.short; exact ⟨hpf.1, HK5.out.trans (hpf.2.mono HMine.out)⟩ }
                 have hm7 := (HM5.out.below hq6).below ((Below.refl w6.heap.size w6).alloc (Nat.le_refl _) (Obj.cells #[.string e.row, .string e.fam, .string e.qual, .int .u64 e.ts, .string e.val] 69))
                 have hc7 : Chg (fun k => k = cg) (w6.alloc (Obj.cells #[.string e.row, .string e.fam, .string e.qual, .int .u64 e.ts, .string e.val] 69)) w7 := Chg.of_grown hgr7 (fun k hk => by cases hk; rfl)
                 have m7 : w7.cell? ⟨mb, 6, none⟩ = some (.slice (some ⟨cg, 0, none⟩) L.length cc) := by rw [hc7.cell (p := ⟨mb, 6, none⟩) (hm7.low mb (.inl rfl)).2 nmc]; exact hm7.cell.2.2.2.2.2.2.1
                 have f7 : w7.frozen? ⟨mb, 6, none⟩ = false := by rw [hc7.frozen (p := ⟨mb, 6, none⟩) (hm7.low mb (.inl rfl)).2 nmc]; exact hm7.cell.2.2.2.2.2.2.2 6
                 clear hm7 hc7 hO7 hgr7 hgg7)))
          all_goals go_end0
          all_goals exact ⟨rfl, fin7.out.1, fin7.out.2⟩
        · have HR : Hid (MSt S base mb (P ++ [(a, e)]) w5 e.col) :=
            ⟨_, _, _, _, _, _, _, HM5.out, HMn.out, shown_skip H0.out.1.shown H0.out.2.2.2.1 (fun q => q.2 (HOv.out.2 hh)), HOut.out, by have := H0.out.1.short; simp; omega⟩
          go_wp2_with fail
          go_end0
          exact ⟨rfl, HR.out, HK5.out⟩
  · have HK : Hid (e.kind = 2) := by show e.kind = 2; simpa using kk
    have hdl : ([] : List (Nat × Int)).length ≤ 2 ^ 30 := by have := HMem.out.len; omega
    have hbs : base ≤ W2.heap.size := by omega
    have HMn : Hid (Mem (P ++ [(a, e)]) e.col (([] : List (Nat × Int)) ++ [(a, e.ts)]) false ts) := mem_del HMem.out HK.out
    have HSp : Hid (Shown (P ++ [(a, e)]) L) := shown_skip H0.out.1.shown H0.out.2.2.2.1 (fun q => by have := q.1; have := HK.out; omega)
    have hml : mb < W2.heap.size := (HM2.out.low mb (.inl rfl)).2
    have f3 := mf 3
    go_upto_region 7 with fail
    go_region_law ((refine step_append_del _ (by rfl) _ _ (by rfl) base W2.heap.size (cut0 dv) ([] : List (Nat × Int)) a e.ts (by rfl) (by rfl) ?hO ?h0 ?h1 hdl ?hb ?_
                    case hO => exact own_chg (S := fun _ => False) HM2.out.dels (Chg.of_below (((Below.refl W2.heap.size W2).drew).alloc (Nat.le_refl _) _)) (fun k _ q => q)
                    case h0 => simp
                    case h1 => simp
                    case hb => exact Nat.le_trans hbs (by simp)
                    intro g7 cp7 w7 hO7 hgr7 hgg7
                    have fin7 : Hid (MSt S base mb (P ++ [(a, e)]) (w7.setCell ⟨mb, 3, none⟩ (.slice (some ⟨g7, 0, none⟩) (([] : List (Nat × Int)).length + 1) cp7)) e.col ∧ Chg (Mine mb dv cg) w (w7.setCell ⟨mb, 3, none⟩ (.slice (some ⟨g7, 0, none⟩) (([] : List (Nat × Int)).length + 1) cp7)) ∧ w7.cell? ⟨mb, 3, none⟩ = some (cut0 dv) ∧ w7.frozen? ⟨mb, 3, none⟩ = false) := by { have hpf := del_fin HM2.out (((Below.refl W2.heap.size W2).drew).alloc (Nat.le_refl _) _) hO7 hgr7 (by simpa using hgg7) HMn.out HSp.out HOut.out (fun k hk => by have := H0.out.2.2.2.2 k hk; omega) H0.out.1.short; exact ⟨hpf.1, HK2.out.trans (hpf.2.1.mono HMine.out), hpf.2.2.1, hpf.2.2.2⟩ }
                    have m7 := fin7.out.2.2.1
                    have f7 := fin7.out.2.2.2
                    clear hO7 hgr7 hgg7))
    all_goals go_wp2_with fail
    all_goals (try simp only [Exit.inBlock, Exit.then])
    all_goals refine bodyPost_ret (results_none rfl _ _ _) rfl ?_
    all_goals exact ⟨rfl, fin7.out.1, fin7.out.2.1⟩
end Go.Proofs.Ytnncedndlhfdkac

/-
  impl.MergeRuns.
-/
namespace Go.Proofs.Ytnncedndlhfdkac
open Go.ChangeShapes Go.WideShapes Go.ChangeAt Go.RowKit Go.Deep
set_option linter.unusedVariables false
set_option linter.unusedSimpArgs false
set_option maxRecDepth 100000

theorem take_core (S : Nat → Prop) (base mb : Nat) (P : List (Nat × Ent)) (c : ByteArray × ByteArray × ByteArray) (dv : Value) (ds : List (Nat × Int)) (dec : Bool) (ts : Int) (cg cc : Nat) (L : List Ent) (a : Nat) (e : Ent) (w : World)
    (h : MInv S base mb P w c dv ds dec ts cg cc L) (hl : Last P c) (hS : P.Pairwise Lt2) (hP : ∀ p ∈ P, Lt2 p (a, e)) (hin : ∀ k, S k → k < w.heap.size) (hB : base ≤ w.heap.size) (hN : P.length ≤ 1048576) :
    Calls Try.prog 43 #[.pointer (some ⟨mb, 0, none⟩), .agg #[.string e.row, .string e.fam, .string e.qual, .int .u64 e.ts, .int .i64 e.kind, .string e.val], .int .i64 a] w fun r w' =>
      r = .returned (.tuple #[]) ∧ MSt S base mb (P ++ [(a, e)]) w' e.col ∧ Chg (Mine mb dv cg) w w' := by
  by_cases hcol : e.col = c
  · exact take_same S base mb P c dv ds dec ts cg cc L a e w h hl hS hP hin hB hN hcol
  · rcases h.at_.dels.2 with ⟨hdv, _⟩ | ⟨dg, dcap, cur, hdv, _⟩
    · exact take_nil S base mb P c dv ds dec ts cg cc L a e w h hl hS hP hin hB hN hcol hdv
    · exact take_some S base mb P c dv ds dec ts cg cc L a e w h hl hS hP hin hB hN hcol dg dcap hdv

theorem MSt.chg {S : Nat → Prop} {base mb : Nat} {P : List (Nat × Ent)} {w w' : World} {c : ByteArray × ByteArray × ByteArray} (h : MSt S base mb P w c) (hb : Chg S w w') : MSt S base mb P w' c := by
  obtain ⟨dv, ds, dec, ts, cg, cc, L, hR⟩ := h
  exact ⟨dv, ds, dec, ts, cg, cc, L, ⟨hR.at_.chg hb hR.out, hR.mem, hR.shown, hR.out, hR.short⟩⟩
theorem HeapW.chg {T : Nat → Prop} {w w' : World} {hp base g cap : Nat} {d : Array Cu} (h : HeapW w hp base g cap d) (hb : Chg T w w') (h1 : ¬ T hp) (h2 : ¬ T g) (h3 : ∀ c ∈ d, ¬ T c.blk) (h4 : ∀ k, T k → base ≤ k) : HeapW w' hp base g cap d where
  hdr := by rw [hb.cell (p := ⟨hp, 0, none⟩) h.lt h1]; exact h.hdr
  free := fun j => by rw [hb.frozen (p := ⟨hp, j, none⟩) h.lt h1]; exact h.free j
  lt := by have := hb.size; have := h.lt; omega
  ne := h.ne
  row := own_chg h.row hb (fun k q => by simp [Value.ownBlock] at q; subst q; exact h2)
  own := h.own
  cur := fun c hc => (h.cur c hc).chg hb (h3 c hc) (fun q => by have := h4 _ q; have := h.low c hc; omega)
  low := h.low
  high := h.high
theorem HeapOk.chg {A : Nat → Ent → Prop} {N : Nat} {S T : Nat → Prop} {hp base g cap : Nat} {w w' : World} {P : List (Nat × Ent)} {d : Array Cu} (h : HeapOk A N S hp base g cap w P d) (hb : Chg T w w') (hST : ∀ k, S k → ¬ T k) (h4 : ∀ k, T k → base ≤ k) : HeapOk A N S hp base g cap w' P d :=
  { h with mem := h.mem.chg hb (hST _ h.inH) (hST _ h.inG) (fun c hc => hST _ (h.inC c hc)) h4 }

/-- How the merging stands. -/
structure GInv (A : Nat → Ent → Prop) (N : Nat) (S : Nat → Prop) (hp g cap mb : Nat) (W : World) (w : World) (P : List (Nat × Ent)) (d : Array Cu) (c : ByteArray × ByteArray × ByteArray) : Prop where
  heap : HeapOk A N S hp W.heap.size g cap w P d
  mst : MSt S W.heap.size mb P w c
  last : Last P c
  below : Below W.heap.size W w
  inS : ∀ k, S k → k < w.heap.size
  lowS : ∀ k, S k → W.heap.size ≤ k
  short : N ≤ 1048576
theorem GInv.below' {A : Nat → Ent → Prop} {N : Nat} {S : Nat → Prop} {hp g cap mb : Nat} {W w w' : World} {P : List (Nat × Ent)} {d : Array Cu} {c : ByteArray × ByteArray × ByteArray} (h : GInv A N S hp g cap mb W w P d c) (hb : Below w.heap.size w w') : GInv A N S hp g cap mb W w' P d c :=
  ⟨{ h.heap with mem := h.heap.mem.below hb }, h.mst.below hb, h.last, h.below.trans (hb.mono h.below.size), fun k q => by have := h.inS k q; have := hb.size; omega, h.lowS, h.short⟩
theorem Flow.len {A : Nat → Ent → Prop} {N : Nat} {P : List (Nat × Ent)} {l : List (Nat × List Ent)} (h : Flow A N P l) : P.length ≤ N := by have := h.count; omega

/-- The entry at the top is taken. -/
theorem take_top {A : Nat → Ent → Prop} {N : Nat} {S : Nat → Prop} {hp g cap mb : Nat} {W w : World} {P : List (Nat × Ent)} {c : Cu} {t : List Cu} {co : ByteArray × ByteArray × ByteArray} (h : GInv A N S hp g cap mb W w P ⟨c :: t⟩ co) :
    Calls Try.prog 43 #[.pointer (some ⟨mb, 0, none⟩), .agg #[.string c.head.row, .string c.head.fam, .string c.head.qual, .int .u64 c.head.ts, .int .i64 c.head.kind, .string c.head.val], .int .i64 c.age] w fun r w' =>
      r = .returned (.tuple #[]) ∧ HeapOk A N S hp W.heap.size g cap w' P ⟨c :: t⟩ ∧ MSt S W.heap.size mb (P ++ [(c.age, c.head)]) w' c.head.col ∧ Below W.heap.size W w' ∧ w.heap.size ≤ w'.heap.size := by
  obtain ⟨dv, ds, dec, ts, cg, cc, L, hR⟩ := h.mst
  have hfm := flow_min h.heap.heap (fun x hx => (h.heap.mem.cur x (by simpa using hx)).here) h.heap.flow
  refine (take_core S W.heap.size mb P co dv ds dec ts cg cc L c.age c.head w hR h.last h.heap.flow.sorted hfm.1 h.inS h.below.size (Nat.le_trans h.heap.flow.len h.short)).mono ?_
  rintro e w' ⟨he, hm, hc⟩
  have hlow : ∀ k, Mine mb dv cg k → W.heap.size ≤ k := fun k q => (hR.at_.low k q).1
  exact ⟨he, h.heap.chg hc (fun k hk q => hR.out k q hk) hlow, hm, Chg.below h.below hc h.below.size hlow, hc.size⟩
/-- And the heap goes on. -/
theorem step_top {A : Nat → Ent → Prop} {N : Nat} {S : Nat → Prop} {hp g cap mb : Nat} {W w : World} {P : List (Nat × Ent)} {c : Cu} {t : List Cu} (h : HeapOk A N S hp W.heap.size g cap w P ⟨c :: t⟩) (hm : MSt S W.heap.size mb (P ++ [(c.age, c.head)]) w c.head.col) (hb : Below W.heap.size W w) (hi : ∀ k, S k → k < w.heap.size) (hl : ∀ k, S k → W.heap.size ≤ k) (hn : N ≤ 1048576) :
    Calls Try.prog 44 #[.pointer (some ⟨hp, 0, none⟩)] w fun e w' => e = .returned (.tuple #[]) ∧ ∃ d', GInv A N S hp g cap mb W w' (P ++ [(c.age, c.head)]) d' c.head.col := by
  refine (step_core A N S hp W.heap.size g cap w P c t h).mono ?_
  rintro e w' ⟨he, d', hH, hC⟩
  exact ⟨he, d', ⟨hH, hm.chg hC, last_push P c.age c.head, Chg.below hb hC hb.size hl, fun k q => by have := hi k q; have := hC.size; omega, hl, hn⟩⟩
end Go.Proofs.Ytnncedndlhfdkac

