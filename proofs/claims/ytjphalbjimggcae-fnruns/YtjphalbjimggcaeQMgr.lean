/-
  The merger in memory; its look at the deletes.
-/
import Derived.Test.YtjphalbjimggcaePkAP
import Derived.Test.YtjphalbjimggcaeQCel
import Derived.Deep.AppendLies
namespace Go.Proofs.Ytjphalbjimggcae
open Go.ChangeShapes Go.WideShapes Go.ChangeAt Go.RowKit Go.Deep
set_option linter.unusedVariables false
set_option linter.unusedSimpArgs false
set_option maxRecDepth 100000

def cellsD (ds : List (Nat × Int)) : List Value := ds.flatMap fun d => [.int .i64 d.1, .int .u64 d.2]
theorem cellsD_append (a b : List (Nat × Int)) : cellsD (a ++ b) = cellsD a ++ cellsD b := by simp [cellsD]
theorem cellsD_len : ∀ ds : List (Nat × Int), (cellsD ds).length = ds.length * 2
  | [] => rfl
  | d :: ds => by
    have := cellsD_len ds
    unfold cellsD at *
    rw [List.flatMap_cons, List.length_append, this]; simp; omega
theorem cellsD_get : ∀ (ds : List (Nat × Int)) (k : Nat) (d : Nat × Int), ds[k]? = some d → (cellsD ds)[k * 2]? = some (.int .i64 d.1) ∧ (cellsD ds)[k * 2 + 1]? = some (.int .u64 d.2)
  | [], k, d, h => by simp at h
  | x :: ds, 0, d, h => by
    simp at h
    subst h
    exact ⟨rfl, rfl⟩
  | x :: ds, k + 1, d, h => by
    simp at h
    have := cellsD_get ds k d h
    have e : cellsD (x :: ds) = .int .i64 x.1 :: .int .u64 x.2 :: cellsD ds := rfl
    rw [e, show (k + 1) * 2 = k * 2 + 1 + 1 by omega, show k * 2 + 1 + 1 + 1 = (k * 2 + 1) + 1 + 1 by omega]
    simpa using this

/-- The merger's own variable. -/
def OwnM (w : World) (base mb : Nat) (vs : List Value) : Prop := w.ownsRow base 88 7 (.slice (some ⟨mb, 0, none⟩) 1 1) 1 vs
def OwnD (w : World) (base : Nat) (dv : Value) (ds : List (Nat × Int)) : Prop := w.ownsRow base 132 2 dv ds.length (cellsD ds)
/-- The merger with its two rows. -/
structure MgAt (w : World) (base mb : Nat) (c : ByteArray × ByteArray × ByteArray) (dv : Value) (ds : List (Nat × Int)) (dec : Bool) (ts : Int) (cg cc : Nat) (L : List Ent) : Prop where
  own : OwnM w base mb [.string c.1, .string c.2.1, .string c.2.2, dv, .bool dec, .int .u64 ts, .slice (some ⟨cg, 0, none⟩) L.length cc]
  dels : OwnD w base dv ds
  cells : OwnC w base cg cc L
/-- The merger's blocks. -/
def Mine (mb : Nat) (dv : Value) (cg : Nat) (k : Nat) : Prop := k = mb ∨ dv.ownBlock = some k ∨ k = cg
theorem MgAt.chg {S : Nat → Prop} {w w' : World} {base mb : Nat} {c : ByteArray × ByteArray × ByteArray} {dv : Value} {ds : List (Nat × Int)} {dec : Bool} {ts : Int} {cg cc : Nat} {L : List Ent} (h : MgAt w base mb c dv ds dec ts cg cc L) (hb : Chg S w w') (hn : ∀ k, Mine mb dv cg k → ¬ S k) : MgAt w' base mb c dv ds dec ts cg cc L where
  own := own_chg h.own hb (fun k q => hn k (.inl (by simpa [Value.ownBlock] using q.symm)))
  dels := own_chg h.dels hb (fun k q => hn k (.inr (.inl q)))
  cells := own_chg h.cells hb (fun k q => hn k (.inr (.inr (by simpa [Value.ownBlock] using q.symm))))
theorem MgAt.below {w w' : World} {base mb : Nat} {c : ByteArray × ByteArray × ByteArray} {dv : Value} {ds : List (Nat × Int)} {dec : Bool} {ts : Int} {cg cc : Nat} {L : List Ent} (h : MgAt w base mb c dv ds dec ts cg cc L) (hb : Below w.heap.size w w') : MgAt w' base mb c dv ds dec ts cg cc L :=
  h.chg (S := fun _ => False) (Chg.of_below hb) (fun k _ q => q)
theorem MgAt.low {w : World} {base mb : Nat} {c : ByteArray × ByteArray × ByteArray} {dv : Value} {ds : List (Nat × Int)} {dec : Bool} {ts : Int} {cg cc : Nat} {L : List Ent} (h : MgAt w base mb c dv ds dec ts cg cc L) : ∀ k, Mine mb dv cg k → base ≤ k ∧ k < w.heap.size := by
  rintro k (rfl | q | rfl)
  · exact World.ownsRow.lt h.own k rfl
  · exact World.ownsRow.lt h.dels k q
  · exact World.ownsRow.lt h.cells k rfl
theorem MgAt.cell {w : World} {base mb : Nat} {c : ByteArray × ByteArray × ByteArray} {dv : Value} {ds : List (Nat × Int)} {dec : Bool} {ts : Int} {cg cc : Nat} {L : List Ent} (h : MgAt w base mb c dv ds dec ts cg cc L) :
    w.cell? ⟨mb, 0, none⟩ = some (.string c.1) ∧ w.cell? ⟨mb, 1, none⟩ = some (.string c.2.1) ∧ w.cell? ⟨mb, 2, none⟩ = some (.string c.2.2) ∧ w.cell? ⟨mb, 3, none⟩ = some dv ∧ w.cell? ⟨mb, 4, none⟩ = some (.bool dec) ∧ w.cell? ⟨mb, 5, none⟩ = some (.int .u64 ts) ∧ w.cell? ⟨mb, 6, none⟩ = some (.slice (some ⟨cg, 0, none⟩) L.length cc) ∧ (∀ j, w.frozen? ⟨mb, j, none⟩ = false) :=
  ⟨World.ownsRow.cellAt h.own 0 (by decide), World.ownsRow.cellAt h.own 1 (by decide), World.ownsRow.cellAt h.own 2 (by decide), World.ownsRow.cellAt h.own 3 (by decide), World.ownsRow.cellAt h.own 4 (by decide), World.ownsRow.cellAt h.own 5 (by decide), World.ownsRow.cellAt h.own 6 (by decide), fun j => World.ownsRow.frozenAt h.own j⟩
/-- A cell of the merger written: its rows stay. -/
theorem MgAt.apart {w : World} {base mb : Nat} {c : ByteArray × ByteArray × ByteArray} {dv : Value} {ds : List (Nat × Int)} {dec : Bool} {ts : Int} {cg cc : Nat} {L : List Ent} (h : MgAt w base mb c dv ds dec ts cg cc L) : (∀ k, dv.ownBlock = some k → ¬ k = mb) ∧ ¬ cg = mb ∧ (∀ k, dv.ownBlock = some k → ¬ k = cg) := by
  refine ⟨fun k hk q => ?_, fun q => ?_, fun k hk q => ?_⟩
  · exact own_apart h.dels h.own (by decide) k hk (by rw [q]; rfl)
  · exact own_apart h.cells h.own (by decide) cg rfl (by rw [q]; rfl)
  · exact own_apart h.dels h.cells (by decide) k hk (by rw [q]; rfl)
theorem rows_set {w : World} {base mb : Nat} {c : ByteArray × ByteArray × ByteArray} {dv : Value} {ds : List (Nat × Int)} {dec : Bool} {ts : Int} {cg cc : Nat} {L : List Ent} (h : MgAt w base mb c dv ds dec ts cg cc L) (j : Nat) (u : Value) :
    OwnD (w.setCell ⟨mb, j, none⟩ u) base dv ds ∧ OwnC (w.setCell ⟨mb, j, none⟩ u) base cg cc L :=
  ⟨own_chg h.dels (Chg.of_set (S := fun k => k = mb) w mb j u rfl) h.apart.1, own_chg h.cells (Chg.of_set (S := fun k => k = mb) w mb j u rfl) (fun k q => by simp [Value.ownBlock] at q; subst q; exact h.apart.2.1)⟩
theorem MgAt.setCol {w : World} {base mb : Nat} {c : ByteArray × ByteArray × ByteArray} {dv : Value} {ds : List (Nat × Int)} {dec : Bool} {ts : Int} {cg cc : Nat} {L : List Ent} (h : MgAt w base mb c dv ds dec ts cg cc L) (c' : ByteArray × ByteArray × ByteArray) :
    MgAt (((w.setCell ⟨mb, 0, none⟩ (.string c'.1)).setCell ⟨mb, 1, none⟩ (.string c'.2.1)).setCell ⟨mb, 2, none⟩ (.string c'.2.2)) base mb c' dv ds dec ts cg cc L := by
  have h1 : MgAt (w.setCell ⟨mb, 0, none⟩ (.string c'.1)) base mb (c'.1, c.2.1, c.2.2) dv ds dec ts cg cc L := ⟨(World.ownsRow.stored h.own 0 _).1, (rows_set h 0 _).1, (rows_set h 0 _).2⟩
  have h2 : MgAt ((w.setCell ⟨mb, 0, none⟩ (.string c'.1)).setCell ⟨mb, 1, none⟩ (.string c'.2.1)) base mb (c'.1, c'.2.1, c.2.2) dv ds dec ts cg cc L := ⟨(World.ownsRow.stored h1.own 1 _).1, (rows_set h1 1 _).1, (rows_set h1 1 _).2⟩
  exact ⟨(World.ownsRow.stored h2.own 2 _).1, (rows_set h2 2 _).1, (rows_set h2 2 _).2⟩
theorem MgAt.setDec {w : World} {base mb : Nat} {c : ByteArray × ByteArray × ByteArray} {dv : Value} {ds : List (Nat × Int)} {dec : Bool} {ts : Int} {cg cc : Nat} {L : List Ent} (h : MgAt w base mb c dv ds dec ts cg cc L) (dec' : Bool) :
    MgAt (w.setCell ⟨mb, 4, none⟩ (.bool dec')) base mb c dv ds dec' ts cg cc L := ⟨(World.ownsRow.stored h.own 4 _).1, (rows_set h 4 _).1, (rows_set h 4 _).2⟩
theorem MgAt.setTs {w : World} {base mb : Nat} {c : ByteArray × ByteArray × ByteArray} {dv : Value} {ds : List (Nat × Int)} {dec : Bool} {ts : Int} {cg cc : Nat} {L : List Ent} (h : MgAt w base mb c dv ds dec ts cg cc L) (ts' : Int) :
    MgAt (w.setCell ⟨mb, 5, none⟩ (.int .u64 ts')) base mb c dv ds dec ts' cg cc L := ⟨(World.ownsRow.stored h.own 5 _).1, (rows_set h 5 _).1, (rows_set h 5 _).2⟩
/-- Cut to nothing. -/
def cut0 : Value → Value
  | .slice a _ cap => .slice a 0 cap
  | v => v
theorem cut0_block {w : World} {base : Nat} {dv : Value} {ds : List (Nat × Int)} (h : OwnD w base dv ds) : (cut0 dv).ownBlock = dv.ownBlock := by
  rcases h.2 with ⟨rfl, _⟩ | ⟨g, cap, cur, rfl, _⟩ <;> rfl
theorem OwnD.cut {w : World} {base : Nat} {dv : Value} {ds : List (Nat × Int)} (h : OwnD w base dv ds) : OwnD w base (cut0 dv) [] := by
  rcases h.2 with ⟨rfl, _⟩ | ⟨g, cap, cur, rfl, h1, h2, h3, h4, h5, h6⟩
  · exact ⟨rfl, .inl ⟨rfl, rfl⟩⟩
  · exact ⟨rfl, .inr ⟨g, cap, cur, rfl, h1, h2, Nat.zero_le _, h4, h5, by simp [cellsD]⟩⟩
theorem MgAt.setDels {w : World} {base mb : Nat} {c : ByteArray × ByteArray × ByteArray} {dv dv' : Value} {ds ds' : List (Nat × Int)} {dec : Bool} {ts : Int} {cg cc : Nat} {L : List Ent} (h : MgAt w base mb c dv ds dec ts cg cc L) (hd : OwnD w base dv' ds') :
    MgAt (w.setCell ⟨mb, 3, none⟩ dv') base mb c dv' ds' dec ts cg cc L :=
  ⟨(World.ownsRow.stored h.own 3 _).1, own_chg hd (Chg.of_set (S := fun k => k = mb) w mb 3 dv' rfl) (fun k hk q => own_apart hd h.own (by decide) k hk (by rw [q]; rfl)), (rows_set h 3 _).2⟩
theorem MgAt.setCells {w : World} {base mb : Nat} {c : ByteArray × ByteArray × ByteArray} {dv : Value} {ds : List (Nat × Int)} {dec : Bool} {ts : Int} {cg cc cg' cc' : Nat} {L L' : List Ent} (h : MgAt w base mb c dv ds dec ts cg cc L) (hd : OwnC w base cg' cc' L') :
    MgAt (w.setCell ⟨mb, 6, none⟩ (.slice (some ⟨cg', 0, none⟩) L'.length cc')) base mb c dv ds dec ts cg' cc' L' :=
  ⟨(World.ownsRow.stored h.own 6 _).1, (rows_set h 6 _).1, own_chg hd (Chg.of_set (S := fun k => k = mb) w mb 6 _ rfl) (fun k hk q => own_apart hd h.own (by decide) k hk (by rw [q]; rfl))⟩

set_option maxHeartbeats 1000000 in
theorem hides_core (base mb : Nat) (c : ByteArray × ByteArray × ByteArray) (dv : Value) (ds : List (Nat × Int)) (dec : Bool) (ts : Int) (cg cc : Nat) (L : List Ent) (t : Int) (a : Nat) (w : World) (h : MgAt w base mb c dv ds dec ts cg cc L) (hn : ds.length ≤ 1048576) :
    Calls Try.prog 72 #[.pointer (some ⟨mb, 0, none⟩), .int .u64 t, .int .i64 a] w fun e w' => e = .returned (.bool (hides ds t a)) ∧ Below w.heap.size w w' := by
  obtain ⟨_, _, _, c3, _, _, _, _⟩ := h.cell
  rcases h.dels.2 with ⟨rfl, h0⟩ | ⟨g, cap, cur, rfl, h1, h2, h3, h4, h5, h6⟩
  · have hd : ds = [] := List.eq_nil_of_length_eq_zero h0
    subst hd
    clear h
    go_enter Try.func72, Try.ntmps72
    go_wp2_with fail
    go_loopw [14] (fun c wr => c = .int .i64 0 ∧ wr = w) (fun _ _ => 0)
    case atStart => exact ⟨rfl, rfl⟩
    case round =>
      obtain ⟨rfl, rfl⟩ := hrel
      go_wp2_with fail
      go_ret
      exact ⟨rfl, Below.refl _ _⟩
  · have HD : Hid (OwnD w base (.slice (some ⟨g, 0, none⟩) ds.length cap) ds) := h.dels
    have hgl : g < w.heap.size := (World.ownsRow.lt h.dels g rfl).2
    clear h h1 h2 h3 h4 h5 h6
    go_enter Try.func72, Try.ntmps72
    go_wp2_with fail
    go_loopw [14] (fun c wr => ∃ k : Nat, k ≤ ds.length ∧ c = .int .i64 k ∧ hides (ds.take k) t a = false ∧ Below w.heap.size w wr) (fun c _ => ds.length - (intOf c).toNat)
    case atStart => exact ⟨0, Nat.zero_le _, rfl, rfl, Below.refl _ _⟩
    case round =>
      obtain ⟨k, hk, rfl, hf, hb⟩ := hrel
      have HF : Hid (hides (ds.take k) t a = false) := hf
      have hs := hb.size
      clear hf c3
      by_cases hlt : k < ds.length
      · obtain ⟨d, hd⟩ : ∃ d, ds[k]? = some d := ⟨_, List.getElem?_eq_getElem hlt⟩
        have hg2 := cellsD_get ds k d hd
        have q0 : wr.cell? ⟨g, k * 2, none⟩ = some (.int .i64 d.1) := by
          rw [hb.cell (p := ⟨g, k * 2, none⟩) hgl]; exact (World.ownsRow.cellAt HD.out (k * 2) (by omega)).trans hg2.1
        have q1 : wr.cell? ⟨g, k * 2 + 1, none⟩ = some (.int .u64 d.2) := by
          rw [hb.cell (p := ⟨g, k * 2 + 1, none⟩) hgl]; exact (World.ownsRow.cellAt HD.out (k * 2 + 1) (by omega)).trans hg2.2
        have HN : Hid (ds[k]? = some d) := hd
        have HT : Hid (hides (ds.take (k + 1)) t a = (decide (d.1 < a) && decide (t ≤ d.2))) := by
          show hides (ds.take (k + 1)) t a = _
          have := HF.out
          unfold hides at *
          rw [List.take_add_one, hd, List.any_append, this]; simp
        clear hg2 hd
        have zk : (k : Int) < (ds.length : Int) := by omega
        by_cases h1 : d.1 < a
        · have z1 : (d.1 : Int) < (a : Int) := by omega
          by_cases h2 : t ≤ d.2
          · have HX : Hid (hides ds t a = true) := by
              show hides ds t a = true
              unfold hides
              rw [List.any_eq_true]
              exact ⟨d, List.mem_of_getElem? HN.out, by simp [h1, h2]⟩
            go_wp2_with fail
            go_ret
            exact ⟨by rw [HX.out]; rfl, (hb.alloc (by omega) _)⟩
          · have HX : Hid (hides (ds.take (k + 1)) t a = false) := by show _ = _; rw [HT.out]; simp [h2]
            go_wp2_with fail
            go_roundw
            case rel => exact ⟨k + 1, by omega, by go_num, HX.out, hb.alloc (by omega) _⟩
            case measure => go_light; simp [intOf]; omega
        · have z1 : ¬ (d.1 : Int) < (a : Int) := by omega
          have HX : Hid (hides (ds.take (k + 1)) t a = false) := by show _ = _; rw [HT.out]; simp [h1]
          go_wp2_with fail
          go_roundw
          case rel => exact ⟨k + 1, by omega, by go_num, HX.out, hb.alloc (by omega) _⟩
          case measure => go_light; simp [intOf]; omega
      · have HX : Hid (hides ds t a = false) := by
          have := HF.out
          rw [List.take_of_length_le (by omega)] at this
          exact this
        go_wp2_with fail
        go_ret
        exact ⟨by rw [HX.out]; rfl, hb⟩
end Go.Proofs.Ytjphalbjimggcae
