/-
  The range of a tablet: spec.l7Range, impl's rowsIn.
-/
import Derived.Test.YtlgeffinhbodeaePkC
namespace Go.Proofs.Ytlgeffinhbodeae
open Go.ChangeShapes Go.WideShapes Go.ChangeAt Go.RowKit Go.Deep
set_option linter.unusedVariables false
set_option linter.unusedSimpArgs false
set_option maxRecDepth 100000

def tbs (ts : List Tm) : List Tb := ts.map Tm.tb
theorem tbs_len (ts : List Tm) : (tbs ts).length = ts.length := by simp [tbs]
theorem tbs_get (ts : List Tm) (i : Nat) : (tbs ts)[i]? = ts[i]?.map Tm.tb := by simp [tbs]
theorem hasN_T {ts : List Tm} {i : Nat} (h : i + 1 < ts.length) : hasN (tbs ts) i = true := by unfold hasN; rw [tbs_len]; exact decide_eq_true h
theorem hasN_F {ts : List Tm} {i : Nat} (h : ¬ i + 1 < ts.length) : hasN (tbs ts) i = false := by unfold hasN; rw [tbs_len]; exact decide_eq_false h
theorem hiN_T {ts : List Tm} {i : Nat} {n : Tm} (h : ts[i + 1]? = some n) : hiN (tbs ts) i = n.lo := by unfold hiN; rw [tbs_get, h]; rfl
theorem hiN_F {ts : List Tm} {i : Nat} (h : ¬ i + 1 < ts.length) : hiN (tbs ts) i = ⟨#[]⟩ := by unfold hiN; rw [tbs_get, List.getElem?_eq_none (by omega)]; rfl

set_option maxHeartbeats 2000000 in
theorem specRange_core (b off cap : Nat) (ts : List Tm) (i : Nat) (t : Tm) (w : World) (h : TmsAt w b off ts) (hB : b < w.heap.size) (ht : ts[i]? = some t) (hn : ts.length ≤ 1048576) :
    Calls Try.prog 114 #[.agg #[.slice (some ⟨b, off, none⟩) ts.length cap], .int .i64 i] w fun e w' =>
      e = .returned (.agg #[.string t.lo, .bool (hasN (tbs ts) i), .string (hiN (tbs ts) i)]) ∧ Below w.heap.size w w' := by
  have hi : i < ts.length := (List.getElem?_eq_some_iff.1 ht).1
  obtain ⟨c0, c1, _⟩ := h i t ht
  clear c1
  by_cases hx : i + 1 < ts.length
  · obtain ⟨n, hn'⟩ : ∃ n, ts[i + 1]? = some n := ⟨_, List.getElem?_eq_getElem hx⟩
    obtain ⟨d0, d1, _⟩ := h (i + 1) n hn'
    clear d1
    rw [hasN_T hx, hiN_T hn']
    clear h ht hn'
    have kb : ∀ x, Below w.heap.size w (((w.alloc (Obj.cells #[.slice (some ⟨b, off, none⟩) ts.length cap] 66)).alloc (Obj.cells #[.string ⟨#[]⟩, .bool false, .string ⟨#[]⟩] 25)).alloc (Obj.cells #[.string t.lo, .bool x, .string ⟨#[]⟩] 25)) := fun x => (((Below.refl _ _).alloc (Nat.le_refl _) _).alloc (by simp) _).alloc (by simp; omega) _
    have d1 := (kb true).cell (p := ⟨b, off + (i + 1) * 2, none⟩) (by exact hB)
    rw [d0] at d1
    have HK : Hid (Below w.heap.size w (((w.alloc (Obj.cells #[.slice (some ⟨b, off, none⟩) ts.length cap] 66)).alloc (Obj.cells #[.string t.lo, .bool true, .string n.lo] 25)).alloc (Obj.cells #[.string t.lo, .bool true, .string n.lo] 25))) := (((Below.refl _ _).alloc (Nat.le_refl _) _).alloc (by simp) _).alloc (by simp; omega) _
    clear kb
    go_enter Try.func114, Try.ntmps114
    go_wp2_with fail
    refine bodyPost_ret (v := .agg #[.string t.lo, .bool true, .string n.lo]) (by simp [results, Try.results114, go_sem]) rfl ⟨rfl, HK.out⟩
  · rw [hasN_F hx, hiN_F hx]
    clear h ht
    go_enter Try.func114, Try.ntmps114
    go_wp2_with fail
    refine bodyPost_ret (v := .agg #[.string t.lo, .bool false, .string ⟨#[]⟩]) (by simp [results, Try.results114, go_sem]) rfl ⟨rfl, (((Below.refl _ _).alloc (Nat.le_refl _) _).alloc (by simp) _).alloc (by simp; omega) _⟩

set_option maxHeartbeats 2000000 in
theorem rowsIn_core (b off cap : Nat) (ts : List Tm) (i : Nat) (t : Tm) (w : World) (h : TmsAt w b off ts) (hB : b < w.heap.size) (ht : ts[i]? = some t) (hn : ts.length ≤ 1048576) :
    Calls Try.prog 117 #[.agg #[.slice (some ⟨b, off, none⟩) ts.length cap], .int .i64 i] w fun e w' =>
      e = .returned (.agg #[.string t.lo, .bool (hasN (tbs ts) i), .string (hiN (tbs ts) i)]) ∧ Below w.heap.size w w' := by
  have hi : i < ts.length := (List.getElem?_eq_some_iff.1 ht).1
  obtain ⟨c0, c1, _⟩ := h i t ht
  clear c1
  by_cases hx : i + 1 < ts.length
  · obtain ⟨n, hn'⟩ : ∃ n, ts[i + 1]? = some n := ⟨_, List.getElem?_eq_getElem hx⟩
    obtain ⟨d0, d1, _⟩ := h (i + 1) n hn'
    clear d1
    rw [hasN_T hx, hiN_T hn']
    clear h ht hn'
    have zx : ¬ (i : Int) + 1 = (ts.length : Int) := by omega
    go_enter Try.func117, Try.ntmps117
    go_upto_region 3 with fail
    go_region
    all_goals go_wp2_with fail
    all_goals refine bodyPost_ret (v := .agg #[.string t.lo, .bool true, .string n.lo]) (by simp [results, Try.results117, go_sem]) rfl ⟨rfl, ?_⟩
    all_goals exact (((Below.refl _ _).alloc (Nat.le_refl _) _).alloc (by simp) _).drew
  · rw [hasN_F hx, hiN_F hx]
    clear h ht
    have zx : (i : Int) + 1 = (ts.length : Int) := by omega
    go_enter Try.func117, Try.ntmps117
    go_wp2_with fail
    refine bodyPost_ret (v := .agg #[.string t.lo, .bool false, .string ⟨#[]⟩]) (by simp [results, Try.results117, go_sem]) rfl ⟨rfl, ((Below.refl _ _).alloc (Nat.le_refl _) _).alloc (by simp) _⟩
end Go.Proofs.Ytlgeffinhbodeae
