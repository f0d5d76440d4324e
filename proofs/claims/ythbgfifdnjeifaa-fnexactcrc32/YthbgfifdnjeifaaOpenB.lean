/-
  A text of bytes that comes in, opened.
-/
import Derived.Test.YthbgfifdnjeifaaLwB
namespace Go.Proofs.Ythbgfifdnjeifaa
open Go.ChangeShapes Go.WideShapes Go.ChangeAt Go.RowKit Go.Deep
set_option linter.unusedVariables false
set_option linter.unusedSimpArgs false
set_option maxRecDepth 100000

def BysIn (w : World) (v : Value) (xs : List UInt8) : Prop :=
  xs.length ≤ maxLen ∧ ((xs = [] ∧ ∃ a cap, v = .slice a 0 cap) ∨ ∃ b off cap, v = .slice (some ⟨b, off, none⟩) xs.length cap ∧ b < w.heap.size ∧ BysAt w b off xs)
theorem BysIn.slice {w : World} {v : Value} {xs : List UInt8} (h : BysIn w v xs) : ∃ a cap, v = .slice a xs.length cap := by
  rcases h.2 with ⟨rfl, a, cap, rfl⟩ | ⟨b, off, cap, rfl, _⟩
  · exact ⟨_, _, rfl⟩
  · exact ⟨_, _, rfl⟩
theorem BysIn.below {w w' : World} {v : Value} {xs : List UInt8} (h : BysIn w v xs) (hb : Below w.heap.size w w') : BysIn w' v xs := by
  refine ⟨h.1, ?_⟩
  rcases h.2 with k | ⟨b, off, cap, hv, hlt, hA⟩
  · exact .inl k
  · exact .inr ⟨b, off, cap, hv, Nat.lt_of_lt_of_le hlt hb.size, hA.below hb hlt⟩
theorem bysIn_of_trod {H : Type} {enc : TypeId × Value → H} {w : World} {fuel : Nat} {v : Value} {x : DataW H × List MemPlace}
    (h : DataW.trod enc Try.prog w 0 (fun _ => true) true fuel 30 [v] = some x) (hlt : ∀ p ∈ x.2, p.block < w.heap.size) : ∃ xs, BysIn w v xs := by
  have hc : Try.prog.cellsOf 5 = 1 := by kernel_rfl
  rcases open_ints Try.underlying30 Try.underlying5 hc h with ⟨hcs, hx⟩ | ⟨a, len, cap, zs, hcs, _, hl, hm, hz, hx, hcell, hwz⟩
  · simp only [List.cons.injEq, and_true] at hcs
    exact ⟨[], Nat.zero_le _, .inl ⟨rfl, none, 0, hcs⟩⟩
  · simp only [List.cons.injEq, and_true] at hcs
    simp only [if_true] at hz
    by_cases h0 : len = 0
    · subst h0; exact ⟨[], Nat.zero_le _, .inl ⟨rfl, some a, cap, hcs⟩⟩
    · obtain ⟨ab, ao, spot⟩ := a
      have hspot : spot = none := by simpa [Addr.add] using World.cell?_spot (hcell 0 (by omega))
      subst hspot
      have hlen : ((zs.take len).map fun z => UInt8.ofNat z.toNat).length = len := by
        rw [List.length_map, List.length_take]; omega
      refine ⟨(zs.take len).map fun z => UInt8.ofNat z.toNat, by rw [hlen]; omega, .inr ⟨ab, ao, cap, by rw [hlen]; exact hcs, ?_, ?_⟩⟩
      · rw [hx] at hlt
        exact hlt (.cell ab (ao + 0)) (by simp only [MemPlace.row, List.mem_map, List.mem_range]; exact ⟨0, by omega, rfl⟩)
      · intro k y hy
        have hk : k < len := by
          have := (List.getElem?_eq_some_iff.1 hy).1
          rw [hlen] at this
          exact this
        have h1 := hcell k (by omega)
        rw [Addr.add_lit] at h1
        have hb := range_u8 hwz k
        rw [List.getD_eq_getElem?_getD] at h1
        rw [h1]
        rw [List.getElem?_map, List.getElem?_take_of_lt hk] at hy
        cases hq : zs[k]? with
        | none => rw [hq] at hy; cases hy
        | some z =>
          rw [hq] at hy hb
          simp only [Option.getD_some, Option.map_some, Option.some.injEq] at hy hb ⊢
          rw [← hy]
          show Value.int .u8 z = Value.int .u8 ((UInt8.ofNat z.toNat).toNat : Int)
          congr 1
          rw [UInt8.toNat_ofNat']
          have : z.toNat % 2 ^ 8 = z.toNat := Nat.mod_eq_of_lt (by omega)
          rw [this]; omega

set_option maxHeartbeats 1000000 in
theorem toByteS_nil (a : Option Addr) (cap : Nat) (w : World) :
    Calls Try.prog 12 #[.slice a 0 cap] w fun e w' =>
      ∃ g, e = .returned (.slice (some ⟨g, 0, none⟩) 0 0) ∧ OwnY w' w.heap.size g 0 [] ∧ Below w.heap.size w w' := by
  obtain ⟨i, hi, hz0, hz1, hz2⟩ := info_parts Try.infoByte
  have HI : Hid (Try.prog.info? 5 = some i ∧ i.zero = some (.int .u8 0) ∧ i.size = 1 ∧ i.bytes = 1) := ⟨hi, hz0, hz1, hz2⟩
  clear hi hz0 hz1 hz2
  go_enter Try.func12, Try.ntmps12
  go_wp2_with (at_make; refine wpList_make_full _ rfl _ _ 30 rfl w.heap.size 5 i _ 1 Try.underlying30 HI.out.1 HI.out.2.1 HI.out.2.2.1 _ _ _ _ 0 rfl rfl ?_ ?_ ?hb ?hm ?hs ?_)
  case hb => rw [HI.out.2.2.2]; omega
  case hm => unfold maxLen; omega
  case hs => exact Nat.le_refl _
  · rfl
  · rfl
  intro w1 hown hgrow
  rw [made_zeroY] at hown
  have hb1 : Below w.heap.size w w1 := (Below.refl _ _).grown hgrow (Nat.le_refl _) (fun k hk => by cases hk)
  have HW : Hid (OwnY w1 w.heap.size w.heap.size 0 []) := hown
  clear hown hgrow
  go_wp2_with fail
  go_loopw [4] (fun i wr => i = .int .i64 0 ∧ wr = w1) (fun i _ => 0)
  case atStart => exact ⟨rfl, rfl⟩
  case round =>
    obtain ⟨rfl, rfl⟩ := hrel
    go_wp2_with fail
    go_ret
    exact ⟨w.heap.size, rfl, HW.out, hb1⟩
/-- A copy of bytes that came in. -/
theorem toByteS_in (v : Value) (xs : List UInt8) (w : World) (h : BysIn w v xs) (h1 : xs.length ≤ 1048576) :
    Calls Try.prog 12 #[v] w fun e w' =>
      ∃ g, e = .returned (.slice (some ⟨g, 0, none⟩) xs.length xs.length) ∧ OwnY w' w.heap.size g xs.length xs ∧ Below w.heap.size w w' := by
  rcases h.2 with ⟨rfl, a, cap, rfl⟩ | ⟨b, off, cap, rfl, hlt, hA⟩
  · exact toByteS_nil a cap w
  · exact toByteS_core b off cap xs w hA hlt h1
end Go.Proofs.Ythbgfifdnjeifaa
