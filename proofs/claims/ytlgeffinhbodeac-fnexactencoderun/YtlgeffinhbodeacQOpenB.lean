/-
  A text of bytes that comes in, opened.
-/
import Derived.Test.YtlgeffinhbodeacQLwB
namespace Go.Proofs.Ytlgeffinhbodeac
open Go.ChangeShapes Go.WideShapes Go.ChangeAt Go.RowKit Go.Deep
set_option linter.unusedVariables false
set_option linter.unusedSimpArgs false
set_option maxRecDepth 100000

def BysIn (w : World) (v : Value) (xs : List UInt8) : Prop :=
  xs.length ≤ maxLen ∧ ((xs = [] ∧ ∃ a cap, v = .slice a 0 cap) ∨ ∃ b off cap, v = .slice (some ⟨b, off, none⟩) xs.length cap ∧ b < w.heap.size ∧ BysAt w b off xs)
theorem BysIn.slice {w : World} {v : Value} {xs : List UInt8} (h : BysIn w v xs) : ∃ a cap, v = .slice a xs.length cap := by
  rcases h.2 with ⟨rfl, a, cap, rfl⟩ | ⟨b, off, cap, rfl, _⟩
  · exact ⟨_, _, rfl⟩
  · exact ⟨_, _, rfl⟩
theorem BysIn.below {w w' : World} {v : Value} {xs : List UInt8} (h : BysIn w v xs) (hb : Below w.heap.size w w') : BysIn w' v xs := by
  refine ⟨h.1, ?_⟩
  rcases h.2 with k | ⟨b, off, cap, hv, hlt, hA⟩
  · exact .inl k
  · exact .inr ⟨b, off, cap, hv, Nat.lt_of_lt_of_le hlt hb.size, hA.below hb hlt⟩
theorem bysIn_of_trod {H : Type} {enc : TypeId × Value → H} {w : World} {fuel : Nat} {v : Value} {x : DataW H × List MemPlace}
    (h : DataW.trod enc Try.prog w 0 (fun _ => true) true fuel 47 [v] = some x) (hlt : ∀ p ∈ x.2, p.block < w.heap.size) : ∃ xs, BysIn w v xs := by
  have hc : Try.prog.cellsOf 5 = 1 := by kernel_rfl
  rcases open_ints Try.underlying47 Try.underlying5 hc h with ⟨hcs, hx⟩ | ⟨a, len, cap, zs, hcs, _, hl, hm, hz, hx, hcell, hwz⟩
  · simp only [List.cons.injEq, and_true] at hcs
    exact ⟨[], Nat.zero_le _, .inl ⟨rfl, none, 0, hcs⟩⟩
  · simp only [List.cons.injEq, and_true] at hcs
    simp only [if_true] at hz
    by_cases h0 : len = 0
    · subst h0; exact ⟨[], Nat.zero_le _, .inl ⟨rfl, some a, cap, hcs⟩⟩
    · obtain ⟨ab, ao, spot⟩ := a
      have hspot : spot = none := by simpa [Addr.add] using World.cell?_spot (hcell 0 (by omega))
      subst hspot
      have hlen : ((zs.take len).map fun z => UInt8.ofNat z.toNat).length = len := by
        rw [List.length_map, List.length_take]; omega
      refine ⟨(zs.take len).map fun z => UInt8.ofNat z.toNat, by rw [hlen]; omega, .inr ⟨ab, ao, cap, by rw [hlen]; exact hcs, ?_, ?_⟩⟩
      · rw [hx] at hlt
        exact hlt (.cell ab (ao + 0)) (by simp only [MemPlace.row, List.mem_map, List.mem_range]; exact ⟨0, by omega, rfl⟩)
      · intro k y hy
        have hk : k < len := by
          have := (List.getElem?_eq_some_iff.1 hy).1
          rw [hlen] at this
          exact this
        have h1 := hcell k (by omega)
        rw [Addr.add_lit] at h1
        have hb := range_u8 hwz k
        rw [List.getD_eq_getElem?_getD] at h1
        rw [h1]
        rw [List.getElem?_map, List.getElem?_take_of_lt hk] at hy
        cases hq : zs[k]? with
        | none => rw [hq] at hy; cases hy
        | some z =>
          rw [hq] at hy hb
          simp only [Option.getD_some, Option.map_some, Option.some.injEq] at hy hb ⊢
          rw [← hy]
          show Value.int .u8 z = Value.int .u8 ((UInt8.ofNat z.toNat).toNat : Int)
          congr 1
          rw [UInt8.toNat_ofNat']
          have : z.toNat % 2 ^ 8 = z.toNat := Nat.mod_eq_of_lt (by omega)
          rw [this]; omega

end Go.Proofs.Ytlgeffinhbodeac
