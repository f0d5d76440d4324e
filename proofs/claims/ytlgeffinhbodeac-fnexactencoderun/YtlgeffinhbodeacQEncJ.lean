/-
  impl.EncodeRun at any run and any number of entries a block.
-/
import Derived.Test.YtlgeffinhbodeacQEncI
import Derived.Test.YtlgeffinhbodeacQEncS
namespace Go.Proofs.Ytlgeffinhbodeac
open Go.ChangeShapes Go.WideShapes Go.ChangeAt Go.RowKit Go.Deep Go.Shelf
set_option linter.unusedVariables false
set_option linter.unusedSimpArgs false
set_option maxRecDepth 100000

set_option maxHeartbeats 4000000 in
theorem encBad (b off cap : Nat) (per : Int) (es : List Ent) (w : World) (hE : EntsAt w b off es) (hok : ∀ e ∈ es, e.ok) (hB : b < w.heap.size) (hlen : es.length ≤ cap) (hcap : cap ≤ maxLen) (hn : ¬ (GoodR es ∧ 1 ≤ per ∧ per ≤ 1000)) :
    Calls Try.prog 24 #[.agg #[.slice (some ⟨b, off, none⟩) es.length cap], .int .i64 per] w fun r w' =>
      ∃ (g cp : Nat), r = .returned (.slice (some ⟨g, 0, none⟩) 0 cp) ∧ OwnY w' w.heap.size g cp [] ∧ Below w.heap.size w w' := by
  obtain ⟨W0, hW0⟩ : ∃ W0 : World, W0 = w.alloc (Obj.cells #[.slice (some ⟨b, off, none⟩) es.length cap] 50) := ⟨_, rfl⟩
  have HW0 : Hid (BoxAt W0 w.heap.size 50 1 w.heap.size [.slice (some ⟨b, off, none⟩) es.length cap] ∧ Below w.heap.size w W0) := by
    rw [hW0]; exact ⟨boxAt_new w _ (Nat.le_refl _) rfl, (Below.refl _ _).alloc (Nat.le_refl _) _⟩
  have HV : Hid (1 ≤ per → per ≤ 1000 → Calls Try.prog 56 #[.agg #[.slice (some ⟨b, off, none⟩) es.length cap]] W0 fun e w' => e = .returned (.bool false) ∧ Below W0.heap.size W0 w') := by
    intro h1 h2
    refine (implValidRun_core b off cap es W0 (hE.below HW0.out.2 hB) hok (by have := HW0.out.2.size; omega) hlen hcap).mono ?_
    rintro e w' ⟨r, rfl, hr, hb⟩
    refine ⟨?_, hb⟩
    cases r
    · rfl
    · exact absurd ⟨hr.1 rfl, h1, h2⟩ hn
  have s0 := HW0.out.2.size
  have c0 := HW0.out.1.cell (j := 0) rfl
  clear hE hok hcap hn hlen
  by_cases hp1 : per < 1
  · go_enter Try.func24, Try.ntmps24
    go_upto_region 1 with fail
    rw [← hW0]
    clear hW0
    go_wp2_with fail
    go_ret
    exact ⟨W0.heap.size, 0, rfl, (ownY_new W0 (Nat.le_refl _)).mono (by omega), HW0.out.2.alloc (by omega) _⟩
  by_cases hp2 : 1000 < per
  · go_enter Try.func24, Try.ntmps24
    go_upto_region 1 with fail
    rw [← hW0]
    clear hW0
    go_wp2_with fail
    go_ret
    exact ⟨W0.heap.size, 0, rfl, (ownY_new W0 (Nat.le_refl _)).mono (by omega), HW0.out.2.alloc (by omega) _⟩
  · go_enter Try.func24, Try.ntmps24
    go_upto_region 1 with fail
    rw [← hW0]
    clear hW0
    go_wp2_with fail
    refine (HV.out (by omega) (by omega)).mono ?_
    rintro e w1 ⟨rfl, hb1⟩
    have s1 := hb1.size
    have k1 : Below w.heap.size w w1 := HW0.out.2.trans (hb1.mono s0)
    go_wp2_with fail
    go_ret
    exact ⟨w1.heap.size, 0, rfl, (ownY_new w1 (Nat.le_refl _)).mono (by omega), k1.alloc (by omega) _⟩

theorem implEnc_core (b off cap : Nat) (es : List Ent) (per : Int) (w : World) (hE : EntsAt w b off es) (hok : ∀ e ∈ es, e.ok) (hB : b < w.heap.size) (hlen : es.length ≤ cap) (hcap : cap ≤ maxLen) :
    Calls Try.prog 24 #[.agg #[.slice (some ⟨b, off, none⟩) es.length cap], .int .i64 per] w fun r w' =>
      ∃ (g cp : Nat) (xs : List UInt8), r = .returned (.slice (some ⟨g, 0, none⟩) xs.length cp) ∧ OwnY w' w.heap.size g cp xs ∧ EncOf es per xs ∧ Below w.heap.size w w' := by
  by_cases hgd : GoodR es ∧ 1 ≤ per ∧ per ≤ 1000
  · obtain ⟨hG, hp1, hp2⟩ := hgd
    obtain ⟨p, hp⟩ : ∃ p : Nat, per = (p : Int) := ⟨per.toNat, by omega⟩
    subst hp
    refine (encGood b off cap p es w hE hok hG hB hlen hcap (by omega) (by omega)).mono ?_
    rintro r w' ⟨g, cp, m, rfl, hm, hO, hb⟩
    exact ⟨g, cp, _, by rw [hm], hO, ⟨fun _ => by rw [Int.toNat_natCast], fun q => absurd ⟨hG, hp1, hp2⟩ q⟩, hb⟩
  · refine (encBad b off cap per es w hE hok hB hlen hcap hgd).mono ?_
    rintro r w' ⟨g, cp, rfl, hO, hb⟩
    exact ⟨g, cp, [], rfl, hO, ⟨fun q => absurd q hgd, fun _ => rfl⟩, hb⟩

end Go.Proofs.Ytlgeffinhbodeac
