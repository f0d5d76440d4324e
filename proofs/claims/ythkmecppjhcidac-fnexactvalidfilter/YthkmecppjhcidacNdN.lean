/-
  spec.l5Nest.
-/
import Derived.Test.YthkmecppjhcidacNdK
namespace Go.Proofs.Ythkmecppjhcidac
open Go.ChangeShapes Go.WideShapes Go.ChangeAt Go.RowKit Go.Deep
set_option linter.unusedVariables false
set_option linter.unusedSimpArgs false
set_option maxRecDepth 100000

variable (G : Nd → Bool)
def NestC (n : Nat) : Prop := ∀ (w : World) (b o cap : Nat) (xs : List Nd) (s : Shape), xs.length ≤ n → Win w b o cap xs → ShT G [s] xs → Calls Try.prog 43 #[.slice (some ⟨b, o, none⟩) xs.length cap] w fun r w' => r = .returned (.int .i64 (s.nest : Int)) ∧ Below w.heap.size w w'
theorem nestFrom_step (op : Int) {os : List Shape} {j a : Nat} {o : Shape} (h : os[j]? = some o) : nestFrom op j a (os.drop j) = nestFrom op (j + 1) (max a (o.nest + if level op j o.kind then 1 else 0)) (os.drop (j + 1)) := by
  have hj := (List.getElem?_eq_some_iff.1 h).1
  rw [List.drop_eq_getElem_cons hj, show os[j] = o from Option.some.inj ((List.getElem?_eq_getElem hj).symm.trans h)]
  rfl
structure NeJ (w : World) (b o cap : Nat) (ks : List (List Nd)) (g cp : Nat) (wr : World) : Prop where
  own : OwnV wr w.heap.size g cp (kidVs b o cap ks)
  below : Below w.heap.size w wr
theorem NeJ.move {w : World} {b o cap : Nat} {ks : List (List Nd)} {g cp : Nat} {wr w' : World} (h : NeJ w b o cap ks g cp wr) (hb : Below wr.heap.size wr w') : NeJ w b o cap ks g cp w' := ⟨h.own.below hb, h.below.trans (hb.mono h.below.size)⟩
set_option maxHeartbeats 4000000 in
theorem nest_of {n : Nat} (H : NestC G n) : NestC G (n + 1) := by
  intro w b o cap xs s hn hW hS
  obtain ⟨ys, e, os, rfl, hal, hS2, hs⟩ := ShT.inv G hS
  obtain ⟨ks, rfl, hK⟩ := ShT.kids G hS2
  have hlen := Kids.length G hK
  have HF : Hid (Win w b o cap (ks.flatten ++ [e]) ∧ Kids G os ks ∧ s = shapeM G e os ∧ os.length = ks.length ∧ ks.flatten.length ≤ n ∧ NestC G n) := ⟨hW, hK, hs, hlen, by simp at hn; rw [List.length_flatten]; omega, H⟩
  have hk3 := arity_le e.kind
  obtain ⟨a3, ha3⟩ : ∃ a3, a3 = ks.length := ⟨_, rfl⟩
  have HA : Hid (a3 = ks.length) := ha3
  have hle : a3 ≤ 3 := by omega
  have hcap := hW.cap
  have hbig : ks.flatten.length + 1 ≤ cap := by have := hW.len; rw [List.length_append, List.length_singleton] at this; exact this
  have HT : Hid (Calls Try.prog 69 #[.slice (some ⟨b, o, none⟩) (ks.flatten.length + 1) cap] w fun r w' => r = .returned (.int .i64 e.kind) ∧ w' = w) := l5Top_core hW
  have HKs : Hid (Calls Try.prog 70 #[.slice (some ⟨b, o, none⟩) (ks.flatten.length + 1) cap] w fun r w' => ∃ g cp, r = .returned (.slice (some ⟨g, 0, none⟩) a3 cp) ∧ OwnV w' w.heap.size g cp (kidVs b o cap ks) ∧ Below w.heap.size w w') := by
    rw [ha3]; exact l5Kids_core hW (by omega) (Kids.tree G hK)
  have HB : Hid (∀ o ∈ os, o.nest ≤ 281474976710656) := fun o' ho => by
    obtain ⟨k, hk, h3⟩ := kid_len G hK ho
    have h4 := len_flat hk
    have h5 := nest_len G _ (Nat.le_refl _) h3
    omega
  have HSn : Hid (nestFrom e.kind 0 0 os = s.nest) := by show _ = _; rw [hs]; rfl
  rw [List.length_append, List.length_singleton]
  obtain ⟨m, hm⟩ : ∃ m, m = ks.flatten.length := ⟨_, rfl⟩
  rw [← hm] at HT HKs hbig ⊢
  obtain ⟨sn, hsn⟩ : ∃ sn, sn = s.nest := ⟨_, rfl⟩
  have HSn2 : Hid (nestFrom e.kind 0 0 os = sn) := by rw [hsn]; exact HSn
  rw [← hsn]
  clear hW hS hS2 hK hs hal hlen H ha3 hm hn hsn HSn hk3
  go_enter Try.func43, Try.ntmps43
  go_wp2_with fail
  refine HT.out.mono ?_
  rintro r w1 ⟨rfl, hw1⟩
  rw [hw1]
  clear hw1 HT
  go_wp2_with fail
  refine HKs.out.mono ?_
  rintro r w1 ⟨g, cp, rfl, hO, hb1⟩
  have HW1 : Hid (NeJ w b o cap ks g cp w1) := ⟨hO, hb1⟩
  clear hO hb1 HKs
  go_wp2_with fail
  go_loopw [5, 6] (fun mv iv wr => ∃ (j a : Nat), iv = .int .i64 (j : Int) ∧ mv = .int .i64 (a : Int) ∧ j ≤ a3 ∧ a ≤ 999999999999999 ∧ nestFrom e.kind j a (os.drop j) = sn ∧ NeJ w b o cap ks g cp wr) (fun _ iv _ => a3 - (intOf iv).toNat)
  case atStart => exact ⟨0, 0, rfl, rfl, Nat.zero_le _, by omega, HSn2.out, HW1.out⟩
  case round =>
    obtain ⟨j, a, rfl, rfl, hj, ha, hN, hJ⟩ := hrel
    have HJ : Hid (nestFrom e.kind j a (os.drop j) = sn ∧ NeJ w b o cap ks g cp wr) := ⟨hN, hJ⟩
    have hgl := hJ.own.lt
    have hsz := hJ.below.size
    clear hN hJ HW1 HSn2
    by_cases hlt : j < a3
    · have zj : (j : Int) < (a3 : Int) := by omega
      obtain ⟨k, hk⟩ : ∃ k, ks[j]? = some k := ⟨_, List.getElem?_eq_getElem (by have := HA.out; omega)⟩
      obtain ⟨os1, ho1, hS1⟩ := Kids.nth G HF.out.2.1 hk
      obtain ⟨o', cap', hv, hWk⟩ := kidVs_nth HF.out.1 hk
      have hc := HJ.out.2.own.cell hv
      have hkn : k.length ≤ n := by have := len_flat (List.mem_of_getElem? hk); have := HF.out.2.2.2.2.1; omega
      have hWr := hWk.below HJ.out.2.below
      have HCall : Hid (Calls Try.prog 43 #[.slice (some ⟨b, o', none⟩) k.length cap'] wr fun r w' => r = .returned (.int .i64 (os1.nest : Int)) ∧ Below wr.heap.size wr w') := HF.out.2.2.2.2.2 wr b o' cap' k os1 hkn hWr hS1
      obtain ⟨ky, ke, ko, rfl, _, _, hko⟩ := ShT.inv G hS1
      have hkk : os1.kind = ke.kind := by rw [hko]; rfl
      have HTop : Hid (∀ w2, Below wr.heap.size wr w2 → Calls Try.prog 69 #[.slice (some ⟨b, o', none⟩) (ky ++ [ke]).length cap'] w2 fun r w' => r = .returned (.int .i64 os1.kind) ∧ w' = w2) := fun w2 hb2 => by
        have := l5Top_core (hWr.below hb2)
        rw [List.length_append, List.length_singleton, hkk]
        exact this
      have hnb := HB.out os1 (List.mem_of_getElem? ho1)
      have HStep : Hid (nestFrom e.kind (j + 1) (max a (os1.nest + if level e.kind j os1.kind then 1 else 0)) (os.drop (j + 1)) = sn) := by
        show _ = _
        rw [← nestFrom_step e.kind ho1]; exact HJ.out.1
      obtain ⟨kl, hkl⟩ : ∃ kl, kl = (ky ++ [ke]).length := ⟨_, rfl⟩
      rw [← hkl] at hc HCall HTop
      clear hk ho1 hS1 hv hWk hkn hWr hko hkk hkl
      go_wp2_with fail
      refine HCall.out.mono ?_
      rintro r w2 ⟨rfl, hb2⟩
      have HJ2 : Hid (NeJ w b o cap ks g cp w2) := HJ.out.2.move hb2
      have hc2 : w2.cell? ⟨g, j, none⟩ = some (.slice (some ⟨b, o', none⟩) kl cap') := by
        rw [(Chg.of_below hb2 (S := fun _ => False)).cell (p := ⟨g, j, none⟩) hgl.2 (fun q => q)]; exact hc
      have HTop2 : Hid (Calls Try.prog 69 #[.slice (some ⟨b, o', none⟩) kl cap'] w2 fun r w' => r = .returned (.int .i64 os1.kind) ∧ w' = w2) := HTop.out w2 hb2
      clear hc hb2 HTop HCall
      have fin : ∀ (x : Nat), x = os1.nest + (if level e.kind j os1.kind then 1 else 0) → x ≤ 281474976710657 → Hid (∀ y : Nat, y = max a x → nestFrom e.kind (j + 1) y (os.drop (j + 1)) = sn) := fun x hx _ y hy => by
        rw [hy, hx]; exact HStep.out
      by_cases h16 : e.kind = 16
      · have hlv : level e.kind j os1.kind = true := by unfold level; rw [h16]; rfl
        rw [hlv] at fin
        have HFin := fin (os1.nest + 1) rfl (by omega)
        have z16 : (e.kind == 16) = true := by simpa using h16
        clear fin hlv h16
        by_cases hgt : a < os1.nest + 1
        · have zg : (a : Int) < (os1.nest : Int) + 1 := by omega
          go_wp2_with fail
          go_roundw
          case rel => exact ⟨j + 1, os1.nest + 1, by go_num, by go_num, by omega, by omega, HFin.out _ (by omega), HJ2.out⟩
          case measure => simp [intOf]; omega
        · have zg : ¬ (a : Int) < (os1.nest : Int) + 1 := by omega
          go_wp2_with fail
          go_roundw
          case rel => exact ⟨j + 1, a, by go_num, rfl, by omega, by omega, HFin.out _ (by omega), HJ2.out⟩
          case measure => simp [intOf]; omega
      · have z16 : (e.kind == 16) = false := by simpa using h16
        go_wp2_with fail
        refine HTop2.out.mono ?_
        rintro r w3 ⟨rfl, hw3⟩
        rw [hw3]
        clear hw3 HTop2
        go_wp2_with fail
        refine (l5Wrapped_core e.kind j os1.kind _ h16).mono ?_
        rintro r w3 ⟨rfl, hw3⟩
        rw [hw3]
        clear hw3
        cases hlv : level e.kind j os1.kind
        · rw [hlv] at fin
          have HFin := fin os1.nest rfl (by omega)
          clear fin hlv
          by_cases hgt : a < os1.nest
          · have zg : (a : Int) < (os1.nest : Int) := by omega
            go_wp2_with fail
            go_roundw
            case rel => exact ⟨j + 1, os1.nest, by go_num, rfl, by omega, by omega, HFin.out _ (by omega), HJ2.out⟩
            case measure => simp [intOf]; omega
          · have zg : ¬ (a : Int) < (os1.nest : Int) := by omega
            go_wp2_with fail
            go_roundw
            case rel => exact ⟨j + 1, a, by go_num, rfl, by omega, by omega, HFin.out _ (by omega), HJ2.out⟩
            case measure => simp [intOf]; omega
        · rw [hlv] at fin
          have HFin := fin (os1.nest + 1) rfl (by omega)
          clear fin hlv
          by_cases hgt : a < os1.nest + 1
          · have zg : (a : Int) < (os1.nest : Int) + 1 := by omega
            go_wp2_with fail
            go_roundw
            case rel => exact ⟨j + 1, os1.nest + 1, by go_num, by go_num, by omega, by omega, HFin.out _ (by omega), HJ2.out⟩
            case measure => simp [intOf]; omega
          · have zg : ¬ (a : Int) < (os1.nest : Int) + 1 := by omega
            go_wp2_with fail
            go_roundw
            case rel => exact ⟨j + 1, a, by go_num, rfl, by omega, by omega, HFin.out _ (by omega), HJ2.out⟩
            case measure => simp [intOf]; omega
    · have zj : ¬ (j : Int) < (a3 : Int) := by omega
      have hd : a = sn := by
        have := HJ.out.1
        rw [List.drop_eq_nil_of_le (by have := HA.out; have := HF.out.2.2.2.1; omega)] at this
        exact this
      subst hd
      go_wp2_with fail
      go_ret
      exact ⟨rfl, HJ.out.2.below⟩
theorem nest_all : ∀ n, NestC G n
  | 0 => fun w b o cap xs s hn hW hS => by
    obtain ⟨ys, e, os, rfl, _⟩ := ShT.inv G hS
    simp at hn
  | n + 1 => nest_of G (nest_all n)
end Go.Proofs.Ythkmecppjhcidac
