/-
  impl.Replay.
-/
import Derived.Test.YtjphalbjimggcacMarkR
import Derived.Test.YtjphalbjimggcacMarkC
import Derived.Test.YtjphalbjimggcacRepS
namespace Go.Proofs.Ytjphalbjimggcac
open Go.ChangeShapes Go.WideShapes Go.ChangeAt Go.RowKit Go.Deep
set_option linter.unusedVariables false
set_option linter.unusedSimpArgs false
set_option maxRecDepth 100000

theorem puts_take {R : List Ent} {k : Nat} {x : Ent} (hx : R[k]? = some x) : puts (R.take (k + 1)) = puts (R.take k) ++ (if x.kind = 0 then [x] else []) := by
  unfold puts
  rw [List.take_add_one, hx, List.filter_append]
  by_cases h : x.kind = 0 <;> simp [h]
theorem puts_take_len (R : List Ent) (k : Nat) : (puts (R.take k)).length ≤ R.length :=
  Nat.le_trans (length_puts _) (by rw [List.length_take]; exact Nat.min_le_right _ _)
theorem runOf_len {ws R : List Ent} (h : RunOf ws R) : R.length ≤ ws.length := by
  by_cases g : GoodW ws
  · exact kept_len (h.1 g)
  · rw [h.2 g]; simp
theorem repOf_puts {ws L R : List Ent} (h : RepOf ws L) (k : RunOf ws R) : L = puts R := by
  by_cases g : GoodW ws
  · exact rep_kept (h.1 g) (k.1 g)
  · rw [h.2 g, k.2 g]; rfl

theorem runField (a : Option Addr) (n c : Nat) (w : World) : (Instr.field 57 (.agg #[.slice a n c]) 0).run Try.prog w = .ok (.slice a n c) w := by
  simp [Instr.field, go_sem, part, asAgg]

set_option maxHeartbeats 4000000 in
theorem implReplay_any (gx : Nat) (ws : List Ent) (base : Nat) (w : World) (hO : OwnE w base gx ws.length ws) (hok : ∀ e ∈ ws, e.ok) (hlen : ws.length ≤ 1048576) :
    Calls Try.prog 8 #[.slice (some ⟨gx, 0, none⟩) ws.length ws.length] w fun r w' =>
      ∃ (g cp : Nat) (R : List Ent), r = .returned (.slice (some ⟨g, 0, none⟩) (puts R).length cp) ∧ OwnC w' w.heap.size g cp (puts R) ∧ RunOf ws R ∧ Below w.heap.size w w' := by
  have hgx := hO.lt
  obtain ⟨W0, hW0⟩ : ∃ W0 : World, W0 = w.alloc (Obj.cells #[] 53) := ⟨_, rfl⟩
  have hb0 : Below w.heap.size w W0 := by rw [hW0]; exact (Below.refl _ _).alloc (Nat.le_refl _) _
  have hz0 : w.heap.size < W0.heap.size := by rw [hW0]; simp
  have HC0 : Hid (OwnC W0 w.heap.size w.heap.size 0 []) := by show OwnC W0 w.heap.size w.heap.size 0 []; rw [hW0]; exact ownC_new w
  have HO0 : Hid (OwnE W0 base gx ws.length ws ∧ ∀ e ∈ ws, e.ok) := ⟨hO.below hb0 hgx.2, hok⟩
  clear hO hok
  go_enter Try.func8, Try.ntmps8
  go_wp2_with fail
  rw [← hW0]
  clear hW0
  refine (implBuild_any gx ws base _ HO0.out.1 HO0.out.2 hlen).mono ?_
  rintro e w1 ⟨a, n, c, R, rfl, hU, hR, hb1⟩
  have hs1 := hb1.size
  have hRl := runOf_len hR
  have HR : Hid (RunOf ws R) := hR
  have HC1 : Hid (OwnC w1 w.heap.size w.heap.size 0 []) := HC0.out.below hb1 hz0
  have k1 : Below w.heap.size w w1 := hb0.trans (hb1.mono (by omega))
  clear hR
  rcases hU with ⟨hu, hRn⟩ | ⟨g, cp, hu, hO⟩
  · obtain ⟨rfl, rfl, rfl⟩ : a = none ∧ n = 0 ∧ c = 0 := by simpa using hu
    have HN : Hid (R = []) := hRn
    clear hRn hu
    have hfl := runField none 0 0 w1
    go_wp2_with fail
    go_loopw [3, 11] (fun o i wr => o = .slice (some ⟨w.heap.size, 0, none⟩) 0 0 ∧ i = .int .i64 0 ∧ wr = w1) (fun _ i _ => 0)
    case atStart => exact ⟨rfl, rfl, rfl⟩
    case round =>
      obtain ⟨rfl, rfl, rfl⟩ := hrel
      go_wp2_with fail
      go_ret
      refine ⟨w.heap.size, 0, R, ?_, ?_, HR.out, k1⟩
      · rw [HN.out]; rfl
      · rw [HN.out]; exact HC1.out
  · obtain ⟨rfl, rfl, rfl⟩ : a = some ⟨g, 0, none⟩ ∧ n = R.length ∧ c = cp := by simpa using hu
    have HL1 : Hid (OwnE w1 W0.heap.size g c R) := hO
    clear hO hu
    have hfl := runField (some ⟨g, 0, none⟩) R.length c w1
    go_wp2_with fail
    clear hfl
    go_loopw [3, 11] (fun o i wr => ∃ (m g5 cp5 : Nat), m ≤ R.length ∧ i = .int .i64 m ∧ o = .slice (some ⟨g5, 0, none⟩) (puts (R.take m)).length cp5 ∧ OwnC wr w.heap.size g5 cp5 (puts (R.take m)) ∧ OwnE wr W0.heap.size g c R ∧ Below w.heap.size w wr) (fun _ i _ => R.length - (intOf i).toNat)
    case atStart => exact ⟨0, _, 0, Nat.zero_le _, rfl, rfl, HC1.out, HL1.out, k1⟩
    case round =>
      obtain ⟨m, g5, cp5, hm, rfl, rfl, hC, hL, hbm⟩ := hrel
      have HM : Hid (OwnC wr w.heap.size g5 cp5 (puts (R.take m)) ∧ OwnE wr W0.heap.size g c R) := ⟨hC, hL⟩
      have hg5 := hC.lt
      have hgl := hL.lt
      have hne := hC.ne_ent hL
      have hsm := hbm.size
      have htl := puts_take_len R m
      obtain ⟨P, hP⟩ : ∃ P, P = puts (R.take m) := ⟨_, rfl⟩
      have HP : Hid (P = puts (R.take m)) := hP
      rw [← hP] at htl hC ⊢
      clear hP hL
      have HC : Hid (OwnC wr w.heap.size g5 cp5 P) := hC
      clear hC
      by_cases hlt : m < R.length
      · obtain ⟨x, hx⟩ : ∃ x, R[m]? = some x := ⟨_, List.getElem?_eq_getElem hlt⟩
        have HX : Hid (puts (R.take (m + 1)) = P ++ (if x.kind = 0 then [x] else [])) := by show puts (R.take (m + 1)) = P ++ _; rw [HP.out]; exact puts_take hx
        obtain ⟨c0, c1, c2, c3, c4, c5⟩ := HM.out.2.at m x hx
        simp only [Nat.zero_add, Nat.zero_mul] at c0 c1 c2 c3 c4 c5
        clear hx
        have hbv : Below w.heap.size w (wr.alloc (Obj.cells #[.string x.row, .string x.fam, .string x.qual, .int .u64 x.ts, .int .i64 x.kind, .string x.val] 49)) := hbm.alloc hbm.size _
        have hba : Below wr.heap.size wr (wr.alloc (Obj.cells #[.string x.row, .string x.fam, .string x.qual, .int .u64 x.ts, .int .i64 x.kind, .string x.val] 49)) := (Below.refl _ _).alloc (Nat.le_refl _) _
        cases hk : (x.kind == 0)
        · have HE : Hid (puts (R.take (m + 1)) = P) := by
            show puts (R.take (m + 1)) = P
            rw [HX.out, if_neg (by simpa using hk)]; simp
          have HM2 : Hid (OwnC (wr.alloc (Obj.cells #[.string x.row, .string x.fam, .string x.qual, .int .u64 x.ts, .int .i64 x.kind, .string x.val] 49)) w.heap.size g5 cp5 P ∧ OwnE (wr.alloc (Obj.cells #[.string x.row, .string x.fam, .string x.qual, .int .u64 x.ts, .int .i64 x.kind, .string x.val] 49)) W0.heap.size g c R) := ⟨HC.out.below hba hg5.2, HM.out.2.below hba hgl.2⟩
          go_wp2_with fail
          go_roundw
          case rel => exact ⟨m + 1, g5, cp5, by omega, by go_num, by rw [HE.out], by rw [HE.out]; exact HM2.out.1, HM2.out.2, hbv⟩
          case measure => go_light; simp [intOf]; omega
        · have HE : Hid (puts (R.take (m + 1)) = P ++ [x]) := by
            show puts (R.take (m + 1)) = P ++ [x]
            rw [HX.out, if_pos (by simpa using hk)]
          go_wp2_with fail
          refine (implCell_any x _).mono ?_
          rintro e' w3 ⟨rfl, hb3⟩
          have hs3 := hb3.size
          have hsa := hba.size
          have HM3 : Hid (OwnC w3 w.heap.size g5 cp5 P ∧ OwnE w3 W0.heap.size g c R) := ⟨(HC.out.below hba hg5.2).below hb3 (by omega), (HM.out.2.below hba hgl.2).below hb3 (by omega)⟩
          have hbm3 : Below w.heap.size w w3 := hbv.trans (hb3.mono (by omega))
          have hs4 : wr.heap.size ≤ w3.heap.size := by omega
          clear c0 c1 c2 c3 c4 c5 hb3 hba hbv hs3 hsa
          go_wp2_with (at_builtin; refine wpList_append_cel _ rfl _ _ rfl w.heap.size g5 cp5 _ _ P x rfl rfl rfl ?hO ?hc ?hl ?hb ?_)
          case hO => exact HM3.out.1.below ((Below.refl _ _).alloc (Nat.le_refl _) _) (by omega)
          case hc => exact cel_new w3 x
          case hl => omega
          case hb => simp; omega
          intro g' cp' w' hO' hgr
          have HO' : Hid (OwnC w' w.heap.size g' cp' (P ++ [x])) := hO'
          have hb' : Below w.heap.size w w' := (hbm3.alloc hbm3.size _).grown hgr (by simp; omega) (fun j hj => by cases hj; omega)
          have HL' : Hid (OwnE w' W0.heap.size g c R) := OwnE.keptG (HM3.out.2.below ((Below.refl _ _).alloc (Nat.le_refl _) _) (by omega)) hgr (fun q => hne (Option.some.inj q).symm)
          clear hO' hgr
          go_wp2_with fail
          go_roundw
          case rel => exact ⟨m + 1, g', cp', by omega, by go_num, by rw [HE.out]; simp, by rw [HE.out]; exact HO'.out, HL'.out, hb'⟩
          case measure => go_light; simp [intOf]; omega
      · have HT : Hid (P = puts R) := by show P = puts R; rw [HP.out, List.take_of_length_le (by omega)]
        go_wp2_with fail
        go_ret
        refine ⟨g5, cp5, R, ?_, ?_, HR.out, hbm⟩
        · rw [← HT.out]; rfl
        · rw [← HT.out]; exact HC.out
end Go.Proofs.Ytjphalbjimggcac
