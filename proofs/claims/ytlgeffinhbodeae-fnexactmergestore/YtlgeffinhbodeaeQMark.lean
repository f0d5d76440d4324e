/-
  The marks that a law lays into rows and looks for.
-/
import Derived.Test.YtlgeffinhbodeaeQOpenS
namespace Go.Proofs.Ytlgeffinhbodeae
open Go.ChangeShapes Go.WideShapes Go.ChangeAt Go.RowKit Go.Deep
set_option linter.unusedVariables false

def digF : Nat → Nat → List UInt8
  | 0, _ => []
  | f + 1, k => if k = 0 then [] else digF f (k / 10) ++ [UInt8.ofNat (48 + k % 10)]
theorem digF_zero (f : Nat) : digF f 0 = [] := by cases f <;> simp [digF]
theorem digF_more : ∀ (f k : Nat), k ≤ f → digF f k = digF k k
  | 0, k, h => by rw [show k = 0 by omega]
  | f + 1, k, h => by
    by_cases h0 : k = 0
    · subst h0; rw [digF_zero, digF_zero]
    · obtain ⟨j, rfl⟩ : ∃ j, k = j + 1 := ⟨k - 1, by omega⟩
      have h1 : (j + 1) / 10 ≤ j := by omega
      unfold digF
      rw [if_neg h0, if_neg h0, digF_more f _ (by omega), digF_more j _ h1]
def dig (k : Nat) : List UInt8 := digF k k
theorem dig_step {k : Nat} (h : 0 < k) : dig k = dig (k / 10) ++ [UInt8.ofNat (48 + k % 10)] := by
  obtain ⟨j, rfl⟩ : ∃ j, k = j + 1 := ⟨k - 1, by omega⟩
  show digF (j + 1) (j + 1) = _
  rw [digF, if_neg (by omega), digF_more j _ (by omega)]; rfl
/-- The mark's text. -/
def mText (k : Nat) : ByteArray := ⟨(109 :: dig k).toArray⟩

theorem mText_eq {k : Nat} {out : ByteArray} (h : dig k = out.data.toList) : mText k = ⟨#[109]⟩ ++ out := by
  obtain ⟨a⟩ := out
  unfold mText
  rw [ByteArray.mk_append_mk, h]
  simp

set_option maxHeartbeats 400000 in
set_option maxRecDepth 100000 in
theorem markText_nat (k : Nat) (w : World) (h0 : 0 < k) (h1 : k ≤ 2 ^ 40) :
    Calls Try.prog 124 #[.int .i64 k] w fun e w' => e = .returned (.string (mText k)) ∧ Below w.heap.size w w' := by
  go_enter Try.func124, Try.ntmps124
  go_wp2
  go_loopw [0, 3] (fun c o wr => ∃ (j : Nat) (out : ByteArray), c = .int .i64 j ∧ j + out.size ≤ k ∧ o = .string out ∧ dig k = dig j ++ out.data.toList ∧ Below w.heap.size w wr) (fun c _ _ => (intOf c).toNat)
  case atStart => exact ⟨k, ⟨#[]⟩, rfl, Nat.le_refl _, rfl, by simp, Below.refl _ _⟩
  case round =>
    obtain ⟨j, out, rfl, hj, rfl, hd, hb⟩ := hrel
    have HD : Hid (dig k = dig j ++ out.data.toList) := hd
    clear hd
    by_cases hp : 0 < j
    · obtain ⟨d, hd⟩ : ∃ d : UInt8, d = UInt8.ofNat (48 + j % 10) := ⟨_, rfl⟩
      have hdn : (d.toNat : Int) = 48 + (j : Int) % 10 := by
        rw [hd, UInt8.toNat_ofNat']
        omega
      have hcv : ((convert 22 9 (.slice (some ⟨wr.heap.size, 0, none⟩) 1 1)).run Try.prog (wr.alloc (Obj.cells #[.int .u8 (48 + (j : Int) % 10)] 5))) = .ok (.string ⟨#[d]⟩) (wr.alloc (Obj.cells #[.int .u8 (48 + (j : Int) % 10)] 5)) := by
        refine run_convert_bytes_back (P := Try.prog) (wr.alloc (Obj.cells #[.int .u8 (48 + (j : Int) % 10)] 5)) 22 9 5 ⟨wr.heap.size, 0, none⟩ 1 [d] Try.underlying22 Try.underlying5 Try.underlying9 ?_
        intro i hi
        obtain rfl : i = 0 := by simpa using hi
        simp [Addr.add, hdn]
      have HN : Hid (d = UInt8.ofNat (48 + j % 10)) := hd
      clear hd hdn
      go_wp2_with fail
      refine ⟨⟨j / 10, ⟨#[d]⟩ ++ out, by go_num, ?_, rfl, ?_, hb.alloc hb.size _⟩, ?_⟩
      · go_light
        rw [ByteArray.size_append]
        show j / 10 + (1 + out.size) ≤ k
        omega
      · go_light
        rw [HD.out, dig_step hp, HN.out]
        simp
      · go_light
        simp [intOf]; omega
    · go_wp2_with fail
      go_ret
      refine ⟨?_, hb⟩
      have e : mText k = ⟨#[109]⟩ ++ out := mText_eq (by rw [HD.out, show j = 0 by omega]; rfl)
      rw [e]; rfl

theorem markText_any (a : Int) (w : World) (h0 : 0 < a) (h1 : a ≤ 2 ^ 40) :
    Calls Try.prog 124 #[.int .i64 a] w fun e w' => e = .returned (.string (mText a.toNat)) ∧ Below w.heap.size w w' := by
  obtain ⟨k, rfl⟩ := Int.eq_ofNat_of_zero_le (by omega : 0 ≤ a)
  rw [Int.toNat_natCast]
  exact markText_nat k w (by omega) (by omega)

/-- The entry that the marks from 'k' on make. -/
def mEnt (k : Int) : Ent := ⟨mText k.toNat, mText (k + 1).toNat, mText (k + 1 + 1).toNat, k + 1 + 1 + 1, k + 1 + 1 + 1 + 1, mText (k + 1 + 1 + 1 + 1 + 1).toNat⟩
/-- The first 'i' of the entries are marked, from 'k' on. -/
def marked (k : Int) (es : List Ent) (i : Nat) : Prop := ∀ j : Nat, j < i → es[j]? = some (mEnt (k + j * 6))

theorem grown_of_below {w w' : World} (h : Below w.heap.size w w') (r : Option Nat) : w.grownBy w' r := ⟨h.os, h.tape, h.output, h.size, fun k hk _ => h.block k hk⟩
theorem grown_set (w : World) (g o : Nat) (u : Value) : w.grownBy (w.setCell ⟨g, o, none⟩ u) (some g) := by
  have h : Below g w (w.setCell ⟨g, o, none⟩ u) := (Below.refl g w).setCell (Nat.le_refl _) u
  exact ⟨h.os, h.tape, h.output, h.size, fun k hk hne => Below.heap_setCell w ⟨g, o, none⟩ u k (fun e => hne (by rw [e]))⟩
theorem OwnE.upd {w : World} {base g cap m j : Nat} {fs : List Ent} {f f' : Ent} {u : Value} (h : OwnE w base g cap (fs.set m f)) (hm : m < fs.length) (hj : j < 6) (hc : f'.cells = f.cells.set j u) :
    OwnE (w.setCell ⟨g, m * 6 + j, none⟩ u) base g cap (fs.set m f') := by
  have := h.set m j f f' u (by simp [hm]) hj hc
  rwa [List.set_set] at this
theorem marked_set {k : Int} {fs : List Ent} {m : Nat} (h : marked k fs m) (hm : m < fs.length) : marked k (fs.set m (mEnt (k + m * 6))) (m + 1) := by
  intro j hj
  by_cases e : j = m
  · subst e; simp [hm]
  · rw [List.getElem?_set_ne (by omega)]; exact h j (by omega)

set_option maxHeartbeats 1000000 in
theorem markEntryS_core (base g cap : Nat) (es : List Ent) (k : Int) (w : World) (hO : OwnE w base g cap es) (h0 : 0 < k) (h1 : k ≤ 2 ^ 30) (hn : es.length ≤ 1048576) :
    Calls Try.prog 156 #[.slice (some ⟨g, 0, none⟩) es.length cap, .int .i64 k] w fun e w' =>
      ∃ fs, e = .returned (.int .i64 (k + es.length * 6)) ∧ OwnE w' base g cap fs ∧ fs.length = es.length ∧ marked k fs es.length ∧ w.grownBy w' (some g) := by
  have HO : Hid (OwnE w base g cap es) := hO
  clear hO
  go_enter Try.func156, Try.ntmps156
  go_wp2
  go_loopw [1, 5] (fun c i wr => ∃ (m : Nat) (a : Int) (fs : List Ent), m ≤ es.length ∧ i = .int .i64 m ∧ c = .int .i64 a ∧ a = k + m * 6 ∧ OwnE wr base g cap fs ∧ fs.length = es.length ∧ marked k fs m ∧ w.grownBy wr (some g)) (fun _ i _ => es.length - (intOf i).toNat)
  case atStart => exact ⟨0, k, es, Nat.zero_le _, rfl, rfl, by simp, HO.out, rfl, fun j hj => by omega, grown_of_below (Below.refl _ _) _⟩
  case round =>
    obtain ⟨m, a, fs, hm, rfl, rfl, ha, hO, hfl, hmk, hgr⟩ := hrel
    have HR : Hid (a = k + m * 6 ∧ OwnE wr base g cap fs ∧ fs.length = es.length ∧ marked k fs m) := ⟨ha, hO, hfl, hmk⟩
    have ha0 : 0 < a := by omega
    have ha1 : a ≤ 2 ^ 31 := by omega
    have HG : Hid (w.grownBy wr (some g)) := hgr
    clear hO hfl hmk ha hgr
    by_cases hlt : m < es.length
    · obtain ⟨f, hf⟩ : ∃ f, fs[m]? = some f := ⟨_, List.getElem?_eq_getElem (by rw [HR.out.2.2.1]; exact hlt)⟩
      have HF : Hid (fs[m]? = some f ∧ m < fs.length) := ⟨hf, by rw [HR.out.2.2.1]; exact hlt⟩
      clear hf
      go_wp2_with fail
      refine (markText_any a _ (by omega) (by omega)).mono ?_
      rintro e w1 ⟨rfl, hb1⟩
      have hO1 := HR.out.2.1.below hb1 HR.out.2.1.lt.2
      have c1 := (hO1.at m f HF.out.1).1
      simp only [Nat.zero_add] at c1
      have z1 := fun j => World.ownsRow.frozenAt hO1 j
      have hO1' := hO1.set m 0 f { f with row := mText a.toNat } (.string (mText a.toNat)) HF.out.1 (by omega) rfl
      have H1 : Hid (OwnE (w1.setCell ⟨g, m * 6, none⟩ (.string (mText a.toNat))) base g cap (fs.set m { f with row := mText a.toNat }) ∧ w.grownBy (w1.setCell ⟨g, m * 6, none⟩ (.string (mText a.toNat))) (some g)) := ⟨hO1', (HG.out.trans (grown_of_below hb1 _)).trans (grown_set _ _ _ _)⟩
      clear hO1 hO1' hb1
      go_wp2_with fail
      refine (markText_any (a + 1) _ (by omega) (by omega)).mono ?_
      rintro e w2 ⟨rfl, hb2⟩
      have hO2 := H1.out.1.below hb2 H1.out.1.lt.2
      have c2 := (hO2.at m _ (by simp [HF.out.2]; rfl)).2.1
      simp only [Nat.zero_add] at c2
      have z2 := fun j => World.ownsRow.frozenAt hO2 j
      have H2 : Hid (OwnE (w2.setCell ⟨g, m * 6 + 1, none⟩ (.string (mText (a + 1).toNat))) base g cap (fs.set m { f with row := mText a.toNat, fam := mText (a + 1).toNat }) ∧ w.grownBy (w2.setCell ⟨g, m * 6 + 1, none⟩ (.string (mText (a + 1).toNat))) (some g)) :=
        ⟨hO2.upd HF.out.2 (by omega) rfl, (H1.out.2.trans (grown_of_below hb2 _)).trans (grown_set _ _ _ _)⟩
      clear hO2 hb2 c1 z1
      go_wp2_with fail
      refine (markText_any (a + 1 + 1) _ (by omega) (by omega)).mono ?_
      rintro e w3 ⟨rfl, hb3⟩
      have hO3 := H2.out.1.below hb3 H2.out.1.lt.2
      obtain ⟨_, _, c3, c4, c5, _⟩ := hO3.at m _ (by simp [HF.out.2]; rfl)
      simp only [Nat.zero_add] at c3 c4 c5
      have z3 := fun j => World.ownsRow.frozenAt hO3 j
      have H3 : Hid (OwnE w3 base g cap (fs.set m { f with row := mText a.toNat, fam := mText (a + 1).toNat }) ∧ w.grownBy w3 (some g)) := ⟨hO3, H2.out.2.trans (grown_of_below hb3 _)⟩
      clear hO3 hb3 c2 z2
      go_wp2_with fail
      refine (markText_any (a + 1 + 1 + 1 + 1 + 1) _ (by omega) (by omega)).mono ?_
      rintro e w4 ⟨rfl, hb4⟩
      have hO3 := ((H3.out.1.upd (j := 2) (u := .string (mText (a + 1 + 1).toNat)) (f' := { f with row := mText a.toNat, fam := mText (a + 1).toNat, qual := mText (a + 1 + 1).toNat }) HF.out.2 (by omega) rfl).upd (j := 3) (u := .int .u64 (a + 1 + 1 + 1))
        (f' := { f with row := mText a.toNat, fam := mText (a + 1).toNat, qual := mText (a + 1 + 1).toNat, ts := a + 1 + 1 + 1 }) HF.out.2 (by omega) rfl).upd (j := 4) (u := .int .i64 (a + 1 + 1 + 1 + 1))
        (f' := { f with row := mText a.toNat, fam := mText (a + 1).toNat, qual := mText (a + 1 + 1).toNat, ts := a + 1 + 1 + 1, kind := a + 1 + 1 + 1 + 1 }) HF.out.2 (by omega) rfl
      have hO4 := hO3.below hb4 hO3.lt.2
      have c6 := (hO4.at m _ (by simp [HF.out.2]; rfl)).2.2.2.2.2
      simp only [Nat.zero_add] at c6
      have z4 := fun j => World.ownsRow.frozenAt hO4 j
      have H4 : Hid (OwnE (w4.setCell ⟨g, m * 6 + 5, none⟩ (.string (mText (a + 1 + 1 + 1 + 1 + 1).toNat))) base g cap (fs.set m (mEnt a)) ∧ w.grownBy (w4.setCell ⟨g, m * 6 + 5, none⟩ (.string (mText (a + 1 + 1 + 1 + 1 + 1).toNat))) (some g)) :=
        ⟨hO4.upd HF.out.2 (by omega) rfl, (((((H3.out.2.trans (grown_set _ _ _ _)).trans (grown_set _ _ _ _)).trans (grown_set _ _ _ _)).trans (grown_of_below hb4 _)).trans (grown_set _ _ _ _))⟩
      have HE : Hid (a = k + m * 6) := HR.out.1
      clear hO3 hO4 hb4 c3 c4 c5 z3
      go_wp2_with fail
      refine ⟨⟨m + 1, a + 1 + 1 + 1 + 1 + 1 + 1, fs.set m (mEnt a), by omega, by go_num, rfl, ?_, H4.out.1, by rw [List.length_set]; exact HR.out.2.2.1, ?_, H4.out.2⟩, ?_⟩
      · go_light
        have := HE.out
        omega
      · go_light
        have := marked_set HR.out.2.2.2 HF.out.2
        rw [← HE.out] at this
        exact this
      · go_light
        simp [intOf]; omega
    · go_wp2_with fail
      go_ret
      have e1 : m = es.length := by omega
      refine ⟨fs, ?_, HR.out.2.1, HR.out.2.2.1, ?_, HG.out⟩
      · rw [HR.out.1, e1]; rfl
      · rw [← e1]; exact HR.out.2.2.2
end Go.Proofs.Ytlgeffinhbodeae
