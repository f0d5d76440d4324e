import Derived.Test.YtkidabedcgngcaaGreatDoorWkAA
import Derived.Test.YtkidabedcgngcaaGreatDoorWkAD
import Derived.Test.YtkidabedcgngcaaGreatDoorWkAI
import Derived.Test.YtkidabedcgngcaaGreatDoorWkAC
import Derived.Test.YtkidabedcgngcaaGreatDoorWkAH
import Derived.Deep.RegionLaw
import Derived.Maps.AppendAt
import Derived.Deep.AppendLies
namespace Go.Proofs.YtkidabedcgngcaaGreatDoor
open Go.ChangeShapes Go.WideShapes Go.ChangeAt Go.RowKit Go.Deep
set_option linter.unusedVariables false
set_option linter.unusedSimpArgs false
set_option maxRecDepth 100000
theorem run_store_fn {P:Program} {w:World} {a:Addr} {m:Mode} (f:Fn) (b c:Array Value):(store a (.func f b c) m).run P w=stored P w a (.func f b c) m:=run_store P w a _ m rfl
attribute [local go_sem] run_store_fn
abbrev fvC (f:Nat×Array Value):Value:=.func (Fn.func f.1) #[] f.2
def SoP (t:CT) (Q:Nat→Prop) (w:World) (e:Ending) (w':World):Prop:=∃(f:Nat×Array Value),e=.returned (fvC f)∧Hid (∃R:Nat→Prop,StepAt w' t R (fvC f)∧(∀k,R k→Q k∨(w.heap.size≤k∧k<w'.heap.size))∧Below w.heap.size w w')
theorem goodN_num {n:Nd} (h:GoodN n) (hk:n.kind=11∨n.kind=12∨n.kind=13):1≤n.n∧n.n≤1000:=by
 rcases h.2.2.2 with q|q|q|q|q
 ·have:=q.1;omega
 ·have:=q.1;omega
 ·have:=q.1;omega
 ·exact q.2.2
 ·have:=q.1;omega
theorem goodN_pat {n:Nd} (h:GoodN n) (hk:PatK n.kind):(checkM (sb n.s)).1=0:=by
 unfold PatK at hk
 rcases h.2.2.2 with q|q|q|q|q
 ·exact q.2.2
 ·have:=q.1;omega
 ·have:=q.1;omega
 ·have:=q.1;omega
 ·have:=q.1;omega
theorem box_base {w:World} {base t sz g:Nat} {vs:List Value} (h:BoxAt w base t sz g vs):BoxAt w 0 t sz g vs:=row_low h (Nat.zero_le _)
set_option maxHeartbeats 4000000 in
theorem sto_leaf (n:Nd) (hg:GoodN n) (ha:arity n.kind=0) (b off cx m:Nat) (w:World) (hT:TabD w):Calls Tryz.prog 31 #[n.v,.slice (some ⟨b,off,none⟩) m cx] w (SoP (.leaf n) (fun _=>False) w):=by
 obtain⟨W1,hW1⟩:=qE (w.alloc (.cells #[.int .i64 n.kind,.string n.s,.bool n.hi,.string n.t,.int .u64 n.lo,.int .u64 n.up,.int .i64 n.n] 75):World)
 have z1:W1.heap.size=w.heap.size+1:=by rw[hW1];simp
 have HW1:Hid (BoxAt W1 w.heap.size 75 7 w.heap.size n.seven∧Below w.heap.size w W1∧W1.heap.size=w.heap.size+1):=⟨by rw[hW1];exact boxAt_new w _ (Nat.le_refl _) rfl,by rw[hW1];exact qB,z1⟩
 have HG:Hid (GoodN n∧TabD w):=⟨hg,hT⟩
 have hkk:¬n.kind=14∧¬n.kind=15∧¬n.kind=16:=by
  unfold arity at ha
  refine⟨fun q=>?_,fun q=>?_,fun q=>?_⟩
  ·rw[if_pos (.inl q)]at ha;cases ha
  ·rw[if_pos (.inr q)]at ha;cases ha
  ·rw[if_neg (by omega),if_pos q]at ha;cases ha
 have b14:(n.kind==14)=false:=by rw[beq_eq_false_iff_ne];exact hkk.1
 have b15:(n.kind==15)=false:=by rw[beq_eq_false_iff_ne];exact hkk.2.1
 have b16:(n.kind==16)=false:=by rw[beq_eq_false_iff_ne];exact hkk.2.2
 clear hg hT ha hkk z1
 obtain⟨n0,n1,n2,n3,n4,n5,n6⟩:=HW1.1.c7
 by_cases h3:n.kind=3
 ·have HE:Hid (SoP (.leaf n) (fun _=>False) w (.returned (fvC (66,#[]))) W1):=⟨_,rfl,fun _=>False,.strip h3,fun k q=>q.elim,HW1.2.1⟩
  have b3:(n.kind==3)=true:=by rw[beq_iff_eq];exact h3
  clear h3
  exact zzQ40
 have b3:(n.kind==3)=false:=by rw[beq_eq_false_iff_ne];exact h3
 by_cases h11:n.kind=11
 ·have HE:Hid (SoP (.leaf n) (fun _=>False) w (.returned (fvC (67,#[ptrC w.heap.size]))) W1):=⟨_,rfl,fun k=>k=w.heap.size,.vers h11 (goodN_num HG.1 (by omega)) _ rfl (box_base HW1.1),fun k q=>.inr ⟨by omega,by have:=HW1.2.2;omega⟩,HW1.2.1⟩
  have b11:(n.kind==11)=true:=by rw[beq_iff_eq];exact h11
  clear h11
  exact zzQ40
 have b11:(n.kind==11)=false:=by rw[beq_eq_false_iff_ne];exact h11
 by_cases h12:n.kind=12
 ·have HE:Hid (SoP (.leaf n) (fun _=>False) w (.returned (fvC (69,#[ptrC w.heap.size]))) W1):=⟨_,rfl,fun k=>k=w.heap.size,.cells h12 (goodN_num HG.1 (by omega)) _ rfl (box_base HW1.1),fun k q=>.inr ⟨by omega,by have:=HW1.2.2;omega⟩,HW1.2.1⟩
  have b12:(n.kind==12)=true:=by rw[beq_iff_eq];exact h12
  clear h12
  exact zzQ40
 have b12:(n.kind==12)=false:=by rw[beq_eq_false_iff_ne];exact h12
 by_cases h13:n.kind=13
 ·have HE:Hid (SoP (.leaf n) (fun _=>False) w (.returned (fvC (70,#[ptrC w.heap.size]))) W1):=⟨_,rfl,fun k=>k=w.heap.size,.skip h13 (goodN_num HG.1 (by omega)) _ rfl (box_base HW1.1),fun k q=>.inr ⟨by omega,by have:=HW1.2.2;omega⟩,HW1.2.1⟩
  have b13:(n.kind==13)=true:=by rw[beq_iff_eq];exact h13
  clear h13
  exact zzQ40
 have b13:(n.kind==13)=false:=by rw[beq_eq_false_iff_ne];exact h13
 have HP:Hid (Plain n):=⟨h3,h11,h12,h13⟩
 have HC:Hid (Calls Tryz.prog 71 #[n.v] W1 (CteP n W1)):=makeCellTest_core n W1 (HG.2.chg (S:=fun _=>False) (Chg.of_below HW1.2.1) (fun q=>q)) (by have:=HG.1.1;unfold maxLen;omega) (goodN_pat HG.1)
 clear h3 h11 h12 h13
 go_enter Tryz.func31,Tryz.ntmps31
 go_upto_region 1 with fail
 rw[←hW1]
 clear hW1
 go_wp2_with fail
 refine HC.mono ?_
 rintro e w2 ⟨mp,rfl,H2⟩
 obtain⟨W3,hW3⟩:=qE (w2.alloc (.cells #[.int .i64 n.kind,.string n.s,.bool n.hi,.string n.t,.int .u64 n.lo,.int .u64 n.up,.int .i64 n.n,.pointer mp] 111):World)
 have HE:Hid (SoP (.leaf n) (fun _=>False) w (.returned (fvC (72,#[ptrC w2.heap.size]))) W3):=by
  have s1:=HW1.2.2
  have s2:=H2.2.size
  have k3:Below w2.heap.size w2 W3:=by rw[hW3];exact qB
  have s3:W3.heap.size=w2.heap.size+1:=by rw[hW3];simp
  refine⟨_,rfl,fun k=>InB W1.heap.size W3.heap.size k,.test HP.out w2.heap.size W1.heap.size w2.heap.size mp ⟨⟨by omega,by omega⟩,fun z=>by have:=z.2;omega⟩ ⟨by omega,Nat.le_refl _⟩ (fun k z=>⟨z.1,by have:=z.2;omega⟩) ?_ (H2.1.below k3),fun k q=>.inr ⟨by have:=q.1;omega,q.2⟩,(HW1.2.1.trans (H2.2.mono (by omega))).trans (k3.mono (by omega))⟩
  rw[hW3];exact boxAt_new w2 #[.int .i64 n.kind,.string n.s,.bool n.hi,.string n.t,.int .u64 n.lo,.int .u64 n.up,.int .i64 n.n,.pointer mp] (Nat.zero_le _) rfl
 go_upto_region 19 with fail
 rw[←hW3]
 clear hW3 n0 n1 n2 n3 n4 n5 n6
 go_wp2_with fail
 go_ret
 exact HE.out
set_option maxHeartbeats 8000000 in
theorem sto_chain (n:Nd) (hk:n.kind=14) (b off cx:Nat) (fa fb:Nat×Array Value) (ta tb:CT) (A B:Nat→Prop) (w:World) (h0:w.cell? ⟨b,off,none⟩=some (fvC fa)) (h1:w.cell? ⟨b,off+1,none⟩=some (fvC fb)) (hb:b<w.heap.size) (hA:StepAt w ta A (fvC fa)) (hB:StepAt w tb B (fvC fb)) (hd:∀k,A k→¬B k) (hla:∀k,A k→k<w.heap.size) (hlb:∀k,B k→k<w.heap.size):Calls Tryz.prog 31 #[n.v,.slice (some ⟨b,off,none⟩) 2 cx] w (SoP (.chain n ta tb) (fun k=>A k∨B k) w):=by
 obtain⟨W1,hW1⟩:=qE (w.alloc (.cells #[.int .i64 n.kind,.string n.s,.bool n.hi,.string n.t,.int .u64 n.lo,.int .u64 n.up,.int .i64 n.n] 75):World)
 have z1:W1.heap.size=w.heap.size+1:=by rw[hW1];simp
 have k1:Below w.heap.size w W1:=by rw[hW1];exact qB
 have n0:W1.cell? ⟨w.heap.size,0,none⟩=some (.int .i64 n.kind):=by rw[hW1];simp
 have hS0:(fun w':World=>w'.cell? ⟨b,off,none⟩=some (fvC fa)∧w'.cell? ⟨b,off+1,none⟩=some (fvC fb)) W1.drew:=⟨by show W1.cell? _=_;rw[(Chg.of_below k1 (S:=fun _=>False)).cell (p:=⟨b,off,none⟩) hb (fun q=>q)];exact h0,by show W1.cell? _=_;rw[(Chg.of_below k1 (S:=fun _=>False)).cell (p:=⟨b,off+1,none⟩) hb (fun q=>q)];exact h1⟩
 have kd:Below w.heap.size w W1.drew:=k1.drew
 have HSb:Hid (∀X:World,Below w.heap.size w X→X.cell? ⟨b,off,none⟩=some (fvC fa)∧X.cell? ⟨b,off+1,none⟩=some (fvC fb)):=fun X hX=>⟨by rw[hX.cell (p:=⟨b,off,none⟩) hb];exact h0,by rw[hX.cell (p:=⟨b,off+1,none⟩) hb];exact h1⟩
 have HF:Hid (∀(Y:World) (pa pb:Nat),BoxAt Y 0 58 1 pa [fvC fa]→BoxAt Y 0 58 1 pb [fvC fb]→Below w.heap.size w Y→w.heap.size≤pa→w.heap.size≤pb→SoP (.chain n ta tb) (fun k=>A k∨B k) w (.returned (fvC (62,#[ptrC pb,ptrC pa]))) Y):=fun Y pa pb hpa hpb hY ga gb=>by
  refine⟨_,rfl,fun k=>(A k∨B k)∨k=pa∨k=pb,⟨A,B,pa,pb,fa.1,fa.2,fb.1,fb.2,⟨fun k z=>.inl (.inl z),fun k z=>.inl (.inr z),hd⟩,⟨.inr (.inl rfl),fun z=>by have:=hla _ z;omega⟩,⟨.inr (.inl rfl),fun z=>by have:=hlb _ z;omega⟩,⟨.inr (.inr rfl),fun z=>by have:=hla _ z;omega⟩,⟨.inr (.inr rfl),fun z=>by have:=hlb _ z;omega⟩,rfl,hpa,hpb,hA.below hY,hB.below hY⟩,fun k z=>?_,hY⟩
  rcases z with z|z|z
  ·exact .inl z
  ·exact .inr ⟨by omega,by have:=hpa.lt.2;omega⟩
  ·exact .inr ⟨by omega,by have:=hpb.lt.2;omega⟩
 have HZ:Hid (Below w.heap.size w W1.drew∧W1.drew.heap.size=w.heap.size+1):=⟨kd,z1⟩
 have zk:(n.kind==14)=true:=by rw[beq_iff_eq];exact hk
 clear hA hB hd hla hlb h0 h1 hb k1 kd hk
 obtain⟨fka,fca⟩:=fa
 obtain⟨fkb,fcb⟩:=fb
 go_enter Tryz.func31,Tryz.ntmps31
 go_upto_region 1 with fail
 rw[←hW1]
 clear hW1
 go_upto_region 3 with fail
 refine wp_region_T 99 (fun w':World=>w'.cell? ⟨b,off,none⟩=some (.func (Fn.func fka) #[] fca)∧w'.cell? ⟨b,off+1,none⟩=some (.func (Fn.func fkb) #[] fcb)) (by kernel_rfl) ?_
 refine qT 0 ?voc0 rfl ?yoc0 hS0 ?_
 case yoc0=>exact zzR2
 try simp only[qA,List.getElem_toArray,List.getElem_cons_zero,List.getElem_cons_succ]
 refine qT 1 ?voc1 rfl ?yoc1 hS0 ?_
 case yoc1=>exact zzR2
 try simp only[qA,List.getElem_toArray,List.getElem_cons_zero,List.getElem_cons_succ]
 refine qT 2 ?voc2 rfl ?yoc2 hS0 ?_
 case yoc2=>exact zzR2
 try simp only[qA,List.getElem_toArray,List.getElem_cons_zero,List.getElem_cons_succ]
 refine qT 3 ?voc3 rfl ?yoc3 hS0 ?_
 case yoc3=>exact zzR2
 try simp only[qA,List.getElem_toArray,List.getElem_cons_zero,List.getElem_cons_succ]
 refine qT 4 ?voc4 rfl ?yoc4 hS0 ?_
 case yoc4=>exact zzR2
 try simp only[qA,List.getElem_toArray,List.getElem_cons_zero,List.getElem_cons_succ]
 refine qT 5 ?voc5 rfl ?yoc5 hS0 ?_
 case yoc5=>exact zzR2
 try simp only[qA,List.getElem_toArray,List.getElem_cons_zero,List.getElem_cons_succ]
 obtain⟨V2,hV2⟩:=qE (((W1.alloc (.cells #[.nilFunc] 58)).alloc (.cells #[.nilFunc] 58)).drew:World)
 have HV2:Hid (BoxAt V2 0 58 1 (w.heap.size+1) [.nilFunc]∧BoxAt V2 0 58 1 (w.heap.size+1+1) [.nilFunc]∧Below w.heap.size w V2∧Below w.heap.size w (W1.alloc (.cells #[.nilFunc] 58)).drew):=by
  have b1:=boxAt_new W1 (base:=0) (t:=58) (sz:=1) #[.nilFunc] (Nat.zero_le _) rfl
  obtain⟨X1,hX1⟩:∃X,X=W1.alloc (.cells #[.nilFunc] 58):=⟨_,rfl⟩
  have k1:Below W1.heap.size W1 X1:=by rw[hX1];exact qB
  have zx:X1.heap.size=w.heap.size+1+1:=by rw[hX1];simp[z1]
  rw[←hX1]at b1 hV2⊢
  have b2:=boxAt_new X1 (base:=0) (t:=58) (sz:=1) #[.nilFunc] (Nat.zero_le _) rfl
  have k2:Below X1.heap.size X1 V2:=by rw[hV2];exact(qB).drew
  rw[z1]at b1
  rw[zx]at b2
  have kw:Below w.heap.size w W1:=⟨HZ.1.os,HZ.1.tape,HZ.1.output,HZ.1.size,HZ.1.block⟩
  have kx:Below w.heap.size w X1:=kw.trans (k1.mono (by omega))
  refine⟨b1.below k2,?_,kx.trans (k2.mono (by omega)),kx.drew⟩
  rw[hV2]
  exact b2.below ((Below.refl _ _).drew)
 refine anyT_two (i:=6) (j:=7) (by kernel_rfl) rfl rfl (fun K hK=>?_) (fun K hK=>?_)
 ·go_simp
  refine hK.out _ _ (.inr (HSb.out _ HV2.2.2.2)) ?_
  clear hK
  try simp only[qA,List.getElem_toArray,List.getElem_cons_zero,List.getElem_cons_succ]
  refine qO 7 rfl fun K hK=>?_
  go_simp
  rw[←hV2]
  refine hK.out _ _ (.inr (HSb.out _ HV2.2.2.1)) ?_
  clear hK hV2
  try simp only[qA,List.getElem_toArray,List.getElem_cons_zero,List.getElem_cons_succ]
  have x5:=HV2.1.cell (j:=0) rfl
  have y5:=HV2.1.frozen 0
  obtain⟨V3,hV3⟩:=qE (V2.setCell ⟨w.heap.size+1,0,none⟩ (.func (Fn.func fka) #[] fca):World)
  have HV3:Hid (BoxAt V3 0 58 1 (w.heap.size+1) [(.func (Fn.func fka) #[] fca)]∧BoxAt V3 0 58 1 (w.heap.size+1+1) [.nilFunc]∧Below w.heap.size w V3):=by rw[hV3];exact⟨HV2.1.set 0 _,HV2.2.1.beside (by omega) 0 _,below_set HV2.2.2.1 (by omega) _ _⟩
  refine qO 8 rfl fun K hK=>?_
  go_simp
  rw[←hV3]
  refine hK.out _ _ (.inr (HSb.out _ HV3.2.2)) ?_
  clear hK hV3 x5 y5
  try simp only[qA,List.getElem_toArray,List.getElem_cons_zero,List.getElem_cons_succ]
  have x6:=HV3.2.1.cell (j:=0) rfl
  have y6:=HV3.2.1.frozen 0
  obtain⟨V4,hV4⟩:=qE (V3.setCell ⟨w.heap.size+1+1,0,none⟩ (.func (Fn.func fkb) #[] fcb):World)
  have HV4:Hid (BoxAt V4 0 58 1 (w.heap.size+1) [(.func (Fn.func fka) #[] fca)]∧BoxAt V4 0 58 1 (w.heap.size+1+1) [(.func (Fn.func fkb) #[] fcb)]∧Below w.heap.size w V4):=by rw[hV4];exact⟨HV3.1.beside (by omega) 0 _,HV3.2.1.set 0 _,below_set HV3.2.2 (by omega) _ _⟩
  refine qO 9 rfl fun K hK=>?_
  go_simp
  rw[←hV4]
  refine hK.out _ _ (.inr (HSb.out _ HV4.2.2)) ?_
  clear hK hV4 x6 y6
  try simp only[qA,List.getElem_toArray,List.getElem_cons_zero,List.getElem_cons_succ]
  refine qD ?_
  have HE:Hid (SoP (.chain n ta tb) (fun k=>A k∨B k) w (.returned (fvC (62,#[ptrC (w.heap.size+1+1),ptrC (w.heap.size+1)]))) V4):=HF.out V4 _ _ HV4.1 HV4.2.1 HV4.2.2 (by omega) (by omega)
  go_wp2_with fail
  go_ret
  exact HE.out
 ·go_simp
  refine hK.out _ _ (.inr (HSb.out _ HV2.2.2.2)) ?_
  clear hK
  try simp only[qA,List.getElem_toArray,List.getElem_cons_zero,List.getElem_cons_succ]
  refine qO 6 rfl fun K hK=>?_
  go_simp
  rw[←hV2]
  refine hK.out _ _ (.inr (HSb.out _ HV2.2.2.1)) ?_
  clear hK hV2
  try simp only[qA,List.getElem_toArray,List.getElem_cons_zero,List.getElem_cons_succ]
  have x5:=HV2.2.1.cell (j:=0) rfl
  have y5:=HV2.2.1.frozen 0
  obtain⟨V3,hV3⟩:=qE (V2.setCell ⟨w.heap.size+1+1,0,none⟩ (.func (Fn.func fka) #[] fca):World)
  have HV3:Hid (BoxAt V3 0 58 1 (w.heap.size+1+1) [(.func (Fn.func fka) #[] fca)]∧BoxAt V3 0 58 1 (w.heap.size+1) [.nilFunc]∧Below w.heap.size w V3):=by rw[hV3];exact⟨HV2.2.1.set 0 _,HV2.1.beside (by omega) 0 _,below_set HV2.2.2.1 (by omega) _ _⟩
  refine qO 8 rfl fun K hK=>?_
  go_simp
  rw[←hV3]
  refine hK.out _ _ (.inr (HSb.out _ HV3.2.2)) ?_
  clear hK hV3 x5 y5
  try simp only[qA,List.getElem_toArray,List.getElem_cons_zero,List.getElem_cons_succ]
  have x6:=HV3.2.1.cell (j:=0) rfl
  have y6:=HV3.2.1.frozen 0
  obtain⟨V4,hV4⟩:=qE (V3.setCell ⟨w.heap.size+1,0,none⟩ (.func (Fn.func fkb) #[] fcb):World)
  have HV4:Hid (BoxAt V4 0 58 1 (w.heap.size+1+1) [(.func (Fn.func fka) #[] fca)]∧BoxAt V4 0 58 1 (w.heap.size+1) [(.func (Fn.func fkb) #[] fcb)]∧Below w.heap.size w V4):=by rw[hV4];exact⟨HV3.1.beside (by omega) 0 _,HV3.2.1.set 0 _,below_set HV3.2.2 (by omega) _ _⟩
  refine qO 9 rfl fun K hK=>?_
  go_simp
  rw[←hV4]
  refine hK.out _ _ (.inr (HSb.out _ HV4.2.2)) ?_
  clear hK hV4 x6 y6
  try simp only[qA,List.getElem_toArray,List.getElem_cons_zero,List.getElem_cons_succ]
  refine qD ?_
  have HE:Hid (SoP (.chain n ta tb) (fun k=>A k∨B k) w (.returned (fvC (62,#[ptrC (w.heap.size+1),ptrC (w.heap.size+1+1)]))) V4):=HF.out V4 _ _ HV4.1 HV4.2.1 HV4.2.2 (by omega) (by omega)
  go_wp2_with fail
  go_ret
  exact HE.out
set_option maxHeartbeats 8000000 in
theorem sto_inter (n:Nd) (hk:n.kind=15) (b off cx:Nat) (fa fb:Nat×Array Value) (ta tb:CT) (A B:Nat→Prop) (w:World) (h0:w.cell? ⟨b,off,none⟩=some (fvC fa)) (h1:w.cell? ⟨b,off+1,none⟩=some (fvC fb)) (hb:b<w.heap.size) (hA:StepAt w ta A (fvC fa)) (hB:StepAt w tb B (fvC fb)) (hd:∀k,A k→¬B k) (hla:∀k,A k→k<w.heap.size) (hlb:∀k,B k→k<w.heap.size):Calls Tryz.prog 31 #[n.v,.slice (some ⟨b,off,none⟩) 2 cx] w (SoP (.inter n ta tb) (fun k=>A k∨B k) w):=by
 obtain⟨W1,hW1⟩:=qE (w.alloc (.cells #[.int .i64 n.kind,.string n.s,.bool n.hi,.string n.t,.int .u64 n.lo,.int .u64 n.up,.int .i64 n.n] 75):World)
 have z1:W1.heap.size=w.heap.size+1:=by rw[hW1];simp
 have k1:Below w.heap.size w W1:=by rw[hW1];exact qB
 have n0:W1.cell? ⟨w.heap.size,0,none⟩=some (.int .i64 n.kind):=by rw[hW1];simp
 have hS0:(fun w':World=>w'.cell? ⟨b,off,none⟩=some (fvC fa)∧w'.cell? ⟨b,off+1,none⟩=some (fvC fb)) W1.drew:=⟨by show W1.cell? _=_;rw[(Chg.of_below k1 (S:=fun _=>False)).cell (p:=⟨b,off,none⟩) hb (fun q=>q)];exact h0,by show W1.cell? _=_;rw[(Chg.of_below k1 (S:=fun _=>False)).cell (p:=⟨b,off+1,none⟩) hb (fun q=>q)];exact h1⟩
 have kd:Below w.heap.size w W1.drew:=k1.drew
 have HSb:Hid (∀X:World,Below w.heap.size w X→X.cell? ⟨b,off,none⟩=some (fvC fa)∧X.cell? ⟨b,off+1,none⟩=some (fvC fb)):=fun X hX=>⟨by rw[hX.cell (p:=⟨b,off,none⟩) hb];exact h0,by rw[hX.cell (p:=⟨b,off+1,none⟩) hb];exact h1⟩
 have HF:Hid (∀(Y:World) (pa pb:Nat),BoxAt Y 0 58 1 pa [fvC fa]→BoxAt Y 0 58 1 pb [fvC fb]→Below w.heap.size w Y→w.heap.size≤pa→w.heap.size≤pb→SoP (.inter n ta tb) (fun k=>A k∨B k) w (.returned (fvC (63,#[ptrC pa,ptrC pb]))) Y):=fun Y pa pb hpa hpb hY ga gb=>by
  refine⟨_,rfl,fun k=>(A k∨B k)∨k=pa∨k=pb,⟨A,B,pa,pb,fa.1,fa.2,fb.1,fb.2,⟨fun k z=>.inl (.inl z),fun k z=>.inl (.inr z),hd⟩,⟨.inr (.inl rfl),fun z=>by have:=hla _ z;omega⟩,⟨.inr (.inl rfl),fun z=>by have:=hlb _ z;omega⟩,⟨.inr (.inr rfl),fun z=>by have:=hla _ z;omega⟩,⟨.inr (.inr rfl),fun z=>by have:=hlb _ z;omega⟩,rfl,hpa,hpb,hA.below hY,hB.below hY⟩,fun k z=>?_,hY⟩
  rcases z with z|z|z
  ·exact .inl z
  ·exact .inr ⟨by omega,by have:=hpa.lt.2;omega⟩
  ·exact .inr ⟨by omega,by have:=hpb.lt.2;omega⟩
 have HZ:Hid (Below w.heap.size w W1.drew∧W1.drew.heap.size=w.heap.size+1):=⟨kd,z1⟩
 have zk:(n.kind==15)=true:=by rw[beq_iff_eq];exact hk
 have zk14:(n.kind==14)=false:=by rw[beq_eq_false_iff_ne];omega
 clear hA hB hd hla hlb h0 h1 hb k1 kd hk
 obtain⟨fka,fca⟩:=fa
 obtain⟨fkb,fcb⟩:=fb
 go_enter Tryz.func31,Tryz.ntmps31
 go_upto_region 1 with fail
 rw[←hW1]
 clear hW1
 go_upto_region 6 with fail
 refine wp_region_T 99 (fun w':World=>w'.cell? ⟨b,off,none⟩=some (.func (Fn.func fka) #[] fca)∧w'.cell? ⟨b,off+1,none⟩=some (.func (Fn.func fkb) #[] fcb)) (by kernel_rfl) ?_
 refine qT 0 ?voi0 rfl ?yoi0 hS0 ?_
 case yoi0=>exact zzR2
 try simp only[qA,List.getElem_toArray,List.getElem_cons_zero,List.getElem_cons_succ]
 refine qT 1 ?voi1 rfl ?yoi1 hS0 ?_
 case yoi1=>exact zzR2
 try simp only[qA,List.getElem_toArray,List.getElem_cons_zero,List.getElem_cons_succ]
 refine qT 2 ?voi2 rfl ?yoi2 hS0 ?_
 case yoi2=>exact zzR2
 try simp only[qA,List.getElem_toArray,List.getElem_cons_zero,List.getElem_cons_succ]
 refine qT 3 ?voi3 rfl ?yoi3 hS0 ?_
 case yoi3=>exact zzR2
 try simp only[qA,List.getElem_toArray,List.getElem_cons_zero,List.getElem_cons_succ]
 refine qT 4 ?voi4 rfl ?yoi4 hS0 ?_
 case yoi4=>exact zzR2
 try simp only[qA,List.getElem_toArray,List.getElem_cons_zero,List.getElem_cons_succ]
 refine qT 5 ?voi5 rfl ?yoi5 hS0 ?_
 case yoi5=>exact zzR2
 try simp only[qA,List.getElem_toArray,List.getElem_cons_zero,List.getElem_cons_succ]
 obtain⟨V2,hV2⟩:=qE (((W1.alloc (.cells #[.nilFunc] 58)).alloc (.cells #[.nilFunc] 58)).drew:World)
 have HV2:Hid (BoxAt V2 0 58 1 (w.heap.size+1) [.nilFunc]∧BoxAt V2 0 58 1 (w.heap.size+1+1) [.nilFunc]∧Below w.heap.size w V2∧Below w.heap.size w (W1.alloc (.cells #[.nilFunc] 58)).drew):=by
  have b1:=boxAt_new W1 (base:=0) (t:=58) (sz:=1) #[.nilFunc] (Nat.zero_le _) rfl
  obtain⟨X1,hX1⟩:∃X,X=W1.alloc (.cells #[.nilFunc] 58):=⟨_,rfl⟩
  have k1:Below W1.heap.size W1 X1:=by rw[hX1];exact qB
  have zx:X1.heap.size=w.heap.size+1+1:=by rw[hX1];simp[z1]
  rw[←hX1]at b1 hV2⊢
  have b2:=boxAt_new X1 (base:=0) (t:=58) (sz:=1) #[.nilFunc] (Nat.zero_le _) rfl
  have k2:Below X1.heap.size X1 V2:=by rw[hV2];exact(qB).drew
  rw[z1]at b1
  rw[zx]at b2
  have kw:Below w.heap.size w W1:=⟨HZ.1.os,HZ.1.tape,HZ.1.output,HZ.1.size,HZ.1.block⟩
  have kx:Below w.heap.size w X1:=kw.trans (k1.mono (by omega))
  refine⟨b1.below k2,?_,kx.trans (k2.mono (by omega)),kx.drew⟩
  rw[hV2]
  exact b2.below ((Below.refl _ _).drew)
 refine anyT_two (i:=6) (j:=7) (by kernel_rfl) rfl rfl (fun K hK=>?_) (fun K hK=>?_)
 ·go_simp
  refine hK.out _ _ (.inr (HSb.out _ HV2.2.2.2)) ?_
  clear hK
  try simp only[qA,List.getElem_toArray,List.getElem_cons_zero,List.getElem_cons_succ]
  refine qO 7 rfl fun K hK=>?_
  go_simp
  rw[←hV2]
  refine hK.out _ _ (.inr (HSb.out _ HV2.2.2.1)) ?_
  clear hK hV2
  try simp only[qA,List.getElem_toArray,List.getElem_cons_zero,List.getElem_cons_succ]
  have x5:=HV2.1.cell (j:=0) rfl
  have y5:=HV2.1.frozen 0
  obtain⟨V3,hV3⟩:=qE (V2.setCell ⟨w.heap.size+1,0,none⟩ (.func (Fn.func fka) #[] fca):World)
  have HV3:Hid (BoxAt V3 0 58 1 (w.heap.size+1) [(.func (Fn.func fka) #[] fca)]∧BoxAt V3 0 58 1 (w.heap.size+1+1) [.nilFunc]∧Below w.heap.size w V3):=by rw[hV3];exact⟨HV2.1.set 0 _,HV2.2.1.beside (by omega) 0 _,below_set HV2.2.2.1 (by omega) _ _⟩
  refine qO 8 rfl fun K hK=>?_
  go_simp
  rw[←hV3]
  refine hK.out _ _ (.inr (HSb.out _ HV3.2.2)) ?_
  clear hK hV3 x5 y5
  try simp only[qA,List.getElem_toArray,List.getElem_cons_zero,List.getElem_cons_succ]
  have x6:=HV3.2.1.cell (j:=0) rfl
  have y6:=HV3.2.1.frozen 0
  obtain⟨V4,hV4⟩:=qE (V3.setCell ⟨w.heap.size+1+1,0,none⟩ (.func (Fn.func fkb) #[] fcb):World)
  have HV4:Hid (BoxAt V4 0 58 1 (w.heap.size+1) [(.func (Fn.func fka) #[] fca)]∧BoxAt V4 0 58 1 (w.heap.size+1+1) [(.func (Fn.func fkb) #[] fcb)]∧Below w.heap.size w V4):=by rw[hV4];exact⟨HV3.1.beside (by omega) 0 _,HV3.2.1.set 0 _,below_set HV3.2.2 (by omega) _ _⟩
  refine qO 9 rfl fun K hK=>?_
  go_simp
  rw[←hV4]
  refine hK.out _ _ (.inr (HSb.out _ HV4.2.2)) ?_
  clear hK hV4 x6 y6
  try simp only[qA,List.getElem_toArray,List.getElem_cons_zero,List.getElem_cons_succ]
  refine qD ?_
  have HE:Hid (SoP (.inter n ta tb) (fun k=>A k∨B k) w (.returned (fvC (63,#[ptrC (w.heap.size+1),ptrC (w.heap.size+1+1)]))) V4):=HF.out V4 _ _ HV4.1 HV4.2.1 HV4.2.2 (by omega) (by omega)
  go_wp2_with fail
  go_ret
  exact HE.out
 ·go_simp
  refine hK.out _ _ (.inr (HSb.out _ HV2.2.2.2)) ?_
  clear hK
  try simp only[qA,List.getElem_toArray,List.getElem_cons_zero,List.getElem_cons_succ]
  refine qO 6 rfl fun K hK=>?_
  go_simp
  rw[←hV2]
  refine hK.out _ _ (.inr (HSb.out _ HV2.2.2.1)) ?_
  clear hK hV2
  try simp only[qA,List.getElem_toArray,List.getElem_cons_zero,List.getElem_cons_succ]
  have x5:=HV2.2.1.cell (j:=0) rfl
  have y5:=HV2.2.1.frozen 0
  obtain⟨V3,hV3⟩:=qE (V2.setCell ⟨w.heap.size+1+1,0,none⟩ (.func (Fn.func fka) #[] fca):World)
  have HV3:Hid (BoxAt V3 0 58 1 (w.heap.size+1+1) [(.func (Fn.func fka) #[] fca)]∧BoxAt V3 0 58 1 (w.heap.size+1) [.nilFunc]∧Below w.heap.size w V3):=by rw[hV3];exact⟨HV2.2.1.set 0 _,HV2.1.beside (by omega) 0 _,below_set HV2.2.2.1 (by omega) _ _⟩
  refine qO 8 rfl fun K hK=>?_
  go_simp
  rw[←hV3]
  refine hK.out _ _ (.inr (HSb.out _ HV3.2.2)) ?_
  clear hK hV3 x5 y5
  try simp only[qA,List.getElem_toArray,List.getElem_cons_zero,List.getElem_cons_succ]
  have x6:=HV3.2.1.cell (j:=0) rfl
  have y6:=HV3.2.1.frozen 0
  obtain⟨V4,hV4⟩:=qE (V3.setCell ⟨w.heap.size+1,0,none⟩ (.func (Fn.func fkb) #[] fcb):World)
  have HV4:Hid (BoxAt V4 0 58 1 (w.heap.size+1+1) [(.func (Fn.func fka) #[] fca)]∧BoxAt V4 0 58 1 (w.heap.size+1) [(.func (Fn.func fkb) #[] fcb)]∧Below w.heap.size w V4):=by rw[hV4];exact⟨HV3.1.beside (by omega) 0 _,HV3.2.1.set 0 _,below_set HV3.2.2 (by omega) _ _⟩
  refine qO 9 rfl fun K hK=>?_
  go_simp
  rw[←hV4]
  refine hK.out _ _ (.inr (HSb.out _ HV4.2.2)) ?_
  clear hK hV4 x6 y6
  try simp only[qA,List.getElem_toArray,List.getElem_cons_zero,List.getElem_cons_succ]
  refine qD ?_
  have HE:Hid (SoP (.inter n ta tb) (fun k=>A k∨B k) w (.returned (fvC (63,#[ptrC (w.heap.size+1+1),ptrC (w.heap.size+1)]))) V4):=HF.out V4 _ _ HV4.1 HV4.2.1 HV4.2.2 (by omega) (by omega)
  go_wp2_with fail
  go_ret
  exact HE.out
def BrP (fp fa fb:Nat×Array Value) (w:World) (e:Ending) (w':World):Prop:=e=.returned (fvC (102,#[ptrC w.heap.size,ptrC (w.heap.size+1),ptrC (w.heap.size+1+1)]))∧Hid (BoxAt w' 0 58 1 w.heap.size [fvC fp]∧BoxAt w' 0 58 1 (w.heap.size+1) [fvC fa]∧BoxAt w' 0 58 1 (w.heap.size+1+1) [fvC fb]∧Below w.heap.size w w')
set_option maxHeartbeats 4000000 in
theorem branchStep_core (fp fa fb:Nat×Array Value) (w:World):Calls Tryz.prog 65 #[fvC fp,fvC fa,fvC fb] w (BrP fp fa fb w):=by
 obtain⟨W3,hW3⟩:=qE (((w.alloc (.cells #[fvC fp] 58)).alloc (.cells #[fvC fa] 58)).alloc (.cells #[fvC fb] 58):World)
 have HE:Hid (BrP fp fa fb w (.returned (fvC (102,#[ptrC w.heap.size,ptrC (w.heap.size+1),ptrC (w.heap.size+1+1)]))) W3):=by
  refine⟨rfl,?_⟩
  have b1:=boxAt_new w (base:=0) (t:=58) (sz:=1) #[fvC fp] (Nat.zero_le _) rfl
  obtain⟨X1,hX1⟩:∃X,X=w.alloc (.cells #[fvC fp] 58):=⟨_,rfl⟩
  have z1:X1.heap.size=w.heap.size+1:=by rw[hX1];simp
  have k1:Below w.heap.size w X1:=by rw[hX1];exact qB
  rw[←hX1]at b1 hW3
  have b2:=boxAt_new X1 (base:=0) (t:=58) (sz:=1) #[fvC fa] (Nat.zero_le _) rfl
  obtain⟨X2,hX2⟩:∃X,X=X1.alloc (.cells #[fvC fa] 58):=⟨_,rfl⟩
  have z2:X2.heap.size=w.heap.size+1+1:=by rw[hX2];simp[z1]
  have k2:Below X1.heap.size X1 X2:=by rw[hX2];exact qB
  rw[←hX2]at b2 hW3
  have b3:=boxAt_new X2 (base:=0) (t:=58) (sz:=1) #[fvC fb] (Nat.zero_le _) rfl
  have k3:Below X2.heap.size X2 W3:=by rw[hW3];exact qB
  rw[←hW3,z2]at b3
  rw[z1]at b2
  exact⟨(b1.below k2).below k3,b2.below k3,b3,(k1.trans (k2.mono (by omega))).trans (k3.mono (by omega))⟩
 obtain⟨fkp,fcp⟩:=fp
 obtain⟨fka,fca⟩:=fa
 obtain⟨fkb,fcb⟩:=fb
 go_enter Tryz.func65,Tryz.ntmps65
 go_wp2_with fail
 rw[←hW3]
 go_ret
 exact HE.out
set_option maxHeartbeats 8000000 in
theorem sto_cond (n:Nd) (hk:n.kind=16) (b off cx:Nat) (fp fa fb:Nat×Array Value) (tp ta tb:CT) (P A B:Nat→Prop) (w:World) (h0:w.cell? ⟨b,off,none⟩=some (fvC fp)) (h1:w.cell? ⟨b,off+1,none⟩=some (fvC fa)) (h2:w.cell? ⟨b,off+2,none⟩=some (fvC fb)) (hb:b<w.heap.size) (hP:StepAt w tp P (fvC fp)) (hA:StepAt w ta A (fvC fa)) (hB:StepAt w tb B (fvC fb)) (hd1:∀k,P k→¬A k) (hd2:∀k,P k→¬B k) (hd3:∀k,A k→¬B k) (hlp:∀k,P k→k<w.heap.size) (hla:∀k,A k→k<w.heap.size) (hlb:∀k,B k→k<w.heap.size):Calls Tryz.prog 31 #[n.v,.slice (some ⟨b,off,none⟩) 3 cx] w (SoP (.cond n tp ta tb) (fun k=>P k∨A k∨B k) w):=by
 obtain⟨W1,hW1⟩:=qE (w.alloc (.cells #[.int .i64 n.kind,.string n.s,.bool n.hi,.string n.t,.int .u64 n.lo,.int .u64 n.up,.int .i64 n.n] 75):World)
 have z1:W1.heap.size=w.heap.size+1:=by rw[hW1];simp
 have k1:Below w.heap.size w W1:=by rw[hW1];exact qB
 have n0:W1.cell? ⟨w.heap.size,0,none⟩=some (.int .i64 n.kind):=by rw[hW1];simp
 have HSb:Hid (∀X:World,Below w.heap.size w X→X.cell? ⟨b,off,none⟩=some (fvC fp)∧X.cell? ⟨b,off+1,none⟩=some (fvC fa)∧X.cell? ⟨b,off+2,none⟩=some (fvC fb)):=fun X hX=>⟨by rw[hX.cell (p:=⟨b,off,none⟩) hb];exact h0,by rw[hX.cell (p:=⟨b,off+1,none⟩) hb];exact h1,by rw[hX.cell (p:=⟨b,off+2,none⟩) hb];exact h2⟩
 have HZ:Hid (Below w.heap.size w W1.drew∧W1.drew.heap.size=w.heap.size+1):=⟨k1.drew,z1⟩
 have HF:Hid (∀(Y:World),BrP fp fa fb W1.drew (.returned (fvC (102,#[ptrC W1.heap.size,ptrC (W1.heap.size+1),ptrC (W1.heap.size+1+1)]))) Y→SoP (.cond n tp ta tb) (fun k=>P k∨A k∨B k) w (.returned (fvC (102,#[ptrC W1.heap.size,ptrC (W1.heap.size+1),ptrC (W1.heap.size+1+1)]))) Y):=fun Y hY=>by
  obtain⟨_,H⟩:=hY
  have hp:=H.1
  have hpa:=H.2.1
  have hpb:=H.2.2.1
  have kY:=HZ.1.trans (H.2.2.2.mono HZ.1.size)
  have zz:W1.drew.heap.size=w.heap.size+1:=z1
  refine⟨_,rfl,fun k=>(P k∨A k∨B k)∨k=W1.heap.size∨k=W1.heap.size+1∨k=W1.heap.size+1+1,⟨P,A,B,W1.heap.size,W1.heap.size+1,W1.heap.size+1+1,fp.1,fp.2,fa.1,fa.2,fb.1,fb.2,⟨⟨fun k z=>.inl (.inl z),fun k z=>.inl (.inr (.inl z)),hd1⟩,⟨fun k z=>.inl (.inl z),fun k z=>.inl (.inr (.inr z)),hd2⟩,⟨fun k z=>.inl (.inr (.inl z)),fun k z=>.inl (.inr (.inr z)),hd3⟩⟩,⟨⟨.inr (.inl rfl),fun z=>by have:=hlp _ z;omega⟩,⟨.inr (.inl rfl),fun z=>by have:=hla _ z;omega⟩,⟨.inr (.inl rfl),fun z=>by have:=hlb _ z;omega⟩⟩,⟨⟨.inr (.inr (.inl rfl)),fun z=>by have:=hlp _ z;omega⟩,⟨.inr (.inr (.inl rfl)),fun z=>by have:=hla _ z;omega⟩,⟨.inr (.inr (.inl rfl)),fun z=>by have:=hlb _ z;omega⟩⟩,⟨⟨.inr (.inr (.inr rfl)),fun z=>by have:=hlp _ z;omega⟩,⟨.inr (.inr (.inr rfl)),fun z=>by have:=hla _ z;omega⟩,⟨.inr (.inr (.inr rfl)),fun z=>by have:=hlb _ z;omega⟩⟩,rfl,hp,hpa,hpb,hP.below kY,hA.below kY,hB.below kY⟩,fun k z=>?_,kY⟩
  have l1:=hpb.lt.2
  have e3:W1.drew.heap.size=W1.heap.size:=rfl
  rw[e3]at l1
  rcases z with z|z|z|z
  ·exact .inl z
  ·exact .inr ⟨by omega,by omega⟩
  ·exact .inr ⟨by omega,by omega⟩
  ·exact .inr ⟨by omega,by omega⟩
 have HBr:Hid (Calls Tryz.prog 65 #[fvC fp,fvC fa,fvC fb] W1.drew (BrP fp fa fb W1.drew)):=branchStep_core fp fa fb W1.drew
 have zk:(n.kind==16)=true:=by rw[beq_iff_eq];exact hk
 have zk14:(n.kind==14)=false:=by rw[beq_eq_false_iff_ne];omega
 have zk15:(n.kind==15)=false:=by rw[beq_eq_false_iff_ne];omega
 have hS0:=HSb.out W1.drew HZ.1
 clear hP hA hB hd1 hd2 hd3 hlp hla hlb h0 h1 h2 hb k1 hk z1
 obtain⟨fkp,fcp⟩:=fp
 obtain⟨fka,fca⟩:=fa
 obtain⟨fkb,fcb⟩:=fb
 go_enter Tryz.func31,Tryz.ntmps31
 go_upto_region 1 with fail
 rw[←hW1]
 clear hW1
 go_upto_region 9 with fail
 refine wp_region_T 99 (fun w':World=>w'.cell? ⟨b,off,none⟩=some (.func (Fn.func fkp) #[] fcp)∧w'.cell? ⟨b,off+1,none⟩=some (.func (Fn.func fka) #[] fca)∧w'.cell? ⟨b,off+2,none⟩=some (.func (Fn.func fkb) #[] fcb)) (by kernel_rfl) ?_
 refine qT 0 ?vob0 rfl ?yob0 hS0 ?_
 case yob0=>exact zzR4
 try simp only[qA,List.getElem_toArray,List.getElem_cons_zero,List.getElem_cons_succ]
 refine qT 1 ?vob1 rfl ?yob1 hS0 ?_
 case yob1=>exact zzR4
 try simp only[qA,List.getElem_toArray,List.getElem_cons_zero,List.getElem_cons_succ]
 refine qT 2 ?vob2 rfl ?yob2 hS0 ?_
 case yob2=>exact zzR4
 try simp only[qA,List.getElem_toArray,List.getElem_cons_zero,List.getElem_cons_succ]
 refine qT 3 ?vob3 rfl ?yob3 hS0 ?_
 case yob3=>exact zzR4
 try simp only[qA,List.getElem_toArray,List.getElem_cons_zero,List.getElem_cons_succ]
 refine qT 4 ?vob4 rfl ?yob4 hS0 ?_
 case yob4=>exact zzR4
 try simp only[qA,List.getElem_toArray,List.getElem_cons_zero,List.getElem_cons_succ]
 refine qT 5 ?vob5 rfl ?yob5 hS0 ?_
 case yob5=>exact zzR4
 try simp only[qA,List.getElem_toArray,List.getElem_cons_zero,List.getElem_cons_succ]
 refine qT 6 ?vob6 rfl ?yob6 hS0 ?_
 case yob6=>exact zzR4
 try simp only[qA,List.getElem_toArray,List.getElem_cons_zero,List.getElem_cons_succ]
 refine qT 7 ?vob7 rfl ?yob7 hS0 ?_
 case yob7=>exact zzR4
 try simp only[qA,List.getElem_toArray,List.getElem_cons_zero,List.getElem_cons_succ]
 refine qT 8 ?vob8 rfl ?yob8 hS0 ?_
 case yob8=>exact zzR4
 try simp only[qA,List.getElem_toArray,List.getElem_cons_zero,List.getElem_cons_succ]
 refine qO 9 rfl fun K hK=>?_
 go_simp
 refine HBr.mono ?_
 rintro e w3 ⟨rfl,H3⟩
 have hS3:=HSb.out w3 (HZ.1.trans (H3.2.2.2.mono HZ.1.size))
 have HE:Hid (SoP (.cond n tp ta tb) (fun k=>P k∨A k∨B k) w (.returned (fvC (102,#[ptrC W1.heap.size,ptrC (W1.heap.size+1),ptrC (W1.heap.size+1+1)]))) w3):=HF.out w3 ⟨rfl,H3⟩
 refine hK.out _ _ (.inr hS3) ?_
 clear hK
 try simp only[qA,List.getElem_toArray,List.getElem_cons_zero,List.getElem_cons_succ]
 refine qT 10 ?vob10 rfl ?yob10 hS3 ?_
 case yob10=>exact zzR4
 exact zzQ51
theorem emptyL:(⟨#[]⟩:ByteArray).toList= []:=by first|(simp;done)|(kernel_rfl;done)|(go_simp;done)
theorem lessL:Op.bytesLess [] []=false:=by first|(kernel_rfl;done)|(decide;done)|(simp[Op.bytesLess];done)
theorem ndEq_is (k:Int) (s:ByteArray) (h:Bool) (t:ByteArray) (l u n k':Int) (s':ByteArray) (h':Bool) (t':ByteArray) (l' u' n':Int) (B:Bool) (hB:B=decide (k=k'∧s.toList=s'.toList∧h=h'∧t.toList=t'.toList∧l=l'∧u=u'∧n=n')) (wx:World):
  (binOp .eql 75 (.agg #[.int .i64 k,.string s,.bool h,.string t,.int .u64 l,.int .u64 u,.int .i64 n]) (.agg #[.int .i64 k',.string s',.bool h',.string t',.int .u64 l',.int .u64 u',.int .i64 n'])).run Tryz.prog wx=.ok (.bool B) wx:=by
 rw[hB];exact ndEq_run k s h t l u n k' s' h' t' l' u' n' wx
set_option maxHeartbeats 8000000 in
theorem validNode_core (e:Nd) (w:World) (hs:e.s.size≤maxLen) (ht:e.t.size≤maxLen):Calls Tryz.prog 99 #[e.v] w (NdPost e w):=by
 obtain⟨kind,s,hi,t,lo,up,n⟩:=e
 have HS:Hid (s.size≤maxLen):=hs
 unfold maxLen at hs ht
 simp only[]at hs ht
 obtain⟨W0,hW0⟩:=qE (w.alloc (Obj.cells #[.int .i64 kind,.string s,.bool hi,.string t,.int .u64 lo,.int .u64 up,.int .i64 n] 75):World)
 have HW0:Hid (BoxAt W0 w.heap.size 75 7 w.heap.size [.int .i64 kind,.string s,.bool hi,.string t,.int .u64 lo,.int .u64 up,.int .i64 n]∧Below w.heap.size w W0):=by
  rw[hW0];exact⟨boxAt_new w _ (Nat.le_refl _) rfl,qB⟩
 have hbw:=HW0.2.size
 obtain⟨c0,c1,c2,c3,c4,c5,c6⟩:=HW0.1.c7
 go_enter Tryz.func99,Tryz.ntmps99
 go_upto_region 1 with fail
 rw[←hW0]
 clear hW0
 by_cases hgood:s.size≤200∧t.size≤200
 case neg=>
  have HG:Hid (¬GoodN ⟨kind,s,hi,t,lo,up,n⟩):=fun q=>hgood ⟨q.1,q.2.1⟩
  by_cases h1:s.size≤200
  ·have z1:¬(200:Int)<(s.size:Int):=by omega
   have h2:¬t.size≤200:=fun q=>hgood ⟨h1,q⟩
   have z2:(200:Int)<(t.size:Int):=by omega
   exact zzQ36
  ·have z1:(200:Int)<(s.size:Int):=by omega
   exact zzQ36
 have HG:Hid (s.size≤200∧t.size≤200):=hgood
 have z1:¬(200:Int)<(s.size:Int):=by omega
 have z2:¬(200:Int)<(t.size:Int):=by omega
 clear hgood hs ht
 obtain⟨c,hc⟩:=qE ((checkM (sb s)).1)
 obtain⟨k,hk⟩:=qE (((checkM (sb s)).2:Int):Int)
 have HV:Hid (c=(checkM (sb s)).1):=hc
 have HC:Hid (∀w,Calls Tryz.prog 126 #[.string s] w fun e w'=>e=.returned (.agg #[.int .i64 c,.int .i64 k])∧Below w.heap.size w w'):=fun w=>by
  rw[hc,hk];exact implCheck_core s w HS.out
 clear hc hk
 by_cases k1:kind=1
 ·subst k1
  obtain⟨B,hB⟩:=qE (decide ((1:Int)=1∧s.toList=(⟨#[]⟩:ByteArray).toList∧hi=false∧t.toList=(⟨#[]⟩:ByteArray).toList∧lo=0∧up=0∧n=0))
  have hq:=ndEq_is 1 s hi t lo up n 1 ⟨#[]⟩ false ⟨#[]⟩ 0 0 0 B hB
  have HB:Hid (B=true↔(1:Int)=1∧s.toList=(⟨#[]⟩:ByteArray).toList∧hi=false∧t.toList=(⟨#[]⟩:ByteArray).toList∧lo=0∧up=0∧n=0):=by rw[hB];show decide _=true↔_;simp only[decide_eq_true_eq]
  clear hB
  have HF:Hid (B=true↔GoodN ⟨1,s,hi,t,lo,up,n⟩):=by
   show B=true↔GoodN _
   have hB:=HB.out
   have hG:=HG.out
   have hE:=emptyL
   try simp only[hE]at hB
   rw[hB]
   simp[GoodN]
   constructor
   ·rintro⟨q1,q2,q3,q4,q5,q6⟩
    simp_all
   ·rintro⟨q1,q2,q3,q4⟩
    simp_all
  go_wp2_with fail
  go_ret
  exact⟨_,rfl,HF.out,HW0.2⟩
 by_cases k2:kind=2
 ·subst k2
  obtain⟨B,hB⟩:=qE (decide ((2:Int)=2∧s.toList=(⟨#[]⟩:ByteArray).toList∧hi=false∧t.toList=(⟨#[]⟩:ByteArray).toList∧lo=0∧up=0∧n=0))
  have hq:=ndEq_is 2 s hi t lo up n 2 ⟨#[]⟩ false ⟨#[]⟩ 0 0 0 B hB
  have HB:Hid (B=true↔(2:Int)=2∧s.toList=(⟨#[]⟩:ByteArray).toList∧hi=false∧t.toList=(⟨#[]⟩:ByteArray).toList∧lo=0∧up=0∧n=0):=by rw[hB];show decide _=true↔_;simp only[decide_eq_true_eq]
  clear hB
  have HF:Hid (B=true↔GoodN ⟨2,s,hi,t,lo,up,n⟩):=by
   show B=true↔GoodN _
   have hB:=HB.out
   have hG:=HG.out
   have hE:=emptyL
   try simp only[hE]at hB
   rw[hB]
   simp[GoodN]
   constructor
   ·rintro⟨q1,q2,q3,q4,q5,q6⟩
    simp_all
   ·rintro⟨q1,q2,q3,q4⟩
    simp_all
  go_wp2_with fail
  go_ret
  exact⟨_,rfl,HF.out,HW0.2⟩
 by_cases k3:kind=3
 ·subst k3
  obtain⟨B,hB⟩:=qE (decide ((3:Int)=3∧s.toList=(⟨#[]⟩:ByteArray).toList∧hi=false∧t.toList=(⟨#[]⟩:ByteArray).toList∧lo=0∧up=0∧n=0))
  have hq:=ndEq_is 3 s hi t lo up n 3 ⟨#[]⟩ false ⟨#[]⟩ 0 0 0 B hB
  have HB:Hid (B=true↔(3:Int)=3∧s.toList=(⟨#[]⟩:ByteArray).toList∧hi=false∧t.toList=(⟨#[]⟩:ByteArray).toList∧lo=0∧up=0∧n=0):=by rw[hB];show decide _=true↔_;simp only[decide_eq_true_eq]
  clear hB
  have HF:Hid (B=true↔GoodN ⟨3,s,hi,t,lo,up,n⟩):=by
   show B=true↔GoodN _
   have hB:=HB.out
   have hG:=HG.out
   have hE:=emptyL
   try simp only[hE]at hB
   rw[hB]
   simp[GoodN]
   constructor
   ·rintro⟨q1,q2,q3,q4,q5,q6⟩
    simp_all
   ·rintro⟨q1,q2,q3,q4⟩
    simp_all
  go_wp2_with fail
  go_ret
  exact⟨_,rfl,HF.out,HW0.2⟩
 by_cases k14:kind=14
 ·subst k14
  obtain⟨B,hB⟩:=qE (decide ((14:Int)=14∧s.toList=(⟨#[]⟩:ByteArray).toList∧hi=false∧t.toList=(⟨#[]⟩:ByteArray).toList∧lo=0∧up=0∧n=0))
  have hq:=ndEq_is 14 s hi t lo up n 14 ⟨#[]⟩ false ⟨#[]⟩ 0 0 0 B hB
  have HB:Hid (B=true↔(14:Int)=14∧s.toList=(⟨#[]⟩:ByteArray).toList∧hi=false∧t.toList=(⟨#[]⟩:ByteArray).toList∧lo=0∧up=0∧n=0):=by rw[hB];show decide _=true↔_;simp only[decide_eq_true_eq]
  clear hB
  have HF:Hid (B=true↔GoodN ⟨14,s,hi,t,lo,up,n⟩):=by
   show B=true↔GoodN _
   have hB:=HB.out
   have hG:=HG.out
   have hE:=emptyL
   try simp only[hE]at hB
   rw[hB]
   simp[GoodN]
   constructor
   ·rintro⟨q1,q2,q3,q4,q5,q6⟩
    simp_all
   ·rintro⟨q1,q2,q3,q4⟩
    simp_all
  go_wp2_with fail
  go_ret
  exact⟨_,rfl,HF.out,HW0.2⟩
 by_cases k15:kind=15
 ·subst k15
  obtain⟨B,hB⟩:=qE (decide ((15:Int)=15∧s.toList=(⟨#[]⟩:ByteArray).toList∧hi=false∧t.toList=(⟨#[]⟩:ByteArray).toList∧lo=0∧up=0∧n=0))
  have hq:=ndEq_is 15 s hi t lo up n 15 ⟨#[]⟩ false ⟨#[]⟩ 0 0 0 B hB
  have HB:Hid (B=true↔(15:Int)=15∧s.toList=(⟨#[]⟩:ByteArray).toList∧hi=false∧t.toList=(⟨#[]⟩:ByteArray).toList∧lo=0∧up=0∧n=0):=by rw[hB];show decide _=true↔_;simp only[decide_eq_true_eq]
  clear hB
  have HF:Hid (B=true↔GoodN ⟨15,s,hi,t,lo,up,n⟩):=by
   show B=true↔GoodN _
   have hB:=HB.out
   have hG:=HG.out
   have hE:=emptyL
   try simp only[hE]at hB
   rw[hB]
   simp[GoodN]
   constructor
   ·rintro⟨q1,q2,q3,q4,q5,q6⟩
    simp_all
   ·rintro⟨q1,q2,q3,q4⟩
    simp_all
  go_wp2_with fail
  go_ret
  exact⟨_,rfl,HF.out,HW0.2⟩
 by_cases k16:kind=16
 ·subst k16
  obtain⟨B,hB⟩:=qE (decide ((16:Int)=16∧s.toList=(⟨#[]⟩:ByteArray).toList∧hi=false∧t.toList=(⟨#[]⟩:ByteArray).toList∧lo=0∧up=0∧n=0))
  have hq:=ndEq_is 16 s hi t lo up n 16 ⟨#[]⟩ false ⟨#[]⟩ 0 0 0 B hB
  have HB:Hid (B=true↔(16:Int)=16∧s.toList=(⟨#[]⟩:ByteArray).toList∧hi=false∧t.toList=(⟨#[]⟩:ByteArray).toList∧lo=0∧up=0∧n=0):=by rw[hB];show decide _=true↔_;simp only[decide_eq_true_eq]
  clear hB
  have HF:Hid (B=true↔GoodN ⟨16,s,hi,t,lo,up,n⟩):=by
   show B=true↔GoodN _
   have hB:=HB.out
   have hG:=HG.out
   have hE:=emptyL
   try simp only[hE]at hB
   rw[hB]
   simp[GoodN]
   constructor
   ·rintro⟨q1,q2,q3,q4,q5,q6⟩
    simp_all
   ·rintro⟨q1,q2,q3,q4⟩
    simp_all
  go_wp2_with fail
  go_ret
  exact⟨_,rfl,HF.out,HW0.2⟩
 by_cases k4:kind=4
 ·subst k4
  obtain⟨B,hB⟩:=qE (decide ((4:Int)=4∧s.toList=s.toList∧hi=false∧t.toList=(⟨#[]⟩:ByteArray).toList∧lo=0∧up=0∧n=0))
  have hq:=ndEq_is 4 s hi t lo up n 4 s false ⟨#[]⟩ 0 0 0 B hB
  have HB:Hid (B=true↔(4:Int)=4∧s.toList=s.toList∧hi=false∧t.toList=(⟨#[]⟩:ByteArray).toList∧lo=0∧up=0∧n=0):=by rw[hB];show decide _=true↔_;simp only[decide_eq_true_eq]
  clear hB
  cases B
  ·have HF:Hid (¬GoodN ⟨4,s,hi,t,lo,up,n⟩):=by
    show¬GoodN _
    have hB:=HB.out
    have hE:=emptyL
    try simp only[hE]at hB
    intro q
    simp[GoodN]at q hB
    simp_all
   go_wp2_with fail
   go_ret
   exact⟨_,rfl,by simp[HF.out],HW0.2⟩
  ·have HF:Hid (GoodN ⟨4,s,hi,t,lo,up,n⟩↔c=0):=by
    show GoodN _↔_
    have hB:=HB.out
    have hG:=HG.out
    have hE:=emptyL
    try simp only[hE]at hB
    rw[HV.out]
    simp at hB
    simp[GoodN]
    simp_all
   exact zzQ19
 by_cases k5:kind=5
 ·subst k5
  obtain⟨B,hB⟩:=qE (decide ((5:Int)=5∧s.toList=s.toList∧hi=false∧t.toList=(⟨#[]⟩:ByteArray).toList∧lo=0∧up=0∧n=0))
  have hq:=ndEq_is 5 s hi t lo up n 5 s false ⟨#[]⟩ 0 0 0 B hB
  have HB:Hid (B=true↔(5:Int)=5∧s.toList=s.toList∧hi=false∧t.toList=(⟨#[]⟩:ByteArray).toList∧lo=0∧up=0∧n=0):=by rw[hB];show decide _=true↔_;simp only[decide_eq_true_eq]
  clear hB
  cases B
  ·have HF:Hid (¬GoodN ⟨5,s,hi,t,lo,up,n⟩):=by
    show¬GoodN _
    have hB:=HB.out
    have hE:=emptyL
    try simp only[hE]at hB
    intro q
    simp[GoodN]at q hB
    simp_all
   go_wp2_with fail
   go_ret
   exact⟨_,rfl,by simp[HF.out],HW0.2⟩
  ·have HF:Hid (GoodN ⟨5,s,hi,t,lo,up,n⟩↔c=0):=by
    show GoodN _↔_
    have hB:=HB.out
    have hG:=HG.out
    have hE:=emptyL
    try simp only[hE]at hB
    rw[HV.out]
    simp at hB
    simp[GoodN]
    simp_all
   exact zzQ19
 by_cases k6:kind=6
 ·subst k6
  obtain⟨B,hB⟩:=qE (decide ((6:Int)=6∧s.toList=s.toList∧hi=false∧t.toList=(⟨#[]⟩:ByteArray).toList∧lo=0∧up=0∧n=0))
  have hq:=ndEq_is 6 s hi t lo up n 6 s false ⟨#[]⟩ 0 0 0 B hB
  have HB:Hid (B=true↔(6:Int)=6∧s.toList=s.toList∧hi=false∧t.toList=(⟨#[]⟩:ByteArray).toList∧lo=0∧up=0∧n=0):=by rw[hB];show decide _=true↔_;simp only[decide_eq_true_eq]
  clear hB
  cases B
  ·have HF:Hid (¬GoodN ⟨6,s,hi,t,lo,up,n⟩):=by
    show¬GoodN _
    have hB:=HB.out
    have hE:=emptyL
    try simp only[hE]at hB
    intro q
    simp[GoodN]at q hB
    simp_all
   go_wp2_with fail
   go_ret
   exact⟨_,rfl,by simp[HF.out],HW0.2⟩
  ·have HF:Hid (GoodN ⟨6,s,hi,t,lo,up,n⟩↔c=0):=by
    show GoodN _↔_
    have hB:=HB.out
    have hG:=HG.out
    have hE:=emptyL
    try simp only[hE]at hB
    rw[HV.out]
    simp at hB
    simp[GoodN]
    simp_all
   exact zzQ19
 by_cases k7:kind=7
 ·subst k7
  obtain⟨B,hB⟩:=qE (decide ((7:Int)=7∧s.toList=s.toList∧hi=false∧t.toList=(⟨#[]⟩:ByteArray).toList∧lo=0∧up=0∧n=0))
  have hq:=ndEq_is 7 s hi t lo up n 7 s false ⟨#[]⟩ 0 0 0 B hB
  have HB:Hid (B=true↔(7:Int)=7∧s.toList=s.toList∧hi=false∧t.toList=(⟨#[]⟩:ByteArray).toList∧lo=0∧up=0∧n=0):=by rw[hB];show decide _=true↔_;simp only[decide_eq_true_eq]
  clear hB
  cases B
  ·have HF:Hid (¬GoodN ⟨7,s,hi,t,lo,up,n⟩):=by
    show¬GoodN _
    have hB:=HB.out
    have hE:=emptyL
    try simp only[hE]at hB
    intro q
    simp[GoodN]at q hB
    simp_all
   go_wp2_with fail
   go_ret
   exact⟨_,rfl,by simp[HF.out],HW0.2⟩
  ·have HF:Hid (GoodN ⟨7,s,hi,t,lo,up,n⟩↔c=0):=by
    show GoodN _↔_
    have hB:=HB.out
    have hG:=HG.out
    have hE:=emptyL
    try simp only[hE]at hB
    rw[HV.out]
    simp at hB
    simp[GoodN]
    simp_all
   exact zzQ19
 by_cases k8:kind=8
 ·subst k8
  obtain⟨B,hB⟩:=qE (decide ((8:Int)=8∧s.toList=s.toList∧hi=hi∧t.toList=t.toList∧lo=0∧up=0∧n=0))
  have hq:=ndEq_is 8 s hi t lo up n 8 s hi t 0 0 0 B hB
  have HB:Hid (B=true↔(8:Int)=8∧s.toList=s.toList∧hi=hi∧t.toList=t.toList∧lo=0∧up=0∧n=0):=by rw[hB];show decide _=true↔_;simp only[decide_eq_true_eq]
  clear hB
  cases B
  ·have HF:Hid (¬GoodN ⟨8,s,hi,t,lo,up,n⟩):=by
    show¬GoodN _
    have hB:=HB.out
    have hE:=emptyL
    try simp only[hE]at hB
    intro q
    simp[GoodN]at q hB
    simp_all
   go_wp2_with fail
   go_ret
   exact⟨_,rfl,by simp[HF.out],HW0.2⟩
  ·go_wp2_with fail
   refine(ends_core ⟨8,s,hi,t,lo,up,n⟩ _).mono ?_
   rintro r w2 ⟨b,rfl,hb,hb2⟩
   have HF:Hid (b=true↔GoodN ⟨8,s,hi,t,lo,up,n⟩):=by
    show b=true↔GoodN _
    have hB:=HB.out
    have hG:=HG.out
    have hE:=emptyL
    have hL:=lessL
    try simp only[hE]at hB
    simp at hB
    rw[hb]
    simp[GoodN]
    cases hi<;>simp_all[less]
   exact zzQ58
 by_cases k9:kind=9
 ·subst k9
  obtain⟨B,hB⟩:=qE (decide ((9:Int)=9∧s.toList=s.toList∧hi=hi∧t.toList=t.toList∧lo=0∧up=0∧n=0))
  have hq:=ndEq_is 9 s hi t lo up n 9 s hi t 0 0 0 B hB
  have HB:Hid (B=true↔(9:Int)=9∧s.toList=s.toList∧hi=hi∧t.toList=t.toList∧lo=0∧up=0∧n=0):=by rw[hB];show decide _=true↔_;simp only[decide_eq_true_eq]
  clear hB
  cases B
  ·have HF:Hid (¬GoodN ⟨9,s,hi,t,lo,up,n⟩):=by
    show¬GoodN _
    have hB:=HB.out
    have hE:=emptyL
    try simp only[hE]at hB
    intro q
    simp[GoodN]at q hB
    simp_all
   go_wp2_with fail
   go_ret
   exact⟨_,rfl,by simp[HF.out],HW0.2⟩
  ·go_wp2_with fail
   refine(ends_core ⟨9,s,hi,t,lo,up,n⟩ _).mono ?_
   rintro r w2 ⟨b,rfl,hb,hb2⟩
   have HF:Hid (b=true↔GoodN ⟨9,s,hi,t,lo,up,n⟩):=by
    show b=true↔GoodN _
    have hB:=HB.out
    have hG:=HG.out
    have hE:=emptyL
    have hL:=lessL
    try simp only[hE]at hB
    simp at hB
    rw[hb]
    simp[GoodN]
    cases hi<;>simp_all[less]
   exact zzQ58
 by_cases k10:kind=10
 ·subst k10
  obtain⟨B,hB⟩:=qE (decide ((10:Int)=10∧s.toList=(⟨#[]⟩:ByteArray).toList∧hi=hi∧t.toList=(⟨#[]⟩:ByteArray).toList∧lo=lo∧up=up∧n=0))
  have hq:=ndEq_is 10 s hi t lo up n 10 ⟨#[]⟩ hi ⟨#[]⟩ lo up 0 B hB
  have HB:Hid (B=true↔(10:Int)=10∧s.toList=(⟨#[]⟩:ByteArray).toList∧hi=hi∧t.toList=(⟨#[]⟩:ByteArray).toList∧lo=lo∧up=up∧n=0):=by rw[hB];show decide _=true↔_;simp only[decide_eq_true_eq]
  clear hB
  cases B
  ·have HF:Hid (¬GoodN ⟨10,s,hi,t,lo,up,n⟩):=by
    show¬GoodN _
    have hB:=HB.out
    have hE:=emptyL
    try simp only[hE]at hB
    intro q
    simp[GoodN]at q hB
    simp_all
   go_wp2_with fail
   go_ret
   exact⟨_,rfl,by simp[HF.out],HW0.2⟩
  ·go_wp2_with fail
   refine(ends_core ⟨10,s,hi,t,lo,up,n⟩ _).mono ?_
   rintro r w2 ⟨b,rfl,hb,hb2⟩
   have HF:Hid (b=true↔GoodN ⟨10,s,hi,t,lo,up,n⟩):=by
    show b=true↔GoodN _
    have hB:=HB.out
    have hG:=HG.out
    have hE:=emptyL
    have hL:=lessL
    try simp only[hE]at hB
    simp at hB
    rw[hb]
    simp[GoodN]
    cases hi<;>simp_all[less]
   exact zzQ58
 by_cases k11:kind=11
 ·subst k11
  obtain⟨B,hB⟩:=qE (decide ((11:Int)=11∧s.toList=(⟨#[]⟩:ByteArray).toList∧hi=false∧t.toList=(⟨#[]⟩:ByteArray).toList∧lo=0∧up=0∧n=n))
  have hq:=ndEq_is 11 s hi t lo up n 11 ⟨#[]⟩ false ⟨#[]⟩ 0 0 n B hB
  have HB:Hid (B=true↔(11:Int)=11∧s.toList=(⟨#[]⟩:ByteArray).toList∧hi=false∧t.toList=(⟨#[]⟩:ByteArray).toList∧lo=0∧up=0∧n=n):=by rw[hB];show decide _=true↔_;simp only[decide_eq_true_eq]
  clear hB
  cases B
  ·have HF:Hid (¬GoodN ⟨11,s,hi,t,lo,up,n⟩):=by
    show¬GoodN _
    have hB:=HB.out
    have hE:=emptyL
    try simp only[hE]at hB
    intro q
    simp[GoodN]at q hB
    simp_all
   go_wp2_with fail
   go_ret
   exact⟨_,rfl,by simp[HF.out],HW0.2⟩
  ·have HF:Hid (GoodN ⟨11,s,hi,t,lo,up,n⟩↔(1≤n∧n≤1000)):=by
    show GoodN _↔_
    have hB:=HB.out
    have hG:=HG.out
    have hE:=emptyL
    try simp only[hE]at hB
    simp at hB
    simp[GoodN]
    simp_all
   exact zzQ43
 by_cases k12:kind=12
 ·subst k12
  obtain⟨B,hB⟩:=qE (decide ((12:Int)=12∧s.toList=(⟨#[]⟩:ByteArray).toList∧hi=false∧t.toList=(⟨#[]⟩:ByteArray).toList∧lo=0∧up=0∧n=n))
  have hq:=ndEq_is 12 s hi t lo up n 12 ⟨#[]⟩ false ⟨#[]⟩ 0 0 n B hB
  have HB:Hid (B=true↔(12:Int)=12∧s.toList=(⟨#[]⟩:ByteArray).toList∧hi=false∧t.toList=(⟨#[]⟩:ByteArray).toList∧lo=0∧up=0∧n=n):=by rw[hB];show decide _=true↔_;simp only[decide_eq_true_eq]
  clear hB
  cases B
  ·have HF:Hid (¬GoodN ⟨12,s,hi,t,lo,up,n⟩):=by
    show¬GoodN _
    have hB:=HB.out
    have hE:=emptyL
    try simp only[hE]at hB
    intro q
    simp[GoodN]at q hB
    simp_all
   go_wp2_with fail
   go_ret
   exact⟨_,rfl,by simp[HF.out],HW0.2⟩
  ·have HF:Hid (GoodN ⟨12,s,hi,t,lo,up,n⟩↔(1≤n∧n≤1000)):=by
    show GoodN _↔_
    have hB:=HB.out
    have hG:=HG.out
    have hE:=emptyL
    try simp only[hE]at hB
    simp at hB
    simp[GoodN]
    simp_all
   exact zzQ43
 by_cases k13:kind=13
 ·subst k13
  obtain⟨B,hB⟩:=qE (decide ((13:Int)=13∧s.toList=(⟨#[]⟩:ByteArray).toList∧hi=false∧t.toList=(⟨#[]⟩:ByteArray).toList∧lo=0∧up=0∧n=n))
  have hq:=ndEq_is 13 s hi t lo up n 13 ⟨#[]⟩ false ⟨#[]⟩ 0 0 n B hB
  have HB:Hid (B=true↔(13:Int)=13∧s.toList=(⟨#[]⟩:ByteArray).toList∧hi=false∧t.toList=(⟨#[]⟩:ByteArray).toList∧lo=0∧up=0∧n=n):=by rw[hB];show decide _=true↔_;simp only[decide_eq_true_eq]
  clear hB
  cases B
  ·have HF:Hid (¬GoodN ⟨13,s,hi,t,lo,up,n⟩):=by
    show¬GoodN _
    have hB:=HB.out
    have hE:=emptyL
    try simp only[hE]at hB
    intro q
    simp[GoodN]at q hB
    simp_all
   go_wp2_with fail
   go_ret
   exact⟨_,rfl,by simp[HF.out],HW0.2⟩
  ·have HF:Hid (GoodN ⟨13,s,hi,t,lo,up,n⟩↔(1≤n∧n≤1000)):=by
    show GoodN _↔_
    have hB:=HB.out
    have hG:=HG.out
    have hE:=emptyL
    try simp only[hE]at hB
    simp at hB
    simp[GoodN]
    simp_all
   exact zzQ43
 have HF:Hid (¬GoodN ⟨kind,s,hi,t,lo,up,n⟩):=by
  show¬GoodN _
  simp only[GoodN]
  rintro⟨_,_,_,q⟩
  omega
 go_wp2_with fail
 go_ret
 exact⟨_,rfl,by simp[HF.out],HW0.2⟩
end Go.Proofs.YtkidabedcgngcaaGreatDoor
namespace Go.Proofs.YtkidabedcgngcaaGreatDoor
open Go.ChangeShapes Go.WideShapes Go.ChangeAt Go.RowKit Go.Deep
set_option linter.unusedVariables false
set_option linter.unusedSimpArgs false
set_option linter.unnecessarySimpa false
set_option maxRecDepth 100000
set_option maxHeartbeats 1000000 in
theorem operandCount_core (k:Int) (w:World):Calls Tryz.prog 61 #[.int .i64 k] w fun e w'=>e=.returned (.int .i64 (arity k:Int))∧w'=w:=by
 by_cases h14:k=14
 ·subst h14
  exact zzQ75
 by_cases h15:k=15
 ·subst h15
  exact zzQ75
 by_cases h16:k=16
 ·subst h16
  exact zzQ75
 have z14:(k==14)=false:=by simpa using h14
 have z15:(k==15)=false:=by simpa using h15
 have z16:(k==16)=false:=by simpa using h16
 have H:Hid (arity k=0):=by show arity k=0;unfold arity;rw[if_neg (by omega),if_neg h16]
 go_enter Tryz.func61,Tryz.ntmps61
 go_wp2_with fail
 go_ret
 exact⟨by rw[H.out];rfl,rfl⟩
set_option maxHeartbeats 1000000 in
theorem strength_core (k:Int) (w:World):Calls Tryz.prog 128 #[.int .i64 k] w fun e w'=>e=.returned (.int .i64 (strong k:Int))∧w'=w:=by
 by_cases h15:k=15
 ·subst h15
  go_enter Tryz.func128,Tryz.ntmps128
  go_wp2_with fail
  go_ret
  exact⟨rfl,rfl⟩
 by_cases h14:k=14
 ·subst h14
  go_enter Tryz.func128,Tryz.ntmps128
  go_wp2_with fail
  go_ret
  exact⟨rfl,rfl⟩
 have z14:(k==14)=false:=by simpa using h14
 have z15:(k==15)=false:=by simpa using h15
 have H:Hid (strong k=3):=by show strong k=3;unfold strong;rw[if_neg h15,if_neg h14]
 go_enter Tryz.func128,Tryz.ntmps128
 go_wp2_with fail
 go_ret
 exact⟨by rw[H.out];rfl,rfl⟩
set_option maxHeartbeats 1000000 in
theorem inParens_core (op:Int) (i:Nat) (kid:Int) (w:World) (hop:¬op=16):Calls Tryz.prog 100 #[.int .i64 op,.int .i64 (i:Int),.int .i64 kid] w fun e w'=>e=.returned (.bool (level op i kid))∧w'=w:=by
 by_cases hi:i=0
 ·subst hi
  have HL:Hid (level op 0 kid=decide (strong kid<strong op)):=by
   show level op 0 kid=_
   unfold level;simp[hop]
  exact zzQ64
 ·have zi:((i:Int)==0)=false:=by simpa using hi
  have HL:Hid (level op i kid=decide (strong kid≤strong op)):=by
   show level op i kid=_
   unfold level;simp[hop,hi]
  exact zzQ64
abbrev Shape.three (s:Shape):List Value:= [.bool s.valid,.int .i64 s.kind,.int .i64 (s.nest:Int)]
def cellsS (ss:List Shape):List Value:=ss.flatMap Shape.three
theorem length_cellsS (ss:List Shape):(cellsS ss).length=ss.length*3:=by
 induction ss with
 |nil=>rfl
 |cons e es ih=>simp only[cellsS,List.flatMap_cons,List.length_append]at ih⊢;rw[ih];simp;omega
theorem cellsS_append (es fs:List Shape):cellsS (es++fs)=cellsS es++cellsS fs:=by simp[cellsS]
theorem cellsS_get (es:List Shape):∀(k:Nat) (e:Shape),es[k]?=some e→∀j,j<3→(cellsS es)[k*3+j]?=e.three[j]?:=by
 induction es with
 |nil=>intro k e h;simp at h
 |cons f es ih=>
  intro k e h j hj
  have hc:cellsS (f::es)=f.three++cellsS es:=by simp[cellsS]
  rw[hc]
  cases k with
  |zero=>
   simp at h;subst h
   rw[List.getElem?_append_left (by show 0*3+j<3;omega)]
   simp
  |succ k=>
   simp at h
   rw[List.getElem?_append_right (by show 3≤(k+1)*3+j;omega)]
   have:(k+1)*3+j-f.three.length=k*3+j:=by show(k+1)*3+j-3=_;omega
   rw[this];exact ih k e h j hj
theorem cellsS_take (es:List Shape) (k:Nat):cellsS (es.take k)=(cellsS es).take (k*3):=by
 induction es generalizing k with
 |nil=>simp[cellsS]
 |cons f es ih=>
  cases k with
  |zero=>simp[cellsS]
  |succ k=>
   have hc:cellsS (f::es)=f.three++cellsS es:=by simp[cellsS]
   have hd:cellsS (f::es.take k)=f.three++cellsS (es.take k):=by simp[cellsS]
   have e1:(k+1)*3=f.three.length+k*3:=by show(k+1)*3=3+k*3;omega
   rw[List.take_succ_cons,hd,hc,ih,e1,List.take_length_add_append]
def ShsAt (w:World) (b o:Nat) (ss:List Shape):Prop:=∀i s,ss[i]?=some s→w.cell? ⟨b,o+i*3,none⟩=some (.bool s.valid)∧w.cell? ⟨b,o+i*3+1,none⟩=some (.int .i64 s.kind)∧w.cell? ⟨b,o+i*3+2,none⟩=some (.int .i64 (s.nest:Int))
theorem ShsAt.below {B:Nat} {w w':World} {b o:Nat} {ss:List Shape} (h:ShsAt w b o ss) (hb:Below B w w') (hlt:b<B):ShsAt w' b o ss:=by
 intro i e he
 have:=h i e he
 refine⟨?_,?_,?_⟩
 all_goals rw[hb.cell (by exact hlt)]
 ·exact this.1
 ·exact this.2.1
 ·exact this.2.2
theorem ShsAt.drop {w:World} {b o:Nat} {ss:List Shape} (h:ShsAt w b o ss) (k:Nat):ShsAt w b (o+k*3) (ss.drop k):=by
 intro i s hs
 have:=h (k+i) s (by rw[←List.getElem?_drop];exact hs)
 rw[Nat.add_mul,←Nat.add_assoc]at this
 exact this
def OwnSh (w:World) (base g cp:Nat) (ss:List Shape):Prop:=w.ownsRow base 96 3 (.slice (some ⟨g,0,none⟩) ss.length cp) ss.length (cellsS ss)
theorem OwnSh.lt {w:World} {base g cp:Nat} {ss:List Shape} (h:OwnSh w base g cp ss):base≤g∧g<w.heap.size:=World.ownsRow.lt h g rfl
theorem OwnSh.below {w w':World} {base g cp:Nat} {ss:List Shape} (h:OwnSh w base g cp ss) (hb:Below w.heap.size w w'):OwnSh w' base g cp ss:=own_chg h (Chg.of_below hb) (S:=fun _=>False) (fun k q z=>z)
theorem OwnSh.at {w:World} {base g cp:Nat} {ss:List Shape} (h:OwnSh w base g cp ss):ShsAt w g 0 ss:=by
 intro i e he
 have hi:i<ss.length:=(List.getElem?_eq_some_iff.1 he).1
 have c:=fun j (hj:j<3)=>(World.ownsRow.cellAt h (i*3+j) (by omega)).trans (cellsS_get ss i e he j hj)
 refine⟨?_,?_,?_⟩
 ·simpa using c 0 (by omega)
 ·simpa using c 1 (by omega)
 ·simpa using c 2 (by omega)
theorem OwnSh.caps {w:World} {base g cp:Nat} {ss:List Shape} (h:OwnSh w base g cp ss):ss.length≤cp∧cp≤maxLen:=by
 exact zzQ12
theorem OwnSh.take {w:World} {base g cp:Nat} {ss:List Shape} (h:OwnSh w base g cp ss) {k:Nat} (hk:k≤ss.length):OwnSh w base g cp (ss.take k):=by
 rcases h.2 with⟨h0,_⟩|⟨g',cap',cur,hv,h1,h2,h3,h4,h5,h6⟩
 ·cases h0
 ·simp only[Value.slice.injEq,Option.some.injEq,Addr.mk.injEq,and_true,true_and]at hv
  obtain⟨rfl,rfl⟩:=hv
  have hl:(ss.take k).length=k:=by rw[List.length_take];omega
  refine⟨by rw[length_cellsS],.inr ⟨g,cp,cur,rfl,h1,h2,by omega,h4,h5,?_⟩⟩
  rw[hl,cellsS_take,←h6,List.take_take]
  congr 1
  omega
theorem ownSh_new (w:World) {base:Nat} (hb:base≤w.heap.size):OwnSh (w.alloc (Obj.cells #[] 96)) base w.heap.size 0 []:=
 World.ownsRow_made w #[] 0 hb (Nat.zero_le _) (by simp)
structure SoJ (w:World) (e:Nd) (WB:Nat) (v:Bool) (a:Nat) (wr:World):Prop where
 node:BoxAt wr w.heap.size 75 7 w.heap.size e.seven
 res:BoxAt wr w.heap.size 96 3 (w.heap.size+1) [.bool false,.int .i64 0,.int .i64 0]
 whole:BoxAt wr w.heap.size 96 3 WB [.bool v,.int .i64 e.kind,.int .i64 (a:Int)]
 ne:w.heap.size+2≤WB
 below:Below w.heap.size w wr
theorem SoJ.move {w:World} {e:Nd} {WB:Nat} {v:Bool} {a:Nat} {wr w':World} (h:SoJ w e WB v a wr) (hb:Below wr.heap.size wr w'):SoJ w e WB v a w':=
 ⟨h.node.below hb,h.res.below hb,h.whole.below hb,h.ne,h.below.trans (hb.mono h.below.size)⟩
theorem valid_is (e:Nd) (w:World) (hs:e.s.size≤maxLen) (ht:e.t.size≤maxLen):Calls Tryz.prog 99 #[.agg #[.int .i64 e.kind,.string e.s,.bool e.hi,.string e.t,.int .u64 e.lo,.int .u64 e.up,.int .i64 e.n]] w fun r w'=>r=.returned (.bool (goodB e))∧Below w.heap.size w w':=by
 refine(validNode_core e w hs ht).mono ?_
 rintro r w' ⟨b,rfl,hb,hb2⟩
 refine⟨?_,hb2⟩
 congr 2
 rw[Bool.eq_iff_iff,hb,goodB_iff]
end Go.Proofs.YtkidabedcgngcaaGreatDoor
namespace Go.Proofs.YtkidabedcgngcaaGreatDoor
set_option linter.unusedVariables false
set_option linter.unusedSimpArgs false
theorem foldV_next {T:Type} (V:Nd→List T→T) {xs:List Nd} {j:Nat} {ns:List T} {e:Nd} (h:foldV V [] (xs.take j)=some ns) (he:xs[j]?=some e) (hl:arity e.kind≤ns.length):foldV V [] (xs.take (j+1))=some (ns.take (ns.length-arity e.kind)++ [V e (ns.drop (ns.length-arity e.kind))]):=by
 rw[List.take_add_one,he,foldV_append,h]
 simp only[Option.toList,Option.bind_some,foldV,stepV]
 rw[if_neg (by omega)]
 rfl
theorem foldV_stop {T:Type} (V:Nd→List T→T) {xs:List Nd} {j:Nat} {ns:List T} {e:Nd} (h:foldV V [] (xs.take j)=some ns) (he:xs[j]?=some e) (hl:ns.length<arity e.kind):foldV V [] xs=none:=by
 have hj:=(List.getElem?_eq_some_iff.1 he).1
 have:xs=xs.take j++e::xs.drop (j+1):=by
  conv=>lhs;rw[←List.take_append_drop j xs,List.drop_eq_getElem_cons hj]
  rw[show xs[j]=e from Option.some.inj ((List.getElem?_eq_getElem hj).symm.trans he)]
 rw[this,foldV_append,h]
 simp only[Option.bind_some,foldV,stepV]
 rw[if_pos hl]
 rfl
end Go.Proofs.YtkidabedcgngcaaGreatDoor
namespace Go.Proofs.YtkidabedcgngcaaGreatDoor
set_option linter.unusedVariables false
end Go.Proofs.YtkidabedcgngcaaGreatDoor
namespace Go.Proofs.YtkidabedcgngcaaGreatDoor
set_option linter.unusedVariables false
set_option linter.unusedSimpArgs false
theorem okPair_key {p e:Ent} (h:okPair p e=true):keyCmp p e= -1:=by
 unfold okPair at h
 simp only[Bool.and_eq_true,decide_eq_true_eq,Bool.not_eq_true',beq_iff_eq]at h
 first
  |exact h.1
  |exact h.2
  |(have h1:=h.1;have h2:=h.2;rcases keyCmp_vals p e with q|q|q<;>simp_all)
theorem ord_of_adj:∀(l:List Ent),(∀i p e,l[i]?=some p→l[i+1]?=some e→keyCmp p e= -1)→Ord l
 | [],_=>List.Pairwise.nil
 | [a],_=>by simp[Ord]
 |a::b::r,h=>by
  have ih:=ord_of_adj (b::r) (fun i p e h1 h2=>h (i+1) p e (by simpa using h1) (by simpa using h2))
  have hab:keyCmp a b= -1:=h 0 a b rfl rfl
  refine List.pairwise_cons.2 ⟨fun x hx=>?_,ih⟩
  rcases List.mem_cons.1 hx with rfl|hx
  ·exact hab
  ·exact keyCmp_trans hab ((List.pairwise_cons.1 ih).1 x hx)
theorem ord_of_good {es:List Ent} (h:GoodR es):Ord es:=ord_of_adj es (fun i p e h1 h2=>okPair_key (h.2 i p e h1 h2))
end Go.Proofs.YtkidabedcgngcaaGreatDoor
namespace Go.Proofs.YtkidabedcgngcaaGreatDoor
open Go.ChangeShapes Go.WideShapes Go.ChangeAt Go.RowKit Go.Deep
set_option linter.unusedVariables false
set_option linter.unusedSimpArgs false
set_option maxRecDepth 100000
def MeaOf (xs:List Nd) (es R:List Ent):Prop:=(¬(GoodF xs∧GoodR es)∧R= [])∨((GoodF xs∧GoodR es)∧∃t,TreeF xs t∧R=meanAll t es)
theorem meaOf_one {xs:List Nd} {es R T:List Ent} (h:MeaOf xs es R) (k:MeaOf xs es T):R=T:=by
 rcases h with⟨h1,rfl⟩|⟨h1,t,ht,rfl⟩
 ·rcases k with⟨_,rfl⟩|⟨k1,_⟩
  ·rfl
  ·exact absurd k1 h1
 ·rcases k with⟨k1,_⟩|⟨_,u,hu,rfl⟩
  ·exact absurd h1 k1
  ·rw[treeF_one ht hu]
theorem goodF_tree {xs:List Nd} (h:GoodF xs):∃t,TreeF xs t:=by
 obtain⟨_,s,hs,_⟩:=h
 exact treeF_ex (ShT.tree goodB hs)
theorem sub_good {es:List Ent} (h:GoodR es) (hk:∀e∈es,e.kind=0) (hok:∀e∈es,e.ok):Sub es es:=⟨ord_of_good h,fun x hx=>⟨x,hx,keyCmp_self x⟩,hk,hok⟩
theorem put_self {es:List Ent} (hk:∀e∈es,e.kind=0):es.map putE=es:=by
 conv=>rhs;rw[←List.map_id es]
 refine List.map_congr_left fun e he=>?_
 have:=hk e he
 cases e
 simp only[putE,id]at*
 subst this
 rfl
def MeaP (xs:List Nd) (es:List Ent) (w:World) (e:Ending) (w':World):Prop:=∃g cp R,e=.returned (.slice (some ⟨g,0,none⟩) R.length cp)∧Hid (MeaOf xs es R∧OwnC w' w.heap.size g cp R∧Below w.heap.size w w')
set_option maxHeartbeats 4000000 in
theorem specMeaning_win {w:World} {g o cp:Nat} {xs:List Nd} (h:WdN w g o cp xs) (hok:∀e∈xs,e.ok) {bc gc cc:Nat} {es:List Ent} (hC:OwnC w bc gc cc es) (hoe:∀e∈es,e.ok) (hk:∀e∈es,e.kind=0) (hl:es.length≤1048576):
  Calls Tryz.prog 7 #[.agg #[.slice (some ⟨g,o,none⟩) xs.length cp],.slice (some ⟨gc,0,none⟩) es.length cc] w (MeaP xs es w):=by
 have HO:Hid (WdN w g o cp xs∧(∀e∈xs,e.ok)∧OwnC w bc gc cc es∧(∀e∈es,e.ok)∧(∀e∈es,e.kind=0)):=⟨h,hok,hC,hoe,hk⟩
 obtain⟨n,hn⟩:=qE xs.length
 obtain⟨N,hN⟩:=qE es.length
 have HN:Hid (n=xs.length∧N=es.length):=⟨hn,hN⟩
 obtain⟨W0,hW0⟩:=qE (w.alloc (Obj.cells #[.slice (some ⟨g,o,none⟩) n cp] 32):World)
 have hb0:Below w.heap.size w W0:=by rw[hW0];exact qB
 have HB0:Hid (BoxAt W0 w.heap.size 32 1 w.heap.size [.slice (some ⟨g,o,none⟩) n cp]∧Below w.heap.size w W0):=⟨by rw[hW0];exact boxAt_new w _ (Nat.le_refl _) rfl,hb0⟩
 have HF:Hid (Calls Tryz.prog 19 #[.agg #[.slice (some ⟨g,o,none⟩) n cp]] W0 (FltPost xs W0)):=by
  rw[hn];exact specFilter_win (h.below hb0 h.lt) hok
 have HV:Hid (∀wx,Below w.heap.size w wx→Calls Tryz.prog 24 #[.slice (some ⟨gc,0,none⟩) N cc] wx (ValPost (GoodR es) wx)):=fun wx hx=>by
  have h9:=specCells_core gc cc es bc wx (hC.below hx hC.lt.2) hoe hl
  rw[put_self hk]at h9
  rw[hN];exact h9
 rw[←hn,←hN]
 rw[←hN]at hl
 clear h hok hC hoe hk hn hN hb0
 have c0:=HB0.1.cell (j:=0) rfl
 go_enter Tryz.func7,Tryz.ntmps7
 go_upto_region 1 with fail
 rw[←hW0]
 clear hW0
 go_wp2_with fail
 refine HF.mono ?_
 rintro e w1 ⟨r,rfl,hr,hb1⟩
 have HR1:Hid ((r=true↔GoodF xs)∧BoxAt w1 w.heap.size 32 1 w.heap.size [.slice (some ⟨g,o,none⟩) n cp]∧Below w.heap.size w w1):=⟨hr,HB0.1.below hb1,HB0.2.trans (hb1.mono HB0.2.size)⟩
 clear hr hb1 HF c0
 cases r
 case false=>
  have HE:Hid (MeaOf xs es []∧OwnC (w1.alloc (Obj.cells #[] 55)) w.heap.size w1.heap.size 0 []∧Below w.heap.size w (w1.alloc (Obj.cells #[] 55))):=
   ⟨.inl ⟨fun q=>Bool.noConfusion (HR1.1.2 q.1),rfl⟩,(ownC_new w1).mono HR1.2.2.size,HR1.2.2.alloc HR1.2.2.size _⟩
  go_wp2_with fail
  go_ret
  exact⟨w1.heap.size,0,[],rfl,HE.out⟩
 case true=>
 have HV1:Hid (Calls Tryz.prog 24 #[.slice (some ⟨gc,0,none⟩) N cc] w1 (ValPost (GoodR es) w1)):=HV.out w1 HR1.2.2
 go_wp2_with fail
 refine HV1.mono ?_
 rintro e w2 ⟨r2,rfl,hr2,hb2⟩
 have HR2:Hid ((r2=true↔GoodR es)∧BoxAt w2 w.heap.size 32 1 w.heap.size [.slice (some ⟨g,o,none⟩) n cp]∧Below w.heap.size w w2):=⟨hr2,HR1.2.1.below hb2,HR1.2.2.trans (hb2.mono HR1.2.2.size)⟩
 clear hr2 hb2 HV1
 cases r2
 case false=>
  have HE:Hid (MeaOf xs es []∧OwnC (w2.alloc (Obj.cells #[] 55)) w.heap.size w2.heap.size 0 []∧Below w.heap.size w (w2.alloc (Obj.cells #[] 55))):=
   ⟨.inl ⟨fun q=>Bool.noConfusion (HR2.1.2 q.2),rfl⟩,(ownC_new w2).mono HR2.2.2.size,HR2.2.2.alloc HR2.2.2.size _⟩
  go_wp2_with fail
  go_ret
  exact⟨w2.heap.size,0,[],rfl,HE.out⟩
 case true=>
 have hgf:GoodF xs:=by have h9:=HR1.1;simpa using h9
 have hgr:GoodR es:=by have h9:=HR2.1;simpa using h9
 obtain⟨t,ht⟩:=goodF_tree hgf
 have HT:Hid (MeaOf xs es (meanAll t es)):=.inr ⟨⟨hgf,hgr⟩,t,ht,rfl⟩
 have HA:Hid (Calls Tryz.prog 25 #[.slice (some ⟨g,o,none⟩) n cp,.slice (some ⟨gc,0,none⟩) N cc] w2 fun e w'=>∃g cp,e=.returned (.slice (some ⟨g,0,none⟩) (meanAll t es).length cp)∧OwnC w' w2.heap.size g cp (meanAll t es)∧Below w2.heap.size w2 w'):=by
  rw[HN.1,HN.2]
  have hNd:=HO.1.below HR2.2.2 HO.1.lt
  have hCe:=HO.2.2.1.below HR2.2.2 HO.2.2.1.lt.2
  exact l5MeanAll_core ⟨hNd.at,hNd.lt,hNd.caps.1,by have h8:=hNd.caps.2;unfold maxLen at h8;omega,by have h8:=hgf.1;omega⟩ ht (fun x hx=>(HO.2.1 x hx).s) hCe.sl (sub_good hgr HO.2.2.2.2 HO.2.2.2.1) hgr.1.1
 have c0:=HR2.2.1.cell (j:=0) rfl
 clear hgf hgr ht
 go_wp2_with fail
 refine HA.mono ?_
 rintro e w3 ⟨g3,cp3,rfl,hO3,hb3⟩
 have HE:Hid (MeaOf xs es (meanAll t es)∧OwnC w3 w.heap.size g3 cp3 (meanAll t es)∧Below w.heap.size w w3):=⟨HT.out,hO3.mono HR2.2.2.size,HR2.2.2.trans (hb3.mono HR2.2.2.size)⟩
 clear hO3 hb3
 go_wp2_with fail
 go_ret
 exact⟨g3,cp3,meanAll t es,rfl,HE.out⟩
theorem specMeaning_core {w:World} {base g cp:Nat} {xs:List Nd} (h:OwnNd w base g cp xs) (hok:∀e∈xs,e.ok) (hc:cp≤281474976710656) {bc gc cc:Nat} {es:List Ent} (hC:OwnC w bc gc cc es) (hoe:∀e∈es,e.ok) (hk:∀e∈es,e.kind=0) (hl:es.length≤1048576):
  Calls Tryz.prog 7 #[.agg #[.slice (some ⟨g,0,none⟩) xs.length cp],.slice (some ⟨gc,0,none⟩) es.length cc] w (MeaP xs es w):=specMeaning_win h.wd hok hC hoe hk hl
def FRow (w:World) (base g cp:Nat) (ps:List (Nat×Array Value)):Prop:=w.ownsRow base 58 1 (.slice (some ⟨g,0,none⟩) ps.length cp) ps.length (ps.map fvC)
theorem FRow.lt {w:World} {base g cp:Nat} {ps:List (Nat×Array Value)} (h:FRow w base g cp ps):base≤g∧g<w.heap.size:=World.ownsRow.lt h g rfl
theorem FRow.chg {S:Nat→Prop} {w w':World} {base g cp:Nat} {ps:List (Nat×Array Value)} (h:FRow w base g cp ps) (hc:Chg S w w') (hn:¬S g):FRow w' base g cp ps:=own_chg h hc (fun k q=>by simp[Value.ownBlock]at q;subst q;exact hn)
theorem FRow.cell {w:World} {base g cp:Nat} {ps:List (Nat×Array Value)} (h:FRow w base g cp ps) {j:Nat} {p:Nat×Array Value} (hp:ps[j]?=some p):w.cell? ⟨g,j,none⟩=some (fvC p):=by
 have:=World.ownsRow.cellAt h j (by have:=(List.getElem?_eq_some_iff.1 hp).1;omega)
 rw[this,List.getElem?_map,hp]
 rfl
theorem FRow.caps {w:World} {base g cp:Nat} {ps:List (Nat×Array Value)} (h:FRow w base g cp ps):ps.length≤cp∧cp≤maxLen:=by
 rcases h.2 with⟨h0,_⟩|⟨g',cap',cur,hv,_,_,hn,hcap,_,_⟩
 ·cases h0
 ·simp at hv
  obtain⟨_,rfl⟩:=hv
  exact⟨hn,hcap⟩
theorem FRow.take {w:World} {base g cp:Nat} {ps:List (Nat×Array Value)} (h:FRow w base g cp ps) {k:Nat} (hk:k≤ps.length):FRow w base g cp (ps.take k):=by
 obtain⟨h1,h2⟩:=h
 rcases h2 with⟨h0,_⟩|⟨g',cap',cur,hv,ha,hb,hn,hcap,hd,he⟩
 ·cases h0
 ·simp only[Value.slice.injEq,Option.some.injEq,Addr.mk.injEq]at hv
  obtain⟨⟨rfl,_⟩,_,rfl⟩:=hv
  have hl:(ps.take k).length=k:=by rw[List.length_take];omega
  unfold FRow
  rw[hl]
  refine⟨by simp;omega,.inr ⟨_,_,cur,rfl,ha,hb,by omega,hcap,hd,?_⟩⟩
  rw[List.map_take,←he,List.take_take]
  congr 1
  omega
theorem Tryz.infoFs:(Tryz.prog.info? 58).map (fun i=>(i.zero,i.size,i.bytes))=some (some .nilFunc,1,8):=by kernel_rfl
structure AppF (w w':World) (base g n cp:Nat) (ps qs:List (Nat×Array Value)) (g' cp':Nat):Prop where
 own:FRow w' base g' cp' (ps++qs)
 grown:w.grownBy w' (some g)
 at_:g'=g∨g'=w.heap.size
theorem append_fs {w w':World} {v':Value} {base g cp m:Nat} {ps qs:List (Nat×Array Value)} (hO':w'.ownsRow base 58 1 v' (ps.length+m) (ps.map fvC++qs.map fvC)) (hm:m=qs.length) (hgr:w.grownBy w' (some g)) (hnil:v'=.slice none 0 0↔(Value.slice (some ⟨g,0,none⟩) ps.length cp)=.slice none 0 0∧m=0) (hat:v'.ownBlock=some g∨v'.ownBlock=some w.heap.size):∃g' cp',v'=.slice (some ⟨g',0,none⟩) (ps.length+m) cp'∧AppF w w' base g ps.length cp ps qs g' cp':=by
 subst hm
 rcases hO'.2 with⟨h0,_⟩|⟨g',cap',cur,hv,_,_,hn,hcap,_,_⟩
 ·have:=(hnil.1 h0).1
  cases this
 ·subst hv
  refine⟨g',cap',rfl,⟨?_,hgr,?_⟩⟩
  ·unfold FRow
   rw[List.length_append,List.map_append]
   exact hO'
  ·simp[Value.ownBlock]at hat
   exact hat
theorem one_fv (qs:List (Nat×Array Value)):∀u∈qs.map fvC,u.oneCell'=true:=by
 intro u hu
 obtain⟨p,_,rfl⟩:=List.mem_map.1 hu
 rfl
theorem wpList_append_fs {ops:Array Oper} {rest:List Oper} {o:Oper} {a:Act} {Q:Exit→Act→World→Prop} (w:World) (hgd:o.guard=none) (s x:Operand)
  (ho:o.op=.call {callee:=.builtin .append,args:=#[s,x],argTypes:=#[105,105]})
  (base g cp n b off m cx:Nat) (ps qs:List (Nat×Array Value)) (hs:a.eval s=.slice (some ⟨g,0,none⟩) n cp) (hx:a.eval x=.slice (some ⟨b,off,none⟩) m cx) (hn:n=ps.length) (hm:m=qs.length) (hO:FRow w base g cp ps)
  (hc:∀j p,qs[j]?=some p→w.cell? ⟨b,off+j,none⟩=some (fvC p)) (hlen:ps.length+qs.length≤2^30) (hbase:base≤w.heap.size)
  (h:∀g' cp' w',AppF w w' base g n cp ps qs g' cp'→wpList Tryz.prog ops Q rest (a.put o.dst (.slice (some ⟨g',0,none⟩) (n+m) cp')) w'):wpList Tryz.prog ops Q (o::rest) a w:=by
 subst hn
 obtain⟨i,hi,hz0,hz1,hz2⟩:=info_parts Tryz.infoFs
 refine wpList_append_own_at w hgd s x 105 ho base 58 i _ 1 8 Tryz.underlying105 hi hz0 hz1 hz2 rfl (by decide) (.slice (some ⟨g,0,none⟩) ps.length cp) ps.length (ps.map fvC) hs hO ⟨b,off,none⟩ m cx (qs.map fvC) hx (by simp[hm]) (fun j u hu=>?_) (one_fv qs) ?_ ?_ hbase ?_
 ·rw[List.getElem?_map]at hu
  rw[Addr.add_mid]
  cases hq:qs[j]? with
  |none=>rw[hq]at hu;cases hu
  |some p=>rw[hq]at hu;cases hu;exact hc j p hq
 ·unfold maxLen;omega
 ·omega
 ·intro v' w' hO' hgr hnil hat
  obtain⟨g',cp',rfl,hA⟩:=append_fs hO' hm hgr hnil hat
  exact h g' cp' w' hA
structure Stps (lo g:Nat) (ps:List (Nat×Array Value)) (ts:List CT) (Rs:List (Nat→Prop)) (w:World):Prop where
 l1:ps.length=ts.length
 l2:ps.length=Rs.length
 step:∀(i:Nat) (p:Nat×Array Value) (t:CT) (R:Nat→Prop),ps[i]?=some p→ts[i]?=some t→Rs[i]?=some R→StepAt w t R (fvC p)
 bnd:∀(i:Nat) (R:Nat→Prop),Rs[i]?=some R→∀k,R k→lo≤k∧k<w.heap.size∧¬k=g
 disj:∀(i j:Nat) (R Q:Nat→Prop),Rs[i]?=some R→Rs[j]?=some Q→¬i=j→∀k,R k→¬Q k
theorem Stps.chg {lo g g':Nat} {ps:List (Nat×Array Value)} {ts:List CT} {Rs:List (Nat→Prop)} {w w':World} (h:Stps lo g ps ts Rs w) (hc:Chg (fun k=>k=g) w w') (hV:¬1=g) (hg:g'=g∨w.heap.size≤g'):Stps lo g' ps ts Rs w':=by
 refine⟨h.l1,h.l2,fun i p t R h1 h2 h3=>(h.step i p t R h1 h2 h3).chg hc hV (fun k q z=>(h.bnd i R h3 k z).2.2 q),fun i R h1 k z=>?_,h.disj⟩
 have h9:=h.bnd i R h1 k z
 exact⟨h9.1,Nat.lt_of_lt_of_le h9.2.1 hc.size,by omega⟩
theorem Stps.below {lo g:Nat} {ps:List (Nat×Array Value)} {ts:List CT} {Rs:List (Nat→Prop)} {w w':World} (h:Stps lo g ps ts Rs w) (hb:Below w.heap.size w w'):Stps lo g ps ts Rs w':=by
 refine⟨h.l1,h.l2,fun i p t R h1 h2 h3=>(h.step i p t R h1 h2 h3).below hb,fun i R h1 k z=>?_,h.disj⟩
 have h9:=h.bnd i R h1 k z
 exact⟨h9.1,Nat.lt_of_lt_of_le h9.2.1 hb.size,h9.2.2⟩
theorem Stps.push {lo g fr:Nat} {ps:List (Nat×Array Value)} {ts:List CT} {Rs:List (Nat→Prop)} {X w:World} (h:Stps lo g ps ts Rs X) (hb:Below X.heap.size X w) (hfr:fr≤ps.length) (hlo:lo≤X.heap.size) (hg:g<X.heap.size) {f:Nat×Array Value} {t:CT} {R:Nat→Prop} (hS:StepAt w t R (fvC f)) (hR:∀k,R k→(∃(i:Nat) (Q:Nat→Prop),fr≤i∧Rs[i]?=some Q∧Q k)∨(X.heap.size≤k∧k<w.heap.size)):Stps lo g (ps.take fr++ [f]) (ts.take fr++ [t]) (Rs.take fr++ [R]) w:=by
 have hW:=h.below hb
 have e1:=h.l1
 have e2:=h.l2
 have lp:(ps.take fr).length=fr:=by rw[List.length_take];omega
 have lt:(ts.take fr).length=fr:=by rw[List.length_take];omega
 have lr:(Rs.take fr).length=fr:=by rw[List.length_take];omega
 have bR:∀k,R k→lo≤k∧k<w.heap.size∧¬k=g:=fun k z=>by
  rcases hR k z with⟨i,Q,_,hQ,hk⟩|q
  ·exact hW.bnd i Q hQ k hk
  ·exact⟨by omega,q.2,by omega⟩
 have dR:∀(i:Nat) (Q:Nat→Prop),i<fr→Rs[i]?=some Q→∀k,R k→¬Q k:=fun i Q hi hQ k z y=>by
  rcases hR k z with⟨i',Q',hi',hQ',hk⟩|q
  ·exact h.disj i' i Q' Q hQ' hQ (by omega) k hk y
  ·have:=(h.bnd i Q hQ k y).2.1;omega
 refine⟨by simp only[List.length_append,lp,lt];rfl,by simp only[List.length_append,lp,lr];rfl,fun i p u Q h1 h2 h3=>?_,fun i Q h1 k z=>?_,fun i j A B h1 h2 hij k z y=>?_⟩
 ·by_cases hi:i<fr
  ·rw[List.getElem?_append_left (by omega),List.getElem?_take,if_pos hi]at h1 h2 h3
   exact hW.step i p u Q h1 h2 h3
  ·by_cases hi2:i=fr
   ·subst hi2
    rw[List.getElem?_append_right (by omega)]at h1 h2 h3
    rw[lp,Nat.sub_self]at h1
    rw[lt,Nat.sub_self]at h2
    rw[lr,Nat.sub_self]at h3
    cases h1;cases h2;cases h3
    exact hS
   ·rw[List.getElem?_eq_none (by rw[List.length_append,lp];simp;omega)]at h1
    cases h1
 ·by_cases hi:i<fr
  ·rw[List.getElem?_append_left (by omega),List.getElem?_take,if_pos hi]at h1
   exact hW.bnd i Q h1 k z
  ·by_cases hi2:i=fr
   ·subst hi2
    rw[List.getElem?_append_right (by omega),lr,Nat.sub_self]at h1
    cases h1
    exact bR k z
   ·rw[List.getElem?_eq_none (by rw[List.length_append,lr];simp;omega)]at h1
    cases h1
 ·have gt:∀(i:Nat) (A:Nat→Prop),(Rs.take fr++ [R])[i]?=some A→(i<fr∧Rs[i]?=some A)∨(i=fr∧A=R):=fun i A h1=>by
   by_cases hi:i<fr
   ·rw[List.getElem?_append_left (by omega),List.getElem?_take,if_pos hi]at h1
    exact .inl ⟨hi,h1⟩
   ·by_cases hi2:i=fr
    ·subst hi2
     rw[List.getElem?_append_right (by omega),lr,Nat.sub_self]at h1
     cases h1
     exact .inr ⟨rfl,rfl⟩
    ·rw[List.getElem?_eq_none (by rw[List.length_append,lr];simp;omega)]at h1
     cases h1
  rcases gt i A h1 with⟨hi,hA⟩|⟨hi,rfl⟩
  ·rcases gt j B h2 with⟨hj,hB⟩|⟨hj,rfl⟩
   ·exact h.disj i j A B hA hB hij k z y
   ·exact dR i A hi hA k y z
  ·rcases gt j B h2 with⟨hj,hB⟩|⟨hj,rfl⟩
   ·exact dR j B hj hB k z y
   ·omega
theorem SoP.mono {t:CT} {Q Q':Nat→Prop} {w:World} {e:Ending} {w':World} (h:SoP t Q w e w') (hq:∀k,Q k→Q' k):SoP t Q' w e w':=by
 obtain⟨f,h1,H⟩:=h
 obtain⟨R,h2,h3,h4⟩:=H.out
 refine⟨f,h1,R,h2,fun k z=>?_,h4⟩
 rcases h3 k z with q|q
 ·exact .inl (hq k q)
 ·exact .inr q
theorem sto_all (e:Nd) (hg:GoodN e) (b off cx m lo g:Nat) (ps:List (Nat×Array Value)) (ts:List CT) (Rs:List (Nat→Prop)) (X:World) (hT:TabD X) (h:Stps lo g ps ts Rs X) (hm:m=ps.length) (ha:ps.length=arity e.kind) (hb:b<X.heap.size) (hc:∀(i:Nat) (p:Nat×Array Value),ps[i]?=some p→X.cell? ⟨b,off+i,none⟩=some (fvC p)):Calls Tryz.prog 31 #[e.v,.slice (some ⟨b,off,none⟩) m cx] X (SoP (ctV e ts) (fun k=>∃(i:Nat) (Q:Nat→Prop),Rs[i]?=some Q∧Q k) X):=by
 have e1:=h.l1
 have e2:=h.l2
 by_cases h14:e.kind=14
 ·have h2:arity e.kind=2:=by unfold arity;rw[if_pos (.inl h14)]
  rw[h2]at ha
  match ps,ts,Rs,ha,e1,e2,h,hm,hc with
  | [fa,fb],[ta,tb],[A,B],_,_,_,h,hm,hc=>
    subst hm
    have ev:ctV e [ta,tb]=.chain e ta tb:=if_pos h14
    rw[ev]
    refine(sto_chain e h14 b off cx fa fb ta tb A B X (hc 0 fa rfl) (hc 1 fb rfl) hb (h.step 0 fa ta A rfl rfl rfl) (h.step 1 fb tb B rfl rfl rfl) (h.disj 0 1 A B rfl rfl (by omega)) (fun k z=>(h.bnd 0 A rfl k z).2.1) (fun k z=>(h.bnd 1 B rfl k z).2.1)).mono fun r w' hr=>hr.mono fun k z=>?_
    rcases z with z|z
    ·exact⟨0,A,rfl,z⟩
    ·exact⟨1,B,rfl,z⟩
 ·by_cases h15:e.kind=15
  ·have h2:arity e.kind=2:=by unfold arity;rw[if_pos (.inr h15)]
   rw[h2]at ha
   match ps,ts,Rs,ha,e1,e2,h,hm,hc with
   | [fa,fb],[ta,tb],[A,B],_,_,_,h,hm,hc=>
     subst hm
     have ev:ctV e [ta,tb]=.inter e ta tb:=if_neg h14
     rw[ev]
     refine(sto_inter e h15 b off cx fa fb ta tb A B X (hc 0 fa rfl) (hc 1 fb rfl) hb (h.step 0 fa ta A rfl rfl rfl) (h.step 1 fb tb B rfl rfl rfl) (h.disj 0 1 A B rfl rfl (by omega)) (fun k z=>(h.bnd 0 A rfl k z).2.1) (fun k z=>(h.bnd 1 B rfl k z).2.1)).mono fun r w' hr=>hr.mono fun k z=>?_
     rcases z with z|z
     ·exact⟨0,A,rfl,z⟩
     ·exact⟨1,B,rfl,z⟩
  ·by_cases h16:e.kind=16
   ·have h2:arity e.kind=3:=by unfold arity;rw[if_neg (by omega),if_pos h16]
    rw[h2]at ha
    match ps,ts,Rs,ha,e1,e2,h,hm,hc with
    | [fp,fa,fb],[tp,ta,tb],[P,A,B],_,_,_,h,hm,hc=>
      subst hm
      refine(sto_cond e h16 b off cx fp fa fb tp ta tb P A B X (hc 0 fp rfl) (hc 1 fa rfl) (hc 2 fb rfl) hb (h.step 0 fp tp P rfl rfl rfl) (h.step 1 fa ta A rfl rfl rfl) (h.step 2 fb tb B rfl rfl rfl) (h.disj 0 1 P A rfl rfl (by omega)) (h.disj 0 2 P B rfl rfl (by omega)) (h.disj 1 2 A B rfl rfl (by omega)) (fun k z=>(h.bnd 0 P rfl k z).2.1) (fun k z=>(h.bnd 1 A rfl k z).2.1) (fun k z=>(h.bnd 2 B rfl k z).2.1)).mono fun r w' hr=>hr.mono fun k z=>?_
      rcases z with z|z|z
      ·exact⟨0,P,rfl,z⟩
      ·exact⟨1,A,rfl,z⟩
      ·exact⟨2,B,rfl,z⟩
   ·have h2:arity e.kind=0:=by unfold arity;rw[if_neg (by omega),if_neg h16]
    rw[h2]at ha
    match ps,ts,Rs,ha,e1,e2,hm with
    | [],[],[],_,_,_,hm=>
      exact(sto_leaf e hg h2 b off cx m X hT).mono fun r w' hr=>hr.mono fun k z=>z.elim
structure FsJ (w:World) (xs:List Nd) (j g cp:Nat) (ps:List (Nat×Array Value)) (ts:List CT) (Rs:List (Nat→Prop)) (wr:World):Prop where
 fold:foldV ctV [] (xs.take j)=some ts
 own:FRow wr w.heap.size g cp ps
 stp:Stps w.heap.size g ps ts Rs wr
 tab:TabD w
 below:Below w.heap.size w wr
theorem FsJ.move {w:World} {xs:List Nd} {j g cp:Nat} {ps:List (Nat×Array Value)} {ts:List CT} {Rs:List (Nat→Prop)} {wr w':World} (h:FsJ w xs j g cp ps ts Rs wr) (hb:Below wr.heap.size wr w'):FsJ w xs j g cp ps ts Rs w':=
 ⟨h.fold,h.own.chg (S:=fun _=>False) (Chg.of_below hb) (fun q=>q),h.stp.below hb,h.tab,h.below.trans (hb.mono h.below.size)⟩
theorem FsJ.tabD {w:World} {xs:List Nd} {j g cp:Nat} {ps:List (Nat×Array Value)} {ts:List CT} {Rs:List (Nat→Prop)} {wr:World} (h:FsJ w xs j g cp ps ts Rs wr):TabD wr:=h.tab.chg (S:=fun _=>False) (Chg.of_below h.below) (fun q=>q)
def FsPost (t:CT) (w:World) (r:Ending) (w':World):Prop:=∃(p:Nat×Array Value),r=.returned (.tuple #[fvC p,.bool true])∧Hid (∃R:Nat→Prop,StepAt w' t R (fvC p)∧(∀k,R k→w.heap.size≤k∧k<w'.heap.size)∧Below w.heap.size w w')
set_option maxHeartbeats 16000000 in
theorem foldStep_core {w:World} {gN cpN:Nat} {xs:List Nd} {t:CT} (h:NdsAt w gN 0 xs) (hg:gN<w.heap.size) (hT:TreeF xs t) (hl:xs.length≤200) (hG:∀e∈xs,GoodN e) (hTb:TabD w):
  Calls Tryz.prog 30 #[.slice (some ⟨gN,0,none⟩) xs.length cpN,.func (Fn.func 31) #[] #[]] w (FsPost t w):=by
 have hF:foldV ctV [] xs=some [t]:=by
  have h9:=TrV.fold _ hT []
  simpa using h9
 have HF:Hid (NdsAt w gN 0 xs∧foldV ctV [] xs=some [t]∧xs.length≤200∧(∀e∈xs,GoodN e)):=⟨h,hF,hl,hG⟩
 have HTb:Hid (TabD w):=hTb
 obtain⟨n,hn⟩:=qE xs.length
 have HL:Hid (n=xs.length):=hn
 rw[←hn]at hl⊢
 clear h hF hT hn hG hTb
 obtain⟨W0,hW0⟩:=qE (w.alloc (Obj.cells #[] 58):World)
 have HW0:Hid (FsJ w xs 0 w.heap.size 0 [] [] [] W0):=by
  rw[hW0]
  exact⟨rfl,World.ownsRow_lit w #[] 0 (Nat.le_refl _) (by decide) (by decide),⟨rfl,rfl,fun i p t R h1=>by simp at h1,fun i R h1=>by simp at h1,fun i j R Q h1=>by simp at h1⟩,HTb.out,qB⟩
 go_enter Tryz.func30,Tryz.ntmps30
 go_upto_region 2 with fail
 rw[←hW0]
 clear hW0
 go_wp2_with fail
 go_loopw[4,6,14] (fun wv sv iv wr=>∃(j m g cp:Nat) (ps:List (Nat×Array Value)) (ts:List CT) (Rs:List (Nat→Prop)),wv=.nilFunc∧iv=.int .i64 (j:Int)∧j≤n∧m=ps.length∧m≤j∧m≤cp∧sv=.slice (some ⟨g,0,none⟩) m cp∧FsJ w xs j g cp ps ts Rs wr) (fun _ _ iv _=>n-(intOf iv).toNat)
 case atStart=>exact⟨0,0,_,0,[],[],[],rfl,rfl,Nat.zero_le _,rfl,Nat.le_refl _,Nat.zero_le _,rfl,HW0.out⟩
 case round=>
  obtain⟨j,m,g,cp,ps,ts,Rs,rfl,rfl,hj,hm,hmj,hmc,rfl,hJ⟩:=hrel
  have HJ:Hid (m=ps.length∧FsJ w xs j g cp ps ts Rs wr):=⟨hm,hJ⟩
  have hgl:=hJ.own.lt
  have hcp:cp≤9223372036854775807:=by have:=hJ.own.caps.2;unfold maxLen at this;omega
  have hsz:=hJ.below.size
  clear hm hJ HW0
  by_cases hlt:j<n
  ·have zj:(j:Int)<(n:Int):=by omega
   obtain⟨e,he⟩:∃e,xs[j]?=some e:=⟨_,List.getElem?_eq_getElem (by have:=HL.out;omega)⟩
   obtain⟨d0,d1,d2,d3,d4,d5,d6⟩:=(HF.1.below HJ.2.below hg) j e he
   simp only[Nat.zero_add]at d0 d1 d2 d3 d4 d5 d6
   have HE:Hid (xs[j]?=some e):=he
   clear he
   obtain⟨W1,hW1⟩:=qE (wr.alloc (Obj.cells #[.int .i64 e.kind,.string e.s,.bool e.hi,.string e.t,.int .u64 e.lo,.int .u64 e.up,.int .i64 e.n] 75):World)
   have hb1:Below wr.heap.size wr W1:=by rw[hW1];exact qB
   have hz1:wr.heap.size<W1.heap.size:=by rw[hW1];simp
   have HJ1:Hid (m=ps.length∧FsJ w xs j g cp ps ts Rs W1∧BoxAt W1 w.heap.size 75 7 wr.heap.size [.int .i64 e.kind,.string e.s,.bool e.hi,.string e.t,.int .u64 e.lo,.int .u64 e.up,.int .i64 e.n]):=by
    refine⟨HJ.1,HJ.2.move hb1,?_⟩
    rw[hW1];exact boxAt_new wr _ hsz rfl
   go_upto_region 5 with fail
   rw[←hW1]
   clear hW1 d0 d1 d2 d3 d4 d5 d6 HJ hb1
   obtain⟨c0,c1,c2,c3,c4,c5,c6⟩:=HJ1.2.2.c7
   obtain⟨a,ha⟩:=qE (arity e.kind)
   have ha3:a≤3:=by rw[ha];exact arity_le _
   have HAr:Hid (Calls Tryz.prog 61 #[.int .i64 e.kind] W1 fun r w'=>r=.returned (.int .i64 (a:Int))∧w'=W1):=by rw[ha];exact operandCount_core e.kind W1
   have HAk:Hid (a=arity e.kind):=ha
   clear ha
   go_wp2_with fail
   refine HAr.mono ?_
   rintro r w9 ⟨rfl,hw9⟩
   rw[hw9]
   clear hw9 HAr
   have hfr:¬m<a:=fun q=>by
    have h1:=foldV_stop ctV HJ1.2.1.fold HE.out (by rw[←HJ1.2.1.stp.l1,←HJ1.1,←HAk.out];exact q)
    rw[HF.2.1]at h1;cases h1
   obtain⟨fr,hfrm⟩:∃fr:Nat,(m:Int)-(a:Int)=(fr:Int):=⟨m-a,by omega⟩
   have hfrle:fr≤m:=by omega
   have HFr:Hid (fr=ts.length-arity e.kind∧arity e.kind≤ts.length):=by
    have h1:=HJ1.1
    have h2:=HAk.out
    have h3:=HJ1.2.1.stp.l1
    exact⟨by omega,by omega⟩
   have zf:¬(fr:Int)<0:=by omega
   have z2:(fr:Int)≤(m:Int):=by omega
   have z3:(m:Int)≤(cp:Int):=by omega
   have HY:Hid (foldV ctV [] (xs.take (j+1))=some (ts.take fr++ [ctV e (ts.drop fr)])):=by
    show _=_
    rw[HFr.1]
    exact foldV_next ctV HJ1.2.1.fold HE.out HFr.2
   obtain⟨ad,had⟩:∃ad:Option Addr,(if cp=fr then some (⟨g,0,none⟩:Addr)else some ⟨g,fr,none⟩)=ad:=⟨_,rfl⟩
   have HSh:Hid (∀X,Below W1.heap.size W1 X→Calls Tryz.prog 31 #[.agg #[.int .i64 e.kind,.string e.s,.bool e.hi,.string e.t,.int .u64 e.lo,.int .u64 e.up,.int .i64 e.n],.slice ad (m-fr) (cp-fr)] X (SoP (ctV e (ts.drop fr)) (fun k=>∃(i:Nat) (Q:Nat→Prop),(Rs.drop fr)[i]?=some Q∧Q k) X)):=fun X hX=>by
    have hJX:=HJ1.2.1.move hX
    have hlen:m-fr=(ps.drop fr).length:=by rw[List.length_drop,←HJ1.1]
    have hst:Stps w.heap.size g (ps.drop fr) (ts.drop fr) (Rs.drop fr) X:=by
     have s:=hJX.stp
     have e1:=s.l1
     have e2:=s.l2
     refine⟨by simp only[List.length_drop];omega,by simp only[List.length_drop];omega,fun i p t R h1 h2 h3=>?_,fun i R h1 k z=>?_,fun i j A B h1 h2 hij k z=>?_⟩
     ·rw[List.getElem?_drop]at h1 h2 h3;exact s.step _ p t R h1 h2 h3
     ·rw[List.getElem?_drop]at h1;exact s.bnd _ R h1 k z
     ·rw[List.getElem?_drop]at h1 h2;exact s.disj _ _ A B h1 h2 (by omega) k z
    have hge:GoodN e:=HF.2.2.2 e (List.mem_of_getElem? HE.out)
    have har:(ps.drop fr).length=arity e.kind:=by rw[List.length_drop];have h1:=HFr.out;have h3:=HJ1.2.1.stp.l1;omega
    rw[←had]
    by_cases hcf:cp=fr
    ·rw[if_pos hcf]
     have hnil:ps.drop fr= []:=List.length_eq_zero_iff.1 (by rw[←hlen];omega)
     exact sto_all e hge g 0 (cp-fr) (m-fr) w.heap.size g (ps.drop fr) (ts.drop fr) (Rs.drop fr) X hJX.tabD hst hlen har hJX.own.lt.2 (by rw[hnil];intro i u hu;simp at hu)
    ·rw[if_neg hcf]
     exact sto_all e hge g fr (cp-fr) (m-fr) w.heap.size g (ps.drop fr) (ts.drop fr) (Rs.drop fr) X hJX.tabD hst hlen har hJX.own.lt.2 (by intro i u hu;rw[List.getElem?_drop]at hu;exact hJX.own.cell hu)
   clear hfr
   go_upto_region 8 with fail
   go_cut[10] (fun sv wx=>∃(X:World) (p:Nat×Array Value),Hid (Below W1.heap.size W1 X∧Below X.heap.size X wx∧∃R:Nat→Prop,StepAt wx (ctV e (ts.drop fr)) R (fvC p)∧(∀k,R k→(∃(i:Nat) (Q:Nat→Prop),(Rs.drop fr)[i]?=some Q∧Q k)∨(X.heap.size≤k∧k<wx.heap.size)))∧sv=fvC p)
   case first=>
    go_region_law ((go_simp;go_at_call 31;refine(HSh.out _ ?hX).mono ?_;(case hX=>(repeat (first|exact Below.refl _ _|refine Below.drew ?_)));rintro r w' ⟨p7,rfl,H7⟩))
    all_goals go_wp2_with fail
    all_goals go_meet
    all_goals exact⟨_,p7,(by obtain⟨R,q1,q2,q3⟩:=H7.out;exact⟨(by(repeat (first|exact Below.refl _ _|refine Below.drew ?_))),q3,R,q1,q2⟩),rfl⟩
   case rest=>
   obtain⟨X,p,HK,rfl⟩:=hcut
   obtain⟨w4,hw4⟩:=qE (wc:World)
   subst hw4
   have hb14:Below W1.heap.size W1 w4:=HK.1.trans (HK.2.1.mono HK.1.size)
   have HK2:Hid (FsJ w xs j g cp ps ts Rs w4):=HJ1.2.1.move hb14
   have hgl2:=HK2.own.lt
   have hsz2:=HK2.below.size
   have hfl:fr≤ps.length:=by rw[←HJ1.1];exact hfrle
   obtain⟨pk,pc⟩:=p
   have HSeg:Hid (∃R,Stps w.heap.size g (ps.take fr++ [(pk,pc)]) (ts.take fr++ [ctV e (ts.drop fr)]) (Rs.take fr++ [R]) w4):=by
    have hJX:=HJ1.2.1.move HK.1
    obtain⟨R,q1,q2⟩:=HK.2.2
    refine⟨R,hJX.stp.push HK.2.1 hfl hJX.below.size hJX.own.lt.2 q1 (fun k z=>?_)⟩
    rcases q2 k z with⟨i,Q,h1,h2⟩|q
    ·rw[List.getElem?_drop]at h1
     exact .inl ⟨fr+i,Q,by omega,h1,h2⟩
    ·exact .inr q
   have HM:Hid (fr=(ps.take fr).length):=by
    show fr=_
    rw[List.length_take];omega
   have HO2:Hid (FRow (w4.alloc (Obj.cells #[fvC (pk,pc)] 58)) w.heap.size g cp (ps.take fr)):=(HK2.own.take hfl).chg (S:=fun _=>False) (Chg.of_below (qB)) (fun q=>q)
   have HC2:Hid (∀i v,[(pk,pc)][i]?=some v→(w4.alloc (Obj.cells #[fvC (pk,pc)] 58)).cell? ⟨w4.heap.size,0+i,none⟩=some (fvC v)):=fun i v hv=>by
    match i,hv with
    |0,hv=>cases hv;simp[go_sem]
   have z4:(fr:Int)≤(cp:Int):=by omega
   clear c0 c1 c2 c3 c4 c5 c6 HSh
   go_wp2_with (at_builtin;refine wpList_append_fs _ rfl _ _ rfl w.heap.size g cp fr w4.heap.size 0 1 1 (ps.take fr) [(pk,pc)] rfl rfl HM.out rfl HO2.out HC2.out (by rw[←HM.out];simp;omega) (by simp;omega) ?_)
   intro g' cp' w' hA'
   have fin:Hid (∃Rs',FsJ w xs (j+1) g' cp' (ps.take fr++ [(pk,pc)]) (ts.take fr++ [ctV e (ts.drop fr)]) Rs' w'):=by
    obtain⟨R,hs⟩:=HSeg.out
    have hbX:Below w4.heap.size w4 (w4.alloc (Obj.cells #[fvC (pk,pc)] 58)):=qB
    have hsX:(w4.alloc (Obj.cells #[fvC (pk,pc)] 58)).heap.size=w4.heap.size+1:=by simp
    have hC:Chg (fun k=>k=g) (w4.alloc (Obj.cells #[fvC (pk,pc)] 58)) w':=Chg.of_grown hA'.grown (fun k hk=>by cases hk;rfl)
    have hC2:Chg (fun k=>k=g) w4 w':=(Chg.of_below hbX).trans hC
    have hv:=HTb.lt
    refine⟨Rs.take fr++ [R],HY.out,hA'.own,hs.chg hC2 (by omega) ?_,HTb.out,Chg.below HK2.below hC2 hsz2 (fun k hk=>by omega)⟩
    rcases hA'.at_ with q|q
    ·exact .inl q
    ·exact .inr (by omega)
   have hcp':fr+1≤cp':=by have h8:=hA'.own.caps.1;rw[List.length_append,←HM.out]at h8;exact h8
   clear hA'
   go_wp2_with fail
   go_roundw
   case rel=>
    obtain⟨Rs',hfin⟩:=fin.out
    exact⟨j+1,fr+1,g',cp',ps.take fr++ [(pk,pc)],ts.take fr++ [ctV e (ts.drop fr)],Rs',rfl,by go_num,by omega,by rw[List.length_append,List.length_singleton,←HM.out],by omega,hcp',rfl,hfin⟩
   case measure=>simp[intOf];omega
  ·have zj:¬(j:Int)<(n:Int):=by omega
   have hFo:ts= [t]:=by
    have h1:=HJ.2.fold
    rw[List.take_of_length_le (by have:=HL.out;omega),HF.2.1]at h1
    exact(Option.some.inj h1).symm
   subst hFo
   have hm1:m=1:=by rw[HJ.1,HJ.2.stp.l1];rfl
   subst hm1
   obtain⟨p,rfl⟩:∃p,ps= [p]:=by
    have h1:=HJ.1
    match ps,h1 with
    | [p],_=>exact⟨p,rfl⟩
   have e0:wr.cell? ⟨g,0,none⟩=some (fvC p):=HJ.2.own.cell (j:=0) rfl
   obtain⟨pk,pc⟩:=p
   have HR:Hid (FsPost t w (.returned (.tuple #[fvC (pk,pc),.bool true])) wr):=by
    have s:=HJ.2.stp
    have e2:=s.l2
    match Rs,e2,s with
    | [R],_,s=>exact⟨_,rfl,R,s.step 0 _ t R rfl rfl rfl,fun k z=>⟨(s.bnd 0 R rfl k z).1,(s.bnd 0 R rfl k z).2.1⟩,HJ.2.below⟩
   go_wp2_with fail
   exact bodyPost_ret (v:=.tuple #[fvC (pk,pc),.bool true]) (by simp[results,Tryz.results30,go_sem]) rfl HR.out
end Go.Proofs.YtkidabedcgngcaaGreatDoor
namespace Go.Proofs.YtkidabedcgngcaaGreatDoor
open Go.ChangeShapes Go.WideShapes Go.ChangeAt Go.RowKit Go.Deep Go.Shelf
set_option linter.unusedVariables false
set_option linter.unusedSimpArgs false
set_option maxRecDepth 100000
structure RwI (p b off cap:Nat) (es:List Ent) (W:World):Prop where
 box:W.cell? ⟨p,0,none⟩=some (.slice (some ⟨b,off,none⟩) es.length cap)
 sl:CSl W b off cap es
set_option maxHeartbeats 8000000 in
theorem rows_in (es:List Ent) (p b off cap:Nat) (hN0:es.length≤10000) (l m:Nat) (hm:1≤m) (J:Nat→World→Prop)
  (hY:∀i j W,J i W→IsEnd es i j→YieldAt Fence.wide (m-1) Tryz.prog l #[segV b off cap (i,j)] W fun e W'=>e=.returned (.bool true)∧J j W')
  (hJd:∀k W,J k W→J k W.drew) (hJr:∀k W,J k W→RwI p b off cap es W) (W:World) (h0:J 0 W):
  CallsIn Fence.wide m Tryz.prog 75 #[.func (.yield l) #[] #[],ptrC p] W fun e W'=>(∃v,e=.returned v)∧J es.length W':=by
 obtain⟨N,hN⟩:=qE es.length
 have HN:Hid (N=es.length):=hN
 have HJ0:Hid (J 0 W):=h0
 have HR:Hid (∀k W,J k W→W.cell? ⟨p,0,none⟩=some (.slice (some ⟨b,off,none⟩) N cap)∧CSl W b off cap es):=fun k W h=>by rw[hN];exact⟨(hJr k W h).box,(hJr k W h).sl⟩
 have hcap:=(hJr 0 W h0).sl.len
 have hcm:cap≤9223372036854775807:=by have:=(hJr 0 W h0).sl.cap;unfold maxLen at this;omega
 have HY:Hid (∀i j W,J i W→IsEnd es i j→YieldAt Fence.wide (m-1) Tryz.prog l #[segV b off cap (i,j)] W fun e W'=>e=.returned (.bool true)∧J j W'):=hY
 rw[←hN]at hN0 hcap⊢
 clear hN h0 hJr hY
 refine callsIn_of_wp Tryz.func75 rfl trivial ?_ rfl
 simp only[Tryz.ntmps75,List.size_toArray,List.length_cons,List.length_nil,Nat.reduceAdd,Nat.reduceSub,Array.replicate_succ,Array.replicate_zero,List.push_toArray,List.append_toArray,List.nil_append,List.cons_append]
 gi_wp2
 gi_loopw [3] (fun iv wr=>∃i:Nat,i≤N∧iv=.int .i64 (i:Int)∧Hid (J i wr)) (fun iv _=>N-(intOf iv).toNat)
 case atStart=>exact⟨0,Nat.zero_le _,rfl,HJ0.out⟩
 case round=>
  obtain⟨i,hiN,rfl,HJ⟩:=hrel
  have x0:=(HR.out i wr HJ.out).1
  by_cases hlt:i<N
  ·have zi:(i:Int)<(N:Int):=by omega
   obtain⟨c,hc⟩:∃c,es[i]?=some c:=⟨_,List.getElem?_eq_getElem (by have:=HN.out;omega)⟩
   have HCi:Hid (es[i]?=some c):=hc
   clear hc
   obtain⟨wo,hwo⟩:=qE (wr:World)
   subst hwo
   gi_wp2
   clear x0
   gi_loopw [4] (fun jv wx=>∃j:Nat,i<j∧j≤N∧jv=.int .i64 (j:Int)∧Hid ((∀k,i≤k→k<j→sameR es i k=true)∧J i wx)) (fun jv _=>N-(intOf jv).toNat)
   case atStart=>exact⟨i+1,by omega,by omega,by go_num,fun k h1 h2=>by rw[show k=i by omega];simp[sameR],HJ.out⟩
   case round=>
    obtain⟨j,hij,hjN,rfl,HQ⟩:=hrel
    have hRr:=HR.out i wr HQ.2
    by_cases hjl:j<N
    ·have zj:(j:Int)<(N:Int):=by omega
     obtain⟨x,hx⟩:∃x,es[j]?=some x:=⟨_,List.getElem?_eq_getElem (by have:=HN.out;omega)⟩
     have f0:=(hRr.2.at_ j x hx).1
     have f1:=(hRr.2.at_ i c HCi.out).1
     have hS0:(fun w':World=>w'.cell? ⟨p,0,none⟩=some (.slice (some ⟨b,off,none⟩) N cap)∧w'.cell? ⟨b,off+j*5,none⟩=some (.string x.row)∧w'.cell? ⟨b,off+i*5,none⟩=some (.string c.row)) wr.drew:=⟨hRr.1,f0,f1⟩
     have HJd:Hid (J i wr.drew):=hJd _ _ HQ.2
     have HSame:Hid (sameR es i j=(x.row.toList==c.row.toList)):=by show sameR es i j=_;unfold sameR;rw[hx,HCi.out];rfl
     clear f0 f1 hx hRr
     cases hr:(x.row.toList==c.row.toList)
     ·have HE:Hid (IsEnd es i j):=by
       have h0:=HSame.out
       rw[hr]at h0
       exact⟨hij,by rw[←HN.out];omega,HQ.1,fun _=>h0⟩
      gi_wp2
      refine wpIn_wide.2 ?_
      refine wp_region_noPanic ?_
      refine wp_region_T 99 (fun w':World=>w'.cell? ⟨p,0,none⟩=some (.slice (some ⟨b,off,none⟩) N cap)∧w'.cell? ⟨b,off+j*5,none⟩=some (.string x.row)∧w'.cell? ⟨b,off+i*5,none⟩=some (.string c.row)) (by kernel_rfl) ?_
      refine qT 0 ?vqa0 rfl ?yqa0 hS0 ?_
      case yqa0=>exact zzR4
      try simp only[qA,List.getElem_toArray,List.getElem_cons_zero,List.getElem_cons_succ]
      refine qT 1 ?vqa1 rfl ?yqa1 hS0 ?_
      case yqa1=>exact zzR4
      try simp only[qA,List.getElem_toArray,List.getElem_cons_zero,List.getElem_cons_succ]
      refine qT 2 ?vqa2 rfl ?yqa2 hS0 ?_
      case yqa2=>exact zzR4
      try simp only[qA,List.getElem_toArray,List.getElem_cons_zero,List.getElem_cons_succ]
      refine qT 3 ?vqa3 rfl ?yqa3 hS0 ?_
      case yqa3=>exact zzR4
      try simp only[qA,List.getElem_toArray,List.getElem_cons_zero,List.getElem_cons_succ]
      refine qT 4 ?vqa4 rfl ?yqa4 hS0 ?_
      case yqa4=>exact zzR4
      try simp only[qA,List.getElem_toArray,List.getElem_cons_zero,List.getElem_cons_succ]
      refine qT 5 ?vqa5 rfl ?yqa5 hS0 ?_
      case yqa5=>exact zzR4
      try simp only[qA,List.getElem_toArray,List.getElem_cons_zero,List.getElem_cons_succ]
      refine qT 6 ?vqa6 rfl ?yqa6 hS0 ?_
      case yqa6=>exact zzR4
      try simp only[qA,List.getElem_toArray,List.getElem_cons_zero,List.getElem_cons_succ]
      refine qT 7 ?vqa7 rfl ?yqa7 hS0 ?_
      case yqa7=>exact zzR4
      try simp only[qA,List.getElem_toArray,List.getElem_cons_zero,List.getElem_cons_succ]
      refine qT 8 ?vqa8 rfl ?yqa8 hS0 ?_
      case yqa8=>exact zzR4
      try simp only[qA,List.getElem_toArray,List.getElem_cons_zero,List.getElem_cons_succ]
      refine qT 9 ?vqa9 rfl ?yqa9 hS0 ?_
      case yqa9=>exact zzR4
      try simp only[qA,List.getElem_toArray,List.getElem_cons_zero,List.getElem_cons_succ]
      refine qT 10 ?vqa10 rfl ?yqa10 hS0 ?_
      case yqa10=>exact zzR4
      try simp only[qA,List.getElem_toArray,List.getElem_cons_zero,List.getElem_cons_succ]
      refine qT 11 ?vqa11 rfl ?yqa11 hS0 ?_
      case yqa11=>exact zzR4
      try simp only[qA,List.getElem_toArray,List.getElem_cons_zero,List.getElem_cons_succ]
      refine qT 12 ?vqa12 rfl ?yqa12 hS0 ?_
      case yqa12=>exact zzR4
      try simp only[qA,List.getElem_toArray,List.getElem_cons_zero,List.getElem_cons_succ]
      refine qT 13 ?vqa13 rfl ?yqa13 hS0 ?_
      case yqa13=>exact zzR4
      try simp only[qA,List.getElem_toArray,List.getElem_cons_zero,List.getElem_cons_succ]
      refine qT 14 ?vqa14 rfl ?yqa14 hS0 ?_
      case yqa14=>exact zzR4
      try simp only[qA,List.getElem_toArray,List.getElem_cons_zero,List.getElem_cons_succ]
      refine qT 15 ?vqa15 rfl ?yqa15 hS0 ?_
      case yqa15=>exact zzR4
      try simp only[qA,List.getElem_toArray,List.getElem_cons_zero,List.getElem_cons_succ]
      refine qT 16 ?vqa16 rfl ?yqa16 hS0 ?_
      case yqa16=>exact zzR4
      try simp only[qA,List.getElem_toArray,List.getElem_cons_zero,List.getElem_cons_succ]
      refine qD ?_
      dsimp only[NoPanic]
      clear hS0
      exact zzQ31
     ·have HS2:Hid (∀k,i≤k→k<j+1→sameR es i k=true):=fun k h1 h2=>by
       by_cases hk:k=j
       ·rw[hk,HSame.out];exact hr
       ·exact HQ.1 k h1 (by omega)
      gi_wp2
      refine wpIn_wide.2 ?_
      refine wp_region_noPanic ?_
      refine wp_region_T 99 (fun w':World=>w'.cell? ⟨p,0,none⟩=some (.slice (some ⟨b,off,none⟩) N cap)∧w'.cell? ⟨b,off+j*5,none⟩=some (.string x.row)∧w'.cell? ⟨b,off+i*5,none⟩=some (.string c.row)) (by kernel_rfl) ?_
      refine qT 0 ?vqb0 rfl ?yqb0 hS0 ?_
      case yqb0=>exact zzR4
      try simp only[qA,List.getElem_toArray,List.getElem_cons_zero,List.getElem_cons_succ]
      refine qT 1 ?vqb1 rfl ?yqb1 hS0 ?_
      case yqb1=>exact zzR4
      try simp only[qA,List.getElem_toArray,List.getElem_cons_zero,List.getElem_cons_succ]
      refine qT 2 ?vqb2 rfl ?yqb2 hS0 ?_
      case yqb2=>exact zzR4
      try simp only[qA,List.getElem_toArray,List.getElem_cons_zero,List.getElem_cons_succ]
      refine qT 3 ?vqb3 rfl ?yqb3 hS0 ?_
      case yqb3=>exact zzR4
      try simp only[qA,List.getElem_toArray,List.getElem_cons_zero,List.getElem_cons_succ]
      refine qT 4 ?vqb4 rfl ?yqb4 hS0 ?_
      case yqb4=>exact zzR4
      try simp only[qA,List.getElem_toArray,List.getElem_cons_zero,List.getElem_cons_succ]
      refine qT 5 ?vqb5 rfl ?yqb5 hS0 ?_
      case yqb5=>exact zzR4
      try simp only[qA,List.getElem_toArray,List.getElem_cons_zero,List.getElem_cons_succ]
      refine qT 6 ?vqb6 rfl ?yqb6 hS0 ?_
      case yqb6=>exact zzR4
      try simp only[qA,List.getElem_toArray,List.getElem_cons_zero,List.getElem_cons_succ]
      refine qT 7 ?vqb7 rfl ?yqb7 hS0 ?_
      case yqb7=>exact zzR4
      try simp only[qA,List.getElem_toArray,List.getElem_cons_zero,List.getElem_cons_succ]
      refine qT 8 ?vqb8 rfl ?yqb8 hS0 ?_
      case yqb8=>exact zzR4
      try simp only[qA,List.getElem_toArray,List.getElem_cons_zero,List.getElem_cons_succ]
      refine qT 9 ?vqb9 rfl ?yqb9 hS0 ?_
      case yqb9=>exact zzR4
      try simp only[qA,List.getElem_toArray,List.getElem_cons_zero,List.getElem_cons_succ]
      refine qT 10 ?vqb10 rfl ?yqb10 hS0 ?_
      case yqb10=>exact zzR4
      try simp only[qA,List.getElem_toArray,List.getElem_cons_zero,List.getElem_cons_succ]
      refine qT 11 ?vqb11 rfl ?yqb11 hS0 ?_
      case yqb11=>exact zzR4
      try simp only[qA,List.getElem_toArray,List.getElem_cons_zero,List.getElem_cons_succ]
      refine qT 12 ?vqb12 rfl ?yqb12 hS0 ?_
      case yqb12=>exact zzR4
      try simp only[qA,List.getElem_toArray,List.getElem_cons_zero,List.getElem_cons_succ]
      refine qT 13 ?vqb13 rfl ?yqb13 hS0 ?_
      case yqb13=>exact zzR4
      try simp only[qA,List.getElem_toArray,List.getElem_cons_zero,List.getElem_cons_succ]
      refine qT 14 ?vqb14 rfl ?yqb14 hS0 ?_
      case yqb14=>exact zzR4
      try simp only[qA,List.getElem_toArray,List.getElem_cons_zero,List.getElem_cons_succ]
      refine qT 15 ?vqb15 rfl ?yqb15 hS0 ?_
      case yqb15=>exact zzR4
      try simp only[qA,List.getElem_toArray,List.getElem_cons_zero,List.getElem_cons_succ]
      refine qT 16 ?vqb16 rfl ?yqb16 hS0 ?_
      case yqb16=>exact zzR4
      try simp only[qA,List.getElem_toArray,List.getElem_cons_zero,List.getElem_cons_succ]
      refine qD ?_
      dsimp only[NoPanic]
      clear hS0
      gi_wp2
      go_roundw
      case rel=>exact⟨j+1,by omega,by omega,by go_num,HS2.out,HJd.out⟩
      case measure=>simp[intOf];omega
    ·have zj:¬(j:Int)<(N:Int):=by omega
     have HE:Hid (IsEnd es i j):=⟨hij,by rw[←HN.out];omega,HQ.1,fun q=>by rw[←HN.out]at q;omega⟩
     have HJd:Hid (J i wr.drew):=hJd _ _ HQ.2
     have hS0:(fun w':World=>w'.cell? ⟨p,0,none⟩=some (.slice (some ⟨b,off,none⟩) N cap)) wr.drew:=hRr.1
     clear hRr
     gi_wp2
     refine wpIn_wide.2 ?_
     refine wp_region_noPanic ?_
     refine wp_region_T 99 (fun w':World=>w'.cell? ⟨p,0,none⟩=some (.slice (some ⟨b,off,none⟩) N cap)) (by kernel_rfl) ?_
     refine qT 0 ?vqc0 rfl ?yqc0 hS0 ?_
     case yqc0=>exact zzR12
     try simp only[qA,List.getElem_toArray,List.getElem_cons_zero,List.getElem_cons_succ]
     refine qT 1 ?vqc1 rfl ?yqc1 hS0 ?_
     case yqc1=>exact zzR12
     try simp only[qA,List.getElem_toArray,List.getElem_cons_zero,List.getElem_cons_succ]
     refine qT 2 ?vqc2 rfl ?yqc2 hS0 ?_
     case yqc2=>exact zzR12
     try simp only[qA,List.getElem_toArray,List.getElem_cons_zero,List.getElem_cons_succ]
     refine qT 3 (.bool false) rfl ?yqc3 hS0 ?_
     case yqc3=>(intro wz hSw;obtain hz0:=hSw;go_simp;(try simp);(try omega);(try with_reducible rfl))
     try simp only[qA,List.getElem_toArray,List.getElem_cons_zero,List.getElem_cons_succ]
     refine qT 4 (.bool false) rfl ?yqc4 hS0 ?_
     case yqc4=>exact zzR12
     try simp only[qA,List.getElem_toArray,List.getElem_cons_zero,List.getElem_cons_succ]
     refine anyT_takeN (i:=5) (v:=undef) rfl (by kernel_rfl) (by kernel_rfl) (by kernel_rfl) (by rfl) (fun _ _ _ h=>h) (Or.inr ⟨by rfl,rfl⟩) hS0 ?_
     try simp only[qA,List.getElem_toArray,List.getElem_cons_zero,List.getElem_cons_succ]
     refine anyT_takeN (i:=6) (v:=undef) rfl (by kernel_rfl) (by kernel_rfl) (by kernel_rfl) (by rfl) (fun _ _ _ h=>h) (Or.inr ⟨by rfl,rfl⟩) hS0 ?_
     try simp only[qA,List.getElem_toArray,List.getElem_cons_zero,List.getElem_cons_succ]
     refine anyT_takeN (i:=7) (v:=undef) rfl (by kernel_rfl) (by kernel_rfl) (by kernel_rfl) (by rfl) (fun _ _ _ h=>h) (Or.inr ⟨by rfl,rfl⟩) hS0 ?_
     try simp only[qA,List.getElem_toArray,List.getElem_cons_zero,List.getElem_cons_succ]
     refine anyT_takeN (i:=8) (v:=undef) rfl (by kernel_rfl) (by kernel_rfl) (by kernel_rfl) (by rfl) (fun _ _ _ h=>h) (Or.inr ⟨by rfl,rfl⟩) hS0 ?_
     try simp only[qA,List.getElem_toArray,List.getElem_cons_zero,List.getElem_cons_succ]
     refine anyT_takeN (i:=9) (v:=undef) rfl (by kernel_rfl) (by kernel_rfl) (by kernel_rfl) (by rfl) (fun _ _ _ h=>h) (Or.inr ⟨by rfl,rfl⟩) hS0 ?_
     try simp only[qA,List.getElem_toArray,List.getElem_cons_zero,List.getElem_cons_succ]
     refine anyT_takeN (i:=10) (v:=undef) rfl (by kernel_rfl) (by kernel_rfl) (by kernel_rfl) (by rfl) (fun _ _ _ h=>h) (Or.inr ⟨by rfl,rfl⟩) hS0 ?_
     try simp only[qA,List.getElem_toArray,List.getElem_cons_zero,List.getElem_cons_succ]
     refine anyT_takeN (i:=11) (v:=undef) rfl (by kernel_rfl) (by kernel_rfl) (by kernel_rfl) (by rfl) (fun _ _ _ h=>h) (Or.inr ⟨by rfl,rfl⟩) hS0 ?_
     try simp only[qA,List.getElem_toArray,List.getElem_cons_zero,List.getElem_cons_succ]
     refine anyT_takeN (i:=12) (v:=undef) rfl (by kernel_rfl) (by kernel_rfl) (by kernel_rfl) (by rfl) (fun _ _ _ h=>h) (Or.inr ⟨by rfl,rfl⟩) hS0 ?_
     try simp only[qA,List.getElem_toArray,List.getElem_cons_zero,List.getElem_cons_succ]
     refine anyT_takeN (i:=13) (v:=undef) rfl (by kernel_rfl) (by kernel_rfl) (by kernel_rfl) (by rfl) (fun _ _ _ h=>h) (Or.inr ⟨by rfl,rfl⟩) hS0 ?_
     try simp only[qA,List.getElem_toArray,List.getElem_cons_zero,List.getElem_cons_succ]
     refine anyT_takeN (i:=14) (v:=undef) rfl (by kernel_rfl) (by kernel_rfl) (by kernel_rfl) (by rfl) (fun _ _ _ h=>h) (Or.inr ⟨by rfl,rfl⟩) hS0 ?_
     try simp only[qA,List.getElem_toArray,List.getElem_cons_zero,List.getElem_cons_succ]
     refine anyT_takeN (i:=15) (v:=undef) rfl (by kernel_rfl) (by kernel_rfl) (by kernel_rfl) (by rfl) (fun _ _ _ h=>h) (Or.inr ⟨by rfl,rfl⟩) hS0 ?_
     try simp only[qA,List.getElem_toArray,List.getElem_cons_zero,List.getElem_cons_succ]
     refine qT 16 ?vqc16 rfl ?yqc16 hS0 ?_
     case yqc16=>exact zzR12
     try simp only[qA,List.getElem_toArray,List.getElem_cons_zero,List.getElem_cons_succ]
     refine qD ?_
     dsimp only[NoPanic]
     clear hS0 zj
     exact zzQ31
  ·have hin:i=N:=by omega
   have zi:¬(i:Int)<(N:Int):=by omega
   have HF:Hid (J N wr):=by rw[←hin];exact HJ.out
   clear HJ
   gi_wp2
   go_end0
   exact⟨⟨_,rfl⟩,HF.out⟩
theorem wp_range_rows {g:Operand} {ps:Array Tmp} {assign body:Code} {Q:Exit→Act→World→Prop} {a:Act} {w:World} {n:Nat} (h1:2≤n) (es:List Ent) (p b off cap:Nat) (hN0:es.length≤10000)
  (hg:a.eval g=.func (.func 75) #[] #[ptrC p]) (hps:ps.size=1) (I:Nat→World→Prop) (hI:OwnFrom w.heap.size I) (hIt:∀k W,I k W→RwI p b off cap es W)
  (h0:I 0 w) (a₁:Nat→Nat→Act)
  (hassign:∀(l i j:Nat) (W:World) (K:Act→World→Prop),K (a₁ i j) W→assign.wpIn (Fence.wide.inRound l) (n-1-1) Tryz.prog (Exit.then K (fun _ _ _=>False)) {tmps:=(ps.zip #[segV b off cap (i,j)]).foldl (fun t (p,v)=>t.setIfInBounds p v) a.tmps,defers:= []} W)
  (hbody:∀(l i j:Nat) (W:World),I i W→IsEnd es i j→body.wpIn (Fence.wide.inRound l) (n-1-1) Tryz.prog (fun e _ W'=>e=.normal∧KeepsFrom w.heap.size W W'∧I j W') (a₁ i j) W)
  (hdone:∀(D:Nat) (W:World),w.heap.size≤D→I es.length W→W.heap[D]?=some (.deferred (some []))→Q .normal {a with defers:={target:=.collected D,args:=#[]}::a.defers} W):
  (Code.rangeFunc g ps assign body).wpIn Fence.wide n Tryz.prog Q a w:=by
 refine wpIn_rangeFunc ?_
 intro fn hfn
 obtain⟨rec,hrec⟩:∃rec:LoopState→Option Code→Loop,rec=fun st pe=>{state:=st,pending:=pe,fn,tmps:=a.tmps,params:=ps,assign,body,defers:=w.heap.size}:=⟨_,rfl⟩
 obtain⟨W1,hW1⟩:∃W1,(w.alloc (.deferred (some []))).alloc (.loop (rec .ready none))=W1:=⟨_,rfl⟩
 have hL1:W1.heap[w.heap.size+1]?=some (.loop (rec .ready none)):=by
  rw[←hW1];have:=World.alloc_heap_new (w.alloc (.deferred (some []))) (.loop (rec .ready none));rwa [World.size_alloc]at this
 have hK1:W1.heap[w.heap.size]?=some (.deferred (some [])):=by
  rw[←hW1];exact(Below.heap_alloc _ _ _ (by simp)).trans (World.alloc_heap_new w _)
 have hI1:I 0 W1:=by rw[←hW1];exact hI.alloc _ (hI.alloc _ h0)
 refine⟨w.heap.size+1,[{target:=.collected w.heap.size,args:=#[]}],W1,{target:=.fn (.func 75) #[ptrC p],args:=#[.func (.yield (w.heap.size+1)) #[] #[]]},W1,75,
  #[.func (.yield (w.heap.size+1)) #[] #[],ptrC p],W1,?_,?_,fun _ _=>trivial,?_,fun _=>by omega,?_⟩
 ·rw[←hW1,hrec];exact run_enterLoop_outer _ _ _ _ _
 ·simp only[resolve,hg]
  simp[go_sem]
 ·simp[invoke,go_sem]
 ·have hkeep:∀(k:Nat) {A B:World} {row:Option Nat},(I k A∧A.heap[w.heap.size+1]?=some (.loop (rec .ready none))∧A.heap[w.heap.size]?=some (.deferred (some [])))→A.grownBy B none→(I k B∧B.heap[w.heap.size+1]?=some (.loop (rec .ready none))∧B.heap[w.heap.size]?=some (.deferred (some []))):=fun k A B row h hgr=>
   ⟨hI k A B none h.1 hgr (fun r e=>by cases e),(hgr.block _ (Array.getElem?_eq_some_iff.1 h.2.1).1 (by simp)).trans h.2.1,(hgr.block _ (Array.getElem?_eq_some_iff.1 h.2.2).1 (by simp)).trans h.2.2⟩
  refine(rows_in es p b off cap hN0 (w.heap.size+1) (n-1) (by omega) (fun k W=>I k W∧W.heap[w.heap.size+1]?=some (.loop (rec .ready none))∧W.heap[w.heap.size]?=some (.deferred (some []))) ?_ (fun k W h=>hkeep k (row:=none) h ⟨rfl,rfl,rfl,Nat.le_refl _,fun _ _ _=>rfl⟩) (fun k W h=>hIt k W h.1) W1 ⟨hI1,hL1,hK1⟩).mono ?_
  ·rintro i j W ⟨hi,hl,hk⟩ hE
   have hlt:w.heap.size+1<W.heap.size:=(Array.getElem?_eq_some_iff.1 hl).1
   have hy:=run_yield (P:=Tryz.prog) (args:=#[segV b off cap (i,j)]) hl (by rw[hrec];exact hps.symm)
   rw[hrec]at hy
   refine⟨fn,_,assign,body,hy,roundIn_of_wpIn hfn (hassign _ i j W _ ⟨_,run_beginRound hl (by rw[hrec]),?_⟩)⟩
   have hl2:(W.putObj (w.heap.size+1) (.loop {rec .ready none with state:=.busy})).heap[w.heap.size+1]?=some (.loop {rec .ready none with state:=.busy}):=World.putObj_heap_same hlt
   have hk2:(W.putObj (w.heap.size+1) (.loop {rec .ready none with state:=.busy})).heap[w.heap.size]?=some (.deferred (some [])):=(World.putObj_heap_other (by omega)).trans hk
   refine wpIn_mono (hbody _ i j _ (hI.putObj _ hi (by omega) hl rfl) hE) ?_
   exact zzQ38
  ·exact zzQ53
end Go.Proofs.YtkidabedcgngcaaGreatDoor
namespace Go.Proofs.YtkidabedcgngcaaGreatDoor
open Go.ChangeShapes Go.WideShapes Go.ChangeAt Go.RowKit Go.Deep
set_option linter.unusedVariables false
set_option linter.unusedSimpArgs false
set_option maxRecDepth 100000
def SoA (w:World) (e:Nd) (W0:World):Prop:=BoxAt W0 w.heap.size 75 7 w.heap.size e.seven∧BoxAt W0 w.heap.size 96 3 (w.heap.size+1) [.bool false,.int .i64 0,.int .i64 0]∧Below w.heap.size w W0∧W0.heap.size=w.heap.size+2
theorem so_after {w W0 w':World} {e:Nd} {gd:Bool} (hA:SoA w e W0) (hb:Below W0.drew.heap.size W0.drew w'):SoJ w e w'.heap.size gd 0 (w'.alloc (Obj.cells #[.bool gd,.int .i64 e.kind,.int .i64 0] 96)):=by
 have h1:Below W0.heap.size W0 w':=((Below.refl W0.heap.size W0).drew).trans hb
 have h2:=h1.size
 have h3:Below W0.heap.size W0 (w'.alloc (Obj.cells #[.bool gd,.int .i64 e.kind,.int .i64 0] 96)):=h1.alloc h2 _
 have h4:=hA.2.2.2
 exact⟨hA.1.below h3,hA.2.1.below h3,boxAt_new w' _ (by omega) rfl,by omega,hA.2.2.1.trans (h3.mono (by omega))⟩
theorem so_before {w W0 w':World} {e:Nd} {gd:Bool} (hA:SoA w e W0) (hb:Below (W0.drew.alloc (Obj.cells #[.bool false,.int .i64 0,.int .i64 0] 96)).heap.size (W0.drew.alloc (Obj.cells #[.bool false,.int .i64 0,.int .i64 0] 96)) w'):
  SoJ w e (w.heap.size+2) gd 0 (((w'.setCell ⟨w.heap.size+2,0,none⟩ (.bool gd)).setCell ⟨w.heap.size+2,1,none⟩ (.int .i64 e.kind)).setCell ⟨w.heap.size+2,2,none⟩ (.int .i64 0)):=by
 have h4:=hA.2.2.2
 have hd:W0.drew.heap.size=W0.heap.size:=by simp
 have h0:Below W0.heap.size W0 (W0.drew.alloc (Obj.cells #[.bool false,.int .i64 0,.int .i64 0] 96)):=((Below.refl W0.heap.size W0).drew).alloc (by simp) _
 have h1:Below W0.heap.size W0 w':=h0.trans (hb.mono (by simp))
 have hB:BoxAt w' w.heap.size 96 3 (w.heap.size+2) [.bool false,.int .i64 0,.int .i64 0]:=by
  have:=boxAt_new W0.drew (base:=w.heap.size) (t:=96) (sz:=3) #[.bool false,.int .i64 0,.int .i64 0] (by simp;omega) rfl
  rw[hd,h4]at this
  exact this.below hb
 refine⟨(((hA.1.below h1).beside (by omega) 0 _).beside (by omega) 1 _).beside (by omega) 2 _,(((hA.2.1.below h1).beside (by omega) 0 _).beside (by omega) 1 _).beside (by omega) 2 _,((hB.set 0 _).set 1 _).set 2 _,Nat.le_refl _,?_⟩
 exact below_set (below_set (below_set (hA.2.2.1.trans (h1.mono (by omega))) (by omega) 0 _) (by omega) 1 _) (by omega) 2 _
structure SoK (w:World) (e:Nd) (WB OB:Nat) (v:Bool) (a:Nat) (x:Shape) (q:Nat) (wr:World):Prop where
 so:SoJ w e WB v a wr
 ob:BoxAt wr w.heap.size 96 3 OB [.bool x.valid,.int .i64 x.kind,.int .i64 (q:Int)]
 ne:¬OB=WB
 ge:w.heap.size+2≤OB
theorem SoJ.round {w:World} {e:Nd} {WB:Nat} {v:Bool} {a:Nat} {wr:World} (h:SoJ w e WB v a wr) (x:Shape):SoK w e WB wr.heap.size v a x x.nest (wr.alloc (Obj.cells #[.bool x.valid,.int .i64 x.kind,.int .i64 (x.nest:Int)] 96)):=by
 have hb:Below wr.heap.size wr (wr.alloc (Obj.cells #[.bool x.valid,.int .i64 x.kind,.int .i64 (x.nest:Int)] 96)):=qB
 have h1:=h.whole.lt.2
 have h2:=h.ne
 exact⟨h.move hb,boxAt_new wr _ h.below.size rfl,by omega,by omega⟩
theorem SoK.valid {w:World} {e:Nd} {WB OB:Nat} {v:Bool} {a:Nat} {x:Shape} {q:Nat} {wr:World} (h:SoK w e WB OB v a x q wr) (v2:Bool):SoK w e WB OB v2 a x q (wr.setCell ⟨WB,0,none⟩ (.bool v2)):=by
 have h2:=h.so.ne
 exact⟨⟨h.so.node.beside (by omega) 0 _,h.so.res.beside (by omega) 0 _,h.so.whole.set 0 _,h2,below_set h.so.below (by omega) 0 _⟩,h.ob.beside h.ne 0 _,h.ne,h.ge⟩
theorem SoK.more {w:World} {e:Nd} {WB OB:Nat} {v:Bool} {a:Nat} {x:Shape} {q:Nat} {wr:World} (h:SoK w e WB OB v a x q wr) (q2:Nat):SoK w e WB OB v a x q2 (wr.setCell ⟨OB,2,none⟩ (.int .i64 (q2:Int))):=by
 have h2:=h.so.ne
 have h3:=h.ge
 have h4:=h.ne
 exact⟨⟨h.so.node.beside (by omega) 2 _,h.so.res.beside (by omega) 2 _,h.so.whole.beside (by omega) 2 _,h2,below_set h.so.below (by omega) 2 _⟩,h.ob.set 2 _,h.ne,h.ge⟩
theorem SoK.done {w:World} {e:Nd} {WB OB:Nat} {v:Bool} {a:Nat} {x:Shape} {q:Nat} {wr:World} (h:SoK w e WB OB v a x q wr) (a2:Nat):SoJ w e WB v a2 (wr.setCell ⟨WB,2,none⟩ (.int .i64 (a2:Int))):=by
 have h2:=h.so.ne
 exact⟨h.so.node.beside (by omega) 2 _,h.so.res.beside (by omega) 2 _,h.so.whole.set 2 _,h2,below_set h.so.below (by omega) 2 _⟩
theorem take_all {os:List Shape} {j:Nat} {x:Shape} (h:os[j]?=some x):(os.take (j+1)).all (·.valid)=((os.take j).all (·.valid) && x.valid):=by
 rw[List.take_add_one,h]
 simp
theorem nestFrom_at (op:Int) {os:List Shape} {j a:Nat} {o:Shape} (h:os[j]?=some o):nestFrom op j a (os.drop j)=nestFrom op (j+1) (max a (o.nest+if level op j o.kind then 1 else 0)) (os.drop (j+1)):=by
 exact zzQ69
set_option maxHeartbeats 8000000 in
theorem shapeOf_core {w:World} {b o cap:Nat} {os:List Shape} (e:Nd) (h:ShsAt w b o os) (hbl:b<w.heap.size) (hl:os.length≤cap) (h3:os.length≤3) (hcap:cap≤9223372036854775807) (hN:∀x∈os,x.nest≤1000) (hs:e.s.size≤maxLen) (ht:e.t.size≤maxLen):
  Calls Tryz.prog 57 #[e.v,.slice (some ⟨b,o,none⟩) os.length cap] w fun r w'=>r=.returned (.agg #[.bool (shapeM goodB e os).valid,.int .i64 e.kind,.int .i64 ((shapeM goodB e os).nest:Int)])∧Below w.heap.size w w':=by
 have HF:Hid (ShsAt w b o os∧(∀x∈os,x.nest≤1000)∧e.s.size≤maxLen∧e.t.size≤maxLen):=⟨h,hN,hs,ht⟩
 obtain⟨n,hn⟩:=qE os.length
 have HL:Hid (n=os.length):=hn
 rw[←hn]at hl h3⊢
 clear h hN hs ht hn
 obtain⟨gd,hgd⟩:=qE (goodB e)
 have HG:Hid (gd=goodB e):=hgd
 have HVal:Hid (∀w,Calls Tryz.prog 99 #[.agg #[.int .i64 e.kind,.string e.s,.bool e.hi,.string e.t,.int .u64 e.lo,.int .u64 e.up,.int .i64 e.n]] w fun r w'=>r=.returned (.bool gd)∧Below w.heap.size w w'):=fun w=>by
  rw[hgd];exact valid_is e w HF.2.2.1 HF.2.2.2
 clear hgd
 obtain⟨W0,hW0⟩:=qE ((w.alloc (Obj.cells #[.int .i64 e.kind,.string e.s,.bool e.hi,.string e.t,.int .u64 e.lo,.int .u64 e.up,.int .i64 e.n] 75)).alloc (Obj.cells #[.bool false,.int .i64 0,.int .i64 0] 96):World)
 have HW0:Hid (BoxAt W0 w.heap.size 75 7 w.heap.size e.seven∧BoxAt W0 w.heap.size 96 3 (w.heap.size+1) [.bool false,.int .i64 0,.int .i64 0]∧Below w.heap.size w W0∧W0.heap.size=w.heap.size+2):=by
  rw[hW0]
  exact⟨BoxAt.ofHeap (vs:=#[.int .i64 e.kind,.string e.s,.bool e.hi,.string e.t,.int .u64 e.lo,.int .u64 e.up,.int .i64 e.n]) (heap_alloc2_old w _ _) (Nat.le_refl _) rfl,BoxAt.ofHeap (vs:=#[.bool false,.int .i64 0,.int .i64 0]) (heap_alloc2_new w _ _) (by omega) rfl,(qB).alloc (by simp) _,by simp⟩
 obtain⟨c0,c1,c2,c3,c4,c5,c6⟩:=HW0.1.c7
 have hz:=HW0.2.2.2
 obtain⟨tot,htot⟩:=qE ((shapeM goodB e os).nest)
 have HT:Hid (nestFrom e.kind 0 0 os=tot):=by rw[htot];exact(rfl:nestFrom e.kind 0 0 os=_)
 have HV:Hid ((shapeM goodB e os).valid=(gd && os.all (·.valid))):=by
  show(shapeM goodB e os).valid=_
  rw[HG.out];rfl
 rw[←htot]
 clear htot
 go_enter Tryz.func57,Tryz.ntmps57
 go_upto_region 1 with fail
 rw[←hW0]
 clear hW0
 go_cut[5] (fun s wx=>∃WB,s=.pointer (some ⟨WB,0,none⟩)∧SoJ w e WB gd 0 wx)
 case first=>
  have hlt0:w.heap.size<W0.heap.size:=by omega
  have c0a:∀o,(W0.alloc o).cell? ⟨w.heap.size,0,none⟩=some (.int .i64 e.kind):=fun o=>by rw[((Below.refl W0.heap.size W0).alloc (Nat.le_refl _) o).cell (p:=⟨w.heap.size,0,none⟩) hlt0];exact c0
  go_region_law ((go_simp;go_at_call 99;refine(HVal.out _).mono ?_;rintro r w' ⟨rfl,hbb⟩;obtain⟨hcc,hff⟩:=bcell hbb;have hsz':=hbb.size;have k0:w'.cell? ⟨w.heap.size,0,none⟩=some (.int .i64 e.kind):=by {rw[hcc w.heap.size 0 (by simp;omega)];first|exact c0|(simp;first|exact c0|exact c0a _)};have kl:w.heap.size<w'.heap.size:=by {simp at hsz';omega};have k0a:∀o,(w'.alloc o).cell? ⟨w.heap.size,0,none⟩=some (.int .i64 e.kind):=fun o=>by {rw[((Below.refl w'.heap.size w').alloc (Nat.le_refl _) o).cell (p:=⟨w.heap.size,0,none⟩) kl];exact k0}))
  all_goals go_wp2_with fail
  all_goals go_meet
  all_goals first
   |exact⟨_,rfl,so_after HW0.out hbb⟩
   |exact⟨_,rfl,so_before HW0.out hbb⟩
 case rest=>
 obtain⟨WB,rfl,hJ⟩:=hcut
 have HJ0:Hid (SoJ w e WB gd 0 wc):=hJ
 clear hJ c0 c1 c2 c3 c4 c5 c6 hz HW0 HVal
 go_wp2_with fail
 go_loopw[15] (fun iv wr=>∃(j a:Nat) (v:Bool),iv=.int .i64 (j:Int)∧j≤n∧a≤2000∧v=(gd && (os.take j).all (·.valid))∧nestFrom e.kind j a (os.drop j)=tot∧SoJ w e WB v a wr) (fun iv _=>n-(intOf iv).toNat)
 case atStart=>exact⟨0,0,gd,rfl,Nat.zero_le _,Nat.zero_le _,by simp,HT.out,HJ0.out⟩
 case round=>
  obtain⟨j,a,v,rfl,hj,ha,hv,hN,hJ⟩:=hrel
  have HJ:Hid (v=(gd && (os.take j).all (·.valid))∧nestFrom e.kind j a (os.drop j)=tot∧SoJ w e WB v a wr):=⟨hv,hN,hJ⟩
  have hWB:=hJ.whole.lt
  have hWn:=hJ.ne
  clear hv hN hJ HJ0 HT
  by_cases hlt:j<n
  ·have zj:(j:Int)<(n:Int):=by omega
   obtain⟨x,hx⟩:∃x,os[j]?=some x:=⟨_,List.getElem?_eq_getElem (by have:=HL.out;omega)⟩
   obtain⟨d0,d1,d2⟩:=(HF.1.below HJ.2.2.below hbl) j x hx
   have hxn:=HF.2.1 x (List.mem_of_getElem? hx)
   have HX:Hid (os[j]?=some x):=hx
   obtain⟨W1,hW1⟩:=qE (wr.alloc (Obj.cells #[.bool x.valid,.int .i64 x.kind,.int .i64 (x.nest:Int)] 96):World)
   have HK1:Hid (SoK w e WB wr.heap.size v a x x.nest W1):=by rw[hW1];exact HJ.2.2.round x
   clear hx
   go_upto_region 5 with fail
   rw[←hW1]
   clear hW1 d0 d1 d2
   obtain⟨v0,hv0⟩:=qE v
   have HV0:Hid (v0=(gd && (os.take j).all (·.valid))):=by rw[hv0];exact HJ.1
   have HN0:Hid (nestFrom e.kind j a (os.drop j)=tot):=HJ.2.1
   clear HJ
   have w0:=HK1.so.whole.cell (j:=0) rfl
   have w0f:=HK1.so.whole.frozen 0
   have o0:=HK1.ob.cell (j:=0) rfl
   have hne:=HK1.ne
   have hge:=HK1.ge
   cases v
   ·have hv0':v0=false:=hv0
    clear hv0
    obtain⟨W2,hW2⟩:=qE (W1.setCell ⟨WB,0,none⟩ (.bool false):World)
    have HK2:Hid (SoK w e WB wr.heap.size false a x x.nest W2):=by rw[hW2];exact HK1.valid false
    have HVn:Hid (false=(gd && (os.take (j+1)).all (·.valid))):=by
     show false=_
     rw[take_all HX.out,←Bool.and_assoc,←HV0.out,hv0']
     simp
    go_upto_region 6 with fail
    rw[←hW2]
    clear hW2 w0 w0f o0 HK1 HV0
    have m0:=HK2.so.node.cell (j:=0) rfl
    have o1:=HK2.ob.cell (j:=1) rfl
    have o2:=HK2.ob.cell (j:=2) rfl
    have o2f:=HK2.ob.frozen 2
    have w2:=HK2.so.whole.cell (j:=2) rfl
    have w2f:=HK2.so.whole.frozen 2
    have fin:∀(y:Nat),y=max a (x.nest+(if level e.kind j x.kind then 1 else 0))→nestFrom e.kind (j+1) y (os.drop (j+1))=tot:=fun y hy=>by
     rw[hy,←nestFrom_at e.kind HX.out];exact HN0.out
    by_cases h16:e.kind=16
    ·have hlv:level e.kind j x.kind=true:=by unfold level;rw[h16];rfl
     have z16:(e.kind==16)=true:=by simpa using h16
     clear h16
     exact zzQ16
    ·have z16:(e.kind==16)=false:=by simpa using h16
     go_wp2_with fail
     refine(inParens_core e.kind j x.kind _ h16).mono ?_
     rintro r w9 ⟨rfl,hw9⟩
     rw[hw9]
     clear hw9 h16
     cases hlv:level e.kind j x.kind
     ·skip
      obtain⟨a2,ha2⟩:=qE (max a (x.nest))
      have HFin:Hid (nestFrom e.kind (j+1) a2 (os.drop (j+1))=tot∧a2≤2000):=⟨fin a2 (by rw[ha2,hlv];rfl),by omega⟩
      have ha3:max (a:Int) ((x.nest:Int))=(a2:Int):=by omega
      clear fin hlv ha2
      go_wp2_with fail
      go_roundw
      case rel=>
       refine⟨j+1,a2,false,by go_num,by omega,HFin.2,HVn.out,HFin.1,?_⟩
       exact HK2.done a2
      case measure=>simp[intOf];omega
     ·skip
      exact zzQ16
   ·have hv0':v0=true:=hv0
    clear hv0
    obtain⟨W2,hW2⟩:=qE (W1.setCell ⟨WB,0,none⟩ (.bool x.valid):World)
    have HK2:Hid (SoK w e WB wr.heap.size x.valid a x x.nest W2):=by rw[hW2];exact HK1.valid x.valid
    have HVn:Hid (x.valid=(gd && (os.take (j+1)).all (·.valid))):=by
     show x.valid=_
     rw[take_all HX.out,←Bool.and_assoc,←HV0.out,hv0']
     simp
    go_upto_region 6 with fail
    rw[←hW2]
    clear hW2 w0 w0f o0 HK1 HV0
    have m0:=HK2.so.node.cell (j:=0) rfl
    have o1:=HK2.ob.cell (j:=1) rfl
    have o2:=HK2.ob.cell (j:=2) rfl
    have o2f:=HK2.ob.frozen 2
    have w2:=HK2.so.whole.cell (j:=2) rfl
    have w2f:=HK2.so.whole.frozen 2
    have fin:∀(y:Nat),y=max a (x.nest+(if level e.kind j x.kind then 1 else 0))→nestFrom e.kind (j+1) y (os.drop (j+1))=tot:=fun y hy=>by
     rw[hy,←nestFrom_at e.kind HX.out];exact HN0.out
    by_cases h16:e.kind=16
    ·have hlv:level e.kind j x.kind=true:=by unfold level;rw[h16];rfl
     have z16:(e.kind==16)=true:=by simpa using h16
     clear h16
     exact zzQ15
    ·have z16:(e.kind==16)=false:=by simpa using h16
     go_wp2_with fail
     refine(inParens_core e.kind j x.kind _ h16).mono ?_
     rintro r w9 ⟨rfl,hw9⟩
     rw[hw9]
     clear hw9 h16
     cases hlv:level e.kind j x.kind
     ·skip
      obtain⟨a2,ha2⟩:=qE (max a (x.nest))
      have HFin:Hid (nestFrom e.kind (j+1) a2 (os.drop (j+1))=tot∧a2≤2000):=⟨fin a2 (by rw[ha2,hlv];rfl),by omega⟩
      have ha3:max (a:Int) ((x.nest:Int))=(a2:Int):=by omega
      clear fin hlv ha2
      go_wp2_with fail
      go_roundw
      case rel=>
       refine⟨j+1,a2,x.valid,by go_num,by omega,HFin.2,HVn.out,HFin.1,?_⟩
       exact HK2.done a2
      case measure=>simp[intOf];omega
     ·skip
      exact zzQ15
  ·have zj:¬(j:Int)<(n:Int):=by omega
   have HFi:Hid (a=tot∧v=(shapeM goodB e os).valid):=by
    show _∧_
    have h1:=HJ.2.1
    have h2:=HJ.1
    have hln:=HL.out
    rw[List.drop_eq_nil_of_le (by omega)]at h1
    rw[List.take_of_length_le (by omega)]at h2
    exact⟨h1,by rw[h2,HV.out]⟩
   obtain⟨w0,w1,w2⟩:=HJ.2.2.whole.c3
   obtain⟨r0,r1,r2⟩:=HJ.2.2.res.c3
   have f0:=HJ.2.2.res.frozen 0
   have f1:=HJ.2.2.res.frozen 1
   have f2:=HJ.2.2.res.frozen 2
   obtain⟨W9,hW9⟩:=qE (set3 wr (w.heap.size+1) (.bool v) (.int .i64 e.kind) (.int .i64 (a:Int)):World)
   have HW9:Hid (BoxAt W9 w.heap.size 96 3 (w.heap.size+1) [.bool v,.int .i64 e.kind,.int .i64 (a:Int)]∧Below w.heap.size w W9):=by
    rw[hW9];exact⟨HJ.2.2.res.set3 _ _ _,below_set3 HJ.2.2.below (by omega) _ _ _⟩
   obtain⟨p0,p1,p2⟩:=HW9.1.c3
   unfold set3 at hW9
   go_wp2_with fail
   rw[←hW9]
   obtain⟨rfl,hvv⟩:=HFi.out
   rw[←hvv]
   refine bodyPost_ret (v:=.agg #[.bool v,.int .i64 e.kind,.int .i64 (a:Int)]) (by simp[results,Tryz.results57,go_sem,p0,p1,p2]) rfl ⟨rfl,HW9.2⟩
theorem Tryz.infoSh:(Tryz.prog.info? 96).map (fun i=>(i.zero,i.size,i.bytes))=some (some (.agg #[.bool false,.int .i64 0,.int .i64 0]),3,24):=by kernel_rfl
theorem step_append_shape {ops:Array Oper} {oo:Oper} {a:Act} {K:Act→World→Prop} {Q:Exit→Act→World→Prop} {E:Prop} (w:World) (hgd:oo.guard=none) (s x:Operand)
  (ho:oo.op=.call {callee:=.builtin .append,args:=#[s,x],argTypes:=#[138,138]})
  (base n g cp blk:Nat) (ss:List Shape) (y:Shape) (hn:n=ss.length) (hs:a.eval s=.slice (some ⟨g,0,none⟩) n cp) (hx:a.eval x=.slice (some ⟨blk,0,none⟩) 1 1) (hO:OwnSh w base g cp ss)
  (hc:ShsAt w blk 0 [y]) (hlen:ss.length≤1000) (hbase:base≤w.heap.size)
  (h:∀g' cp' w',OwnSh w' base g' cp' (ss++ [y])→w.grownBy w' (some g)→(g=g'∨g'=w.heap.size)→K (a.put oo.dst (.slice (some ⟨g',0,none⟩) (n+1) cp')) w'):if Region.wanted oo (yielded ops a.tmps)=true then Oper.wp Tryz.prog oo a w K Q else E:=by
 subst hn
 obtain⟨i,hi,hz0,hz1,hz2⟩:=info_parts Tryz.infoSh
 obtain⟨c0,c1,c2⟩:=hc 0 y rfl
 refine step_append_lies w hgd s x 138 ho base 96 i _ 3 24 Tryz.underlying138 hi hz0 hz1 hz2 rfl (by decide) (.slice (some ⟨g,0,none⟩) ss.length cp) ss.length (cellsS ss) hs hO ⟨blk,0,none⟩ 1 1 (cellsS [y]) hx rfl ?_ ?_ (by decide) ?_ ?_ hbase w.heap.size rfl ?_
 ·intro j u hu
  have hj:j<3:=by
   have:=(List.getElem?_eq_some_iff.1 hu).1
   rw[length_cellsS]at this
   simpa using this
  rw[Addr.add_mid]
  have hcs:cellsS [y]=y.three:=by simp[cellsS]
  rw[hcs]at hu
  match j,hj with
  |0,_=>simp at hu;rw[←hu];simpa using c0
  |1,_=>simp at hu;rw[←hu];simpa using c1
  |2,_=>simp at hu;rw[←hu];simpa using c2
 ·intro u hu
  have hcs:cellsS [y]=y.three:=by simp[cellsS]
  rw[hcs]at hu
  simp at hu
  rcases hu with rfl|rfl|rfl<;>rfl
 ·unfold maxLen;omega
 ·omega
 ·intro g' cp' w' hO' hgr hat hlt
  refine h g' cp' w' ?_ hgr ?_
  ·unfold OwnSh
   rw[List.length_append,cellsS_append]
   exact hO'
  ·simp[Value.ownBlock]at hat
   exact hat
theorem fold_nest {xs:List Nd} {ss:List Shape} (h:foldM goodB [] xs=some ss):∀s∈ss,s.nest≤xs.length:=by
 intro s hs
 obtain⟨ks,rfl,hK⟩:=ShT.kids goodB (fold_tree goodB h)
 obtain⟨k,hk,h3⟩:=kid_len goodB hK hs
 have h4:=len_flat hk
 have h5:=nest_len goodB _ (Nat.le_refl _) h3
 omega
structure FoJ (w:World) (xs:List Nd) (j g cp:Nat) (ss:List Shape) (wr:World):Prop where
 fold:foldM goodB [] (xs.take j)=some ss
 own:OwnSh wr (w.heap.size+1) g cp ss
 res:BoxAt wr w.heap.size 96 3 w.heap.size [.bool false,.int .i64 0,.int .i64 0]
 below:Below w.heap.size w wr
theorem FoJ.move {w:World} {xs:List Nd} {j g cp:Nat} {ss:List Shape} {wr w':World} (h:FoJ w xs j g cp ss wr) (hb:Below wr.heap.size wr w'):FoJ w xs j g cp ss w':=
 ⟨h.fold,h.own.below hb,h.res.below hb,h.below.trans (hb.mono h.below.size)⟩
theorem fold_next {xs:List Nd} {j:Nat} {ss:List Shape} {e:Nd} (h:foldM goodB [] (xs.take j)=some ss) (he:xs[j]?=some e) (hl:arity e.kind≤ss.length):foldM goodB [] (xs.take (j+1))=some (ss.take (ss.length-arity e.kind)++ [shapeM goodB e (ss.drop (ss.length-arity e.kind))]):=by
 rw[List.take_add_one,he,foldM_append,h]
 simp only[Option.toList,Option.bind_some,foldM,stepM]
 rw[if_neg (by omega)]
theorem fold_stop {xs:List Nd} {j:Nat} {ss:List Shape} {e:Nd} (h:foldM goodB [] (xs.take j)=some ss) (he:xs[j]?=some e) (hl:ss.length<arity e.kind):foldM goodB [] xs=none:=by
 have hj:=(List.getElem?_eq_some_iff.1 he).1
 have:xs=xs.take j++e::xs.drop (j+1):=by
  conv=>lhs;rw[←List.take_append_drop j xs,List.drop_eq_getElem_cons hj]
  rw[show xs[j]=e from Option.some.inj ((List.getElem?_eq_getElem hj).symm.trans he)]
 rw[this,foldM_append,h]
 simp only[Option.bind_some,foldM,stepM]
 rw[if_pos hl]
def FoldPost (xs:List Nd) (w:World) (r:Ending) (w':World):Prop:=Below w.heap.size w w'∧((∃s,foldM goodB [] xs=some [s]∧r=.returned (.tuple #[.agg #[.bool s.valid,.int .i64 s.kind,.int .i64 (s.nest:Int)],.bool true]))∨((∀s,¬foldM goodB [] xs=some [s])∧r=.returned (.tuple #[.agg #[.bool false,.int .i64 0,.int .i64 0],.bool false])))
structure FoK (w:World) (xs:List Nd) (j g cp:Nat) (ss:List Shape) (SB:Nat) (y:Shape) (wr:World):Prop where
 fo:FoJ w xs j g cp ss wr
 box:BoxAt wr w.heap.size 96 3 SB y.three
 ne:¬SB=g
 ge:w.heap.size+1≤SB
theorem fo_after {w:World} {xs:List Nd} {j g cp:Nat} {ss:List Shape} {W1 w':World} (y:Shape) (h:FoJ w xs j g cp ss W1) (hb:Below W1.drew.heap.size W1.drew w'):FoK w xs j g cp ss w'.heap.size y (w'.alloc (Obj.cells #[.bool y.valid,.int .i64 y.kind,.int .i64 (y.nest:Int)] 96)):=by
 have h1:Below W1.heap.size W1 w':=((Below.refl W1.heap.size W1).drew).trans hb
 have h2:=h1.size
 have h3:Below W1.heap.size W1 (w'.alloc (Obj.cells #[.bool y.valid,.int .i64 y.kind,.int .i64 (y.nest:Int)] 96)):=h1.alloc h2 _
 have h4:=h.own.lt
 have h5:=h.below.size
 have h6:=h.res.lt
 exact⟨h.move h3,boxAt_new w' _ (by omega) rfl,by omega,by omega⟩
theorem fo_before {w:World} {xs:List Nd} {j g cp:Nat} {ss:List Shape} {W1 w':World} (y:Shape) (h:FoJ w xs j g cp ss W1) (hb:Below (W1.drew.alloc (Obj.cells #[.bool false,.int .i64 0,.int .i64 0] 96)).heap.size (W1.drew.alloc (Obj.cells #[.bool false,.int .i64 0,.int .i64 0] 96)) w'):
  FoK w xs j g cp ss W1.heap.size y (((w'.setCell ⟨W1.heap.size,0,none⟩ (.bool y.valid)).setCell ⟨W1.heap.size,1,none⟩ (.int .i64 y.kind)).setCell ⟨W1.heap.size,2,none⟩ (.int .i64 (y.nest:Int))):=by
 have hd:W1.drew.heap.size=W1.heap.size:=by simp
 have h0:Below W1.heap.size W1 (W1.drew.alloc (Obj.cells #[.bool false,.int .i64 0,.int .i64 0] 96)):=((Below.refl W1.heap.size W1).drew).alloc (by simp) _
 have h1:Below W1.heap.size W1 w':=h0.trans (hb.mono (by simp))
 have h4:=h.own.lt
 have h5:=h.below.size
 have h6:=h.res.lt
 have hB:BoxAt w' w.heap.size 96 3 W1.heap.size [.bool false,.int .i64 0,.int .i64 0]:=by
  have:=boxAt_new W1.drew (base:=w.heap.size) (t:=96) (sz:=3) #[.bool false,.int .i64 0,.int .i64 0] (by simp;omega) rfl
  rw[hd]at this
  exact this.below hb
 have hJ:=h.move h1
 have hC:Chg (fun k=>k=W1.heap.size) w' (((w'.setCell ⟨W1.heap.size,0,none⟩ (.bool y.valid)).setCell ⟨W1.heap.size,1,none⟩ (.int .i64 y.kind)).setCell ⟨W1.heap.size,2,none⟩ (.int .i64 (y.nest:Int))):=
  ((Chg.of_set w' W1.heap.size 0 _ (S:=fun k=>k=W1.heap.size) rfl).trans (Chg.of_set _ W1.heap.size 1 _ (S:=fun k=>k=W1.heap.size) rfl)).trans (Chg.of_set _ W1.heap.size 2 _ (S:=fun k=>k=W1.heap.size) rfl)
 refine⟨⟨hJ.fold,own_chg hJ.own hC (fun k q=>by simp[Value.ownBlock]at q;omega),hJ.res.chg hC (by omega),?_⟩,((hB.set 0 _).set 1 _).set 2 _,by omega,by omega⟩
 exact below_set (below_set (below_set hJ.below (by omega) 0 _) (by omega) 1 _) (by omega) 2 _
theorem sh_new (X:World) (y:Shape) (B:Nat) (hB:X.heap.size=B):ShsAt (X.alloc (Obj.cells #[.bool y.valid,.int .i64 y.kind,.int .i64 (y.nest:Int)] 96)) B 0 [y]:=by
 subst hB
 intro i s hs
 have hi:i=0:=by have:=(List.getElem?_eq_some_iff.1 hs).1;simpa using this
 subst hi
 simp at hs
 subst hs
 exact⟨by simp,by simp,by simp⟩
theorem fo_push {w wc X w':World} {xs:List Nd} {j g cp g' cp' fr:Nat} {ss:List Shape} {y:Shape} (h:FoJ w xs j g cp ss wc) (hX:Below wc.heap.size wc X) (hY:foldM goodB [] (xs.take (j+1))=some (ss.take fr++ [y])) (hO:OwnSh w' (w.heap.size+1) g' cp' (ss.take fr++ [y])) (hgr:X.grownBy w' (some g)) (hm:fr=(ss.take fr).length):FoJ w xs (j+1) g' cp' (ss.take fr++ [y]) w'∧fr+1≤cp':=by
 have hJ:=h.move hX
 have h1:=hJ.own.lt
 have hC:Chg (fun k=>k=g) X w':=Chg.of_grown hgr (fun k hk=>by cases hk;rfl)
 refine⟨⟨hY,hO,hJ.res.chg hC (by omega),Chg.below hJ.below hC hJ.below.size (fun k q=>by omega)⟩,?_⟩
 have:=hO.caps.1
 rw[List.length_append,List.length_singleton,←hm]at this
 exact this
set_option maxHeartbeats 16000000 in
theorem foldTree_win {w:World} {gN oN cpN:Nat} {xs:List Nd} (h:NdsAt w gN oN xs) (hg:gN<w.heap.size) (hok:∀e∈xs,e.ok) (hl:xs.length≤200):
  Calls Tryz.prog 56 #[.slice (some ⟨gN,oN,none⟩) xs.length cpN,.func (Fn.func 57) #[] #[]] w (FoldPost xs w):=by
 have HF:Hid (NdsAt w gN oN xs∧∀e∈xs,e.ok):=⟨h,hok⟩
 obtain⟨n,hn⟩:=qE xs.length
 have HL:Hid (n=xs.length):=hn
 rw[←hn]at hl⊢
 clear h hok hn
 obtain⟨W0,hW0⟩:=qE ((w.alloc (Obj.cells #[.bool false,.int .i64 0,.int .i64 0] 96)).alloc (Obj.cells #[] 96):World)
 have HW0:Hid (FoJ w xs 0 (w.heap.size+1) 0 [] W0):=by
  obtain⟨V,hV⟩:=qE (w.alloc (Obj.cells #[.bool false,.int .i64 0,.int .i64 0] 96):World)
  have hz:V.heap.size=w.heap.size+1:=by rw[hV];simp
  have hb:Below V.heap.size V W0:=by rw[hW0,←hV];exact qB
  have hbV:Below w.heap.size w V:=by rw[hV];exact qB
  have hB:BoxAt V w.heap.size 96 3 w.heap.size [.bool false,.int .i64 0,.int .i64 0]:=by rw[hV];exact boxAt_new w _ (Nat.le_refl _) rfl
  refine⟨rfl,?_,hB.below hb,hbV.trans (hb.mono (by omega))⟩
  rw[hW0,←hV,←hz]
  exact ownSh_new V (Nat.le_refl _)
 go_enter Tryz.func56,Tryz.ntmps56
 go_upto_region 2 with fail
 rw[←hW0]
 clear hW0
 go_wp2_with fail
 go_loopw[6,14] (fun sv iv wr=>∃(j m g cp:Nat) (ss:List Shape),iv=.int .i64 (j:Int)∧j≤n∧m=ss.length∧m≤j∧m≤cp∧sv=.slice (some ⟨g,0,none⟩) m cp∧FoJ w xs j g cp ss wr) (fun _ iv _=>n-(intOf iv).toNat)
 case atStart=>exact⟨0,0,_,0,[],rfl,Nat.zero_le _,rfl,Nat.le_refl _,Nat.zero_le _,rfl,HW0.out⟩
 case round=>
  obtain⟨j,m,g,cp,ss,rfl,hj,hm,hmj,hmc,rfl,hJ⟩:=hrel
  have HJ:Hid (m=ss.length∧FoJ w xs j g cp ss wr):=⟨hm,hJ⟩
  have hgl:=hJ.own.lt
  have hcp:cp≤9223372036854775807:=by have:=hJ.own.caps.2;unfold maxLen at this;omega
  have hsz:=hJ.below.size
  have hrl:=hJ.res.lt.2
  obtain⟨r0,r1,r2⟩:=hJ.res.c3
  have f0:=hJ.res.frozen 0
  have f1:=hJ.res.frozen 1
  have f2:=hJ.res.frozen 2
  clear hm hJ HW0
  by_cases hlt:j<n
  ·have zj:(j:Int)<(n:Int):=by omega
   obtain⟨e,he⟩:∃e,xs[j]?=some e:=⟨_,List.getElem?_eq_getElem (by have:=HL.out;omega)⟩
   obtain⟨d0,d1,d2,d3,d4,d5,d6⟩:=(HF.1.below HJ.2.below hg) j e he
   have ok:=HF.2 e (List.mem_of_getElem? he)
   have HE:Hid (xs[j]?=some e∧e.s.size≤maxLen∧e.t.size≤maxLen):=⟨he,ok.s,ok.t⟩
   clear ok he
   obtain⟨W1,hW1⟩:=qE (wr.alloc (Obj.cells #[.int .i64 e.kind,.string e.s,.bool e.hi,.string e.t,.int .u64 e.lo,.int .u64 e.up,.int .i64 e.n] 75):World)
   have hb1:Below wr.heap.size wr W1:=by rw[hW1];exact qB
   have hz1:W1.heap.size=wr.heap.size+1:=by rw[hW1];simp
   have HJ1:Hid (m=ss.length∧FoJ w xs j g cp ss W1∧BoxAt W1 w.heap.size 75 7 wr.heap.size e.seven):=by
    refine⟨HJ.1,HJ.2.move hb1,?_⟩
    rw[hW1];exact boxAt_new wr _ hsz rfl
   go_upto_region 5 with fail
   rw[←hW1]
   clear hW1 d0 d1 d2 d3 d4 d5 d6 r0 r1 r2 f0 f1 f2 HJ hb1
   obtain⟨c0,c1,c2,c3,c4,c5,c6⟩:=HJ1.2.2.c7
   obtain⟨a,ha⟩:=qE (arity e.kind)
   have ha3:a≤3:=by rw[ha];exact arity_le _
   have HAr:Hid (Calls Tryz.prog 61 #[.int .i64 e.kind] W1 fun r w'=>r=.returned (.int .i64 (a:Int))∧w'=W1):=by rw[ha];exact operandCount_core e.kind W1
   have HAk:Hid (a=arity e.kind):=ha
   clear ha
   go_wp2_with fail
   refine HAr.mono ?_
   rintro r w9 ⟨rfl,hw9⟩
   rw[hw9]
   clear hw9 HAr
   by_cases hfr:m<a
   ·have zf:(m:Int)-(a:Int)<0:=by omega
    obtain⟨r0,r1,r2⟩:=HJ1.2.1.res.c3
    have f0:=HJ1.2.1.res.frozen 0
    have f1:=HJ1.2.1.res.frozen 1
    have f2:=HJ1.2.1.res.frozen 2
    have HS:Hid (foldM goodB [] xs=none):=fold_stop HJ1.2.1.fold HE.1 (by rw[←HJ1.1,←HAk.out];exact hfr)
    obtain⟨W9,hW9⟩:=qE (set3 W1 w.heap.size (.bool false) (.int .i64 0) (.int .i64 0):World)
    have HW9:Hid (BoxAt W9 w.heap.size 96 3 w.heap.size [.bool false,.int .i64 0,.int .i64 0]∧Below w.heap.size w W9):=by
     rw[hW9];exact⟨HJ1.2.1.res.set3 _ _ _,below_set3 HJ1.2.1.below (Nat.le_refl _) _ _ _⟩
    obtain⟨p0,p1,p2⟩:=HW9.1.c3
    unfold set3 at hW9
    go_wp2_with fail
    rw[←hW9]
    refine bodyPost_ret (v:=.tuple #[.agg #[.bool false,.int .i64 0,.int .i64 0],.bool false]) (by simp[results,Tryz.results56,go_sem,p0,p1,p2]) rfl ⟨HW9.2,.inr ⟨fun s q=>(by rw[HS.out]at q;cases q),rfl⟩⟩
   ·obtain⟨fr,hfrm⟩:∃fr:Nat,(m:Int)-(a:Int)=(fr:Int):=⟨m-a,by omega⟩
    have hfrle:fr≤m:=by omega
    have HFr:Hid (fr=ss.length-arity e.kind∧arity e.kind≤ss.length):=by
     have h1:=HJ1.1
     have h2:=HAk.out
     exact⟨by omega,by omega⟩
    have zf:¬(fr:Int)<0:=by omega
    have z2:(fr:Int)≤(m:Int):=by omega
    have z3:(m:Int)≤(cp:Int):=by omega
    obtain⟨y,hy⟩:=qE (shapeM goodB e (ss.drop fr))
    have HY:Hid (foldM goodB [] (xs.take (j+1))=some (ss.take fr++ [y])):=by
     show _=_
     rw[hy,HFr.1]
     exact fold_next HJ1.2.1.fold HE.1 HFr.2
    obtain⟨ad,had⟩:∃ad:Option Addr,(if cp=fr then some (⟨g,0,none⟩:Addr)else some ⟨g,fr*3,none⟩)=ad:=⟨_,rfl⟩
    have HSh:Hid (∀X,Below W1.heap.size W1 X→Calls Tryz.prog 57 #[.agg #[.int .i64 e.kind,.string e.s,.bool e.hi,.string e.t,.int .u64 e.lo,.int .u64 e.up,.int .i64 e.n],.slice ad (m-fr) (cp-fr)] X fun r w'=>r=.returned (.agg #[.bool y.valid,.int .i64 y.kind,.int .i64 (y.nest:Int)])∧Below X.heap.size X w'):=fun X hX=>by
     have hs1:=HJ1.2.1.own.at.below hX HJ1.2.1.own.lt.2
     have hs2:=hs1.drop fr
     rw[Nat.zero_add]at hs2
     have hlen:(ss.drop fr).length=m-fr:=by rw[List.length_drop,←HJ1.1]
     have hX2:=hX.size
     have hg2:=HJ1.2.1.own.lt.2
     have hnest:∀x∈ss.drop fr,x.nest≤1000:=fun x hx=>by
      have h1:=fold_nest HJ1.2.1.fold x (List.mem_of_mem_drop hx)
      rw[List.length_take]at h1
      omega
     have hos:(ss.drop fr).length≤3:=by rw[hlen];have:=HFr.1;have:=HAk.out;have:=HJ1.1;omega
     rw[hy,←had]
     by_cases hcf:cp=fr
     ·rw[if_pos hcf]
      have hnil:ss.drop fr= []:=List.length_eq_zero_iff.1 (by rw[hlen];omega)
      have h9:=shapeOf_core (w:=X) (b:=g) (o:=0) (cap:=cp-fr) (os:=ss.drop fr) e (by rw[hnil];intro i s hs;simp at hs) (by omega) (by rw[hlen];omega) hos (by omega) hnest HE.2.1 HE.2.2
      rw[hlen]at h9
      exact h9
     ·rw[if_neg hcf]
      have h9:=shapeOf_core (w:=X) (b:=g) (o:=fr*3) (cap:=cp-fr) (os:=ss.drop fr) e hs2 (by omega) (by rw[hlen];omega) hos (by omega) hnest HE.2.1 HE.2.2
      rw[hlen]at h9
      exact h9
    clear hy hfr
    go_upto_region 8 with fail
    go_cut[10] (fun sv wx=>∃SB,sv=.pointer (some ⟨SB,0,none⟩)∧FoK w xs j g cp ss SB y wx)
    case first=>
     go_region_law ((go_simp;go_at_call 57;refine(HSh.out _ ?hX).mono ?_;(case hX=>(repeat (first|exact Below.refl _ _|refine Below.drew ?_|refine Below.alloc ?_ (by simp) _)));rintro r w' ⟨rfl,hbb⟩;obtain⟨hcc,hff⟩:=bcell hbb;have hsz':=hbb.size))
     all_goals go_wp2_with fail
     all_goals go_meet
     all_goals first
      |exact⟨_,rfl,fo_after y HJ1.2.1 hbb⟩
      |exact⟨_,rfl,by have h9:=fo_before y HJ1.2.1 hbb;rw[hz1]at h9;exact h9⟩
    case rest=>
    obtain⟨SB,rfl,hK⟩:=hcut
    have HK:Hid (FoK w xs j g cp ss SB y wc):=hK
    obtain⟨b0,b1,b2⟩:=hK.box.c3
    have hgl2:=hK.fo.own.lt
    have hsb:=hK.box.lt.2
    have hnsb:=hK.ne
    have hsz2:=hK.fo.below.size
    have HM:Hid (fr=(ss.take fr).length):=by
     show fr=_
     rw[List.length_take,←HJ1.1]
     omega
    clear hK c0 c1 c2 c3 c4 c5 c6 HSh
    go_upto_region 9 with fail
    have hfl:fr≤ss.length:=by rw[←HJ1.1];exact hfrle
    have z4:(fr:Int)≤(cp:Int):=by omega
    have z5:fr≤cp:=by omega
    go_region_law ((refine step_append_shape _ (by rfl) _ _ (by rfl) (w.heap.size+1) fr g cp wc.heap.size (ss.take fr) y HM.out (by rfl) (by rfl) ?hO ?hc ?hl ?hb ?_
                    case hO=>(refine OwnSh.below (HK.fo.own.take hfl) ?_;repeat (first|exact Below.refl _ _|refine Below.drew ?_|refine Below.alloc ?_ (by simp) _))
                    case hc=>exact sh_new _ y _ (by simp)
                    case hl=>rw[←HM.out];omega
                    case hb=>simp;omega
                    intro g' cp' w' hO' hgr' hat'
                    have fin:Hid (FoJ w xs (j+1) g' cp' (ss.take fr++ [y]) w'∧fr+1≤cp'):=fo_push HK.fo (by repeat (first|exact Below.refl _ _|refine Below.drew ?_|refine Below.alloc ?_ (by simp) _)) HY.out hO' hgr' HM.out
                    clear hO' hgr' hat'))
    all_goals go_wp2_with fail
    all_goals go_roundw
    all_goals first
     |exact⟨j+1,fr+1,g',cp',ss.take fr++ [y],by go_num,by omega,by rw[List.length_append,List.length_singleton,←HM.out],by omega,fin.out.2,rfl,fin.out.1⟩
     |(simp[intOf];omega)
  ·have zj:¬(j:Int)<(n:Int):=by omega
   have HFo:Hid (foldM goodB [] xs=some ss):=by
    have h1:=HJ.2.fold
    rw[List.take_of_length_le (by have:=HL.out;omega)]at h1
    exact h1
   by_cases hm1:m=1
   ·subst hm1
    obtain⟨s,rfl⟩:∃s,ss= [s]:=by
     have h1:=HJ.1
     match ss,h1 with
     | [s],_=>exact⟨s,rfl⟩
    obtain⟨e0,e1,e2⟩:=HJ.2.own.at 0 s rfl
    simp only[Nat.zero_add,Nat.zero_mul]at e0 e1 e2
    obtain⟨W9,hW9⟩:=qE (set3 wr w.heap.size (.bool s.valid) (.int .i64 s.kind) (.int .i64 (s.nest:Int)):World)
    have HW9:Hid (BoxAt W9 w.heap.size 96 3 w.heap.size [.bool s.valid,.int .i64 s.kind,.int .i64 (s.nest:Int)]∧Below w.heap.size w W9):=by
     rw[hW9];exact⟨HJ.2.res.set3 _ _ _,below_set3 HJ.2.below (Nat.le_refl _) _ _ _⟩
    obtain⟨p0,p1,p2⟩:=HW9.1.c3
    unfold set3 at hW9
    go_wp2_with fail
    rw[←hW9]
    refine bodyPost_ret (v:=.tuple #[.agg #[.bool s.valid,.int .i64 s.kind,.int .i64 (s.nest:Int)],.bool true]) (by simp[results,Tryz.results56,go_sem,p0,p1,p2]) rfl ⟨HW9.2,.inl ⟨s,HFo.out,rfl⟩⟩
   ·have zm:((m:Int) != 1)=true:=by have:¬(m:Int)=1:=(by omega);simpa using this
    obtain⟨W9,hW9⟩:=qE (set3 wr w.heap.size (.bool false) (.int .i64 0) (.int .i64 0):World)
    have HW9:Hid (BoxAt W9 w.heap.size 96 3 w.heap.size [.bool false,.int .i64 0,.int .i64 0]∧Below w.heap.size w W9):=by
     rw[hW9];exact⟨HJ.2.res.set3 _ _ _,below_set3 HJ.2.below (Nat.le_refl _) _ _ _⟩
    obtain⟨p0,p1,p2⟩:=HW9.1.c3
    unfold set3 at hW9
    go_wp2_with fail
    rw[←hW9]
    refine bodyPost_ret (v:=.tuple #[.agg #[.bool false,.int .i64 0,.int .i64 0],.bool false]) (by simp[results,Tryz.results56,go_sem,p0,p1,p2]) rfl ⟨HW9.2,.inr ⟨fun s q=>?_,rfl⟩⟩
    rw[HFo.out]at q
    have h1:=HJ.1
    rw[Option.some.inj q]at h1
    exact hm1 h1
set_option maxHeartbeats 4000000 in
theorem implFilter_win {w:World} {g o cp:Nat} {xs:List Nd} (h:WdN w g o cp xs) (hok:∀e∈xs,e.ok):Calls Tryz.prog 28 #[.agg #[.slice (some ⟨g,o,none⟩) xs.length cp]] w (FltPost xs w):=by
 have HO:Hid (WdN w g o cp xs∧∀e∈xs,e.ok):=⟨h,hok⟩
 have hg:=h.lt
 obtain⟨n,hn⟩:=qE xs.length
 have HN:Hid (n=xs.length):=hn
 have hcp:=h.caps
 rw[←hn]at hcp⊢
 unfold maxLen at hcp
 clear h hok hn
 obtain⟨W0,hW0⟩:=qE (w.alloc (Obj.cells #[.slice (some ⟨g,o,none⟩) n cp] 32):World)
 have HW0:Hid (BoxAt W0 w.heap.size 32 1 w.heap.size [.slice (some ⟨g,o,none⟩) n cp]∧Below w.heap.size w W0):=by
  rw[hW0];exact⟨boxAt_new w _ (Nat.le_refl _) rfl,qB⟩
 have c0:=HW0.1.cell (j:=0) rfl
 have s0:=HW0.2.size
 go_enter Tryz.func28,Tryz.ntmps28
 go_upto_region 1 with fail
 rw[←hW0]
 clear hW0
 by_cases hbig:200<n
 ·exact zzQ67
 have zb:¬(200:Int)<(n:Int):=by omega
 have HC:Hid (Calls Tryz.prog 56 #[.slice (some ⟨g,o,none⟩) n cp,.func (Fn.func 57) #[] #[]] W0 (FoldPost xs W0)):=by
  have hl:xs.length≤200:=by rw[←HN.out];omega
  have:=foldTree_win (w:=W0) (gN:=g) (oN:=o) (cpN:=cp) (HO.1.at.below HW0.2 hg) (by omega) HO.2 hl
  rw[←HN.out]at this
  exact this
 go_wp2_with fail
 refine HC.mono ?_
 rintro r w2 ⟨hb2,(⟨s,hs,rfl⟩|⟨hs,rfl⟩)⟩
 ·have HF:Hid (GoodF xs↔(s.valid=true∧s.nest≤20)):=by
   show GoodF xs↔_
   have hsh:=fold_tree goodB hs
   constructor
   ·rintro⟨_,t,ht,hv,hn⟩
    rw[sh_one hsh ht];exact⟨hv,hn⟩
   ·rintro⟨hv,hn⟩
    exact⟨by have:=HN.out;omega,s,hsh,hv,hn⟩
  have HB:Hid (Below w.heap.size w w2):=HW0.2.trans (hb2.mono s0)
  obtain⟨v,hv⟩:=qE s.valid
  obtain⟨k,hk⟩:=qE s.nest
  obtain⟨kd,hkd⟩:=qE s.kind
  rw[←hv,←hk]at HF
  rw[←hv,←hk,←hkd]
  clear hs hb2 c0 HC hv hk hkd
  cases v
  ·go_wp2_with fail
   go_ret
   exact⟨_,rfl,by rw[HF.out];simp,HB.trans ((Below.refl _ _).alloc HB.size _)⟩
  ·go_wp2_with fail
   go_ret
   exact⟨_,rfl,by rw[HF.out];simp<;>omega,HB.trans ((Below.refl _ _).alloc HB.size _)⟩
 ·have HF:Hid (¬GoodF xs):=fun q=>by
   obtain⟨_,s,hsh,_⟩:=q
   have:=ShT.fold goodB hsh []
   exact hs s (by simpa using this)
  have HB:Hid (Below w.heap.size w w2):=HW0.2.trans (hb2.mono s0)
  clear hs hb2 c0 HC
  go_wp2_with fail
  go_ret
  exact⟨_,rfl,by simp[HF.out],HB.trans ((Below.refl _ _).alloc HB.size _)⟩
theorem implFilter_core {w:World} {base g cp:Nat} {xs:List Nd} (h:OwnNd w base g cp xs) (hok:∀e∈xs,e.ok):Calls Tryz.prog 28 #[.agg #[.slice (some ⟨g,0,none⟩) xs.length cp]] w (FltPost xs w):=implFilter_win h.wd hok
end Go.Proofs.YtkidabedcgngcaaGreatDoor
