import Derived.Test.YtgnpcenpcmdlfaaGreatDoorXkAA
import Derived.Test.YtgnpcenpcmdlfaaGreatDoorXkAJ
namespace Go.Proofs.YtgnpcenpcmdlfaaGreatDoor.exParse
open Go.ChangeShapes Go.WideShapes Go.ChangeAt Go.RowKit Go.Deep
set_option linter.unusedVariables false
set_option linter.unusedSimpArgs false
set_option maxRecDepth 100000
set_option maxHeartbeats 4000000 in
theorem walkPf (v:Value) (xs:List UInt8) (w:World) (h:BysIn w v xs) (hW:WdsAt w) (hE:ErrAt w) (hG:7≤w.heap.size):
  Calls Tryz.prog 3 #[v] w fun e w'=>e=.returned (.bool true)∧Below w.heap.size w w':=by
 obtain⟨a,cap,hv⟩:=h.slice
 subst hv
 have HI:Hid (BysIn w (.slice a xs.length cap) xs∧(∀w',Below w.heap.size w w'→WdsAt w'∧ErrAt w')∧7≤w.heap.size):=⟨h,fun w' hb=>⟨hW.chg (S:=fun _=>False) (Chg.of_below hb) (fun q=>q),hE.chg (S:=fun _=>False) (Chg.of_below hb) (fun q=>q)⟩,hG⟩
 have hr:=h.1
 unfold maxLen at hr
 clear h hW hE hG
 by_cases hbig:1048576<xs.length
 ·have z:¬((xs.length:Int)≤1048576):=by omega
  go_enter Tryz.func3,Tryz.ntmps3
  go_wp2_with fail
  go_ret
  exact⟨rfl,Below.refl _ _⟩
 have h1:xs.length≤1048576:=by omega
 have HM:Hid (xs.length≤maxLen):=by show xs.length≤maxLen;unfold maxLen;omega
 go_enter Tryz.func3,Tryz.ntmps3
 go_wp2_with fail
 refine(toByteS_in _ xs _ HI.1 h1).mono ?_
 rintro e w1 ⟨g1,rfl,ho1,hb1⟩
 have Ho1:Hid (OwnY w1 w.heap.size g1 xs.length xs):=ho1
 have s1:=hb1.size
 clear ho1
 go_wp2_with fail
 refine(specParse_core Ho1.at Ho1.lt.2 rfl (by omega) (Nat.le_refl _) HM.out).mono ?_
 rintro e w2 ⟨v2,rfl,hb2,hS2⟩
 obtain⟨ce,ca,es,hM,ua,un,uc,rfl,hU⟩:=hS2.ans
 have s2:=hb2.size
 have HD:Hid (AnsOf xs ce ca es):=hM
 obtain⟨W2,hW2⟩:=qE (w2.alloc (Obj.cells #[.int .i64 ce,.int .i64 ca,.slice ua un uc] 27):World)
 have z2:w2.heap.size<W2.heap.size:=by rw[hW2];simp
 have b2':Below w2.heap.size w2 W2:=by rw[hW2];exact qB
 have HU2:Hid (OwnUN W2 w1.heap.size (.slice ua un uc) es∧BoxAt W2 w.heap.size 27 3 w2.heap.size [.int .i64 ce,.int .i64 ca,.slice ua un uc]∧(∀g,(Value.slice ua un uc).ownBlock=some g→g<w2.heap.size)):=by
  refine⟨hU.below b2',?_,fun g q=>(hU.row g q).2⟩
  rw[hW2];exact boxAt_new w2 _ (by omega) rfl
 have k2:Below w.heap.size w W2:=(hb1.trans (hb2.mono s1)).trans (b2'.mono (by omega))
 clear hU hM hS2 Ho1
 go_upto_region 4 with fail
 rw[←hW2]
 clear hW2 hb1 hb2 b2'
 go_wp2_with fail
 refine(toByteS_in _ xs _ (HI.1.below k2) h1).mono ?_
 rintro e w3 ⟨g3,rfl,ho3,hb3⟩
 have s3:=hb3.size
 have Ho3:Hid (OwnY w3 W2.heap.size g3 xs.length xs):=ho3
 have k3:Below w.heap.size w w3:=k2.trans (hb3.mono k2.size)
 have hg3:=ho3.lt
 clear ho3
 go_wp2_with fail
 refine(implParse_core Ho3.at hg3.2 rfl (by omega) (Nat.le_refl _) HM.out (by have:=k3.size;have:=HI.2.2;omega) (HI.2.1 w3 k3).1 (HI.2.1 w3 k3).2).mono ?_
 rintro e w4 ⟨v4,rfl,hb4,hS4⟩
 obtain⟨ce',ca',es',hM',⟨ia,n',ic,rfl,hU'⟩,hl'⟩:=hS4.ans
 obtain⟨rfl,rfl,rfl⟩:=hM'.one HD.out
 have hesn:es'.length≤1048576:=by omega
 have s4:=hb4.size
 obtain⟨W4,hW4⟩:=qE (w4.alloc (Obj.cells #[.int .i64 ce',.int .i64 ca',.slice ia n' ic] 27):World)
 have z4:w4.heap.size<W4.heap.size:=by rw[hW4];simp
 have b4':Below w4.heap.size w4 W4:=by rw[hW4];exact qB
 have b24:Below W2.heap.size W2 W4:=(hb3.trans (hb4.mono s3)).trans (b4'.mono (by omega))
 have HU4:Hid ((OwnUN W4 w1.heap.size (.slice ua un uc) es'∧BoxAt W4 w.heap.size 27 3 w2.heap.size [.int .i64 ce',.int .i64 ca',.slice ua un uc])∧(OwnUN W4 w3.heap.size (.slice ia n' ic) es'∧BoxAt W4 w.heap.size 27 3 w4.heap.size [.int .i64 ce',.int .i64 ca',.slice ia n' ic])∧(∀g,(Value.slice ia n' ic).ownBlock=some g→w3.heap.size≤g∧g<w4.heap.size)∧OwnY W4 W2.heap.size g3 xs.length xs):=by
  refine⟨⟨HU2.1.below b24,HU2.2.1.below b24⟩,⟨hU'.below b4',?_⟩,fun g q=>hU'.row g q,(Ho3.below hb4).below b4'⟩
  rw[hW4];exact boxAt_new w4 _ (by omega) rfl
 have k4:Below w.heap.size w W4:=k2.trans (b24.mono k2.size)
 have c0:=HU2.2.1.below (hb3.trans (hb4.mono s3))
 obtain⟨p0,p1,p2⟩:=c0.c3
 clear hU' hM' hS4 c0
 go_upto_region 6 with fail
 rw[←hW4]
 clear hW4 hb3 hb4 b4' p0 p1 p2
 obtain⟨p0,p1,p2⟩:=HU4.1.2.c3
 obtain⟨q0,q1,q2⟩:=HU4.2.1.2.c3
 go_wp2_with fail
 refine(eqFilterRes_same ce' ca' ia n' ic ua un uc es' _ _ W4 HU4.2.1.1 HU4.1.1).mono ?_
 rintro e w5 ⟨rfl,hb5⟩
 have s5:=hb5.size
 clear p0 p1 p2 q0 q1 q2
 go_wp2_with fail
 refine(toByteS_in _ xs _ (HI.1.below (k4.trans (hb5.mono k4.size))) h1).mono ?_
 rintro e w6 ⟨g6,rfl,ho6,hb6⟩
 have s6:=hb6.size
 have b46:Below W4.heap.size W4 w6:=hb5.trans (hb6.mono s5)
 have Ho6:Hid (OwnY w6 w5.heap.size g6 xs.length xs∧OwnY w6 W2.heap.size g3 xs.length xs):=⟨ho6,HU4.2.2.2.below b46⟩
 clear ho6
 go_wp2_with fail
 refine(eqByteS_same g3 0 xs.length g6 0 xs.length xs _ Ho6.2.at Ho6.1.at Ho6.2.lt.2 Ho6.1.lt.2 HM.out).mono ?_
 rintro e w7 ⟨rfl,hb7⟩
 have s7:=hb7.size
 have b47:Below W4.heap.size W4 w7:=b46.trans (hb7.mono b46.size)
 have Ho7:Hid (OwnY w7 W2.heap.size g3 xs.length xs):=Ho6.2.below hb7
 clear Ho6 hb5 hb6 hb7 b46
 go_wp2_with fail
 refine(markByteS_own W2.heap.size g3 xs.length xs w7 Ho7.out h1).mono ?_
 rintro e w8 ⟨rfl,hg8⟩
 have s8:=hg8.size
 have c8:Chg (fun k=>k=g3) w7 w8:=Chg.of_grown hg8 (fun k hk=>by cases hk;rfl)
 have HU8:Hid ((OwnUN w8 w1.heap.size (.slice ua un uc) es'∧BoxAt w8 w.heap.size 27 3 w2.heap.size [.int .i64 ce',.int .i64 ca',.slice ua un uc])∧(OwnUN w8 w3.heap.size (.slice ia n' ic) es'∧BoxAt w8 w.heap.size 27 3 w4.heap.size [.int .i64 ce',.int .i64 ca',.slice ia n' ic])):=by
  refine⟨⟨(HU4.1.1.below b47).keptNe hg8 (fun g q q2=>?_),(HU4.1.2.below b47).chg c8 (by omega)⟩,⟨(HU4.2.1.1.below b47).keptNe hg8 (fun g q q2=>?_),(HU4.2.1.2.below b47).chg c8 (by omega)⟩⟩
  ·have:=HU2.2.2 g q;have:=Option.some.inj q2;omega
  ·have:=HU4.2.2.1 g q;have:=Option.some.inj q2;omega
 have k8:Below w.heap.size w w8:=(k4.trans (b47.mono k4.size)).grown hg8 (by have:=k4.size;omega) (fun k hk=>by cases hk;omega)
 have HG:Hid (∀g,(Value.slice ia n' ic).ownBlock=some g→w3.heap.size≤g∧g<w4.heap.size):=HU4.2.2.1
 have hk1:¬(1+(xs.length:Int))<0:=by omega
 clear hg8 c8 Ho7 HU4 b47
 obtain⟨p0,p1,p2⟩:=HU8.1.2.c3
 obtain⟨q0,q1,q2⟩:=HU8.2.2.c3
 go_wp2_with fail
 refine(eqFilterRes_same ce' ca' ia n' ic ua un uc es' _ _ w8 HU8.2.1 HU8.1.1).mono ?_
 rintro e w9 ⟨rfl,hb9⟩
 have s9:=hb9.size
 have k9:Below w.heap.size w w9:=k8.trans (hb9.mono k8.size)
 have HU9:Hid ((OwnUN w9 w1.heap.size (.slice ua un uc) es'∧BoxAt w9 w.heap.size 27 3 w2.heap.size [.int .i64 ce',.int .i64 ca',.slice ua un uc])∧(OwnUN w9 w3.heap.size (.slice ia n' ic) es'∧BoxAt w9 w.heap.size 27 3 w4.heap.size [.int .i64 ce',.int .i64 ca',.slice ia n' ic])):=⟨⟨HU8.1.1.below hb9,HU8.1.2.below hb9⟩,⟨HU8.2.1.below hb9,HU8.2.2.below hb9⟩⟩
 clear p0 p1 p2 q0 q1 q2 hb9 HU8
 obtain⟨q0,q1,q2⟩:=HU9.2.2.c3
 go_wp2_with fail
 refine(markFilterRes_own ce' ca' ia n' ic w3.heap.size es' w9 HU9.2.1 hesn).mono ?_
 rintro e w10 ⟨R',rfl,hU10,hl10,hm10,hg10⟩
 have s10:=hg10.size
 have c10:Chg (fun k=>w3.heap.size≤k∧k<w4.heap.size) w9 w10:=Chg.of_grown hg10 (fun k hk=>HG.out k hk)
 have HU10:Hid ((OwnUN w10 w1.heap.size (.slice ua un uc) es'∧BoxAt w10 w.heap.size 27 3 w2.heap.size [.int .i64 ce',.int .i64 ca',.slice ua un uc])∧(OwnUN w10 w3.heap.size (.slice ia n' ic) R'∧BoxAt w10 w.heap.size 27 3 w4.heap.size [.int .i64 ce',.int .i64 ca',.slice ia n' ic])∧R'.length=es'.length∧markedN 1 R' R'.length):=by
  refine⟨⟨HU9.1.1.keptNe hg10 (fun g q q2=>?_),HU9.1.2.chg c10 (by omega)⟩,⟨hU10,HU9.2.2.chg c10 (by omega)⟩,hl10,hm10⟩
  have h7:=HU2.2.2 g q
  have h8:=HG.out g q2
  omega
 have k10:Below w.heap.size w w10:=Chg.below k9 c10 k9.size (by omega)
 clear q0 q1 q2 hU10 hl10 hm10 hg10 c10 HU9
 obtain⟨q0,q1,q2⟩:=HU10.2.1.2.c3
 go_wp2_with fail
 have hhl:=heldFilterRes_own ce' ca' ia n' ic w3.heap.size R' w10 HU10.2.1.1 HU10.2.2.2 (by rw[HU10.2.2.1];exact hesn)
 rw[HU10.2.2.1]at hhl
 refine hhl.mono ?_
 rintro e w11 ⟨rfl,hb11⟩
 have s11:=hb11.size
 have k11:Below w.heap.size w w11:=k10.trans (hb11.mono k10.size)
 have HU11:Hid (OwnUN w11 w1.heap.size (.slice ua un uc) es'∧BoxAt w11 w.heap.size 27 3 w2.heap.size [.int .i64 ce',.int .i64 ca',.slice ua un uc]):=⟨HU10.1.1.below hb11,HU10.1.2.below hb11⟩
 have hq0:¬(1+(es'.length:Int)*7)<0:=by omega
 clear q0 q1 q2 hb11 HU10 hhl
 go_wp2_with fail
 refine(toByteS_in _ xs _ (HI.1.below k11) h1).mono ?_
 rintro e w12 ⟨g12,rfl,ho12,hb12⟩
 have s12:=hb12.size
 have k12:Below w.heap.size w w12:=k11.trans (hb12.mono k11.size)
 have Ho12:Hid (OwnY w12 w11.heap.size g12 xs.length xs):=ho12
 clear ho12
 go_wp2_with fail
 refine(implParse_core Ho12.at Ho12.lt.2 rfl (by omega) (Nat.le_refl _) HM.out (by have:=k12.size;have:=HI.2.2;omega) (HI.2.1 w12 k12).1 (HI.2.1 w12 k12).2).mono ?_
 rintro e w13 ⟨v13,rfl,hb13,hS13⟩
 obtain⟨ce2,ca2,es2,hM2,⟨ha,hn2,hc2,rfl,hU2⟩,hl2⟩:=hS13.ans
 obtain⟨rfl,rfl,rfl⟩:=hM2.one HD.out
 have s13:=hb13.size
 obtain⟨W13,hW13⟩:=qE (w13.alloc (Obj.cells #[.int .i64 ce2,.int .i64 ca2,.slice ha hn2 hc2] 27):World)
 have b13':Below w13.heap.size w13 W13:=by rw[hW13];exact qB
 have b1113:Below w11.heap.size w11 W13:=(hb12.trans (hb13.mono s12)).trans (b13'.mono (by omega))
 have HU13:Hid ((OwnUN W13 w1.heap.size (.slice ua un uc) es2∧BoxAt W13 w.heap.size 27 3 w2.heap.size [.int .i64 ce2,.int .i64 ca2,.slice ua un uc])∧(OwnUN W13 w12.heap.size (.slice ha hn2 hc2) es2∧BoxAt W13 w.heap.size 27 3 w13.heap.size [.int .i64 ce2,.int .i64 ca2,.slice ha hn2 hc2])):=by
  refine⟨⟨HU11.1.below b1113,HU11.2.below b1113⟩,⟨hU2.below b13',?_⟩⟩
  rw[hW13];exact boxAt_new w13 _ (by have:=k12.size;omega) rfl
 have k13:Below w.heap.size w W13:=k11.trans (b1113.mono k11.size)
 clear hU2 hM2 hS13
 go_upto_region 23 with fail
 rw[←hW13]
 clear hW13 hb12 hb13 b13' b1113
 obtain⟨p0,p1,p2⟩:=HU13.1.2.c3
 obtain⟨q0,q1,q2⟩:=HU13.2.2.c3
 go_wp2_with fail
 refine(eqFilterRes_same ce2 ca2 ha hn2 hc2 ua un uc es2 _ _ W13 HU13.2.1 HU13.1.1).mono ?_
 rintro e w14 ⟨rfl,hb14⟩
 go_wp2_with fail
 go_ret
 exact⟨rfl,k13.trans (hb14.mono k13.size)⟩
end Go.Proofs.YtgnpcenpcmdlfaaGreatDoor.exParse
