import Derived.Test.YtnnagkfoiganfaaGreatDoorRkAH
namespace Go.Proofs.YtnnagkfoiganfaaGreatDoor
open Go.ChangeShapes Go.WideShapes Go.ChangeAt Go.RowKit Go.Deep XD XI XU XG XP XK XW XT XF XE XH _root_.List _root_.Nat Go.Proofs.Tryz
set_option linter.unusedVariables false
set_option linter.unusedSimpArgs false
set_option maxRecDepth 100000
set_option maxHeartbeats 40000000
def StU(w:World)(mp:Nat)(E:Nat->PS)(en:PS):Prop:=∃n,StI w mp n E en
variable {w:World} {mp:Nat} {E:Nat->PS} {en:PS}
theorem StU.chg{S:Nat->Prop}{w':World}(h:StU w mp E en)(hc:Chg S w w')(hn:¬S mp):StU w' mp E en:=by obtain⟨n,h⟩:=h;exact⟨n,h.chg hc hn⟩
def StW(base M:Nat)(T:Nat->PS)(G cp a:Nat)(E:Nat->PS)(en:PS)(mp:Nat)(S:PS)(w:World)(e:Ending)(w':World):Prop:=
 e=.returned (stV (ahd E S) (acc en S))/\Hid (MtrI w' base M T G cp a E en mp/\StU w' mp E en/\Chg (λk=>k=mp) w w')
variable {base M G cp a:Nat} {T:Nat->PS}
theorem yPd S w (h:MtrI w base M T G cp a E en mp) (hm:StU w mp E en) (hS:∀p,S p=true->p<a) (ha:a<=256) (hbm:base<=mp):Calls prog 232 #[xp M,psV S] w (StW base M T G cp a E en mp S w):=by
 obtain⟨n,D,hD⟩:=hm;cases hh:Maps.has D (psK S)with
 |true=>
  refine(yR7 S w h hD hh).mono ?_;rintro e w' ⟨rfl,H⟩;exact⟨rfl,H.1,⟨_,H.2.1⟩,H.2.2⟩
 |false=>
  refine(yX5 S w h hD hh hS ha hbm).mono ?_;rintro e w' ⟨rfl,H⟩;exact⟨rfl,H.1,⟨_,H.2.1⟩,H.2.2⟩
structure MaU(w:World)(base M:Nat)(T:Nat->PS)(G cp a:Nat)(E:Nat->PS)(en:PS)(mp b5:Nat)(S:PS)(X:World):Prop where
 mtr:MtrI X base M T G cp a E en mp
 map:StU X mp E en
 box:yA X w 330 5 b5 (stL (ahd E S) (acc en S))
 chg:Chg (λk=>k=mp) w X
theorem MaU.below{X X':World}{b5:Nat}{S:PS}(h:MaU w base M T G cp a E en mp b5 S X)(hb:Below X X X'):MaU w base M T G cp a E en mp b5 S X':=
 ⟨h.mtr.below hb,h.map.chg (S:=λ_=>False) (Chg.of_below hb) (λq=>q),h.box.below hb,h.chg.trans (Chg.of_below hb)⟩
theorem MaU.ne{X:World}{b5:Nat}{S:PS}(h:MaU w base M T G cp a E en mp b5 S X):¬M=b5/\¬G=b5/\¬mp=b5/\¬M=mp/\¬G=mp:=by obtain⟨n,D,hD⟩:=h.map;exact⟨λq=>yAb h.mtr.box h.box qj M rfl (by rw[q];rfl),λq=>yAb h.mtr.row h.box qj G rfl (by rw[q];rfl),StD.ne hD h.box,λq=>StD.ne hD h.mtr.box q.symm,λq=>StD.ne hD h.mtr.row q.symm⟩
def MaP3(base M:Nat)(T:Nat->PS)(G cp a:Nat)(E:Nat->PS)(en:PS)(mp:Nat)(s:ByteArray)(w:World)(e:Ending)(w':World):Prop:=∃b:Bool,e=.returned b/\Hid ((b=true↔acc en (runS E T (sOne 0) (sb s))=true)/\MtrI w' base M T G cp a E en mp/\StU w' mp E en/\Chg (λk=>k=mp) w w')
theorem ySt(s:ByteArray)(hs:s.size<=200) w (h:MtrI w base M T G cp a E en mp) (hm:StU w mp E en) (hT:∀b p,T b p=true->p<a) (ha0:0<a) (ha:a<=256) (hbm:base<=mp):Calls prog 218 #[xp M,s] w (MaP3 base M T G cp a E en mp s w):=by
 have HI:=qH3 h hm (by have:=h.ltM;omega:base<=w.heap.size);have HT:=qH1 hT;have ai:Hid (∀wx:World,(xf 233 #[.agg #[xu 0,xu 0,.int .u64 0,.int .u64 0],.int .i64 0] wx (psV (sOne 0)):Prop)):=λwx=>by have:=yE1 sNo 0 qo wx;rw[show sOr sNo (sOne 0)=sOne 0 by funext p;simp[sOr,sNo],yYi]at this;exact this
 have zs:¬(200:Int)<(s.size:Int):=qo
 have ah:∀p,sOne 0 p=true->p<a:=λp hp=>by
  have h0:p=0:=by simpa [sOne]using hp
  omega
 clear h hm hT;go_enter func218,ntmps218;go_wp2_with fail;refine(ai.out _).mono ?_;rintro e w1 ⟨rfl,a5⟩;have HSt:=qH1 (yPd (sOne 0) w1 (HI.1.below a5) (HI.2.1.chg (S:=λ_=>False) (Chg.of_below a5) (λq=>q)) ah ha hbm);go_wp2_with fail;refine HSt.mono ?_;rintro e w2 ⟨rfl,H2⟩;obtain⟨W3,a6⟩:=qW (w2.alloc (.cells (stL (ahd E (sOne 0)) (acc en (sOne 0))).toArray 330));have k3:Below w2 w2 W3:=by rw[a6];exact qB
 have ab:=Nat.le_trans a5.size H2.2.2.size;have aa:=(Chg.of_below a5).trans H2.2.2;obtain⟨b5,a7⟩:=qE w2.heap.size;have HW3:Hid (MaU w base M T G cp a E en mp b5 (sOne 0) W3/\w.heap.size<=b5):=by have b3:=yAa w2 (base:=w.heap.size) (t:=330) (sz:=5) (stL (ahd E (sOne 0)) (acc en (sOne 0))).toArray ab rfl;exact⟨⟨H2.1.below k3,H2.2.1.chg (S:=λ_=>False) (Chg.of_below k3) (λq=>q),by rw[a6,a7];exact b3,aa.trans (Chg.of_below k3)⟩,qo⟩
 go_upto_region 4 with fail;have a8:=a6;simp only[stL]at a8;rw[<-a8,<-a7];clear a6 a8 k3 ab aa a7 H2 HSt a5;go_wp2;go_loopw[6] (λiv wr=>∃k:Nat,k<=s.size/\iv=(xi k)/\Hid (MaU w base M T G cp a E en mp b5 (runS E T (sOne 0) ((sb s).take k)) wr)) (λiv _=>s.size-(intOf iv).toNat);case atStart=>exact⟨0,zero_le _,rfl,HW3.1⟩
 case round=>
  obtain⟨k,hk,rfl,HJ⟩:=hrel;by_cases hlt:k<s.size
  .have zk:(k:Int)<(s.size:Int):=qo
   obtain⟨x,hx⟩:∃x,(sb s)[k]?=some x:=qg (by rw[yAe];exact hlt);obtain⟨_,gx⟩:=yAr hx;obtain⟨Sk,a9⟩:=qE (runS E T (sOne 0) ((sb s).take k));have ag:=x.toNat_lt;rw[<-a9]at HJ;have HN:Hid (runS E T (sOne 0) ((sb s).take (k+1))=stp E T Sk x/\True/\runS E T (sOne 0) (sb s)=runS E T (stp E T Sk x) ((sb s).drop (k+1))):=by
    have h1:(sb s).take (k+1)=(sb s).take k++ [x]:=by rw[take_add_one,hx];rfl
    have h2:runS E T (sOne 0) ((sb s).take (k+1))=stp E T Sk x:=by rw[h1,yPk,<-a9]
    refine⟨h2,trivial,?_⟩;rw[<-h2,<-yUr,take_append_drop]
   have a2:Hid (∀X,MaU w base M T G cp a E en mp b5 Sk X->(xk X b5 0 (xu (wdN (ahd E Sk) 0))/\xk X b5 1 (xu (wdN (ahd E Sk) 1))/\xk X b5 2 (xu (wdN (ahd E Sk) 2))/\xk X b5 3 (xu (wdN (ahd E Sk) 3))/\xk X M (x.toNat*4) (xu (wdN (T x.toNat) 0))/\xk X M (x.toNat*4+1) (xu (wdN (T x.toNat) 1))/\xk X M (x.toNat*4+2) (xu (wdN (T x.toNat) 2))/\xk X M (x.toNat*4+3) (xu (wdN (T x.toNat) 3)))):=λX h=>by obtain⟨g0,g1,g2,g3,_⟩:=h.mtr.taken4 ag;exact⟨h.box.cell (j:=0) rfl,h.box.cell (j:=1) rfl,h.box.cell (j:=2) rfl,h.box.cell (j:=3) rfl,g0,g1,g2,g3⟩
   have af:Hid (∀wx:World,(xf 234 #[psV (ahd E Sk),psV (T x.toNat)] wx (psV (stp E T Sk x)):Prop)):=λwx=>by have:=yKj (ahd E Sk) (T x.toNat) wx;unfold stp;exact this
   have zx:(x.toNat:Int)<256:=qo
   have HX:=qH1 hx;clear hx a9;go_upto_region 7 with fail;refine yAf 99 (λwz=>xk wz b5 0 (xu (wdN (ahd E Sk) 0))/\xk wz b5 1 (xu (wdN (ahd E Sk) 1))/\xk wz b5 2 (xu (wdN (ahd E Sk) 2))/\xk wz b5 3 (xu (wdN (ahd E Sk) 3))/\xk wz M (x.toNat*4) (xu (wdN (T x.toNat) 0))/\xk wz M (x.toNat*4+1) (xu (wdN (T x.toNat) 1))/\xk wz M (x.toNat*4+2) (xu (wdN (T x.toNat) 2))/\xk wz M (x.toNat*4+3) (xu (wdN (T x.toNat) 3))) qk ?_;refine ja 0 (a2.out _ (HJ.below ((Below.refl _ _).drew))) ?_;iterate 9 refine jb (a2.out _ (HJ.below ((Below.refl _ _).drew))) ?_
   refine yB2 (i:=10) (j:=11) qk rfl rfl (λK hK=>?_) (λK hK=>?_)
   .go_simp;refine(af.out _).mono ?_;rintro r v3 ⟨rfl,a4⟩;have HV:=qH1 (HJ.below (((Below.refl wr wr).drew).trans a4));refine hK.out _ _ (.inr (a2.out _ HV.out)) ?_;clear hK a4;refine jS ?_;refine qO 11 rfl λK hK=>?_;go_simp;refine hK.out _ _ (.inr (a2.out _ (HV.below (by repeat (first|exact Below.refl _ _|refine Below.drew ?_|refine Below.alloc ?_ qr _|refine yAc ?_ qr _ _))))) ?_;clear hK;refine jS ?_;refine qO 12 rfl λK hK=>?_;go_simp;refine hK.out _ _ (.inr (a2.out _ (HV.below (by repeat (first|exact Below.refl _ _|refine Below.drew ?_|refine Below.alloc ?_ qr _|refine yAc ?_ qr _ _))))) ?_;clear hK;refine jS ?_;refine qD ?_;obtain⟨W4,a1⟩:=qW (xw v3 (psL (stp E T Sk x)).toArray 328);have k4:=qN a1
    have HW4:Hid (MaU w base M T G cp a E en mp b5 Sk W4/\yA W4 w 328 4 v3 (psL (stp E T Sk x))):=by have b4:=yAa v3 (base:=w.heap.size) (t:=328) (sz:=4) (psL (stp E T Sk x)).toArray HV.chg.size rfl;exact⟨HV.below k4,by rw[a1];exact b4⟩
    have a3:=a1;simp only[psL]at a3;rw[<-a3];clear a1 a3 k4;exact xG3
   .go_simp;refine hK.out _ _ (.inr (a2.out _ (HJ.below (by repeat (first|exact Below.refl _ _|refine Below.drew ?_|refine Below.alloc ?_ qr _|refine yAc ?_ qr _ _))))) ?_;clear hK;refine jS ?_;have hX:Below wr wr (wr.alloc (.cells z4 328)).drew:=(qB).drew;have ad:yA (wr.alloc (.cells z4 328)).drew w 328 4 wr z4.toList:=(yAa wr z4 HJ.chg.size rfl).below ((Below.refl _ _).drew);refine qO 10 rfl λK hK=>?_;go_simp;refine(af.out _).mono ?_;rintro r v3 ⟨rfl,a4⟩;have HV:=qH1 (HJ.below (hX.trans (a4.mono hX.size)));have a0:=qH1 (ad.below a4);have y0:=a0.cell (j:=0) rfl;have o0:=a0.frozen 0;have y1:=a0.cell (j:=1) rfl;have o1:=a0.frozen 1;have y2:=a0.cell (j:=2) rfl;have o2:=a0.frozen 2;have y3:=a0.cell (j:=3) rfl;have o3:=a0.frozen 3;have ac:∀cs:World,Chg (λj=>j=wr.heap.size) v3 cs->MaU w base M T G cp a E en mp b5 Sk cs:=λcs hc=>by
     have h:=HV.out;have hbs:=HI.2.2;have ak:=HJ.chg.size;obtain⟨_,D,hD⟩:=h.map;have n1:¬M=wr.heap.size:=qw HJ.mtr.ltM.2
     have n2:¬G=wr.heap.size:=qw HJ.mtr.ltG.2
     have n3:=StD.ne hD a0.out;have n4:¬b5=wr.heap.size:=qw HJ.box.lt.2
     exact⟨h.mtr.chg hc n1 n2 (λj q=>qo),h.map.chg hc n3,h.box.chg hc n4,yI1 h.chg (hc.mono (λj q=>qo))⟩
    have ae:=qH1 ac;refine hK.out _ _ (.inr (a2.out _ HV.out)) ?_;clear hK a4 hX ad ac;refine jS ?_;refine kO 12 (a2.out _ (ae.out _ ((((Chg.of_set (S:=λj=>j=wr.heap.size) _ wr 0 _ rfl).trans (Chg.of_set (S:=λj=>j=wr.heap.size) _ wr 1 _ rfl)).trans (Chg.of_set (S:=λj=>j=wr.heap.size) _ wr 2 _ rfl)).trans (Chg.of_set (S:=λj=>j=wr.heap.size) _ wr 3 _ rfl)))) ?_;refine qD ?_;obtain⟨W4,a1⟩:=qW (set4 v3 wr 0 (stp E T Sk x));have HW4:Hid (MaU w base M T G cp a E en mp b5 Sk W4/\yA W4 w 328 4 wr (psL (stp E T Sk x))):=by
     have hc:Chg (λj=>j=wr.heap.size) v3 W4:=by rw[a1];exact yBa _ _ _ _ rfl
     have b4:=yFo a0.out 0 (stp E T Sk x);rw[<-a1]at b4;exact⟨ae.out _ hc,b4⟩
    have a3:=a1;simp only[set4,Nat.zero_add]at a3;rw[<-a3];clear a1 a3 y0 y1 y2 y3 o0 o1 o2 o3;exact xG3
  .obtain rfl:k=s.size:=qo
   have zk:¬(s.size:Int)<(s.size:Int):=qo
   have r4:=HJ.box.cell (j:=4) rfl;have aj:Hid ((sb s).take s.size=sb s):=by show _=_;rw[<-yAe,take_length]
   go_wp2;go_ret;exact⟨_,rfl,by rw[aj.out],HJ.mtr,HJ.map,HJ.chg⟩
end Go.Proofs.YtnnagkfoiganfaaGreatDoor
