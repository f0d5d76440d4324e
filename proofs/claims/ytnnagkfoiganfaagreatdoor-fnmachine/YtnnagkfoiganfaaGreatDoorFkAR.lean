import Derived.Test.YtnnagkfoiganfaaGreatDoorFkAO
import Derived.Test.YtnnagkfoiganfaaGreatDoorFkAP
namespace Go.Proofs.YtnnagkfoiganfaaGreatDoor
open Go.ChangeShapes Go.WideShapes Go.ChangeAt Go.RowKit Go.Deep XD XI XU XG XP XK XW XT XF XE XH XY _root_.List _root_.Nat
set_option linter.unusedVariables false
set_option linter.unusedSimpArgs false
set_option maxRecDepth 100000
set_option maxHeartbeats 64000000
variable {wr w' X:Ww} {L L':List Ent} {g cp off:Nat} {n:Nd} {p:Prop}
theorem yI1 n:∀(a pre b:List Ent),leafG n pre (a++b)=leafG n pre a++leafG n (pre++a) b
 | [],pre,b=>by simp[leafG]
 |c::a,pre,b=>by
  have ih:=yI1 n a (pre++ [c]) b
  simp only[List.cons_append,leafG]
  split<;>simp[ih]
theorem xAo n {es:List Ent} {i:Nat} {c:Ent} (h:es[i]?=some c):leafG n [] (es.take (i+1))=leafG n [] (es.take i)++(if keepB n (es.take i) c then [yB0 n c]else []):=by rw[List.take_add_one,h,Option.toList_some,yI1];simp only[List.nil_append,leafG]
theorem yQs n:∀(a pre:List Ent),(leafG n pre a).length<=a.length
 | [],_=>Nat.le_refl _
 |c::a,pre=>by
  have:=yQs n a (pre++ [c])
  unfold leafG
  split<;>simp<;>omega
variable {w:Ww} {b cap:Nat} {es:List Ent}
theorem LfJ.K(h:LfJ w n b off cap es g cp L wr)(hb:Below wr wr w'):LfJ w n b off cap es g cp L w':=
 ⟨h.Z.k hb h.Z.lt.2,h.A.k hb,h.j.k hb,h.low,h.k.trans (hb.mono h.k.size)⟩
theorem LfJ.push{g' cp':Nat}(h:LfJ w n b off cap es g cp L X)(hO:OwnC w' w g' cp' L')(hg:X.grownBy w' (some g)):LfJ w n b off cap es g' cp' L' w':=by have hc:Chg (λk=>k=g) X w':=Chg.M hg (λk q=>by cases q;rfl);have hgl:=h.Z.lt;have hlo:=h.low;refine⟨hO,h.A.i hc (λq=>yAc h.Z h.A qj g rfl (by rw[<-q];rfl)),h.j.i hc (by omega),hlo,?_⟩;exact h.k.grown hg h.k.size (λj hj=>by cases hj;omega)
theorem zMnB (h:p:=by
 cases kb
 .have HN:Hid (m=(leafG ⟨k,s,hi,t,lo,up,nn⟩ [] (es.take (i+1))).length/\LfJ w ⟨k,s,hi,t,lo,up,nn⟩ b off cap es g cp (leafG ⟨k,s,hi,t,lo,up,nn⟩ [] (es.take (i+1))) W):=by rw[HStep.out,HK.out,iA qj,List.append_nil];exact⟨HMl.out,HB.1⟩
  go_wp2_with fail;go_roundw;case rel=>exact⟨i+1,g,cp,m,qo,by go_num,rfl,HN.out⟩
  case measure=>go_light;simp[intOf];omega
 .obtain⟨d0,d1,d2,d3,d4⟩:=HB.2.1.c5;go_wp2_with (at_builtin;refine wpA rfl (apK yY rfl w (leafG ⟨k,s,hi,t,lo,up,nn⟩ [] (es.take i)) [c'] rfl rfl HMl.out rfl ?hO ?hc (lN ?hl) ?hb ?_));case hO=>exact HB.1.Z.k (qB) HB.1.Z.lt.2
  case hc=>exact yIn W c'
  case hl=>rw[<-HMl.out];omega
  case hb=>have:=HB.1.k.size;simp;omega
  intro g' cp' w' hO' hgr _;have HN:Hid (m+1=(leafG ⟨k,s,hi,t,lo,up,nn⟩ [] (es.take (i+1))).length/\LfJ w ⟨k,s,hi,t,lo,up,nn⟩ b off cap es g' cp' (leafG ⟨k,s,hi,t,lo,up,nn⟩ [] (es.take (i+1))) w'):=by rw[HStep.out,HK.out,iB rfl];exact⟨by rw[List.length_append,<-HMl.out];rfl,(HB.1.K (qB)).push hO' hgr⟩
  clear hO' hgr;go_wp2;go_roundw;case rel=>exact⟨i+1,g',cp',m+1,qo,by go_num,rfl,HN.out⟩
  case measure=>go_light;simp[intOf];omega):p:=h
theorem zMnA (h:p:=by
 have HK:Hid (keepB ⟨k,s,hi,t,lo,up,nn⟩ (es.take i) c=kb):=by show _=_;rw[hkb];simp only[keepB,hlenT];simp[HT.1]
 have HB:Hid (LfJ w ⟨k,s,hi,t,lo,up,nn⟩ b off cap es g cp (leafG ⟨k,s,hi,t,lo,up,nn⟩ [] (es.take i)) W/\yA W w 70 5 cb c'.five/\g<cb/\w.heap.size<cb):=by rw[HC'.out,show yB0 ⟨k,s,hi,t,lo,up,nn⟩ c=c by unfold yB0;rw[iA HT.2]];exact HB2.out
 clear hkb hlenT;exact zMnB):p:=h
theorem yTd(n:Nd)(hns:n.s.size<=maxLen)(h:CSl w b off cap es)(hl:es.length<=1048576):Calls Tryz.prog 162 #[n.v,(xy b off es.length cap)] w λe w'=>∃g cp,e=.returned (xg g (leafM n es).length cp)/\OwnC w' w g cp (leafM n es)/\Below w w w':=by
 obtain⟨N,hN⟩:=qE es.length;have HL:=qH1 hN;have HLM:Hid (leafM n es=leafG n [] (es.take N)):=by show _=_;rw[hN,List.take_length];rfl
 have HTs:Hid (∀(c:Ent)(w:Ww),(xf 119 #[n.v,c.c] w (tstB n c):Prop)):=λc w=>yTb n c w hns;obtain⟨W0,hW0⟩:=qW (xw (w.alloc (.cells n.seven.toArray 83)) #[] 70);have HJ0:Hid (LfJ w n b off cap es (w+1) 0 [] W0):=by
  have k1:Below w w (xw w n.seven.toArray 83):=qB;have k2:Below (w.alloc (.cells n.seven.toArray 83)).heap.size (xw w n.seven.toArray 83) W0:=by rw[hW0];exact qB
  have k3:=k1.trans (k2.mono k1.size);refine⟨?_,(yAa w _ qr rfl).k k2,h.k k3,h.lt,k3⟩;have:=yGa (xw w n.seven.toArray 83);rw[hW0];have e:(w.alloc (.cells n.seven.toArray 83)).heap.size=w.heap.size+1:=by simp
  rw[e]at this;exact this.mono qo
 rw[<-hN];rw[<-hN]at hl;obtain⟨k,s,hi,t,lo,up,nn⟩:=n;clear h hns;go_enter Tryz.func162,Tryz.ntmps162;go_wp2_with fail;have hW0':=hW0;simp only[Nd.seven]at hW0';rw[<-hW0'];clear hW0 hW0' hN;go_loopw[5,6] (λo iv wr=>∃(i g cp m:Nat),i<=N/\iv=(xi i)/\o=(xg g m cp)/\Hid (m=(leafG ⟨k,s,hi,t,lo,up,nn⟩ [] (es.take i)).length/\LfJ w ⟨k,s,hi,t,lo,up,nn⟩ b off cap es g cp (leafG ⟨k,s,hi,t,lo,up,nn⟩ [] (es.take i)) wr)) (λ_ iv _=>N-(intOf iv).toNat);case atStart=>exact⟨0,w+1,0,0,Nat.zero_le _,rfl,rfl,rfl,HJ0.out⟩
 case round=>
  obtain⟨i,g,cp,m,hiN,rfl,rfl,HJ⟩:=hrel;by_cases hlt:i<N
  .have zi:(i:Int)<(N:Int):=qo
   obtain⟨c,hc⟩:∃c,es[i]?=some c:=qg (qw HL.out);have HStep:Hid (leafG ⟨k,s,hi,t,lo,up,nn⟩ [] (es.take (i+1))=leafG ⟨k,s,hi,t,lo,up,nn⟩ [] (es.take i)++(if keepB ⟨k,s,hi,t,lo,up,nn⟩ (es.take i) c then [yB0 ⟨k,s,hi,t,lo,up,nn⟩ c]else [])):=xAo _ hc;have HC:=qH1 hc;have HMl:=qH1 HJ.1;have hml:m<=1048576:=by rw[HJ.1];refine Nat.le_trans (yQs _ _ _) ?_;rw[List.length_take];omega
   obtain⟨c0,c1,c2,c3,c4⟩:=HJ.2.j.U i c hc;obtain⟨W1,hW1⟩:=qE (xw wr #[c.j,c.E,c.C,xu c.ts,c.val] 70:Ww);have hb1:=qN hW1
   obtain⟨cb,hcb⟩:=qE wr;have HB1:Hid (LfJ w ⟨k,s,hi,t,lo,up,nn⟩ b off cap es g cp (leafG ⟨k,s,hi,t,lo,up,nn⟩ [] (es.take i)) W1/\yA W1 w 70 5 cb c.five/\g<cb/\w.heap.size<cb):=by refine⟨HJ.2.K hb1,?_,by rw[hcb];exact HJ.2.Z.lt.2,by rw[hcb];exact HJ.2.A.lt.2⟩;rw[hW1,hcb];exact yAa wr #[c.j,c.E,c.C,xu c.ts,c.val] HJ.2.k.size rfl
   go_upto_region 6 with fail;rw[<-hW1,<-hcb];clear hW1 hcb hb1 c0 c1 c2 c3 c4 hc;obtain⟨n0,n1,n2,n3,n4,n5,n6⟩:=HB1.1.A.c7;obtain⟨c0,c1,c2,c3,c4⟩:=HB1.2.1.c5;go_wp2_with fail;refine(HTs.out c W1).mono ?_;rintro e w2 ⟨rfl,hb2⟩;have HB2:=qH3 (HB1.1.K hb2) (HB1.2.1.k hb2) HB1.2.2;clear n0 n1 n2 n3 n4 n5 n6 c0 c1 c2 c3 c4 hb2 HB1 HJ;obtain⟨kb,htb⟩:∃tb,tb=tstB ⟨k,s,hi,t,lo,up,nn⟩ c:=⟨_,rfl⟩;have HTb:=qH1 htb;rw[<-htb];clear htb;have n0:=HB2.1.A.z (j:=0) rfl;have n6:=HB2.1.A.z (j:=6) rfl;dsimp only at n0 n6;obtain⟨c',hc'⟩:=qE (yB0 ⟨k,s,hi,t,lo,up,nn⟩ c);have HC':=qH1 hc';rw[<-hc']at HStep;clear hc';have hlenT:((es.take i).length:Int)=(i:Int):=by rw[List.length_take];have:=HL.out;omega
   have nk:∀x:Int,¬k=x->(k==x)=false:=λx h=>by rw[iC];exact h
   by_cases h12:k=12
   .have HT:Hid (k=12/\¬k=3):=⟨h12,qo⟩;have b11:=nk 11 qo;have b12:(k==12)=true:=by rw[h12];rfl
    have b13:=nk 13 qo;have b3:=nk 3 qo;clear h12 nk;obtain⟨W,hW⟩:=qE w2;go_upto_region 15 with fail;obtain⟨kb,hkb⟩:=qE (decide ((i:Int)<nn));rw[<-hkb];subst hW;exact zMnA
   by_cases h13:k=13
   .have HT:Hid (k=13/\¬k=3):=⟨h13,qo⟩;have b11:=nk 11 qo;have b12:=nk 12 qo;have b13:(k==13)=true:=by rw[h13];rfl
    have b3:=nk 3 qo;clear h13 h12 nk;obtain⟨W,hW⟩:=qE w2;go_upto_region 15 with fail;obtain⟨kb,hkb⟩:=qE (decide (nn<=(i:Int)));rw[<-hkb];subst hW;exact zMnA
   have b12:=nk 12 h12;have b13:=nk 13 h13;by_cases h11:k=11
   .have HT:Hid (k=11/\¬k=3):=⟨h11,qo⟩;have b11:(k==11)=true:=by rw[h11];rfl
    have b3:=nk 3 qo;clear h11 h12 h13 nk;have HBf:=yT9 ((HB2.1.j).k ((Below.refl w2 w2).drew)) HC.out (by rw[<-HL.out];exact hl);rw[<-HL.out]at HBf;obtain⟨bf,hbf⟩:=qE (befN (es.take i) c);have HBn:Hid (bf=befN (es.take i) c):=hbf;rw[<-hbf]at HBf;clear hbf;go_upto_region 8 with fail;refine yAe 99 (λw':Ww=>xk w' w 6 (xi nn)) qk ?_;have hS:SW (λw':Ww=>xk w' w 6 (xi nn)) w2.drew:=n6;refine ja 0 hS ?_;refine jb hS ?_;refine ja 3 hS ?_;refine jb hS ?_;refine qO 2 rfl λK hK=>?_;go_simp;refine HBf.mono ?_;rintro e W ⟨rfl,hb3⟩;have hb3:Below w2 w2 W:=((Below.refl _ _).drew).trans hb3;have HB2:Hid (LfJ w ⟨k,s,hi,t,lo,up,nn⟩ b off cap es g cp (leafG ⟨k,s,hi,t,lo,up,nn⟩ [] (es.take i)) W/\yA W w 70 5 cb c.five/\g<cb/\w.heap.size<cb):=⟨HB2.1.K hb3,HB2.2.1.k hb3,HB2.2.2⟩;have n0:=HB2.1.A.z (j:=0) rfl;have n6:=HB2.1.A.z (j:=6) rfl;dsimp only at n0 n6;have hS:=SWm hS W <|n6;clear hb3 HBf;refine hK.out _ _ (.inr hS) (jS ?_);clear hK;refine ja 5 hS ?_;refine jb hS ?_;refine qD ?_;obtain⟨kb,hkb⟩:=qE (decide ((bf:Int)<nn));rw[<-hkb];rw[HBn.out]at hkb;have HKb:=qH1 hkb;clear hkb;go_upto_region 15 with fail;have hkb:=HKb.out;exact zMnA
   have b11:=nk 11 h11;have HK:Hid (keepB ⟨k,s,hi,t,lo,up,nn⟩ (es.take i) c=kb):=by rw[HTb.out];show keepB _ _ _=_;simp only[keepB];rw[iA h11,iA h12,iA h13]
   clear hlenT h11 h12 h13;by_cases h3:k=3
   .have b3:(k==3)=true:=by rw[h3];rfl
    have f4:=HB2.2.1.frozen 4;have d4:=HB2.2.1.z (j:=4) rfl;obtain⟨W,hW⟩:=qE (xt w2 cb 4 xe:Ww);have HB:Hid (LfJ w ⟨k,s,hi,t,lo,up,nn⟩ b off cap es g cp (leafG ⟨k,s,hi,t,lo,up,nn⟩ [] (es.take i)) W/\yA W w 70 5 cb c'.five/\g<cb/\w.heap.size<cb):=by rw[hW,HC'.out];refine⟨HB2.1.set HB2.2.2.2 (by have:=HB2.2.2.1;omega) 4 _,?_,HB2.2.2⟩;unfold yB0;rw[iB h3];exact HB2.2.1.set 4 _
    clear h3 nk;go_upto_region 15 with fail;rw[<-hW];clear hW f4 d4;exact zMnB
   .have b3:=nk 3 h3;obtain⟨W,hW⟩:=qE (w2:Ww);have HB:Hid (LfJ w ⟨k,s,hi,t,lo,up,nn⟩ b off cap es g cp (leafG ⟨k,s,hi,t,lo,up,nn⟩ [] (es.take i)) W/\yA W w 70 5 cb c'.five/\g<cb/\w.heap.size<cb):=by rw[hW,HC'.out,show yB0 ⟨k,s,hi,t,lo,up,nn⟩ c=c by unfold yB0;rw[iA h3]];exact HB2.out
    subst hW;clear h3 nk;go_upto_region 15 with fail;exact zMnB
  .obtain rfl:i=N:=qo
   have zi:¬(i:Int)<(i:Int):=qo
   go_wp2_with fail;go_ret;refine⟨g,cp,?_,?_,HJ.2.k⟩
   .rw[HLM.out,<-HJ.1];rfl
   .rw[HLM.out];exact HJ.2.Z
end Go.Proofs.YtnnagkfoiganfaaGreatDoor
