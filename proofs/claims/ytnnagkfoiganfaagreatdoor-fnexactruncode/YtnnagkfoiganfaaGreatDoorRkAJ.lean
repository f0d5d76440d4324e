import Derived.Test.YtnnagkfoiganfaaGreatDoorRkAF
import Derived.Test.YtnnagkfoiganfaaGreatDoorRkAG
namespace Go.Proofs.YtnnagkfoiganfaaGreatDoor
open Go.ChangeShapes Go.WideShapes Go.ChangeAt Go.RowKit Go.Deep XD XI XU XG XP XK XW XT XF XE XH _root_.List _root_.Nat Go.Proofs.Tryz
set_option linter.unusedVariables false
set_option linter.unusedSimpArgs false
set_option maxRecDepth 100000
set_option maxHeartbeats 40000000
theorem yJ8(k:Int) w:Calls prog 141 #[xi k] w (yH3 (cntK k) w):=by
 go_enter func141,ntmps141;go_wp2_with fail;all_goals go_ret
 all_goals exact⟨_,rfl,by simp_all[cntK],Below.refl _ _⟩
theorem yVb(o a b:Int)(f:Bool)(k:Int)(s:ByteArray)(h:Bool)(t:ByteArray)(l u n:Int)(o' a' b':Int)(f':Bool)(k':Int)(s':ByteArray)(h':Bool)(t':ByteArray)(l' u' n':Int)(wx:World):
  (binOp .eql 153 (.agg #[xi o,xi a,xi b,f,xi k,s,h,t,xu l,xu u,xi n]) (.agg #[xi o',xi a',xi b',f',xi k',s',h',t',xu l',xu u',xi n'])).run prog wx=.ok (decide (o=o'/\a=a'/\b=b'/\f=f'/\k=k'/\s.toList=s'.toList/\h=h'/\t.toList=t'.toList/\l=l'/\u=u'/\n=n')) wx:=by
 go_simp;by_cases q0:o=o';case neg=>(rw[if_neg q0];simp[q0])
 rw[if_pos q0];by_cases q1:a=a';case neg=>(rw[if_neg q1];simp[q1])
 rw[if_pos q1];by_cases q2:b=b';case neg=>(rw[if_neg q2];simp[q2])
 rw[if_pos q2];by_cases q3:f=f';case neg=>(rw[if_neg q3];simp[q3])
 rw[if_pos q3];by_cases q4:k=k';case neg=>(rw[if_neg q4];simp[q4])
 rw[if_pos q4];by_cases q5:s.toList=s'.toList;case neg=>(rw[if_neg q5];simp[q5])
 rw[if_pos q5];by_cases q6:h=h';case neg=>(rw[if_neg q6];simp[q6])
 rw[if_pos q6];by_cases q7:t.toList=t'.toList;case neg=>(rw[if_neg q7];simp[q7])
 rw[if_pos q7];by_cases q8:l=l';case neg=>(rw[if_neg q8];simp[q8])
 rw[if_pos q8];by_cases q9:u=u';case neg=>(rw[if_neg q9];simp[q9])
 rw[if_pos q9];by_cases q10:n=n';case neg=>(rw[if_neg q10];simp[q10])
 rw[if_pos q10];simp[q0,q1,q2,q3,q4,q5,q6,q7,q8,q9,q10]
theorem yQi(o a b:Int)(f:Bool)(k:Int)(s:ByteArray)(h:Bool)(t:ByteArray)(l u n:Int):∃B:Bool,(B=true↔b=0)/\∀wx,(binOp .eql 153 (.agg #[xi o,xi a,xi b,f,xi k,s,h,t,xu l,xu u,xi n]) (.agg #[xi o,xi a,xi 0,f,xi k,s,h,t,xu l,xu u,xi n])).run prog wx=.ok B wx:=
 ⟨_,by simp,λwx=>yVb o a b f k s h t l u n o a 0 f k s h t l u n wx⟩
theorem yD2(o a b:Int)(f:Bool)(k:Int)(s:ByteArray)(h:Bool)(t:ByteArray)(l u n:Int)(a' b':Int):∃B:Bool,(B=true↔a=a'/\b=b'/\f=false/\NoNd ⟨k,s,h,t,l,u,n⟩)/\∀wx,(binOp .eql 153 (.agg #[xi o,xi a,xi b,f,xi k,s,h,t,xu l,xu u,xi n]) (.agg #[xi o,xi a',xi b',false,xi 0,xe,false,xe,xu 0,xu 0,xi 0])).run prog wx=.ok B wx:=
 ⟨_,by
   have hE:=yKg
   rw[decide_eq_true_eq,hE]
   simp only[true_and]
   exact Iff.rfl,λwx=>yVb o a b f k s h t l u n o a' b' false 0 ⟨#[]⟩ false ⟨#[]⟩ 0 0 0 wx⟩
def yKz(x:Ix)(cnt:Int):Prop:=yFk [x.leaf]/\((cntK x.leaf.kind/\0<=x.a/\x.a<cnt)\/(¬cntK x.leaf.kind/\x.a=0))
theorem yF4(x:Ix)(v:Value)(cnt:Int) w (hv:v.cells=#[v]) (ho:x.ok):Calls prog 166 #[.agg #[v,xi cnt],x.v] w (yH3 (yKz x cnt) w):=by
 obtain⟨P,hP⟩:=qE (yKz x cnt:Prop);rw[<-hP];have HO:=ho;obtain⟨op,a,b,free,⟨kind,s,hi,t,lo,up,nn⟩⟩:=x;have HP:Hid (P↔yKz ⟨op,a,b,free,⟨kind,s,hi,t,lo,up,nn⟩⟩ cnt):=by show P↔_;rw[hP]
 clear ho hP;obtain⟨W0,a0⟩:=qE (xw (w.alloc (Obj.cells #[v,xi cnt] 32)) #[xi op,xi a,xi b,free,xi kind,s,hi,t,xu lo,xu up,xi nn] 153:World);have a6:Below w w W0:=by rw[a0];exact(qB).alloc (by simp) _
 have a9:W0.heap.size=w.heap.size+1+1:=by rw[a0];simp
 have HK:Hid (∀wx,Below W0 W0 wx->xk wx w 1 (xi cnt)/\xk wx (w+1) 0 (xi op)/\xk wx (w+1) 1 (xi a)/\xk wx (w+1) 2 (xi b)/\xk wx (w+1) 3 free/\xk wx (w+1) 4 (xi kind)/\xk wx (w+1) 5 s/\xk wx (w+1) 6 hi/\xk wx (w+1) 7 t/\xk wx (w+1) 8 (xu lo)/\xk wx (w+1) 9 (xu up)/\xk wx (w+1) 10 (xi nn)):=by
  intro wx hx;refine⟨?_,?_,?_,?_,?_,?_,?_,?_,?_,?_,?_,?_⟩
  .rw[hx.cell (p:=(xd w 1)) (by show w.heap.size<_;omega),a0];simp[go_sem]
  all_goals rw[hx.cell (by show w.heap.size+1<_;omega),a0]
  all_goals simp[go_sem]
 obtain⟨b1,c0,c1,c2,c3,c4,c5,c6,c7,c8,c9,c10⟩:=HK.out W0 (Below.refl _ _);go_enter func166,ntmps166;go_upto_region 1 with fail;rw[<-a0];clear a0;obtain⟨W1,a3⟩:=qE (xw W0 #[xi kind,s,hi,t,xu lo,xu up,xi nn] 83:World);have a5:=qN a3
 have ab:Hid (yC7 W1 (w+1+1) (w+1+1) 1 [⟨kind,s,hi,t,lo,up,nn⟩]):=by rw[a3,<-a9];exact yPr W0 ⟨kind,s,hi,t,lo,up,nn⟩
 go_wp2_with fail;rw[<-a3];clear a3 b1 c0 c1 c2 c3 c4 c5 c6 c7 c8 c9 c10;refine(yJ6 ab.out (λe he=>by simp at he;subst he;exact HO.leaf)).mono ?_;rintro e w2 ⟨r,rfl,hr,hb2⟩;have HR:=qH1 hr;have k2:=a5.trans (hb2.mono a5.size);have a8:=a6.trans (k2.mono qo);obtain⟨b1,c0,c1,c2,c3,c4,c5,c6,c7,c8,c9,c10⟩:=HK.out w2 k2;clear hr;cases r
 case false=>have HG:Hid (¬P):=λq=>Bool.noConfusion (HR.2 (HP.1 q).1);exact zR a8
 case true=>
 have a7:Hid (yFk [⟨kind,s,hi,t,lo,up,nn⟩]):=HR.1 rfl;clear HR;go_wp2_with fail;refine(yJ8 kind _).mono ?_;rintro e w3 ⟨q,rfl,hq,aa⟩;have HQ:Hid (q=true↔cntK kind):=hq;have k3:Below W0 W0 w3:=k2.trans (aa.mono k2.size);have a1:Below w w w3:=a6.trans (k3.mono qo);clear hq b1 c0 c1 c2 c3 c4 c5 c6 c7 c8 c9 c10;obtain⟨b1,c0,c1,c2,c3,c4,c5,c6,c7,c8,c9,c10⟩:=HK.out w3 k3;cases q
 case false=>
  have a2:¬cntK kind:=λz=>Bool.noConfusion (HQ.2 z);by_cases ha:a=0
  .have HG:Hid P:=HP.2 ⟨a7.out,.inr ⟨a2,ha⟩⟩;clear a2;go_wp2_with fail;go_ret;exact⟨_,rfl,by simp[HG.out,ha],a1⟩
  .have HG:Hid (¬P):=λz=>by
    rcases(HP.1 z).2 with y|y
    .exact a2 y.1
    .exact ha y.2
   clear a2;go_wp2_with fail;go_ret;exact⟨_,rfl,by simp[HG.out,ha],a1⟩
 case true=>
  have a4:cntK kind:=HQ.1 rfl;have HF:Hid (P↔0<=a/\a<cnt):=by
   show P↔_;rw[HP.out];constructor
   .intro z;rcases z.2 with y|y
    .exact y.2
    .exact absurd a4 y.1
   .intro z;exact⟨a7.out,.inl ⟨a4,z⟩⟩
  clear a4;by_cases p0:0<=a;case neg=>
   have HG:Hid (¬P):=λz=>p0 (HF.1 z).1;go_wp2_with fail;go_ret;exact⟨_,rfl,by simp[HG.out,p0],a1⟩
  by_cases p1:a<cnt
  .have HG:Hid P:=HF.2 ⟨p0,p1⟩;go_wp2_with fail;go_ret;exact⟨_,rfl,by simp[HG.out,p0,p1],a1⟩
  .have HG:Hid (¬P):=λz=>p1 (HF.1 z).2;go_wp2_with fail;go_ret;exact⟨_,rfl,by simp[HG.out,p0,p1],a1⟩
theorem yMz(x:Bk)(k:Nat)(conds:Nat)(y:Ix) w (h:yAy w x.v x.l) (hy:x.l[k]?=some y) (ho:y.ok):Calls prog 115 #[x.val,xi k,xi conds] w (yH3 (yCy y k x.l.length x.cnt conds) w):=by
 obtain⟨P,hP⟩:=qE (yCy y k x.l.length x.cnt conds:Prop);rw[<-hP];have HO:Hid y.ok:=ho;obtain⟨v,cnt,l⟩:=x;obtain⟨op,a,b,free,⟨kind,s,hi,t,lo,up,nn⟩⟩:=y;have HP:Hid (P↔yCy ⟨op,a,b,free,⟨kind,s,hi,t,lo,up,nn⟩⟩ k l.length cnt conds):=by show P↔_;rw[hP]
 have a5:=qf hy;simp only at a5 h;obtain⟨b0,off,cap,a7,HE,a2,a9⟩:∃b0 off cap,v=.slice (some ⟨b0,off,none⟩) l.length cap/\Hid (yB5 w b0 off l)/\b0<w.heap.size/\(l.length<=cap/\cap<=maxLen):=by
  rcases h with⟨a,a6,hq,hl⟩|⟨b,off,a6,hq,hE,a2,h1,h2⟩
  .subst hl;simp at a5
  .exact⟨b,off,a6,hq,hE,a2,h1,h2⟩
 subst a7;have HY:Hid (l[k]?=some ⟨op,a,b,free,⟨kind,s,hi,t,lo,up,nn⟩⟩):=hy;have zk:(k:Int)<(l.length:Int):=qo
 unfold maxLen at a9;clear h hy ho hP;obtain⟨W0,a0⟩:=qE (xw w #[.slice (some ⟨b0,off,none⟩) l.length cap,xi cnt] 32:World);have hb0:=qN a0
 have a4:=qS a0
 obtain⟨c0,c1,c2,c3,c4,c5,c6,c7,c8,c9,c10⟩:=(HE.below hb0 a2) k _ HY.out;have m0:(xk W0 w 0 (.slice (some ⟨b0,off,none⟩) l.length cap):Prop):=by rw[a0];simp
 have m1:(xk W0 w 1 (xi cnt):Prop):=by rw[a0];simp
 obtain⟨W1,a1⟩:=qE (xw W0 #[xi op,xi a,xi b,free,xi kind,s,hi,t,xu lo,xu up,xi nn] 153:World);have a3:=qN a1
 have ab:W1.heap.size=w.heap.size+1+1:=by rw[a1];simp[a4]
 have kw1:Below w w W1:=hb0.trans (a3.mono qo);obtain⟨n0,n1,x0,x1,x2,x3,x4,x5,x6,x7,x8,x9,aa⟩:xk W1 w 0 (.slice (some ⟨b0,off,none⟩) l.length cap)/\xk W1 w 1 (xi cnt)/\xk W1 (w+1) 0 (xi op)/\xk W1 (w+1) 1 (xi a)/\xk W1 (w+1) 2 (xi b)/\xk W1 (w+1) 3 free/\xk W1 (w+1) 4 (xi kind)/\xk W1 (w+1) 5 s/\xk W1 (w+1) 6 hi/\xk W1 (w+1) 7 t/\xk W1 (w+1) 8 (xu lo)/\xk W1 (w+1) 9 (xu up)/\xk W1 (w+1) 10 (xi nn):=by
  refine⟨by rw[a3.cell (p:=(xd w 0)) (by show w.heap.size<_;omega)];exact m0,by rw[a3.cell (p:=(xd w 1)) (by show w.heap.size<_;omega)];exact m1,?_,?_,?_,?_,?_,?_,?_,?_,?_,?_,?_⟩;all_goals rw[a1,<-a4]
  all_goals simp
 go_enter func115,ntmps115;go_upto_region 1 with fail;rw[<-a0];clear a0;go_upto_region 2 with fail;rw[<-a1];clear a1 m0 m1 c0 c1 c2 c3 c4 c5 c6 c7 c8 c9 c10;have a8:∀(Q:Prop),Hid (P↔Q)->Hid (P↔Q):=λ_ h=>h;clear a8;by_cases hkb:(k:Int)<b;case neg=>
  exact zzQ9
 by_cases hbn:b<=(l.length:Int);case neg=>
  exact zzQ9
 by_cases h1:op=1;case pos=>
  subst h1;obtain⟨B,hB,hq⟩:=yQi 1 a b free kind s hi t lo up nn;have HB:Hid (B=true↔b=0):=hB;clear hB;cases B
  case false=>have HG:Hid (¬P):=λq=>Bool.noConfusion (HB.2 (yGc.1 (HP.1 q)).2.1);exact zR kw1
  case true=>
  go_wp2_with fail;refine(yF4 ⟨1,a,b,free,⟨kind,s,hi,t,lo,up,nn⟩⟩ _ cnt _ rfl HO.out).mono ?_;rintro e w3 ⟨r,rfl,hr,hb3⟩;have HR:Hid (r=true↔yKz ⟨1,a,b,free,⟨kind,s,hi,t,lo,up,nn⟩⟩ cnt):=hr;have k3w:Below w w w3:=kw1.trans (hb3.mono qo);have HG:Hid (r=true↔P):=by show r=true↔P;rw[HR.out,HP.out,yGc];have hb0:b=0:=HB.1 (by simp);simp only[yKz,hb0,true_and]
  clear hr;go_wp2_with fail;go_ret;exact⟨_,rfl,HG.out,k3w⟩
 by_cases h5:op=5;case pos=>
  subst h5;obtain⟨B,hB,hq⟩:=yD2 5 a b free kind s hi t lo up nn a b;have HB:Hid (B=true↔(free=false/\NoNd ⟨kind,s,hi,t,lo,up,nn⟩)):=by show B=true↔_;rw[hB];simp only[true_and]
  clear hB;cases B
  case false=>have HG:Hid (¬P):=λq=>Bool.noConfusion (HB.2 (yKb.1 (HP.1 q)).1);exact zR kw1
  case true=>
  have HF:Hid (P↔0<=a/\a<(conds:Int)):=by show P↔_;rw[HP.out,yKb];exact⟨λz=>⟨z.2.1,z.2.2.1⟩,λz=>⟨HB.1 rfl,z.1,z.2,hkb,hbn⟩⟩
  by_cases p0:0<=a;case neg=>
   have HG:Hid (¬P):=λz=>p0 (HF.1 z).1;go_wp2_with fail;go_ret;exact⟨_,rfl,by simp[HG.out,p0],kw1⟩
  by_cases p1:a<(conds:Int);case neg=>
   have HG:Hid (¬P):=λz=>p1 (HF.1 z).2;go_wp2_with fail;go_ret;exact⟨_,rfl,by simp[HG.out,p0,p1],kw1⟩
  have HG:Hid P:=HF.2 ⟨p0,p1⟩;go_wp2_with fail;go_ret;exact⟨_,rfl,by simp[HG.out,p0,p1],kw1⟩
 by_cases h6:op=6;case pos=>
  subst h6;obtain⟨B,hB,hq⟩:=yD2 6 a b free kind s hi t lo up nn 0 b;have HB:Hid (B=true↔(a=0/\free=false/\NoNd ⟨kind,s,hi,t,lo,up,nn⟩)):=by show B=true↔_;rw[hB];simp only[true_and]
  clear hB;cases B
  case false=>
   have HG:Hid (¬P):=λq=>by have z:=yKa.1 (HP.1 q);exact Bool.noConfusion (HB.2 ⟨z.2.1,z.1⟩)
   exact zR kw1
  case true=>
  have HG:Hid P:=HP.2 (yKa.2 ⟨(HB.1 rfl).2,(HB.1 rfl).1,hkb,hbn⟩);exact zR kw1
 by_cases h2:2<=op/\op<=4;case pos=>
  obtain⟨B,hB,hq⟩:=yD2 op a b free kind s hi t lo up nn 0 0;have HG:Hid (B=true↔P):=by show B=true↔P;rw[hB,HP.out,yK h1 h5 h6];exact⟨λz=>⟨h2,z.2.2,z.1,z.2.1⟩,λz=>⟨z.2.2.1,z.2.2.2,z.2.1⟩⟩
  clear hB;have h3:op=2\/op=3\/op=4:=qo
  clear h1 h5 h6 h2;rcases h3 with rfl|rfl|rfl;all_goals go_wp2_with fail
  all_goals go_ret
  all_goals exact⟨_,rfl,HG.out,kw1⟩
 have HG:Hid (¬P):=λq=>h2 ((yK h1 h5 h6).1 (HP.1 q)).1;have h22:¬op=2:=qo
 have h23:¬op=3:=qo
 have h24:¬op=4:=qo
 clear h2;exact zR kw1
variable {ds:List Int} {k:Nat} {x:Ix} {e:Int}
theorem yFn(h:ds[k]?=some e):yC2 ds k x=if e<least x.op\/250<e+more x.op then none else yB1 (e+more x.op) (ways k x) ds:=by unfold yC2;rw[h]
theorem yN(h:ds[k]?=some e)(hl:e<least x.op):yC2 ds k x=none:=by rw[yFn h,if_pos (.inl hl)]
variable {j:Nat} {d:Int} {js:List Nat}
theorem yJo{e1:Int}(hk:ds[k]?=some e)(hl:¬e<least x.op)(hd:d=e+more x.op)(h1:1<=d)(hj:ds[j]?=some e1)(hw:ways k x=j::js):
  (((e1=0\/e1=d)/\1<=d/\d<=250)->yC2 ds k x=yB1 d js (ds.set j d))/\(¬((e1=0\/e1=d)/\1<=d/\d<=250)->yC2 ds k x=none):=by
 subst hd;refine⟨λh=>?_,λh=>?_⟩
 .rw[yFn hk,if_neg qo,hw,yB1,yJp hj h.1];rfl
 .by_cases h2:250<e+more x.op
  .rw[yFn hk,if_pos (.inr h2)]
  .rw[yFn hk,if_neg qo,hw,yB1,yNx hj (λq=>h ⟨q,h1,qo⟩)];rfl
variable {cnt:Int}
theorem yG3{l:List Ix}{conds:Nat}(h:yC6 l k=some ds)(hx:l[k]?=some x)(hs:yC2 ds k x=none):¬yBe l cnt conds:=λq=>
 yHm q (k:=k+1) (qw (qf hx)) (by rw[yD3 h hx,hs])
structure yUb(l:List Ix)(cnt:Int)(conds k:Nat)(ds:List Int):Prop where
 flow:yC6 l k=some ds
 good:∀(j:Nat)(x:Ix),j<k->l[j]?=some x->yCy x j l.length cnt conds
theorem yUb.next{l:List Ix}{conds:Nat}{ds':List Int}(h:yUb l cnt conds k ds)(hx:l[k]?=some x)(hg:yCy x k l.length cnt conds)(hs:yC2 ds k x=some ds'):yUb l cnt conds (k+1) ds':=
 ⟨by rw[yD3 h.flow hx,hs],λj y hj hy=>by
  by_cases e:j=k
  .subst e;rw[hx]at hy;cases hy;exact hg
  .exact h.good j y qo hy⟩
theorem yUb.end{l:List Ix}{conds:Nat}(h:yUb l cnt conds l.length ds)(h1:1<=l.length)(h2:l.length<=4000)(h3:0<=cnt)(h4:cnt<=200)(he:ds[l.length]?=some e):yBe l cnt conds↔e=1:=by
 constructor
 .rintro⟨_,_,_,_,_,a0,hf,hd⟩;rw[h.flow]at hf;cases hf
  rw[he]at hd;exact Option.some.inj hd
 .intro q;subst q;exact⟨h1,h2,h3,h4,λk x hx=>h.good k x (qf hx) hx,ds,h.flow,he⟩
theorem Tryz.infoI64:(prog.info? 2).map (λi=>(i.zero,i.size,i.bytes))=some (some (.int .i64 0),1,8):=qk
theorem yHb{ops:Array Oper}{rest:List Oper}{oo:Oper}{a:Act}{Q:Exit->Act->World->Prop}(w:World)(hgd:oo.guard=none) s x
  (ho:oo.op=.call {callee:=.builtin .append,args:=#[s,x],argTypes:=#[189,189]})
  (base gq cp n b m cx:Nat) (us vs:List Int) (hs:a.eval s=(xg gq n cp)) (hx:a.eval x=(xg b m cx)) (hn:n=us.length) (hm:m=vs.length) (hO:OwnZ 2 w base gq cp us .i64)
  (hc:∀(j:Nat) v,vs[j]?=some v->w.cell? (xd b j)=some (.int .i64 v)) (hlen:us.length+vs.length<=10000) (hbase:base<=w.heap.size)
  (h:∀g' cp' w',OwnZ 2 w' base g' cp' (us++vs) .i64->w.grownBy w' (some gq)->wpList prog ops Q rest (a.put oo.dst (.slice (some ⟨g',0,none⟩) (n+m) cp')) w'):wpList prog ops Q (oo::rest) a w:=by
 subst hn hm;obtain⟨i,hi,a3,a2,a1⟩:=info_parts Tryz.infoI64;refine wpList_append_own_at w hgd s x 189 ho base 2 i _ 1 8 underlying189 hi a3 a2 a1 rfl qj (xg gq us.length cp) us.length (us.map λd=>(xi d)) hs hO (xd b 0) vs.length cx (vs.map λd=>(xi d)) hx (by simp) ?_ ?_ ?_ ?_ hbase ?_
 .intro j u hu;rw[getElem?_map]at hu;cases hq:vs[j]? with
  |none=>rw[hq]at hu;cases hu
  |some d=>rw[hq]at hu;obtain rfl:=Option.some.inj hu;rw[Addr.add_mid,Nat.zero_add];exact hc j d hq
 .intro v hv;obtain⟨d,_,rfl⟩:=List.mem_map.1 hv;rfl
 .unfold maxLen;omega
 .omega
 .intro v' w' a0 a5 a4 a8;rcases a0.2 with⟨h0,_⟩|⟨g',a6,cur,hv,_,_,hn,a7,_,_⟩
  .have:=(a4.1 h0).1;cases this
  .subst hv;refine h g' a6 w' ?_ a5;unfold OwnZ;rw[length_append,map_append];exact a0
theorem xBb(k:Nat):(1:Int)::(List.replicate k 0++ [0])=1::List.replicate (k+1) 0:=by congr 1;rw[replicate_succ']
theorem xBo{l:List Ix}{e1:Int}{r:Bool}(js:List Nat)(_:l[k]?=some x)(hk:ds[k]?=some e)(hl:¬e<least x.op)(hd:d=e+more x.op)(h1:1<=d)(hj:ds[j]?=some e1)(hw:ways k x=j::js)(hr:r=true↔((e1=0\/e1=d)/\1<=d/\d<=250)):(r=true->yC2 ds k x=yB1 d js (ds.set j d))/\(r=false->yC2 ds k x=none):=
 have h:=yJo hk hl hd h1 hj hw
 ⟨λq=>h.1 (hr.1 q),λq=>h.2 λz=>by rw[hr.2 z]at q;cases q⟩
variable {p:Prop}
theorem zKl(h:p:=by have HG:Hid (¬P):=λq=>yG3 HJ.1.flow HX.1 (yN HD.out (by simp[least];omega)) (HP.1 q);exact zR k3w):p:=h
theorem zBn (h:p:=by
 obtain⟨e1,he1⟩:∃e1,ds[k+1]?=some e1:=qg (qw HLn.out)
 have HE1:=qH1 he1;clear he1;go_wp2_with fail
 try any_goals (exfalso;omega)
 refine(HNt.out _ ds (k+1) _ _ e1 HO3.out HLn.out (by omega) HE1.out).mono ?_;rintro e w4 ⟨r2,rfl,hr2,hO4,hC4⟩
 have HS:=qH1 (xBo [] HX.1 HD.out (by simp[least];omega) (by simp[more]<;>omega) (by omega) HE1.out (by simp[ways]) hr2)
 have HR2:=qH1 hO4;have hC24:=hC3.trans hC4;have kw4:=Chg.below kw3 hC4 kw3.size (λq hq=>by omega);have k4w:=hb0.trans (kw4.mono (by omega));clear hr2 hO4 x0 x1 x2 x3 x4 x5 x6 x7 x8 x9 x10;obtain⟨x0,x1,x2,x3,x4,x5,x6,x7,x8,x9,x10⟩:=HX2.out w4 hC24;cases r2
 .have HG:Hid (¬P):=λq=>yG3 HJ.1.flow HX.1 (HS.2 rfl) (HP.1 q);exact zR k4w
 go_wp2_with fail;refine(yE9 _ _).mono ?_;rintro e w5 ⟨r3,rfl,hr3,hb5⟩;have hC25:=hC24.trans (Chg.of_below hb5);have kw5:=kw4.trans (hb5.mono kw4.size);clear x0 x1 x2 x3 x4 x5 x6 x7 x8 x9 x10;obtain⟨x0,x1,x2,x3,x4,x5,x6,x7,x8,x9,x10⟩:=HX2.out w5 hC25
 obtain rfl:r3=false:=by cases r3;rfl;exact absurd (hr3.1 rfl) (by omega)
 clear hr3;have HN:=qH2 (HJ.1.next HX.1 HGI.out (by rw[HS.1 (by simp)];rfl)) ((HR2.out (by simp)).below hb5);exact xIh):p:=h
theorem zBa (h:p:=by
 by_cases hd0:d=0
 .exact zKl
 have hdz:=qn hd0;by_cases hd1:d<2<;>first|exact zKl|exact zBn):p:=h
theorem yFa(x:Bk)(conds:Nat)(w:World)(h:yAy w x.v x.l)(ho:x.ok)(hcd:conds<=1000):Calls prog 51 #[x.val,.int .i64 conds] w (yH3 (yBe x.l x.cnt conds) w):=by
 obtain⟨P,hP⟩:=qE (yBe x.l x.cnt conds:Prop);rw[<-hP];obtain⟨v,cnt,l⟩:=x;have HP:Hid (P↔yBe l cnt conds):=by show P↔_;rw[hP]
 have hu:=h.cells;simp only at hu;have HH:=qH2 h ho.ins;obtain⟨va,cap,ar⟩:∃va cap,v=.slice va l.length cap:=by
  rcases h with⟨a,cap,hq,hl⟩|⟨b,off,cap,hq,_⟩
  .simp only at hq hl;subst hl;exact⟨_,_,hq⟩
  .exact⟨_,_,hq⟩
 subst ar;clear h ho hP;obtain⟨W0,a4⟩:=qW (xw w #[.slice va l.length cap,xi cnt] 32);have hb0:=qN a4
 have ah:w.heap.size<W0.heap.size:=by rw[a4];simp
 have HK:Hid (∀wx,Below W0 W0 wx->xk wx w 0 (.slice va l.length cap)/\xk wx w 1 (xi cnt)):=by intro wx hx;rw[hx.cell (p:=(xd w 0)) ah,hx.cell (p:=(xd w 1)) ah,a4];exact⟨by simp,by simp⟩
 obtain⟨k0,k1⟩:=HK.out W0 (Below.refl _ _);go_enter func51,ntmps51;go_upto_region 1 with fail;rw[<-a4];clear a4;by_cases p0:1<=l.length;case neg=>
  have z:(l.length:Int)<1:=qo
  exact xAl
 have z0:¬(l.length:Int)<1:=qo
 by_cases p1:l.length<=4000;case neg=>
  exact xF4
 have z1:¬(4000:Int)<(l.length:Int):=qo
 by_cases p2:0<=cnt;case neg=>
  exact xCx
 have z2:¬cnt<0:=qo
 by_cases p3:cnt<=200;case neg=>
  exact xC1
 have z3:¬200<cnt:=qo
 obtain⟨b0,off,au,HE⟩:∃b0 off,va=some ⟨b0,off,none⟩/\Hid (∀wx,Below W0 W0 wx->yB5 wx b0 off l):=by
  rcases HH.1 with⟨a,aB,hq,hl⟩|⟨b,off,aB,hq,hE,a7,h1,h2⟩
  .subst hl;simp at p0
  .cases hq
   exact⟨b,off,rfl,λwx hx=>(hE.below hb0 a7).below hx qo⟩
 subst au;obtain⟨W1,a8⟩:=qW (xw W0 #[xi 1] 2);have ay:=qN a8
 have aC:Hid (OwnZ 2 W1 W0 W0 1 (1::List.replicate 0 0) .i64):=by rw[a8];exact World.ownsRow_lit W0 #[xi 1] 1 qr qj rfl
 go_upto_region 5 with fail;rw[<-a8];clear a8 k0 k1;go_wp2;go_loopw[6,7] (λd i wr=>∃(k g cp:Nat),k<=l.length/\i=(xi k)/\d=(xg g (k+1) cp)/\Hid (OwnZ 2 wr W0 g cp (1::List.replicate k 0) .i64)/\Below W0 W0 wr) (λ_ i _=>l.length-(intOf i).toNat);case atStart=>exact⟨0,_,_,zero_le _,rfl,rfl,aC,ay⟩
 case round=>
  obtain⟨k,g,cp,hk,rfl,rfl,HO,hb⟩:=hrel;have sb:=hb.size;by_cases a7:k<l.length
  .have zk:(k:Int)<(l.length:Int):=qo
   have ba:Below wr wr (xw wr #[xi 0] 2):=qB;have an:=qH1 (HO.below ba);go_wp2_with (at_builtin;refine yHb _ rfl _ _ rfl W0 g cp (k+1) wr 1 1 (1::List.replicate k 0) [0] rfl rfl (by simp) rfl an.out ?hc ?hl ?hb ?_);case hc=>intro j d hd;(have hj:j=0:=by(have:=qf hd;simp at this;omega));subst hj;obtain rfl:=Option.some.inj hd;simp
   case hl=>simp;omega
   case hb=>simp;omega
   intro g' am w' af aj;have aD:Hid (OwnZ 2 w' W0 g' am (1::List.replicate (k+1) 0) .i64):=by rw[xBb]at af;exact af
   have b1:=hb.trans (ba.mono sb);have aA:=b1.grown aj b1.size (λj hj=>by have:=an.lt.1;cases hj;omega);clear af aj;refine zY ?_;exact⟨k+1,g',am,qo,by go_num,rfl,aD,aA⟩
  .have zk:¬(k:Int)<(l.length:Int):=qo
   have ad:k=l.length:=qo
   subst ad;have aE:Hid (yUb l cnt conds 0 (1::List.replicate l.length 0)):=⟨rfl,λj x hj=>qo⟩;go_wp2;go_loopw[8] (λi wr=>∃(k:Nat)(ds:List Int),k<=l.length/\i=(xi k)/\Hid (yUb l cnt conds k ds/\OwnZ 2 wr W0 g cp ds .i64)/\Below W0 W0 wr) (λi _=>l.length-(intOf i).toNat);case atStart=>exact⟨0,_,zero_le _,rfl,⟨aE.out,HO.out⟩,hb⟩
   case round=>
    obtain⟨k,ds,hk,rfl,HJ,hb⟩:=hrel;have ak:=(yHn HJ.1.flow).len;obtain⟨k0,k1⟩:=HK.out wr hb;by_cases a7:k<l.length
    .have zk:(k:Int)<(l.length:Int):=qo
     have aF:(k:Int)<(l.length:Int)+1:=qo
     obtain⟨x,hx⟩:∃x,l[k]?=some x:=qg a7;obtain⟨op,a,b,free,⟨kind,s,hi,t,lo,up,nn⟩⟩:=x;have HX:=qH2 hx (HH.2 _ (mem_of_getElem? hx));obtain⟨c0,c1,c2,c3,c4,c5,c6,c7,c8,c9,c10⟩:=HE.out wr hb k _ hx;obtain⟨d,hd⟩:∃d,ds[k]?=some d:=qg qo;have HD:=qH1 hd;have hdr:=(yHn HJ.1.flow).ran d (mem_of_getElem? hd);obtain⟨W2,a3⟩:=qW (xw wr #[xi op,xi a,xi b,free,xi kind,s,hi,t,xu lo,xu up,xi nn] 153);have hb2:=qN a3
     have aG:=qS a3
     have HX2:Hid (∀wx,(Chg (λq=>q=g) W2 wx)->xk wx wr 0 (xi op)/\xk wx wr 1 (xi a)/\xk wx wr 2 (xi b)/\xk wx wr 3 free/\xk wx wr 4 (xi kind)/\xk wx wr 5 s/\xk wx wr 6 hi/\xk wx wr 7 t/\xk wx wr 8 (xu lo)/\xk wx wr 9 (xu up)/\xk wx wr 10 (xi nn)):=by
      intro wx hc;have av:¬wr.heap.size=g:=qw HJ.2.lt.2
      refine⟨?_,?_,?_,?_,?_,?_,?_,?_,?_,?_,?_⟩;all_goals rw[hc.cell (by show wr.heap.size<_;omega) (by exact av),a3]
      all_goals simp
     have ao:=qH1 (HJ.2.below hb2);have aa:=hb.trans (hb2.mono hb.size);obtain⟨m0,m1⟩:=HK.out W2 aa;obtain⟨e0,e1⟩:=ao.cell hd;obtain⟨x0,x1,x2,x3,x4,x5,x6,x7,x8,x9,x10⟩:=HX2.out W2 (Chg.refl _ _);clear hx hd ak;go_upto_region 13 with fail;rw[<-a3];clear a3 c0 c1 c2 c3 c4 c5 c6 c7 c8 c9 c10 k0 k1;go_wp2_with fail;refine(yOe ⟨op,a,b,free,⟨kind,s,hi,t,lo,up,nn⟩⟩ (k:Int) (l.length:Int) cnt (conds:Int) _ HX.2).mono ?_;rintro e w3 ⟨r,rfl,hr,ae⟩;have HR:=qH1 hr;have hC3:Chg (λq=>q=g) W2 w3:=Chg.of_below ae;have kw3:=aa.trans (ae.mono aa.size);have k3w:=hb0.trans (kw3.mono qo);clear hr m0 m1 e0 e1 x0 x1 x2 x3 x4 x5 x6 x7 x8 x9 x10;obtain⟨x0,x1,x2,x3,x4,x5,x6,x7,x8,x9,x10⟩:=HX2.out w3 hC3;cases r
     case false=>have HG:Hid (¬P):=λq=>Bool.noConfusion (HR.2 (yC3 (HP.1 q) HX.1));exact zR k3w
     case true=>
     have HGI:=qH1 (HR.1 rfl);have HO3:=qH1 (ao.below ae);have ac:(op=1\/op=2\/op=3\/op=4)\/(op=5/\(k:Int)<b/\b<=(l.length:Int))\/(op=6/\(k:Int)<b/\b<=(l.length:Int)):=by have:=HGI.out;simp only[yCy]at this;omega
     have HLn:=qH1 ((yHn HJ.1.flow).len);have HNt:Hid (∀(wx:World)(a1:List Int)(j:Nat)(jj a6 e':Int),OwnZ 2 wx W0 g cp a1 .i64->a1.length=l.length+1->jj=(j:Int)->a1[j]?=some e'->Calls prog 113 #[xg g (l.length+1) cp,xi jj,xi a6] wx (xIe e' a6 W0 g cp j a1 wx)):=by intro wx a1 j jj a6 e' h1 h2 h3 h4;subst h3;have:=yWe W0 g cp a1 j a6 e' wx h1 h4 qo;rw[h2]at this;exact this
     have aK:=HO3.lt.1;have aJ:IntKind.i64.wrap ((k:Int)+1)=(k:Int)+1:=by rw[IntKind.wrap_i64];omega
     have aH:IntKind.i64.wrap (d+1)=d+1:=by rw[IntKind.wrap_i64];omega
     have aI:IntKind.i64.wrap (d-1)=d-1:=by rw[IntKind.wrap_i64];omega
     rcases ac with ac|⟨rfl,aw,ax⟩|⟨rfl,aw,ax⟩
     .rcases ac with rfl|rfl|rfl|rfl<;>exact zBa
     .by_cases hd0:d=0;case pos=>exact zKl
      have hdz:=qn hd0
      obtain⟨e1,he1⟩:∃e1,ds[k+1]?=some e1:=qg (qw HLn.out);have HS:Hid ((((e1=0\/e1=d)/\1<=d/\d<=250)->yC2 ds k ⟨5,a,b,free,⟨kind,s,hi,t,lo,up,nn⟩⟩=yB1 (d) [b.toNat] (ds.set (k+1) (d)))/\(¬((e1=0\/e1=d)/\1<=d/\d<=250)->yC2 ds k ⟨5,a,b,free,⟨kind,s,hi,t,lo,up,nn⟩⟩=none)):=yJo HD.out (by show¬d<least 5;simp[least];omega) (by show d=d+more 5;simp[more]<;>omega) qo he1 (by simp[ways]);have HE1:=qH1 he1;clear he1;go_wp2_with fail;refine(HNt.out _ ds (k+1) ((k:Int)+1) (d) e1 HO3.out HLn.out qo HE1.out).mono ?_;rintro e w4 ⟨r2,rfl,hr2,hO4,hC4⟩;have HR2:=qH2 hr2 hO4;have hC24:=hC3.trans hC4;have kw4:=Chg.below kw3 hC4 kw3.size (λq hq=>by omega);have k4w:=hb0.trans (kw4.mono qo);clear hr2 hO4 x0 x1 x2 x3 x4 x5 x6 x7 x8 x9 x10;obtain⟨x0,x1,x2,x3,x4,x5,x6,x7,x8,x9,x10⟩:=HX2.out w4 hC24;cases r2
      case false=>exact xIj
      case true=>
      go_wp2_with fail;refine(yE9 5 _).mono ?_;rintro e w5 ⟨r3,rfl,hr3,hb5⟩;have hC25:=hC24.trans (Chg.of_below hb5);have kw5:=kw4.trans (hb5.mono kw4.size);have aq:=hb0.trans (kw5.mono qo);clear x0 x1 x2 x3 x4 x5 x6 x7 x8 x9 x10;obtain⟨x0,x1,x2,x3,x4,x5,x6,x7,x8,x9,x10⟩:=HX2.out w5 hC25;obtain rfl:r3=true:=hr3.2 qo;clear hr3;have ai:(ds.set (k+1) d).length=l.length+1:=by rw[length_set];exact HLn.out
      obtain⟨e2,al⟩:∃e2,(ds.set (k+1) d)[b.toNat]?=some e2:=qg qo;have a9:=qH2 al ai;clear al ai;have az:(0:Int)<=b:=qo
      go_wp2_with fail;refine(HNt.out _ (ds.set (k+1) d) b.toNat b d e2 ((HR2.2 (by simp)).below hb5) a9.2 qo a9.1).mono ?_;rintro e w6 ⟨r4,rfl,a2,a5,ag⟩;have kw6:=Chg.below kw5 ag kw5.size (λq hq=>by omega);have ab:=hb0.trans (kw6.mono qo);have a0:=qH2 a2 a5;clear a2 a5;cases r4
      case false=>have HG:Hid (¬P):=λq=>yG3 HJ.1.flow HX.1 (by rw[HS.1 (HR2.1.1 (by simp)),yB1,yNx a9.1 (λz=>Bool.noConfusion (a0.1.2 ⟨z,(HR2.1.1 (by simp)).2⟩))];rfl) (HP.1 q);exact zR ab
      case true=>
      have HN:=qH2 (HJ.1.next HX.1 HGI.out (by rw[HS.1 (HR2.1.1 (by simp)),yB1,yJp a9.1 (a0.1.1 (by simp)).1];rfl)) (a0.2 (by simp));exact xCi
     .by_cases hd0:d=0;case pos=>exact zKl
      have hdz:=qn hd0
      obtain⟨e1,he1⟩:∃e1,ds[b.toNat]?=some e1:=qg (qw HLn.out);have HS:Hid ((((e1=0\/e1=d)/\1<=d/\d<=250)->yC2 ds k ⟨6,a,b,free,⟨kind,s,hi,t,lo,up,nn⟩⟩=yB1 (d) [] (ds.set (b.toNat) (d)))/\(¬((e1=0\/e1=d)/\1<=d/\d<=250)->yC2 ds k ⟨6,a,b,free,⟨kind,s,hi,t,lo,up,nn⟩⟩=none)):=yJo HD.out (by show¬d<least 6;simp[least];omega) (by show d=d+more 6;simp[more]<;>omega) qo he1 (by simp[ways]);have HE1:=qH1 he1;clear he1;have hC24:=hC3;have kw4:=kw3;have k4w:=k3w;go_wp2_with fail;refine(yE9 6 _).mono ?_;rintro e w5 ⟨r3,rfl,hr3,hb5⟩;have hC25:=hC24.trans (Chg.of_below hb5);have kw5:=kw4.trans (hb5.mono kw4.size);have aq:=hb0.trans (kw5.mono qo);clear x0 x1 x2 x3 x4 x5 x6 x7 x8 x9 x10;obtain⟨x0,x1,x2,x3,x4,x5,x6,x7,x8,x9,x10⟩:=HX2.out w5 hC25;obtain rfl:r3=true:=hr3.2 qo;clear hr3;have az:(0:Int)<=b:=qo
      go_wp2_with fail;refine(HNt.out _ ds b.toNat b d e1 (HO3.below hb5) HLn.out qo HE1.out).mono ?_;rintro e w6 ⟨r4,rfl,a2,a5,ag⟩;have kw6:=Chg.below kw5 ag kw5.size (λq hq=>by omega);have ab:=hb0.trans (kw6.mono qo);have a0:=qH2 a2 a5;clear a2 a5;cases r4
      case false=>have HG:Hid (¬P):=λq=>yG3 HJ.1.flow HX.1 (HS.2 (λz=>Bool.noConfusion (a0.1.2 z))) (HP.1 q);exact zR ab
      case true=>
      have HN:=qH2 (HJ.1.next HX.1 HGI.out (by rw[HS.1 (a0.1.1 (by simp))];rfl)) (a0.2 (by simp));exact xCi
    .have zk:¬(k:Int)<(l.length:Int):=qo
     have ad:k=l.length:=qo
     subst ad;obtain⟨d,hd⟩:∃d,ds[l.length]?=some d:=qg qo;obtain⟨e0,e1⟩:=HJ.2.cell hd;have HF:Hid (P↔d=1):=by show P↔_;rw[HP.out];exact HJ.1.end p0 p1 p2 p3 hd
     have kw:=hb0.trans (hb.mono qo);clear hd ak p0 p1;exact xGg
def yCn(bs:List Bk)(m:Bk):Prop:=bs.length<=200/\yBe m.l m.cnt bs.length/\∀(k:Nat)(x:Bk),bs[k]?=some x->yBe x.l x.cnt k
variable {bs fs:List Bk}
theorem yMj{m n:Bk}(h:bs.map Bk.vw=fs.map Bk.vw)(hm:m.vw=n.vw)(g:yCn bs m):yCn fs n:=by have hl:=congrArg List.length h;simp only[length_map]at hl;simp only[Bk.vw,Prod.mk.injEq]at hm;refine⟨by rw[<-hl];exact g.1,by rw[<-hl,<-hm.1,<-hm.2];exact g.2.1,λk x hx=>?_⟩;have hk:=qf hx;obtain⟨y,hy⟩:∃y,bs[k]?=some y:=qg qo;have h2:=congrArg (λl=>l[k]?) h;simp only[getElem?_map,hx,hy,Option.map_some,Option.some.injEq,Bk.vw,Prod.mk.injEq]at h2;rw[<-h2.1,<-h2.2];exact g.2.2 k y hy
theorem xB1{m n:Bk}(h:bs.map Bk.vw=fs.map Bk.vw)(hm:m.vw=n.vw):yCn bs m↔yCn fs n:=⟨yMj h hm,yMj h.symm hm.symm⟩
theorem yI7(u:Value) bs (m:Bk) w (h:yCg w u bs) (hok:∀x∈bs,x.ok) (hm:yAy w m.v m.l) (hmo:m.ok):
  Calls prog 13 #[.agg #[u,m.v,xi m.cnt]] w (yH3 (yCn bs m) w):=by
 obtain⟨P,hP⟩:=qE (yCn bs m:Prop);rw[<-hP];have HP:Hid (P↔yCn bs m):=by show P↔_;rw[hP]
 have HH:=qH4 h hok hm hmo;obtain⟨ua,cap,a5⟩:∃ua cap,u=.slice ua bs.length cap:=by
  rcases h with⟨a,cap,hq,hl⟩|⟨b,off,cap,hq,_⟩
  .subst hl;exact⟨_,_,hq⟩
  .exact⟨_,_,hq⟩
 subst a5;have a9:=hm.cells;clear h hok hm hmo hP;obtain⟨W0,a0⟩:=qW (xw w #[.slice ua bs.length cap,m.v,xi m.cnt] 34);have hb0:=qN a0
 have a4:w.heap.size<W0.heap.size:=by rw[a0];simp
 have HK:Hid (∀wx,Below W0 W0 wx->xk wx w 0 (.slice ua bs.length cap)/\xk wx w 1 m.v/\xk wx w 2 (xi m.cnt)/\yCg wx (.slice ua bs.length cap) bs/\yAy wx m.v m.l):=by
  intro wx hx;refine⟨?_,?_,?_,(HH.1.below hb0).below hx,(HH.2.2.1.below hb0 qr).below hx qr⟩;all_goals rw[hx.cell (by exact a4),a0]
  all_goals simp
 obtain⟨k0,k1,k2,_,hI⟩:=HK.out W0 (Below.refl _ _);have HI:=qH1 hI;clear hI;go_enter func13,ntmps13;go_upto_region 1 with fail;rw[<-a0];clear a0;by_cases p0:bs.length<=200;case neg=>
  have z:(200:Int)<(bs.length:Int):=qo
  exact xAl
 have z0:¬(200:Int)<(bs.length:Int):=qo
 go_wp2_with fail;refine(yFa m bs.length _ HI.out HH.2.2.2 qo).mono ?_;rintro e w1 ⟨r,rfl,hr,a1⟩;have HR:=qH1 hr;have s1:=a1.size;have a3:=hb0.trans (a1.mono qo);clear hr k0 k1 k2;cases r
 case false=>have HG:Hid (¬P):=λq=>Bool.noConfusion (HR.2 (HP.1 q).2.1);exact zR a3
 case true=>
 have HM:=qH1 (HR.1 rfl);go_wp2;go_loopw[3] (λi wr=>∃(k:Nat),k<=bs.length/\i=(xi k)/\Hid (∀(j:Nat)(x:Bk),j<k->bs[j]?=some x->yBe x.l x.cnt j)/\Below W0 W0 wr) (λi _=>bs.length-(intOf i).toNat);case atStart=>exact⟨0,zero_le _,rfl,λj x hj=>qo,a1⟩
 case round=>
  obtain⟨k,hk,rfl,HJ,hb⟩:=hrel;have sb:=hb.size;obtain⟨k0,_,_,hI,_⟩:=HK.out wr hb;by_cases hlt:k<bs.length
  .obtain⟨x,hx⟩:∃x,bs[k]?=some x:=qg hlt;have zk:(k:Int)<(bs.length:Int):=qo
   obtain⟨b0,off,a6,c0,c1,hX⟩:∃b0 off,ua=some ⟨b0,off,none⟩/\xk wr b0 (off+k*2) x.v/\xk wr b0 (off+k*2+1) (xi x.cnt)/\yAy wr x.v x.l:=by
    rcases hI with⟨a,a8,hq,hl⟩|⟨b,off,a8,hq,hE,_⟩
    .subst hl;simp at hlt
    .cases hq
     obtain⟨c0,c1,c2⟩:=hE k x hx;exact⟨b,off,rfl,c0,c1,c2⟩
   have HX:Hid (yAy wr x.v x.l/\x.ok/\bs[k]?=some x):=⟨hX,HH.2.1 x (mem_of_getElem? hx),hx⟩;have hu:=hX.cells;subst a6;clear hI hX hx;go_wp2_with fail;refine(yFa x k _ HX.1 HX.2.1 qo).mono ?_;rintro e w3 ⟨r,rfl,hr,a7⟩;have HR:Hid (r=true↔yBe x.l x.cnt k):=hr;have kb3:Below W0 W0 w3:=hb.trans (a7.mono sb);have a2:Below w w w3:=hb0.trans (kb3.mono qo);clear hr k0 c0 c1;cases r
   case false=>have HG:Hid (¬P):=λq=>Bool.noConfusion (HR.2 ((HP.1 q).2.2 k x HX.2.2));exact zR a2
   case true=>
   exact xGo
  .have zk:¬(k:Int)<(bs.length:Int):=qo
   have HG:Hid P:=HP.2 ⟨p0,HM.out,λj x hx=>HJ.out j x (qw (qf hx)) hx⟩;have kw:Below w w wr:=hb0.trans (hb.mono qo);clear hI p0;exact zR kw
variable {w:World} {base base' cap:Nat}
theorem OwnX.mono{g:Nat}{es:List Ix}(h:OwnX w base g cap es)(hb:base'<=base):OwnX w base' g cap es:=by exact yO0
theorem yH7(x:Bk)(w:World)(h:yAy w x.v x.l)(h1:x.l.length<=1048576):
  Calls prog 62 #[x.val] w λe w'=>
   ∃g,e=.returned (.agg #[.slice (some ⟨g,0,none⟩) x.l.length x.l.length,.int .i64 x.cnt])/\OwnX w' w.heap.size g x.l.length x.l/\Below w.heap.size w w':=by
 have HE:=qH1 h;have hu:=h.cells;obtain⟨v,cnt,l⟩:=x;simp only at hu h1;clear h;go_enter func62,ntmps62;go_wp2_with fail;refine(yVt v l _ (HE.below (((qB).alloc (by simp) _).alloc (by simp;omega) _) qr) h1).mono ?_;rintro e w1 ⟨g,rfl,hO,a0⟩;obtain⟨a1,a2⟩:=yOw a0;have k1:=((((Below.refl _ _).alloc qr (Obj.cells #[v,xi cnt] 49)).alloc (by simp) (Obj.cells #[xh,xi 0] 32)).alloc (by simp;omega) (Obj.cells #[xh,xi 0] 32)).trans (a0.mono (by simp;omega));have HO:Hid (OwnX w1 (w+1+1+1) g l.length l):=by show OwnX w1 (w+1+1+1) g l.length l;simpa using hO
 clear hO;go_wp2;refine bodyPost_ret (v:=.agg #[xg g l.length l.length,xi cnt]) (by simp[results,results62,go_sem,a1]) rfl ⟨g,rfl,?_,?_⟩
 .exact OwnX.mono (ownsRow_setCell_below (ownsRow_setCell_below (ownsRow_setCell_below (ownsRow_setCell_below HO.out (by show w.heap.size+1+1<_;omega) _) (by show w.heap.size+1+1<_;omega) _) (by show w.heap.size+1<_;omega) _) (by show w.heap.size+1<_;omega) _) qo
 .exact(((k1.setCell (by show w.heap.size<=w.heap.size+1+1;omega) _).setCell (by show w.heap.size<=w.heap.size+1+1;omega) _).setCell (by show w.heap.size<=w.heap.size+1;omega) _).setCell (by show w.heap.size<=w.heap.size+1;omega) _
def yFf(bs:List Bk):List Value:=bs.flatMap Bk.two
theorem yDi(e:Bk) es:yFf (e::es)=e.two++yFf es:=by simp[yFf]
theorem yO(es:List Bk):(yFf es).length=es.length*2:=by
 induction es with
 |nil=>rfl
 |cons e es ih=>rw[yDi,length_append,ih];simp;omega
theorem yMv es:∀(k:Nat)(e:Bk),es[k]?=some e->∀j,j<2->(yFf es)[k*2+j]?=e.two[j]?:=by
 induction es with
 |nil=>intro k e h;simp at h
 |cons f es ih=>
  intro k e h j hj;rw[yDi];cases k with
  |zero=>
   simp at h;subst h;rw[getElem?_append_left (by show 0*2+j<2;omega)];simp
  |succ k=>
   simp at h;rw[getElem?_append_right (by show 2<=(k+1)*2+j;omega)];have:(k+1)*2+j-f.two.length=k*2+j:=by show(k+1)*2+j-2=_;omega
   rw[this];exact ih k e h j hj
theorem yHx(es:List Bk):∀(k:Nat)(e e':Bk)(u:Value)(j:Nat),es[k]?=some e->j<2->e'.two=e.two.set j u->(yFf es).set (k*2+j) u=yFf (es.set k e'):=by
 induction es with
 |nil=>intro k e e' u j h;simp at h
 |cons f es ih=>
  intro k e e' u j h hj hc;rw[yDi];cases k with
  |zero=>
   simp at h;subst h;rw[set_append_left _ _ (by show 0*2+j<2;omega),set_cons_zero,yDi,hc];simp
  |succ k=>
   simp at h;rw[set_append_right _ _ (by show 2<=(k+1)*2+j;omega),set_cons_succ,yDi];have:(k+1)*2+j-f.two.length=k*2+j:=by show(k+1)*2+j-2=_;omega
   rw[this,ih k e e' u j h hj hc]
def yG8(w:World)(base g:Nat)(bs:List Bk):Prop:=w.ownsRow base 32 2 (xg g bs.length bs.length) bs.length (yFf bs)
variable {i:Nat} {x:Bk}
theorem yG8.cell{g:Nat}(h:yG8 w base g bs)(hx:bs[i]?=some x):xk w g (i*2) x.v/\xk w g (i*2+1) (xi x.cnt):=by exact xGi
theorem yG8.lt{g:Nat}(h:yG8 w base g bs):base<=g/\g<w.heap.size:=World.ownsRow.lt h g rfl
variable {w':World}
theorem yG8.below{g:Nat}(h:yG8 w base g bs)(hb:Below w w w'):yG8 w' base g bs:=yAh (S:=λ_=>False) h (Chg.of_below hb) (λk _ q=>q)
theorem yG8.put{g:Nat}(h:yG8 w base g bs)(k:Nat)(f e:Bk)(hk:bs[k]?=some f):
  yG8 (xt (w.setCell (xd g (k*2)) e.v) g (k*2+1) (xi e.cnt)) base g (bs.set k e):=by
 have a0:=qf hk;have h1:=(World.ownsRow.stored h (k*2+0) e.v).1;rw[yHx bs k f ⟨e.v,f.cnt,f.l⟩ e.v 0 hk qo rfl]at h1;have h2:=(World.ownsRow.stored h1 (k*2+1) (xi e.cnt)).1;rw[yHx (bs.set k ⟨e.v,f.cnt,f.l⟩) k ⟨e.v,f.cnt,f.l⟩ e (xi e.cnt) 1 (by simp[a0]) qo rfl,set_set]at h2;unfold yG8;rw[length_set];exact h2
def yXp:Bk:=⟨xh,0,[]⟩
theorem Tryz.infoB:(prog.info? 32).map (λi=>(i.zero,i.size,i.bytes))=some (some (.agg #[xh,xi 0]),2,32):=qk
theorem yMe(n:Nat):(madeCells #[xh,xi 0] (n*2)).toList=yFf (List.replicate n yXp):=by
 apply ext_getElem?;intro j;by_cases hj:j<n*2
 .have h:=yMv (List.replicate n yXp) (j/2) yXp (by rw[getElem?_replicate,if_pos (by omega)]) (j%2) (mod_lt _ (by omega));rw[show j/2*2+j%2=j by omega]at h;rw[h];have h6:j%2<2:=mod_lt _ qo;simp[madeCells,hj];generalize j%2=m at*;match m,h6 with
  |0,_=>rfl
  |1,_=>rfl
 .have h1:(yFf (List.replicate n yXp)).length<=j:=by rw[yO,length_replicate];omega
  rw[getElem?_eq_none h1];simp[madeCells,hj]
def RowX(w:World)(base:Nat)(v:Value)(X:List Ix):Prop:=w.ownsRow base 153 11 v X.length (cellsX X)
variable {X:List Ix}
theorem RowX.cases{v:Value}(h:RowX w base v X):(v=xh/\X= [])\/∃g cp,v=(xg g X.length cp)/\OwnX w base g cp X:=by
 rcases h.2 with⟨h0,h1⟩|⟨g',a0,cur,hv,rest⟩
 .refine .inl ⟨h0,?_⟩;have:X.length=0:=h1;exact length_eq_zero_iff.1 this
 .subst hv;exact .inr ⟨g',a0,rfl,h⟩
theorem RowX.in{v:Value}(h:RowX w base v X):yAy w v X:=by
 rcases h.cases with⟨rfl,rfl⟩|⟨g,cp,rfl,hO⟩
 .exact .inl ⟨none,0,rfl,rfl⟩
 .exact yAy.own hO rfl
theorem RowX.chg{S:Nat->Prop}{v:Value}(h:RowX w base v X)(hc:Chg S w w')(hn:∀k,v.ownBlock=some k->¬S k):RowX w' base v X:=yAh h hc hn
theorem RowX.below{v:Value}(h:RowX w base v X)(hb:Below w w w'):RowX w' base v X:=h.chg (S:=λ_=>False) (Chg.of_below hb) (λ_ _ q=>q)
theorem RowX.low{v:Value}{es:List Ix}(h:RowX w base v es)(hb:base'<=base):RowX w base' v es:=by exact yO0
theorem xA9(w:World)(base:Nat):RowX w base xh []:=⟨rfl,.inl ⟨rfl,rfl⟩⟩
theorem RowX.blk{v:Value}(h:RowX w base v X)(hk:v.ownBlock=some k):base<=k/\k<w.heap.size:=by exact xCt
theorem RowX.slice{v:Value}(h:RowX w base v X):∃a c,v=.slice a X.length c:=by
 rcases h.cases with⟨rfl,rfl⟩|⟨g,cp,rfl,hO⟩
 .exact⟨_,_,rfl⟩
 .exact⟨_,_,rfl⟩
def RowB(w:World)(base:Nat)(v:Value)(bs:List Bk):Prop:=w.ownsRow base 32 2 v bs.length (yFf bs)
variable {X:List Bk}
theorem RowB.chg{S:Nat->Prop}{v:Value}(h:RowB w base v X)(hc:Chg S w w')(hn:∀k,v.ownBlock=some k->¬S k):RowB w' base v X:=yAh h hc hn
theorem RowB.below{v:Value}(h:RowB w base v X)(hb:Below w w w'):RowB w' base v X:=h.chg (S:=λ_=>False) (Chg.of_below hb) (λ_ _ q=>q)
theorem RowB.low{v:Value}{es:List Bk}(h:RowB w base v es)(hb:base'<=base):RowB w base' v es:=by exact yO0
theorem xB(w:World)(base:Nat):RowB w base xh []:=⟨rfl,.inl ⟨rfl,rfl⟩⟩
theorem RowB.cases{v:Value}(h:RowB w base v X):(v=xh/\X= [])\/∃g cp,v=(xg g X.length cp)/\base<=g/\g<w.heap.size/\X.length<=cp/\cp<=maxLen:=by
 have h':=h;rcases h.2 with⟨h0,h1⟩|⟨g',a1,cur,hv,_,_,hn,a0,_,_⟩
 .refine .inl ⟨h0,?_⟩;have:X.length=0:=h1;exact length_eq_zero_iff.1 this
 .subst hv;exact .inr ⟨g',a1,rfl,(World.ownsRow.lt h' g' rfl).1,(World.ownsRow.lt h' g' rfl).2,hn,a0⟩
theorem RowB.slice{v:Value}(h:RowB w base v X):∃a c,v=.slice a X.length c:=by
 rcases h.cases with⟨rfl,rfl⟩|⟨g,cp,rfl,hO⟩
 .exact⟨_,_,rfl⟩
 .exact⟨_,_,rfl⟩
theorem RowB.blk{v:Value}(h:RowB w base v X)(hk:v.ownBlock=some k):base<=k/\k<w.heap.size:=by
 rcases h.cases with⟨rfl,rfl⟩|⟨g,cp,rfl,h1,h2,_⟩
 .simp[Value.ownBlock]at hk
 .simp[Value.ownBlock]at hk;subst hk;exact⟨h1,h2⟩
theorem RowB.cell{g cp:Nat}(h:RowB w base (xg g bs.length cp) bs)(hx:bs[i]?=some x):xk w g (i*2) x.v/\xk w g (i*2+1) (xi x.cnt):=by exact xGi
def Eac(w:World)(base:Nat)(bs:List Bk):Prop:=∀x∈bs,RowX w base x.v x.l
theorem Eac.below(h:Eac w base bs)(hb:Below w w w'):Eac w' base bs:=λx hx=>(h x hx).below hb
theorem Eac.low(h:Eac w base bs)(hb:base'<=base):Eac w base' bs:=λx hx=>(h x hx).low hb
theorem yE6{v u:Value}{X:List Ix}(h:RowX w base v X)(h':RowB w base' u bs):∀k,v.ownBlock=some k->u.ownBlock≠some k:=yAb h h' qj
def pwV(vs:List Value):Prop:=vs.Pairwise (λa b=>a.ownBlock≠b.ownBlock)
theorem xHp{vs:List Value}(h:pwV vs){a b:Value}(hij:i≠j)(ha:vs[i]?=some a)(hb:vs[j]?=some b):a.ownBlock≠b.ownBlock:=by
 obtain⟨hi,ha⟩:=List.getElem?_eq_some_iff.1 ha;obtain⟨hj,hb⟩:=List.getElem?_eq_some_iff.1 hb;subst ha hb;rcases Nat.lt_or_gt_of_ne hij with q|q
 .exact List.pairwise_iff_getElem.1 h i j hi hj q
 .exact λe=>List.pairwise_iff_getElem.1 h j i hj hi q e.symm
theorem RowB.inB{cv:Value}(hr:RowB w base cv bs)(he:Eac w base bs):yCg w cv bs:=by
 rcases hr.cases with⟨rfl,rfl⟩|⟨g,cp,rfl,_,h2,h3,h4⟩
 .exact .inl ⟨_,_,rfl,rfl⟩
 .refine .inr ⟨g,0,cp,rfl,λi x hx=>?_,h2,h3,h4⟩;have:=hr.cell hx;rw[Nat.zero_add];exact⟨this.1,this.2,(he x (mem_of_getElem? hx)).in⟩
structure CopB(G:Nat)(bs:List Bk)(k:Nat)(fs:List Bk)(wr:World):Prop where
 len:fs.length=bs.length
 vw:(fs.take k).map Bk.vw=(bs.take k).map Bk.vw
 own:yG8 wr G G fs
 ins:∀i x,i<k->fs[i]?=some x->RowX wr (G+1) x.v x.l
 pw:∀i j x y,i<j->j<k->fs[i]?=some x->fs[j]?=some y->x.v.ownBlock≠y.v.ownBlock
def xAk(base:Nat)(w:World)(v:Value)(fs:List Bk):Prop:=(∀(S:Nat->Prop)(wx:World),Chg S w wx->(∀k,S k->k<base)->RowB wx base v fs/\Eac wx base fs)/\pwV (fs.map Bk.v)
theorem CopB.in{G:Nat}{wr:World}(h:CopB G bs bs.length fs wr):xAk G wr (xg G bs.length bs.length) fs/\fs.map Bk.vw=bs.map Bk.vw:=by
 have hv:=h.vw;have a0:=h.len;rw[take_of_length_le qo,take_of_length_le qo]at hv;refine⟨⟨λS wx hc hS=>⟨?_,λx hx=>?_⟩,?_⟩,hv⟩
 .have ho:RowB wr G (xg G bs.length bs.length) fs:=by have:=h.own;unfold yG8 at this;rw[a0]at this;unfold RowB;rw[a0];exact this
  exact ho.chg hc (λk hk q=>qv ((ho.blk hk).1) (hS k q))
 .obtain⟨i,hi⟩:=getElem?_of_mem hx;have hR:=h.ins i x (qw (qf hi)) hi;exact(hR.chg hc (λk hk q=>qv ((hR.blk hk).1) (hS k q))).low qo
 .refine List.pairwise_iff_getElem.2 (λi j hi hj hij=>?_);rw[length_map]at hi hj;rw[getElem_map,getElem_map];exact h.pw i j fs[i] fs[j] hij qo (getElem?_eq_getElem hi) (getElem?_eq_getElem hj)
theorem CopB.step{G:Nat}{g:Nat}{wr w2:World}(h:CopB G bs k fs wr)(hx:bs[k]?=some x)(hb:Below wr wr w2)(hO:OwnX w2 wr g x.l.length x.l):
  CopB G bs (k+1) (fs.set k ⟨xg g x.l.length x.l.length,x.cnt,x.l⟩) (xt (w2.setCell (xd G (k*2)) (xg g x.l.length x.l.length)) G (k*2+1) (xi x.cnt)):=by
 have hk:=qf hx;have a1:=h.len;obtain⟨f,hf⟩:∃f,fs[k]?=some f:=qg qo;have hG:=h.own.lt;have hc:Chg (λq=>q=G) w2 (xt (w2.setCell (xd G (k*2)) (xg g x.l.length x.l.length)) G (k*2+1) (xi x.cnt)):=(Chg.of_set w2 G (k*2) _ (S:=λq=>q=G) rfl).trans (Chg.of_set _ G (k*2+1) _ (S:=λq=>q=G) rfl);have a0:∀i y,(fs.set k ⟨xg g x.l.length x.l.length,x.cnt,x.l⟩)[i]?=some y->(i=k/\y=⟨xg g x.l.length x.l.length,x.cnt,x.l⟩)\/(¬i=k/\fs[i]?=some y):=λi y hy=>by
  rw[getElem?_set]at hy;by_cases e:k=i
  .subst e;rw[if_pos rfl,if_pos qo]at hy;exact .inl ⟨rfl,(Option.some.inj hy).symm⟩
  .rw[if_neg e]at hy;exact .inr ⟨λq=>e q.symm,hy⟩
 refine⟨by rw[length_set];exact h.len,?_,(h.own.below hb).put k f ⟨xg g x.l.length x.l.length,x.cnt,x.l⟩ hf,λi y hi hy=>?_,λi j y z hij hj hy hz=>?_⟩
 .rw[take_add_one,take_add_one (l:=bs),hx];rw[getElem?_set,if_pos rfl,if_pos qo];rw[take_set_of_le (by omega)];simp only[Option.toList,map_append,h.vw];rfl
 .rcases a0 i y hy with⟨rfl,rfl⟩|⟨e,hy⟩
  .have h9:RowX w2 (G+1) (xg g x.l.length x.l.length) x.l:=RowX.low (base:=wr.heap.size) hO qo;exact h9.chg hc (λq hq z=>qw ((h9.blk hq).1))
  .have h9:=(h.ins i y (by omega) hy).below hb;exact h9.chg hc (λq hq z=>qw ((h9.blk hq).1))
 .rcases a0 j z hz with⟨rfl,rfl⟩|⟨e,hz⟩
  .rcases a0 i y hy with⟨e2,_⟩|⟨_,hy⟩
   .omega
   .intro q;have:=((h.ins i y (by omega) hy).blk (k:=g) (by rw[q];rfl)).2;have:=hO.lt.1;omega
  .rcases a0 i y hy with⟨e2,_⟩|⟨_,hy⟩
   .omega
   .exact h.pw i j y z hij (by omega) hy hz
structure CdO(w:World)(base:Nat)(cv mv:Value)(bs:List Bk)(M:List Ix):Prop where
 row:RowB w base cv bs
 each:Eac w base bs
 main:RowX w base mv M
 pw:pwV (bs.map Bk.v)
 apt:∀x∈bs,x.v.ownBlock≠mv.ownBlock
theorem yM3(b off cap:Nat)(bs:List Bk)(w:World)(hE:yK0 w b off bs)(hB:b<w.heap.size)(hlen:bs.length<=cap)(hcap:cap<=maxLen)(h1:bs.length+totB bs<=1048576):
  Calls prog 61 #[.slice (some ⟨b,off,none⟩) bs.length cap] w λe w'=>
   ∃g fs,e=.returned (xg g bs.length bs.length)/\xAk w w' (xg g bs.length bs.length) fs/\fs.map Bk.vw=bs.map Bk.vw/\Below w w w':=by
 have HE:=qH1 hE;clear hE;unfold maxLen at hcap;obtain⟨i,hi,a5,a4,a3⟩:=info_parts Tryz.infoB;have HI:=qH4 hi a5 a4 a3;clear hi a5 a4 a3;go_enter func61,ntmps61;go_wp2_with (at_make;refine wpList_make_full _ rfl _ _ 29 rfl w 32 i _ 2 underlying29 HI.1 HI.2.1 HI.2.2.1 _ _ _ _ bs.length rfl rfl ?_ ?_ ?hb ?hm ?hs ?_);case hb=>rw[HI.2.2.2];omega
 case hm=>unfold maxLen;omega
 case hs=>exact Nat.le_refl _
 .rfl
 .rfl
 intro w1 a1 a6;rw[yMe]at a1;have HW:Hid (CopB w bs 0 (List.replicate bs.length yXp) w1):=by refine⟨length_replicate ..,rfl,?_,λi x hi=>qo,λi j x y _ hj=>qo⟩;unfold yG8;rw[length_replicate];exact a1
 have a9:=(Below.refl _ _).grown a6 qr (λk hk=>by cases hk);clear a1 a6;go_wp2;go_loopw[4] (λi wr=>∃(k:Nat)(fs:List Bk),k<=bs.length/\i=.int .i64 k/\Hid (CopB w.heap.size bs k fs wr)/\Below w.heap.size w wr) (λi _=>bs.length-(intOf i).toNat);case atStart=>exact⟨0,_,zero_le _,rfl,HW,a9⟩
 case round=>
  obtain⟨k,fs,hk,rfl,HC,hb⟩:=hrel;have sb:=hb.size;by_cases hlt:k<bs.length
  .obtain⟨x,hx⟩:∃x,bs[k]?=some x:=⟨_,getElem?_eq_getElem hlt⟩;have zk:(k:Int)<(bs.length:Int):=qo
   have a0:=HE.out k x hx;have c0:wr.cell? (xd b (off+k*2))=some x.v:=by rw[hb.cell (p:=⟨b,off+k*2,none⟩) hB];exact a0.1
   have c1:wr.cell? (xd b (off+k*2+1))=some (.int .i64 x.cnt):=by rw[hb.cell (p:=⟨b,off+k*2+1,none⟩) hB];exact a0.2.1
   have hu:=a0.2.2.cells;have HX:=qH2 (a0.2.2.below hb (Nat.le_refl _)) hx;have a7:x.l.length<=1048576:=qw (yUh (mem_of_getElem? hx))
   clear hx a0;go_wp2_with fail;refine(yH7 x _ HX.1 a7).mono ?_;rintro e w2 ⟨g,rfl,hO,hb2⟩;have a2:=HC.own.below hb2;obtain⟨f,hf⟩:∃f,fs[k]?=some f:=qg (by rw[HC.len];exact hlt);obtain⟨d0,d1⟩:=a2.cell hf;have aa:=λj=>World.ownsRow.frozenAt a2 j;have HN:=qH1 (HC.step HX.2 hb2 hO);have k2:Below w w (xt (w2.setCell (xd w (k*2)) (xg g x.l.length x.l.length)) w (k*2+1) (xi x.cnt)):=((hb.trans (hb2.mono sb)).setCell qr _).setCell qr _;clear c0 c1 hO a2 hf;refine zY ?_;exact⟨k+1,_,qo,by go_num,HN,k2⟩
  .have zk:¬(k:Int)<(bs.length:Int):=qo
   have a8:k=bs.length:=qo
   subst a8;obtain⟨h2,h3⟩:=HC.in;have H2:=qH2 h2 h3;clear h2 h3;go_wp2;go_ret;exact⟨_,rfl,fs,H2.1,H2.2,hb⟩
theorem yM2(a:Option Addr)(cap:Nat)(w:World):
  Calls prog 61 #[.slice a 0 cap] w λe w'=>
   ∃g,e=.returned (xg g 0 0)/\RowB w' w (xg g 0 0) []/\Below w w w':=by
 obtain⟨i,hi,a3,a2,a1⟩:=info_parts Tryz.infoB;have HI:=qH4 hi a3 a2 a1;clear hi a3 a2 a1;go_enter func61,ntmps61;go_wp2_with (at_make;refine wpList_make_full _ rfl _ _ 29 rfl w 32 i _ 2 underlying29 HI.1 HI.2.1 HI.2.2.1 _ _ _ _ 0 rfl rfl ?_ ?_ ?hb ?hm ?hs ?_);case hb=>rw[HI.2.2.2];omega
 case hm=>unfold maxLen;omega
 case hs=>exact Nat.le_refl _
 .rfl
 .rfl
 intro w1 a0 a4;have hg:RowB w1 w (xg w 0 0) []:=by have h9:=yMe 0;rw[Nat.zero_mul]at h9;rw[h9]at a0;exact a0
 have a5:=(Below.refl _ _).grown a4 qr (λk hk=>by cases hk);clear a0 a4;go_wp2;go_loopw[4] (λi wr=>i=(xi 0)/\wr=w1) (λi _=>0);case atStart=>exact⟨rfl,rfl⟩
 case round=>obtain⟨rfl,rfl⟩:=hrel;go_wp2;go_ret;exact⟨_,rfl,hg,a5⟩
theorem yO7(v:Value)(bs:List Bk)(w:World)(h:yCg w v bs)(h1:bs.length+totB bs<=1048576):
  Calls prog 61 #[v] w λe w'=>
   ∃g fs,e=.returned (xg g bs.length bs.length)/\xAk w w' (xg g bs.length bs.length) fs/\fs.map Bk.vw=bs.map Bk.vw/\Below w w w':=by
 rcases h with⟨a,cap,rfl,rfl⟩|⟨b,off,cap,rfl,hE,a0,g1,g2⟩
 .refine(yM2 a cap w).mono ?_;rintro e w' ⟨g,rfl,hR,hb⟩;exact⟨g,[],rfl,⟨λS wx hc hS=>⟨hR.chg hc (λk hk q=>qv ((hR.blk hk).1) (hS k q)),λx hx=>by simp at hx⟩,List.Pairwise.nil⟩,rfl,hb⟩
 .exact yM3 b off cap bs w hE a0 g1 g2 h1
theorem yL3(v:Value)(bs:List Bk)(m:Bk)(w:World)(h:yCg w v bs)(hm:yAy w m.v m.l)(h1:bs.length+totB bs+m.l.length<=1048576):
  Calls prog 19 #[.agg #[v,m.v,.int .i64 m.cnt]] w λe w'=>
   ∃g gm fs,e=.returned (.agg #[xg g bs.length bs.length,.slice (some ⟨gm,0,none⟩) m.l.length m.l.length,.int .i64 m.cnt])/\CdO w' w.heap.size (.slice (some ⟨g,0,none⟩) bs.length bs.length) (.slice (some ⟨gm,0,none⟩) m.l.length m.l.length) fs m.l/\fs.map Bk.vw=bs.map Bk.vw/\Below w w w':=by
 have HE:=qH2 h hm;have hu:=h.cells;have av:=hm.cells;clear h hm;obtain⟨W0,a5⟩:=qW (((w.alloc (Obj.cells #[v,m.v,xi m.cnt] 51)).alloc (Obj.cells #[xh,xh,xi 0] 34)).alloc (Obj.cells #[xh,xh,xi 0] 34));have af:Below w w W0:=by rw[a5];exact((qB).alloc (by simp) _).alloc (by simp;omega) _
 have au:W0.heap.size=w.heap.size+1+1+1:=by rw[a5];simp
 have aq:=qH1 (HE.1.below af);have HZ:Hid (xk W0 w 0 v/\W0.cell? (xd w 1)=some m.v/\W0.cell? (xd w.heap.size 2)=some (.int .i64 m.cnt)):=by rw[a5];refine⟨?_,?_,?_⟩<;>simp[go_sem]
 have HR:Hid (∀b,b=w.heap.size+1\/b=w.heap.size+1+1->W0.cell? (xd b 0)=some (.slice none 0 0)/\W0.cell? (xd b 1)=some (.slice none 0 0)/\W0.cell? (xd b 2)=some (.int .i64 0)/\∀j,W0.frozen? ⟨b,j,none⟩=false):=by
  intro b hb;rw[a5];rcases hb with rfl|rfl
  .refine⟨?_,?_,?_,λj=>?_⟩<;>simp[go_sem]
  .refine⟨?_,?_,?_,λj=>?_⟩<;>simp[go_sem]
 obtain⟨a0,a1,a2⟩:=HZ.out;go_enter func19,ntmps19;go_upto_region 2 with fail;rw[<-a5];clear a5;go_wp2_with fail;refine(yO7 v bs _ aq.out qo).mono ?_;rintro e w1 ⟨g,fs,rfl,ag,ad,a9⟩;have s1:=a9.size;have HF:=qH2 ag ad;clear ag ad a0 a1 a2;have a3:∀b o,b<W0.heap.size->w1.cell? ⟨b,o,none⟩=W0.cell? ⟨b,o,none⟩:=λb o h=>a9.cell (p:=⟨b,o,none⟩) h;have a6:∀b o,b<W0.heap.size->w1.frozen? ⟨b,o,none⟩=W0.frozen? ⟨b,o,none⟩:=λb o h=>a9.frozen (p:=⟨b,o,none⟩) h;have HP:Hid (∀b,b=w.heap.size+1\/b=w.heap.size+1+1->w1.cell? (xd b 0)=some (.slice none 0 0)/\w1.cell? (xd b 1)=some (.slice none 0 0)/\w1.cell? (xd b 2)=some (.int .i64 0)/\∀j,w1.frozen? ⟨b,j,none⟩=false):=by
  intro b hb;have a8:b<W0.heap.size:=qo
  obtain⟨r0,r1,r2,rf⟩:=HR.out b hb;exact⟨(a3 _ _ a8).trans r0,(a3 _ _ a8).trans r1,(a3 _ _ a8).trans r2,λj=>(a6 _ _ a8).trans (rf j)⟩
 have aj:=qH1 a3;clear a3 a6;obtain⟨p0,p1,p2,pf⟩:=HP.out _ (.inr rfl);go_upto_region 3 with fail;obtain⟨W2,a4⟩:=qW (w1.setCell (xd (w.heap.size+1+1) 0) (.slice (some ⟨g,0,none⟩) bs.length bs.length));have ar:W2.heap.size=w1.heap.size:=by rw[a4];simp
 have ac:Chg (λq=>q=w.heap.size+1\/q=w.heap.size+1+1) w1 W2:=by rw[a4];exact Chg.of_set _ _ _ _ (.inr rfl)
 have hb2:Below w.heap.size w W2:=by rw[a4];exact(af.trans (a9.mono qo)).setCell (by show _<=w.heap.size+1+1;omega) _
 have ao:Hid (yAy W2 m.v m.l):=HE.2.below hb2 (Nat.le_refl _);obtain⟨q1,q2⟩:W2.cell? ⟨w.heap.size,1,none⟩=some m.v/\W2.cell? ⟨w.heap.size,2,none⟩=some (.int .i64 m.cnt):=by obtain⟨_,z1,z2⟩:=HZ.out;exact⟨by rw[ac.cell (p:=⟨w.heap.size,1,none⟩) (by show w.heap.size<_;omega) (by show¬(w.heap.size=w.heap.size+1\/w.heap.size=w.heap.size+1+1);omega)];exact(aj.out _ _ qo).trans z1,by rw[ac.cell (p:=⟨w.heap.size,2,none⟩) (by show w.heap.size<_;omega) (by show¬(w.heap.size=w.heap.size+1\/w.heap.size=w.heap.size+1+1);omega)];exact(aj.out _ _ qo).trans z2⟩
 have al:Hid ((W2.cell? (xd (w.heap.size+1+1) 0)=some (.slice (some ⟨g,0,none⟩) bs.length bs.length)/\W2.cell? (xd (w.heap.size+1+1) 1)=some (.slice none 0 0)/\W2.cell? (xd (w.heap.size+1+1) 2)=some (.int .i64 0)/\∀j,W2.frozen? ⟨w.heap.size+1+1,j,none⟩=false)/\(W2.cell? (xd (w.heap.size+1) 0)=some (.slice none 0 0)/\W2.cell? (xd (w.heap.size+1) 1)=some (.slice none 0 0)/\W2.cell? (xd (w.heap.size+1) 2)=some (.int .i64 0)/\∀j,W2.frozen? ⟨w.heap.size+1,j,none⟩=false)):=by obtain⟨r0,r1,r2,rf⟩:=HP.out _ (.inl rfl);rw[a4];refine⟨⟨?_,?_,?_,λj=>?_⟩,?_,?_,?_,λj=>?_⟩<;>simp[go_sem,p0,p1,p2,pf,r0,r1,r2,rf]
 rw[<-a4];clear a4 p0 p1 p2 pf;go_wp2_with fail;refine(yH7 m _ ao.out qo).mono ?_;rintro e w3 ⟨gm,rfl,ab,a7⟩;have s3:=a7.size;have ai:Chg (λq=>q=w.heap.size+1\/q=w.heap.size+1+1) w1 w3:=ac.trans (Chg.of_below a7);have an:Hid (OwnX w3 W2 gm m.l.length m.l):=ab;have ax:=ab.lt;have k3:Below w w w3:=hb2.trans (a7.mono hb2.size);clear ab q1 q2;have am:Hid ((xk w3 (w+1+1) 0 (xg g bs.length bs.length)/\xk w3 (w+1+1) 1 xh/\xk w3 (w+1+1) 2 (xi 0)/\∀j,w3.frozen? (xd (w+1+1) j)=false)/\(xk w3 (w+1) 0 xh/\xk w3 (w+1) 1 xh/\xk w3 (w+1) 2 (xi 0)/\∀j,w3.frozen? (xd (w+1) j)=false)):=by
  have a3:∀b o,b<W2.heap.size->w3.cell? (xd b o)=W2.cell? (xd b o):=λb o h=>a7.cell (p:=(xd b o)) h;have a6:∀b o,b<W2.heap.size->w3.frozen? (xd b o)=W2.frozen? (xd b o):=λb o h=>a7.frozen (p:=(xd b o)) h;obtain⟨⟨r0,r1,r2,rf⟩,t0,t1,t2,tf⟩:=al.out;have e1:w.heap.size+1+1<W2.heap.size:=qo
  have e2:w.heap.size+1<W2.heap.size:=qo
  exact⟨⟨(a3 _ _ e1).trans r0,(a3 _ _ e1).trans r1,(a3 _ _ e1).trans r2,λj=>(a6 _ _ e1).trans (rf j)⟩,(a3 _ _ e2).trans t0,(a3 _ _ e2).trans t1,(a3 _ _ e2).trans t2,λj=>(a6 _ _ e2).trans (tf j)⟩
 obtain⟨⟨p0,p1,p2,pf⟩,t0,t1,t2,tf⟩:=am.out;go_wp2;refine bodyPost_ret (v:=.agg #[xg g bs.length bs.length,xg gm m.l.length m.l.length,xi m.cnt]) (by simp[results,results19,go_sem,t0,t1,t2]) rfl ⟨g,gm,fs,rfl,?_⟩;have e1:w.heap.size<=w.heap.size+1+1:=qo
 have e2:w.heap.size<=w.heap.size+1:=qo
 obtain⟨W5,aa⟩:=qW (xt ((((w3.setCell (xd (w+1+1) 1) (xg gm m.l.length m.l.length)).setCell (xd (w+1+1) 2) (xi m.cnt)).setCell (xd (w+1) 0) (xg g bs.length bs.length)).setCell (xd (w+1) 1) (xg gm m.l.length m.l.length)) (w+1) 2 (xi m.cnt));have ah:Chg (λq=>q=w.heap.size+1\/q=w.heap.size+1+1) w3 W5:=by rw[aa];exact((((Chg.of_set w3 (w+1+1) 1 _ (S:=λq=>q=w.heap.size+1\/q=w.heap.size+1+1) (.inr rfl)).trans (Chg.of_set _ (w+1+1) 2 _ (.inr rfl))).trans (Chg.of_set _ (w+1) 0 _ (.inl rfl))).trans (Chg.of_set _ (w+1) 1 _ (.inl rfl))).trans (Chg.of_set _ (w+1) 2 _ (.inl rfl))
 have k5:Below w w W5:=by rw[aa];exact((((k3.setCell e1 _).setCell e1 _).setCell e2 _).setCell e2 _).setCell e2 _
 rw[<-aa];obtain⟨hr,he⟩:=HF.1.1 _ _ (ai.trans ah) (λk hk=>qo);obtain⟨aw,ay⟩:=HF.1.1 _ _ ai (λk hk=>qo);obtain⟨_,ak⟩:=HF.1.1 _ _ (Chg.refl (λ_=>False) w1) (λk hk=>hk.elim);have ae:RowX w3 W2 (xg gm m.l.length m.l.length) m.l:=an.out;refine⟨⟨hr.low qo,he.low qo,(ae.chg ah (λq hq z=>qw ((ae.blk hq).1))).low qo,HF.1.2,λx hx q=>?_⟩,HF.2,k5⟩;have:=((ak x hx).blk (k:=gm) (by rw[q];rfl)).2;omega
theorem yHd(v:Value)(bs:List Bk)(m:Bk)(w:World)(h:yCg w v bs)(hm:yAy w m.v m.l)(h1:bs.length+totB bs+m.l.length<=1048576):
  Calls prog 19 #[.agg #[v,m.v,.int .i64 m.cnt]] w λe w'=>
   ∃g gm fs,e=.returned (.agg #[.slice (some ⟨g,0,none⟩) bs.length bs.length,.slice (some ⟨gm,0,none⟩) m.l.length m.l.length,.int .i64 m.cnt])/\yCg w' (.slice (some ⟨g,0,none⟩) bs.length bs.length) fs/\fs.map Bk.vw=bs.map Bk.vw/\yAy w' (.slice (some ⟨gm,0,none⟩) m.l.length m.l.length) m.l/\Below w w w':=by
 refine(yL3 v bs m w h hm h1).mono ?_;rintro e w' ⟨g,gm,fs,he,hO,hv,hb⟩;exact⟨g,gm,fs,he,hO.row.inB hO.each,hv,hO.main.in,hb⟩
def yXj(js:List Nat)(w:World)(r:Ending)(w':World):Prop:=∃g,r=.returned (xg g js.length js.length)/\(∀(i j:Nat),js[i]?=some j->(xk w' g i (xi j):Prop))/\w.heap.size<=g/\g<w'.heap.size/\Below w w w'
theorem yXv(x:Ix)(k:Nat) w (hk:k<=1000000) (hb:(x.op=5\/x.op=6)->0<=x.b):Calls prog 167 #[x.v,xi k] w (yXj (ways k x) w):=by
 obtain⟨op,a,b,free,⟨kind,s,hi,t,lo,up,nn⟩⟩:=x;simp only at hb;obtain⟨js,a1⟩:=qE (ways k ⟨op,a,b,free,⟨kind,s,hi,t,lo,up,nn⟩⟩);rw[<-a1];have HJ:=qH1 a1;clear a1;obtain⟨W0,a0⟩:=qE (xw w #[xi op,xi a,xi b,free,xi kind,s,hi,t,xu lo,xu up,xi nn] 153:World);have a6:=qN a0
 have a2:=qS a0
 obtain⟨c0,c2⟩:xk W0 w 0 (xi op)/\xk W0 w 2 (xi b):=by rw[a0];exact⟨by simp,by simp⟩
 have a7:IntKind.i64.wrap ((k:Int)+1)=(k:Int)+1:=by rw[IntKind.wrap_i64];omega
 have HA:Hid (∀(vs:List Int),vs=js.map (λj:Nat=>(j:Int))->yXj js w (.returned (xg (w+1) js.length js.length)) (xw W0 (vs.map λd=>Value.int .i64 d).toArray 3)):=by
  intro vs a3;have a5:Below W0 W0 (xw W0 (vs.map λd=>Value.int .i64 d).toArray 3):=qB;refine⟨w+1,rfl,λi j hj=>?_,qo,by rw[<-a2];simp,a6.trans (a5.mono qo)⟩;have h1:(vs.map λd=>Value.int .i64 d)[i]?=some (.int .i64 (j:Int)):=by rw[a3,getElem?_map,getElem?_map,hj];rfl
  rw[<-a2];simp[h1]
 go_enter func167,ntmps167;go_upto_region 1 with fail;rw[<-a0];clear a0;by_cases h5:op=5
 .subst h5;have hj:js= [k+1,b.toNat]:=by rw[HJ.out];rfl
  have a4:=hb (.inl rfl);have H:Hid (yXj js w (.returned (.slice (some ⟨w.heap.size+1,0,none⟩) 2 2)) (W0.alloc (Obj.cells #[.int .i64 ((k:Int)+1),.int .i64 b] 3))):=by have:=HA.out [(k:Int)+1,b] (by rw[hj];simp;omega);rw[hj]at this|-;exact this
  clear hj hb;go_wp2_with fail;go_ret;exact H.out
 by_cases h6:op=6
 .subst h6;have hj:js= [b.toNat]:=by rw[HJ.out];rfl
  have a4:=hb (.inr rfl);have H:Hid (yXj js w (.returned (.slice (some ⟨w.heap.size+1,0,none⟩) 1 1)) (W0.alloc (Obj.cells #[.int .i64 b] 3))):=by have:=HA.out [b] (by rw[hj];simp;omega);rw[hj]at this|-;exact this
  clear hj hb;go_wp2_with fail;go_ret;exact H.out
 have hj:js= [k+1]:=by rw[HJ.out];simp[ways,h5,h6]
 have H:Hid (yXj js w (.returned (.slice (some ⟨w.heap.size+1,0,none⟩) 1 1)) (W0.alloc (Obj.cells #[.int .i64 ((k:Int)+1)] 3))):=by have:=HA.out [(k:Int)+1] (by rw[hj];simp);rw[hj]at this|-;exact this
 clear hj hb;go_wp2_with fail;go_ret;exact H.out
theorem Tryz.infoInt:(prog.info? 3).map (λi=>(i.zero,i.size,i.bytes))=some (some (.int .i64 0),1,8):=qk
theorem yWm(n:Nat):(madeCells #[xi 0] n).toList=(List.replicate n (0:Int)).map λd=>Value.int .i64 d:=by
 apply ext_getElem?;intro j;by_cases hj:j<n
 .rw[getElem?_map,getElem?_replicate,if_pos hj];simp[madeCells,hj,mod_one]
 .rw[getElem?_map,getElem?_replicate,if_neg hj];simp[madeCells,hj]
variable {m:Nat}
theorem yM{ds':List Int}(h:yB1 d (js.take m) ds=some ds')(hj:js[m]?=some j):yB1 d (js.take (m+1)) ds=note ds' j d:=by
 have a0:∀(xs:List Nat)(es:List Int),yB1 d (xs++ [j]) es=(yB1 d xs es).bind λe=>note e j d:=by
  intro xs;induction xs with
  |nil=>intro es;simp[yB1]
  |cons x xs ih=>
   intro es;simp only[cons_append,yB1];cases note es x d with
   |none=>rfl
   |some e=>simp[ih]
 rw[take_add_one,hj];simp only[Option.toList];rw[a0,h];rfl
theorem yWd(h:yB1 d (js.take m) ds=none):yB1 d js ds=none:=by
 have a0:∀(xs ys:List Nat)(es:List Int),yB1 d xs es=none->yB1 d (xs++ys) es=none:=by
  intro xs;induction xs with
  |nil=>intro ys es q;simp[yB1]at q
  |cons x xs ih=>
   intro ys es q;simp only[cons_append,yB1]at q|-;cases hn:note es x d with
   |none=>rfl
   |some e=>
    rw[hn]at q;exact ih ys e q
 have:=a0 (js.take m) (js.drop m) ds h;rw[take_append_drop]at this;exact this
variable {x:Ix}
theorem yNa(h:ds[k]?=some e)(hl:¬e<least x.op)(hd:d=e+more x.op)(h2:¬250<d):yC2 ds k x=yB1 d (ways k x) ds:=by subst hd;rw[yFn h,if_neg qo]
theorem yX3(h:ds[k]?=some e)(hd:d=e+more x.op)(h2:250<d):yC2 ds k x=none:=by subst hd;rw[yFn h,if_pos (.inr h2)]
def xCg(l:List Ix):Prop:=∃ds,yC6 l l.length=some ds/\ds[l.length]?=some 1
theorem yG4{l:List Ix}(h:yC6 l k=some ds)(hx:l[k]?=some x)(hs:yC2 ds k x=none):¬xCg l:=by
 rintro⟨d,h1,_⟩;have h2:yC6 l (k+1)=none:=by rw[yD3 h hx,hs]
 rw[yQt h2 (by have:=qf hx;omega)]at h1;cases h1
theorem zVr(h:p:=by exact zR k3w):p:=h
theorem zVl(h:p:=by have HG:Hid (¬P):=λq=>yG4 HJ.1 HX.out (yN HD.out (by simp[least];omega)) (HP.1 q);exact zVr):p:=h
theorem zVq (h:p:=by
 go_wp2_with fail;refine HWy.mono ?_;rintro e w4 ⟨gw,rfl,hcw,hgw1,hgw2,hb4⟩;have hgne:¬gw=W0.heap.size:=by have:=HO3.lt.2;omega
 have HCw:=qH1 hcw;have HO4:=qH1 (HO3.below hb4);have kw4:=kw3.trans (hb4.mono kw3.size);have hjl:=HJS.2.1;clear hcw x0 x1 x2 x3 x4 x5 x6 x7 x8 x9 x10 e0 e1;go_wp2_with fail;(try rw[<-hD]);clear hD;go_loopw[54] (λi wi=>∃(m:Nat)(es:List Int),m<=js.length/\i=.int .i64 m/\Hid (yB1 D (js.take m) ds=some es/\OwnZ 3 wi W0.heap.size W0.heap.size (l.length+1) es .i64/\Chg (λq=>q=W0.heap.size) w4 wi)/\Below W0.heap.size W0 wi) (λi _=>js.length-(intOf i).toNat);case atStart=>exact⟨0,ds,zero_le _,rfl,⟨rfl,HO4.out,Chg.refl _ _⟩,kw4⟩
 case round=>
  obtain⟨m,es,hm,rfl,HN,hbi⟩:=hrel;have hel:=(yNw (n:=l.length) (d:=D) qo _ ⟨HOl.out,(yHn HJ.1).ran⟩ HN.1).len;by_cases hml:m<js.length
  .have zm:(m:Int)<(js.length:Int):=qo
   obtain⟨j,hj⟩:∃j,js[m]?=some j:=⟨_,getElem?_eq_getElem hml⟩;have HJm:=qH1 hj;have hjn:=HJS.2.2 m j hj;have zj:(j:Int)<(l.length:Int)+1:=qo
   obtain⟨e',he'⟩:∃e',es[j]?=some e':=⟨_,getElem?_eq_getElem qo⟩;have HEs:=qH1 he';obtain⟨f0,f1⟩:=HN.2.1.cell he';have w0:wr.cell? (xd gw m)=some (.int .i64 (j:Int)):=by rw[HN.2.2.cell (p:=⟨gw,m,none⟩) hgw2 hgne];exact HCw.out m j hj
   clear hj he' hel;have kiw:=hb0.trans (hbi.mono qo);by_cases he0:e'=0\/e'=D
   .have HN2:Hid (yB1 D (js.take (m+1)) ds=some (es.set j D)/\OwnZ 3 (wr.setCell (xd W0.heap.size j) (.int .i64 D)) W0.heap.size W0.heap.size (l.length+1) (es.set j D) .i64/\Chg (λq=>q=W0.heap.size) w4 (wr.setCell (xd W0.heap.size j) (.int .i64 D))):=⟨by rw[yM HN.1 HJm.out,yJp HEs.out he0],HN.2.1.set j D,HN.2.2.trans (Chg.of_set _ W0.heap.size j _ rfl)⟩;have kb5:Below W0.heap.size W0 (wr.setCell (xd W0.heap.size j) (.int .i64 D)):=hbi.setCell (Nat.le_refl _) _;by_cases hez:e'=0
    .subst hez;exact xGz
    .have hed:e'=D:=qo
     have hez2:=qn hez
     exact xGz
   .have HG:Hid (¬P):=λq=>yG4 HJ.1 HX.out (by rw[HS.out];exact yWd (m:=m+1) (by rw[yM HN.1 HJm.out,yNx HEs.out he0])) (HP.1 q);have hez:¬e'=0:=λq=>he0 (.inl q);have hed:¬e'=D:=λq=>he0 (.inr q);have hez3:=bne_iff_ne.2 hez;have hed3:=bne_iff_ne.2 hed;clear he0;exact zR kiw
  .exact xIk):p:=h
theorem yK7(x:Bk)(conds:Nat) w (h:yAy w x.v x.l) (h1:1<=x.l.length) (h2:x.l.length<=4000) (hg:∀(k:Nat)(y:Ix),x.l[k]?=some y->yCy y k x.l.length x.cnt conds):Calls prog 116 #[x.val] w (yH3 (xCg x.l) w):=by
 obtain⟨P,hP⟩:=qE (xCg x.l:Prop);rw[<-hP];obtain⟨v,cnt,l⟩:=x;simp only at h h1 h2 hg hP;have HP:Hid (P↔xCg l):=by show P↔_;rw[hP]
 have ao:Hid (∀(k:Nat)(y:Ix),l[k]?=some y->((y.op=5\/y.op=6)->(k:Int)<y.b/\y.b<=(l.length:Int))):=by intro k y hy;have:=hg k y hy;simp only[yCy]at this;omega
 obtain⟨b0,off,cap,al,HE,a2,an⟩:∃b0 off cap,v=.slice (some ⟨b0,off,none⟩) l.length cap/\Hid (yB5 w b0 off l)/\b0<w.heap.size/\(l.length<=cap/\cap<=maxLen):=by
  rcases h with⟨a,ah,hq,hl⟩|⟨b,off,ah,hq,hE,a2,h1,h2⟩
  .subst hl;simp at h1
  .exact⟨b,off,ah,hq,hE,a2,h1,h2⟩
 subst al;unfold maxLen at an;clear h hg hP;obtain⟨i,hi,a7,ad,ac⟩:=info_parts Tryz.infoInt;have HI:=qH4 hi a7 ad ac;clear hi a7 ad ac;obtain⟨W0,a6⟩:=qE (xw w #[.slice (some ⟨b0,off,none⟩) l.length cap,xi cnt] 32:World);have hb0:=qN a6
 have a7:w.heap.size<W0.heap.size:=by rw[a6];simp
 have HK:Hid (∀wx,Below W0 W0 wx->xk wx w 0 (.slice (some ⟨b0,off,none⟩) l.length cap)/\yB5 wx b0 off l):=by intro wx hx;refine⟨?_,(HE.below hb0 a2).below hx qo⟩;rw[hx.cell (p:=(xd w 0)) a7,a6];simp
 obtain⟨k0,_⟩:=HK.out W0 (Below.refl _ _);have au:IntKind.i64.wrap ((l.length:Int)+1)=(l.length:Int)+1:=by rw[IntKind.wrap_i64];omega
 go_enter func116,ntmps116;go_upto_region 1 with fail;rw[<-a6];clear a6;go_wp2_with (at_make;refine wpList_make_full _ rfl _ _ 259 rfl W0 3 i _ 1 underlying259 HI.1 HI.2.1 HI.2.2.1 _ _ _ _ (l.length+1) rfl rfl ?_ ?_ ?hb ?hm ?hs ?_);case hb=>rw[HI.2.2.2];omega
 case hm=>unfold maxLen;omega
 case hs=>exact Nat.le_refl _
 .rfl
 .rfl
 intro w1 a8 ae;rw[yWm]at a8;have aj:Hid (OwnZ 3 w1 W0 W0 (l.length+1) (List.replicate (l.length+1) 0) .i64):=by unfold Hid OwnZ;rw[length_replicate];exact a8
 have ag:=(Below.refl _ _).grown ae qr (λk hk=>by cases hk);clear a8 ae k0;obtain⟨e0,e1⟩:=aj.cell (j:=0) (d:=0) rfl;have ai:=qH1 (aj.set 0 1);have hb2:Below W0 W0 (xt w1 W0 0 (xi 1)):=ag.setCell qr _;obtain⟨k0,_⟩:=HK.out _ ag;obtain⟨W2,aa⟩:=qE (xt w1 W0 0 (xi 1):World);rw[<-aa]at ai hb2;go_upto_region 3 with fail;rw[<-aa];clear aa e0 e1 k0;obtain⟨k0,_⟩:=HK.out W2 hb2;go_wp2_with fail;go_loopw[21] (λi wr=>∃(k:Nat)(ds:List Int),k<=l.length/\i=(xi k)/\Hid (yC6 l k=some ds/\OwnZ 3 wr W0 W0 (l.length+1) ds .i64)/\Below W0 W0 wr) (λi _=>l.length-(intOf i).toNat);case atStart=>exact⟨0,_,zero_le _,rfl,⟨rfl,ai.out⟩,hb2⟩
 case round=>
  clear k0;obtain⟨k,ds,hk,rfl,HJ,hb⟩:=hrel;have a9:=(yHn HJ.1).len;obtain⟨k0,hE⟩:=HK.out wr hb;by_cases a2:k<l.length
  .have zk:(k:Int)<(l.length:Int):=qo
   have aq:(k:Int)<(l.length:Int)+1:=qo
   obtain⟨y,hy⟩:∃y,l[k]?=some y:=qg a2;obtain⟨op,a,b,free,⟨kind,s,hi,t,lo,up,nn⟩⟩:=y;have HX:=qH1 hy;have a4:=ao.out k _ hy;simp only at a4;obtain⟨c0,c1,c2,c3,c4,c5,c6,c7,c8,c9,c10⟩:=hE k _ hy;obtain⟨d,hd⟩:∃d,ds[k]?=some d:=qg qo;have HD:=qH1 hd;have hdr:=(yHn HJ.1).ran d (mem_of_getElem? hd);obtain⟨W3,a5⟩:=qE (xw wr #[xi op,xi a,xi b,free,xi kind,s,hi,t,xu lo,xu up,xi nn] 153:World);have af:=qN a5
   have ar:=qS a5
   have kw3:=hb.trans (af.mono hb.size);have k3w:=hb0.trans (kw3.mono qo);have HO3:=qH1 (HJ.2.below af);obtain⟨x0,x1,x2,x3,x4,x5,x6,x7,x8,x9,x10⟩:xk W3 wr 0 (xi op)/\xk W3 wr 1 (xi a)/\xk W3 wr 2 (xi b)/\xk W3 wr 3 free/\xk W3 wr 4 (xi kind)/\xk W3 wr 5 s/\xk W3 wr 6 hi/\xk W3 wr 7 t/\xk W3 wr 8 (xu lo)/\xk W3 wr 9 (xu up)/\xk W3 wr 10 (xi nn):=by rw[a5];refine⟨?_,?_,?_,?_,?_,?_,?_,?_,?_,?_,?_⟩<;>simp
   obtain⟨e0,e1⟩:=HO3.cell hd;obtain⟨js,a3⟩:=qE (ways k ⟨op,a,b,free,⟨kind,s,hi,t,lo,up,nn⟩⟩);have HJS:Hid (js=ways k ⟨op,a,b,free,⟨kind,s,hi,t,lo,up,nn⟩⟩/\js.length<=2/\∀(m j:Nat),js[m]?=some j->j<=l.length):=by
    refine⟨a3,?_,λm j hm=>?_⟩
    .rw[a3];unfold ways;split;simp;split<;>simp
    .have a1:=mem_of_getElem? hm;rw[a3]at a1;unfold ways at a1;split at a1
     .rename_i q;have:=a4 (.inl q);simp at a1;omega
     .split at a1
      .rename_i q;have:=a4 (.inr q);simp at a1;omega
      .simp at a1;omega
   have HWy:Hid (Calls prog 167 #[.agg #[xi op,xi a,xi b,free,xi kind,s,hi,t,xu lo,xu up,xi nn],xi k] W3 (yXj js W3)):=by rw[a3];exact yXv ⟨op,a,b,free,⟨kind,s,hi,t,lo,up,nn⟩⟩ k W3 qo (λq=>by have:=a4 q;show 0<=b;omega)
   have HOl:=qH1 a9;clear a3 a4 hE hy hd a9;go_upto_region 6 with fail;rw[<-a5];clear a5 c0 c1 c2 c3 c4 c5 c6 c7 c8 c9 c10 k0;by_cases h2o:op=2;case pos=>
    subst h2o;by_cases hlow:d<1;case pos=>exact zVl
    have HM:Hid ((d+1)=d+more 2):=by show(d+1)=d+more 2;simp[more]
    have ak:IntKind.i64.wrap (d+1)=(d+1):=by rw[IntKind.wrap_i64];omega
    by_cases a0:250<(d+1);case pos=>
     have HG:Hid (¬P):=λq=>yG4 HJ.1 HX.out (yX3 HD.out HM.out a0) (HP.1 q);exact zVr
    obtain⟨D,hD⟩:=qE (d+1);have ab:1<=D/\D<=250:=qo
    have HS:Hid (yC2 ds k ⟨2,a,b,free,⟨kind,s,hi,t,lo,up,nn⟩⟩=yB1 D js ds):=by show _=_;rw[HJS.1,hD];exact yNa HD.out (by simp[least];omega) HM.out a0
    exact zVq
   by_cases h3o:op=3;case pos=>
    subst h3o;by_cases hlow:d<2;case pos=>exact zVl
    have HM:Hid (d=d+more 3):=by show d=d+more 3;simp[more]
    have a0:¬250<d:=qo
    obtain⟨D,hD⟩:=qE d;have ab:1<=D/\D<=250:=qo
    have HS:Hid (yC2 ds k ⟨3,a,b,free,⟨kind,s,hi,t,lo,up,nn⟩⟩=yB1 D js ds):=by show _=_;rw[HJS.1,hD];exact yNa HD.out (by simp[least];omega) HM.out a0
    exact zVq
   by_cases h4o:op=4;case pos=>
    subst h4o;by_cases hlow:d<2;case pos=>exact zVl
    have HM:Hid ((d+ -1)=d+more 4):=by show(d+ -1)=d+more 4;simp[more]
    have ak:IntKind.i64.wrap (d+ -1)=(d+ -1):=by rw[IntKind.wrap_i64];omega
    have a0:¬250<(d+ -1):=qo
    obtain⟨D,hD⟩:=qE (d+ -1);have ab:1<=D/\D<=250:=qo
    have HS:Hid (yC2 ds k ⟨4,a,b,free,⟨kind,s,hi,t,lo,up,nn⟩⟩=yB1 D js ds):=by show _=_;rw[HJS.1,hD];exact yNa HD.out (by simp[least];omega) HM.out a0
    exact zVq
   by_cases hlow:d<1;case pos=>
    have HG:Hid (¬P):=λq=>yG4 HJ.1 HX.out (yN HD.out (by show d<least op;simp[least,h3o,h4o];omega)) (HP.1 q);exact zVr
   have HM:Hid (d=d+more op):=by show d=d+more op;simp[more,h2o,h4o]
   have a0:¬250<d:=qo
   obtain⟨D,hD⟩:=qE d;have ab:1<=D/\D<=250:=qo
   have HS:Hid (yC2 ds k ⟨op,a,b,free,⟨kind,s,hi,t,lo,up,nn⟩⟩=yB1 D js ds):=by show _=_;rw[HJS.1,hD];exact yNa HD.out (by simp[least,h3o,h4o];omega) HM.out a0
   exact zVq
  .have zk:¬(k:Int)<(l.length:Int):=qo
   have am:k=l.length:=qo
   subst am;obtain⟨d,hd⟩:∃d,ds[l.length]?=some d:=qg qo;obtain⟨e0,e1⟩:=HJ.2.cell hd;have HF:Hid (P↔d=1):=by
    show P↔_;rw[HP.out];constructor
    .rintro⟨av,q1,q2⟩;rw[HJ.1]at q1;cases q1
     rw[hd]at q2;exact Option.some.inj q2
    .intro q;exact⟨ds,HJ.1,by rw[hd,q]⟩
   have kw:=hb0.trans (hb.mono qo);have zl:(l.length:Int)<(l.length:Int)+1:=qo
   clear hd a9 hE;exact xGg
def mIx(k:Int):Ix:=⟨k,k+1,k+1+1,xC8 (k+1+1+1),mNd (k+1+1+1+1)⟩
def yCt(k:Int)(es:List Ix)(i:Nat):Prop:=∀j:Nat,j<i->es[j]?=some (mIx (k+j*11))
theorem OwnX.upd{g:Nat}{fs:List Ix}{f f':Ix}{u:Value}(h:OwnX w base g cap (fs.set m f))(hm:m<fs.length)(hj:j<11)(hc:f'.ten=f.ten.set j u):
  OwnX (xt w g (m*11+j) u) base g cap (fs.set m f'):=by
 have:=h.set m j f f' u (by simp[hm]) hj hc;rwa [set_set]at this
theorem ySu{k:Int}{fs:List Ix}(h:yCt k fs m)(hm:m<fs.length):yCt k (fs.set m (mIx (k+m*11))) (m+1):=by
 intro j hj;by_cases e:j=m
 .subst e;simp[hm]
 .rw[getElem?_set_ne qo];exact h j qo
theorem yN4(base g cap:Nat)(es:List Ix)(k:Int)(w:World)(hO:OwnX w base g cap es)(h0:0<k)(h1:k<=2^30)(hn:es.length<=1048576):
  Calls prog 126 #[xg g es.length cap,xi k] w λe w'=>
   ∃fs,e=.returned (xi (k+es.length*11))/\OwnX w' base g cap fs/\fs.length=es.length/\yCt k fs es.length/\w.grownBy w' (some g):=by
 have HO:=qH1 hO;clear hO;go_enter func126,ntmps126;go_wp2;go_loopw[1,5] (λc i wr=>∃(m:Nat)(a:Int)(fs:List Ix),m<=es.length/\i=(xi m)/\c=(xi a)/\a=k+m*11/\OwnX wr base g cap fs/\fs.length=es.length/\yCt k fs m/\w.grownBy wr (some g)) (λ_ i _=>es.length-(intOf i).toNat);case atStart=>exact⟨0,k,es,zero_le _,rfl,rfl,by simp,HO.out,rfl,λj hj=>qo,yAu (Below.refl _ _) _⟩
 case round=>
  obtain⟨m,a,fs,hm,rfl,rfl,ha,hO,a6,a4,a5⟩:=hrel;have HR:=qH4 ha hO a6 a4;have ab:0<a:=qo
  have aa:a<=2^31:=qo
  have HG:=qH1 a5;clear hO a6 a4 ha a5;by_cases hlt:m<es.length
  .obtain⟨f,hf⟩:∃f,fs[m]?=some f:=qg (by rw[HR.2.2.1];exact hlt);have HF:=qH2 hf (by rw[HR.2.2.1];exact hlt:m<fs.length);have a3:fs.set m f=fs:=by have h9:=Option.some.inj ((getElem?_eq_getElem HF.2).symm.trans hf);rw[<-h9];exact set_getElem_self HF.2
   clear hf;obtain⟨c0,c1,c2,c3,c4,_⟩:=HR.2.1.at m f HF.1;simp only[Nat.zero_add]at c0 c1 c2 c3 c4;have z0:=λj=>World.ownsRow.frozenAt HR.2.1 j;have a7:OwnX wr base g cap (fs.set m f):=by rw[a3];exact HR.2.1
   have H0:Hid (OwnX (xt ((((wr.setCell (xd g (m*11)) (xi a)).setCell (xd g (m*11+1)) (xi (a+1))).setCell (xd g (m*11+2)) (xi (a+1+1))).setCell (xd g (m*11+3)) ((a+1+1+1)%3==0)) g (m*11+4) (xi (a+1+1+1+1))) base g cap (fs.set m {f with op:=a,a:=a+1,b:=a+1+1,free:=((a+1+1+1)%3==0),leaf:={f.leaf with kind:=a+1+1+1+1}})/\w.grownBy (xt ((((wr.setCell (xd g (m*11)) (xi a)).setCell (xd g (m*11+1)) (xi (a+1))).setCell (xd g (m*11+2)) (xi (a+1+1))).setCell (xd g (m*11+3)) ((a+1+1+1)%3==0)) g (m*11+4) (xi (a+1+1+1+1))) (some g)):=
    ⟨(((((a7.upd (j:=0) (u:=(xi a)) (f':={f with op:=a}) HF.2 qo rfl).upd (j:=1) (u:=(xi (a+1))) (f':={f with op:=a,a:=a+1}) HF.2 qo rfl).upd (j:=2) (u:=(xi (a+1+1))) (f':={f with op:=a,a:=a+1,b:=a+1+1}) HF.2 qo rfl).upd (j:=3) (u:=((a+1+1+1)%3==0)) (f':={f with op:=a,a:=a+1,b:=a+1+1,free:=((a+1+1+1)%3==0)}) HF.2 qo rfl).upd (j:=4) (u:=(xi (a+1+1+1+1))) (f':={f with op:=a,a:=a+1,b:=a+1+1,free:=((a+1+1+1)%3==0),leaf:={f.leaf with kind:=a+1+1+1+1}}) HF.2 qo rfl),(((((HG.trans (yAv _ g (m*11) (xi a))).trans (yAv _ g (m*11+1) (xi (a+1)))).trans (yAv _ g (m*11+2) (xi (a+1+1)))).trans (yAv _ g (m*11+3) ((a+1+1+1)%3==0))).trans (yAv _ g (m*11+4) (xi (a+1+1+1+1))))⟩
   clear a7 a3;go_wp2_with fail;refine(yBv (a+1+1+1+1+1) _ qo qo).mono ?_;rintro e w1 ⟨rfl,a2⟩;have a1:=H0.1.below a2 H0.1.lt.2;obtain⟨_,_,_,_,_,c5,c6,_⟩:=a1.at m _ (by simp[HF.2];rfl);simp only[Nat.zero_add]at c5 c6;have z1:=λj=>World.ownsRow.frozenAt a1 j;have hO2:=((a1.upd (j:=5) (u:=(yAx (a+1+1+1+1+1).toNat)) (f':={f with op:=a,a:=a+1,b:=a+1+1,free:=((a+1+1+1)%3==0),leaf:={f.leaf with kind:=a+1+1+1+1,s:=yAx (a+1+1+1+1+1).toNat}}) HF.2 qo rfl).upd (j:=6) (u:=((a+1+1+1+1+1+1)%3==0)) (f':={f with op:=a,a:=a+1,b:=a+1+1,free:=((a+1+1+1)%3==0),leaf:={f.leaf with kind:=a+1+1+1+1,s:=yAx (a+1+1+1+1+1).toNat,hi:=((a+1+1+1+1+1+1)%3==0)}}) HF.2 qo rfl)
   have H1:Hid (OwnX (xt (w1.setCell (xd g (m*11+5)) (yAx (a+1+1+1+1+1).toNat)) g (m*11+6) ((a+1+1+1+1+1+1)%3==0)) base g cap (fs.set m {f with op:=a,a:=a+1,b:=a+1+1,free:=((a+1+1+1)%3==0),leaf:={f.leaf with kind:=a+1+1+1+1,s:=yAx (a+1+1+1+1+1).toNat,hi:=((a+1+1+1+1+1+1)%3==0)}})/\w.grownBy (xt (w1.setCell (xd g (m*11+5)) (yAx (a+1+1+1+1+1).toNat)) g (m*11+6) ((a+1+1+1+1+1+1)%3==0)) (some g)):=
    ⟨hO2,(((H0.2.trans (yAu a2 _)).trans (yAv _ g (m*11+5) (yAx (a+1+1+1+1+1).toNat))).trans (yAv _ g (m*11+6) ((a+1+1+1+1+1+1)%3==0)))⟩
   clear a1 hO2 a2 c0 c1 c2 c3 c4 z0;go_wp2_with fail;refine(yBv (a+1+1+1+1+1+1+1) _ qo qo).mono ?_;rintro e w2 ⟨rfl,hb2⟩;have a0:=H1.1.below hb2 H1.1.lt.2;obtain⟨_,_,_,_,_,_,_,c7,c8,c9,c10⟩:=a0.at m _ (by simp[HF.2];rfl);simp only[Nat.zero_add]at c7 c8 c9 c10;have z3:=λj=>World.ownsRow.frozenAt a0 j;have a8:=((((a0.upd (j:=7) (u:=(yAx (a+1+1+1+1+1+1+1).toNat)) (f':={f with op:=a,a:=a+1,b:=a+1+1,free:=((a+1+1+1)%3==0),leaf:={f.leaf with kind:=a+1+1+1+1,s:=yAx (a+1+1+1+1+1).toNat,hi:=((a+1+1+1+1+1+1)%3==0),t:=yAx (a+1+1+1+1+1+1+1).toNat}}) HF.2 qo rfl).upd (j:=8) (u:=(xu (a+1+1+1+1+1+1+1+1))) (f':={f with op:=a,a:=a+1,b:=a+1+1,free:=((a+1+1+1)%3==0),leaf:={f.leaf with kind:=a+1+1+1+1,s:=yAx (a+1+1+1+1+1).toNat,hi:=((a+1+1+1+1+1+1)%3==0),t:=yAx (a+1+1+1+1+1+1+1).toNat,lo:=a+1+1+1+1+1+1+1+1}}) HF.2 qo rfl).upd (j:=9) (u:=(xu (a+1+1+1+1+1+1+1+1+1))) (f':={f with op:=a,a:=a+1,b:=a+1+1,free:=((a+1+1+1)%3==0),leaf:={f.leaf with kind:=a+1+1+1+1,s:=yAx (a+1+1+1+1+1).toNat,hi:=((a+1+1+1+1+1+1)%3==0),t:=yAx (a+1+1+1+1+1+1+1).toNat,lo:=a+1+1+1+1+1+1+1+1,up:=a+1+1+1+1+1+1+1+1+1}}) HF.2 qo rfl).upd (j:=10) (u:=(xi (a+1+1+1+1+1+1+1+1+1+1))) (f':=mIx a) HF.2 qo rfl);have a9:=(((((H1.2.trans (yAu hb2 _)).trans (yAv _ g (m*11+7) (yAx (a+1+1+1+1+1+1+1).toNat))).trans (yAv _ g (m*11+8) (xu (a+1+1+1+1+1+1+1+1)))).trans (yAv _ g (m*11+9) (xu (a+1+1+1+1+1+1+1+1+1)))).trans (yAv _ g (m*11+10) (xi (a+1+1+1+1+1+1+1+1+1+1))));have H4:=qH2 a8 a9;have HE:=qH1 HR.1;clear a0 a8 a9 hb2 c5 c6 z1;go_wp2_with fail;refine⟨⟨m+1,a+1+1+1+1+1+1+1+1+1+1+1,fs.set m (mIx a),qo,by go_num,rfl,?_,H4.1,by rw[length_set];exact HR.2.2.1,?_,H4.2⟩,?_⟩
   .go_light;have:=HE.out;omega
   .go_light;have:=ySu HR.2.2.2 HF.2;rw[<-HE.out]at this;exact this
   .go_light;simp[intOf];omega
  .exact xC0
theorem yN3(a:Option Addr)(cap:Nat)(k:Int)(w:World):
  (xf 126 #[.slice a 0 cap,xi k] w (xi k):Prop):=by
 go_enter func126,ntmps126;exact xD4
theorem yIb(base:Nat)(u:Value)(R:List Ix)(k:Int)(w:World)(h:RowX w base u R)(h0:0<k)(h1:k<=2^30)(hn:R.length<=1048576):
  Calls prog 126 #[u,xi k] w λe w'=>
   ∃R',e=.returned (xi (k+R.length*11))/\RowX w' base u R'/\R'.length=R.length/\yCt k R' R'.length/\w.grownBy w' u.ownBlock:=by
 rcases h.cases with⟨rfl,rfl⟩|⟨g,cp,rfl,hO⟩
 .refine(yN3 none 0 k w).mono ?_;rintro e w' ⟨rfl,hb⟩;exact⟨[],by simp,xA9 _ _,rfl,λj hj=>by simp at hj,yAu hb _⟩
 .refine(yN4 base g cp R k w hO h0 h1 hn).mono ?_;rintro e w' ⟨fs,rfl,a0,hl,hm,hg⟩;refine⟨fs,rfl,?_,hl,by rw[hl];exact hm,hg⟩;have h9:RowX w' base (xg g fs.length cp) fs:=a0;rw[hl]at h9;exact h9
theorem yL2(x:Bk)(conds:Nat)(w:World)(h:yAy w x.v x.l)(ho:x.ok)(hcd:conds<=1000):Calls prog 52 #[x.val,.int .i64 conds] w (yH3 (yBe x.l x.cnt conds) w):=by
 obtain⟨P,hP⟩:=qE (yBe x.l x.cnt conds:Prop);rw[<-hP];obtain⟨v,cnt,l⟩:=x;have HP:Hid (P↔yBe l cnt conds):=by show P↔_;rw[hP]
 have HH:=qH2 h ho.ins;obtain⟨va,cap,a6⟩:∃va cap,v=.slice va l.length cap:=by
  rcases h with⟨a,cap,hq,hl⟩|⟨b,off,cap,hq,_⟩
  .simp only at hq hl;subst hl;exact⟨_,_,hq⟩
  .exact⟨_,_,hq⟩
 subst a6;clear h ho hP;obtain⟨W0,a0⟩:=qW (xw w #[.slice va l.length cap,xi cnt] 32);have hb0:=qN a0
 have a5:w.heap.size<W0.heap.size:=by rw[a0];simp
 have HK:Hid (∀wx,Below W0 W0 wx->xk wx w 0 (.slice va l.length cap)/\xk wx w 1 (xi cnt)/\yAy wx (.slice va l.length cap) l):=by
  intro wx hx;refine⟨?_,?_,(HH.1.below hb0 qr).below hx qr⟩;all_goals rw[hx.cell (by exact a5),a0]
  all_goals simp
 obtain⟨k0,k1,_⟩:=HK.out W0 (Below.refl _ _);go_enter func52,ntmps52;go_upto_region 1 with fail;rw[<-a0];clear a0;by_cases p0:1<=l.length;case neg=>
  have z:(l.length:Int)<1:=qo
  exact xAl
 have z0:¬(l.length:Int)<1:=qo
 by_cases p1:l.length<=4000;case neg=>
  exact xF4
 have z1:¬(4000:Int)<(l.length:Int):=qo
 by_cases p2:0<=cnt;case neg=>
  exact xCx
 have z2:¬cnt<0:=qo
 by_cases p3:cnt<=200;case neg=>
  exact xC1
 have z3:¬200<cnt:=qo
 go_wp2;go_loopw[29] (λi wr=>∃(k:Nat),k<=l.length/\i=(xi k)/\Hid (∀(j:Nat)(y:Ix),j<k->l[j]?=some y->yCy y j l.length cnt conds)/\Below W0 W0 wr) (λi _=>l.length-(intOf i).toNat);case atStart=>exact⟨0,zero_le _,rfl,λj y hj=>qo,Below.refl _ _⟩
 case round=>
  obtain⟨k,hk,rfl,HJ,hb⟩:=hrel;have sb:=hb.size;clear k0 k1;obtain⟨k0,k1,hI⟩:=HK.out wr hb;have HI:=qH1 hI;clear hI;by_cases hlt:k<l.length
  .obtain⟨y,hy⟩:∃y,l[k]?=some y:=qg hlt;have zk:(k:Int)<(l.length:Int):=qo
   have HY:=qH2 hy (HH.2 y (mem_of_getElem? hy));clear hy;go_wp2_with fail;refine(yMz ⟨.slice va l.length cap,cnt,l⟩ k conds y _ HI.out HY.1 HY.2).mono ?_;rintro e w3 ⟨r,rfl,hr,a3⟩;have HR:=qH1 hr;have a1:=hb.trans (a3.mono sb);have a2:=hb0.trans (a1.mono qo);clear hr k0 k1;cases r
   case false=>have HG:Hid (¬P):=λq=>Bool.noConfusion (HR.2 (yC3 (HP.1 q) HY.1));exact zR a2
   case true=>
   have HN:Hid (∀(j:Nat)(z:Ix),j<k+1->l[j]?=some z->yCy z j l.length cnt conds):=λj z hj hz=>by
    by_cases e:j=k
    .subst e;have:=HY.1;rw[hz]at this;cases this
     exact HR.1 rfl
    .exact HJ.out j z qo hz
   refine zY ?_;exact⟨k+1,qo,by go_num,HN,a1⟩
  .have zk:¬(k:Int)<(l.length:Int):=qo
   have a4:Hid (∀(j:Nat)(z:Ix),l[j]?=some z->yCy z j l.length cnt conds):=λj z hz=>HJ.out j z (qw (qf hz)) hz;go_wp2_with fail;refine(yK7 ⟨.slice va l.length cap,cnt,l⟩ conds _ HI.out p0 p1 a4.out).mono ?_;rintro e w3 ⟨r,rfl,hr,a3⟩;have HR:Hid (r=true↔P):=by show r=true↔P;rw[hr,HP.out];exact⟨λq=>⟨p0,p1,p2,p3,a4.out,q⟩,λq=>q.2.2.2.2.2⟩
   have a1:=hb.trans (a3.mono sb);have a2:=hb0.trans (a1.mono qo);clear hr k0 k1 p0 p1;go_wp2;go_ret;exact⟨_,rfl,HR.out,a2⟩
theorem yI8(u:Value) bs (m:Bk) w (h:yCg w u bs) (hok:∀x∈bs,x.ok) (hm:yAy w m.v m.l) (hmo:m.ok):
  Calls prog 14 #[.agg #[u,m.v,xi m.cnt]] w (yH3 (yCn bs m) w):=by
 obtain⟨P,hP⟩:=qE (yCn bs m:Prop);rw[<-hP];have HP:Hid (P↔yCn bs m):=by show P↔_;rw[hP]
 have HH:=qH4 h hok hm hmo;obtain⟨ua,cap,aa⟩:∃ua cap,u=.slice ua bs.length cap:=by
  rcases h with⟨a,cap,hq,hl⟩|⟨b,off,cap,hq,_⟩
  .subst hl;exact⟨_,_,hq⟩
  .exact⟨_,_,hq⟩
 subst aa;have ad:=hm.cells;clear h hok hm hmo hP;obtain⟨W0,a1⟩:=qW (xw w #[.slice ua bs.length cap,m.v,xi m.cnt] 34);have hb0:=qN a1
 have a9:w.heap.size<W0.heap.size:=by rw[a1];simp
 have HK:Hid (∀wx,Below W0 W0 wx->xk wx w 0 (.slice ua bs.length cap)/\xk wx w 1 m.v/\xk wx w 2 (xi m.cnt)/\yCg wx (.slice ua bs.length cap) bs/\yAy wx m.v m.l):=by
  intro wx hx;refine⟨?_,?_,?_,(HH.1.below hb0).below hx,(HH.2.2.1.below hb0 qr).below hx (Nat.le_refl _)⟩;all_goals rw[hx.cell (by exact a9),a1]
  all_goals simp
 obtain⟨k0,k1,k2,_,_⟩:=HK.out W0 (Below.refl _ _);go_enter func14,ntmps14;go_upto_region 1 with fail;rw[<-a1];clear a1;by_cases p0:bs.length<=200;case neg=>
  have z:(200:Int)<(bs.length:Int):=qo
  exact xAl
 have z0:¬(200:Int)<(bs.length:Int):=qo
 go_wp2_with fail;clear k0 k1 k2;go_loopw[12] (λi wr=>∃(k:Nat),k<=bs.length/\i=.int .i64 k/\Hid (∀(j:Nat)(x:Bk),j<k->bs[j]?=some x->yBe x.l x.cnt j)/\Below W0.heap.size W0 wr) (λi _=>bs.length-(intOf i).toNat);case atStart=>exact⟨0,zero_le _,rfl,λj x hj=>qo,Below.refl _ _⟩
 case round=>
  obtain⟨k,hk,rfl,HJ,hb⟩:=hrel;have sb:=hb.size;obtain⟨k0,k1,k2,hI,hM⟩:=HK.out wr hb;have HM:=qH1 hM;clear hM;by_cases hlt:k<bs.length
  .obtain⟨x,hx⟩:∃x,bs[k]?=some x:=⟨_,getElem?_eq_getElem hlt⟩;have zk:(k:Int)<(bs.length:Int):=qo
   obtain⟨b0,off,ab,c0,c1,hX⟩:∃b0 off,ua=some ⟨b0,off,none⟩/\wr.cell? ⟨b0,off+k*2,none⟩=some x.v/\wr.cell? ⟨b0,off+k*2+1,none⟩=some (.int .i64 x.cnt)/\yAy wr x.v x.l:=by
    rcases hI with⟨a,ac,hq,hl⟩|⟨b,off,ac,hq,hE,_⟩
    .subst hl;simp at hlt
    .cases hq
     obtain⟨c0,c1,c2⟩:=hE k x hx;exact⟨b,off,rfl,c0,c1,c2⟩
   obtain⟨xv,a2,xl⟩:=x;obtain⟨xa,xn,xc,a6,a7⟩:=hX.one;simp only at a6 a7 c0 c1 hX;subst a7;subst a6;obtain⟨W1,a0⟩:=qW (wr.alloc (Obj.cells #[.slice xa xl.length xc,.int .i64 a2] 32));have a8:Below wr wr W1:=by rw[a0];exact qB
   have HX:=qH3 (hX.below a8 (Nat.le_refl _)) (HH.2.1 _ (mem_of_getElem? hx)) hx;have n0:W1.cell? (xd wr.heap.size 0)=some (.slice xa xl.length xc):=by rw[a0];simp
   have n1:W1.cell? (xd wr.heap.size 1)=some (.int .i64 a2):=by rw[a0];simp
   have a5:=hb.trans (a8.mono sb);subst ab;clear hI hX hx;go_upto_region 6 with fail;rw[<-a0];clear a0 c0 c1 k0 k1 k2;go_wp2_with fail;refine(yL2 ⟨.slice xa xl.length xc,a2,xl⟩ k _ HX.1 HX.2.1 qo).mono ?_;rintro e w3 ⟨r,rfl,hr,a4⟩;have HR:=qH1 hr;have kb3:=a5.trans (a4.mono a5.size);have a3:=hb0.trans (kb3.mono qo);clear hr n0 n1;cases r
   case false=>have HG:Hid (¬P):=λq=>Bool.noConfusion (HR.2 ((HP.1 q).2.2 k _ HX.2.2));exact zR a3
   case true=>
   exact xGo
  .have zk:¬(k:Int)<(bs.length:Int):=qo
   have HB:Hid (∀(j:Nat)(x:Bk),bs[j]?=some x->yBe x.l x.cnt j):=λj x hx=>HJ.out j x (qw ((List.getElem?_eq_some_iff.1 hx).1)) hx;clear hI;go_wp2_with fail;refine(yL2 m bs.length _ HM.out HH.2.2.2 qo).mono ?_;rintro e w3 ⟨r,rfl,hr,a4⟩;have HR:Hid (r=true↔P):=by show r=true↔P;rw[hr,HP.out];exact⟨λq=>⟨p0,q,HB.out⟩,λq=>q.2.1⟩
   have kb3:=hb.trans (a4.mono sb);have a3:=hb0.trans (kb3.mono qo);clear hr k0 k1 k2 p0;go_wp2;go_ret;exact⟨_,rfl,HR.out,a3⟩
def yA6:List Bk->Nat
 | []=>0
 |x::r=>x.l.length*11+1+yA6 r
def yJw:Int->List Bk->Prop
 |_,[]=>True
 |k,x::r=>yCt k x.l x.l.length/\x.cnt=k+x.l.length*11/\yJw (k+x.l.length*11+1) r
theorem yE8 l m:yA6 (l++m)=yA6 l+yA6 m:=by
 induction l with
 |nil=>simp[yA6]
 |cons x r ih=>simp only[cons_append,yA6,ih];omega
variable {x:Bk}
theorem yIa:∀{l:List Bk}{k:Int},yJw k l->yCt (k+yA6 l) x.l x.l.length->x.cnt=k+yA6 l+x.l.length*11->yJw k (l++ [x])
 | [],k,_,h1,h2=>by
   simp only[yA6,Int.natCast_zero,Int.add_zero]at h1 h2
   exact⟨h1,h2,trivial⟩
 |y::r,k,h,h1,h2=>by
  refine⟨h.1,h.2.1,yIa h.2.2 ?_ ?_⟩
  .have e:k+((yA6 (y::r):Nat):Int)=k+y.l.length*11+1+(yA6 r:Nat):=by simp only[yA6];omega
   rw[e]at h1;exact h1
  .have e:k+((yA6 (y::r):Nat):Int)=k+y.l.length*11+1+(yA6 r:Nat):=by simp only[yA6];omega
   rw[e]at h2;exact h2
def shp(x:Bk):Value×Nat:=(x.v,x.l.length)
theorem yJv:∀{l m:List Bk},l.map shp=m.map shp->yA6 l=yA6 m
 | [],[],_=>rfl
 |x::r,y::t,h=>by
  simp only[map_cons,List.cons.injEq]at h
  have e:x.l.length=y.l.length:=congrArg Prod.snd h.1
  simp only[yA6,e,yJv h.2]
 | [],_::_,h=>by simp at h
 |_::_,[],h=>by simp at h
theorem yWj(l:List Bk)(m:Nat):yA6 (l.take m)<=yA6 l:=by have:=yE8 (l.take m) (l.drop m);rw[take_append_drop]at this;omega
theorem yWk{l:List Bk}(h:l[m]?=some x):yA6 (l.take (m+1))=yA6 (l.take m)+(x.l.length*11+1):=by rw[take_add_one,h,yE8];simp[yA6]
theorem take_set(l:List Bk)(m:Nat)(x:Bk)(hm:m<l.length):(l.set m x).take (m+1)=l.take m++ [x]:=by rw[take_add_one,getElem?_set_self hm,take_set_of_le qr];rfl
def MkS(cv:Value)(vs:List Value)(b:Nat):Prop:=cv.ownBlock=some b\/∃v∈vs,v.ownBlock=some b
structure MkJ(w0 w:World)(base g n cap:Nat)(bs fs:List Bk)(k a:Int)(m:Nat):Prop where
 val:a=k+yA6 (fs.take m)
 row:RowB w base (xg g n cap) fs
 each:Eac w base fs
 same:fs.map shp=bs.map shp
 marked:yJw k (fs.take m)
 chg:Chg (MkS (xg g n cap) (bs.map Bk.v)) w0 w
theorem xIr(h:fs.map shp=bs.map shp):fs.map Bk.v=bs.map Bk.v:=by have:=congrArg (List.map Prod.fst) h;simpa [map_map,shp,Function.comp_def]using this
theorem ySc(h:fs.map shp=bs.map shp):fs.length=bs.length:=by have:=congrArg List.length h;simpa using this
theorem MkJ.step{w0 w1:World}{g n:Nat}{k a:Int}{R':List Ix}(h:MkJ w0 w base g n cap bs fs k a m)(hpw:pwV (bs.map Bk.v))(hx:fs[m]?=some x)(hR:RowX w1 base x.v R')(hl:R'.length=x.l.length)(hmk:yCt a R' R'.length)(hg:w.grownBy w1 x.v.ownBlock):
  MkJ w0 (xt w1 g (m*2+1) (xi (a+x.l.length*11))) base g n cap bs (fs.set m ⟨x.v,a+x.l.length*11,R'⟩) k (a+x.l.length*11+1) (m+1):=by
 have hm:=qf hx;have a7:=mem_of_getElem? hx;have a2:=Chg.of_grown hg (λj hj=>hj);have a0:Chg (λb=>b=g) w1 (w1.setCell (xd g (m*2+1)) (.int .i64 (a+x.l.length*11))):=Chg.of_set _ _ _ _ rfl;have a1:RowB w1 base (.slice (some ⟨g,0,none⟩) n cap) fs:=h.row.chg a2 (λj hj q=>yE6 (h.each x a7) h.row j q hj);have a4:=xIr h.same;have a3:(bs.map Bk.v)[m]?=some x.v:=by rw[<-a4,getElem?_map,hx];rfl
 have a8:fs.map shp=(fs.set m ⟨x.v,a+x.l.length*11,R'⟩).map shp:=by
  rw[map_set];have e:shp ⟨x.v,a+x.l.length*11,R'⟩=shp x:=by simp[shp,hl]
  rw[e];have e2:(fs.map shp)[m]?=some (shp x):=by rw[getElem?_map,hx];rfl
  obtain⟨aa,e3⟩:=List.getElem?_eq_some_iff.1 e2;rw[<-e3];exact(set_getElem_self aa).symm
 refine⟨?_,?_,λy hy=>?_,by rw[<-a8];exact h.same,?_,?_⟩
 .rw[take_set _ _ _ hm,yE8,h.val];simp only[yA6,hl];omega
 .have hn:n=fs.length:=by obtain⟨a',c',hv⟩:=h.row.slice;cases hv;rfl
  subst hn;have h9:=(World.ownsRow.stored a1 (m*2+1) (.int .i64 (a+x.l.length*11))).1;rw[yHx fs m x ⟨x.v,a+x.l.length*11,R'⟩ _ 1 hx (by omega) rfl]at h9;unfold RowB;rw[length_set];exact h9
 .obtain⟨j,hj⟩:=getElem?_of_mem hy;by_cases hjm:j=m
  .subst hjm;rw[getElem?_set_self hm]at hj;cases hj
   exact hR.chg a0 (λi hi q=>yE6 hR a1 i hi (by rw[q];rfl))
  .rw[getElem?_set_ne (λq=>hjm q.symm)]at hj;have a6:=mem_of_getElem? hj;have a5:(bs.map Bk.v)[j]?=some y.v:=by rw[<-a4,getElem?_map,hj];rfl
   have a9:=xHp hpw hjm a5 a3;have h1:=(h.each y a6).chg a2 (λi hi q=>a9 (hi.trans q.symm));exact h1.chg a0 (λi hi q=>yE6 h1 a1 i hi (by rw[q];rfl))
 .rw[take_set _ _ _ hm];refine yIa h.marked ?_ ?_
  .rw[<-h.val];exact hmk
  .rw[<-h.val,hl]
 .refine(h.chg.trans (a2.mono (λj hj=>.inr ⟨x.v,mem_of_getElem? a3,hj⟩))).trans (a0.mono (λj hj=>.inl (by rw[hj];rfl)))
theorem yJz(base g cap:Nat)(bs:List Bk)(k:Int) w (n:Nat) (hR:RowB w base (xg g n cap) bs) (hE:Eac w base bs) (hpw:pwV (bs.map Bk.v)) (h0:0<k) (h1:k<=2^28) (hl:yA6 bs<=2^28) (hx:∀x∈bs,x.l.length<=1048576):
  Calls prog 67 #[xg g n cap,xi k] w λe w'=>
   ∃fs,e=.returned (xi (k+yA6 bs))/\MkJ w w' base g n cap bs fs k (k+yA6 bs) n:=by
 have hn:n=bs.length:=by obtain⟨a',c',hv⟩:=hR.slice;cases hv;rfl
 have HO:Hid (MkJ w w base g n cap bs bs k k 0):=⟨by simp[yA6],hR,hE,rfl,trivial,Chg.refl _ _⟩;have HB:Hid (pwV (bs.map Bk.v)/\yA6 bs<=2^28/\(∀x∈bs,x.l.length<=1048576)/\n=bs.length):=⟨hpw,hl,hx,hn⟩;have ah:n<=2^28:=by
  have:∀l:List Bk,l.length<=yA6 l:=λl=>by
   induction l with
   |nil=>simp[yA6]
   |cons x r ih=>simp only[length_cons,yA6];omega
  have:=this bs;omega
 clear hR hE hpw hl hx hn;go_enter func67,ntmps67;go_wp2;go_loopw[1,5] (λc i wr=>∃(m:Nat)(a:Int)(fs:List Bk),m<=n/\i=(xi m)/\c=(xi a)/\0<a/\a<=2^29/\MkJ w wr base g n cap bs fs k a m) (λ_ i _=>n-(intOf i).toNat);case atStart=>exact⟨0,k,bs,zero_le _,rfl,rfl,h0,qo,HO.out⟩
 case round=>
  obtain⟨m,a,fs,hm,rfl,rfl,ae,ai,hJ⟩:=hrel;have HJ:Hid (MkJ w wr base g n cap bs fs k a m):=hJ;clear hJ;by_cases hlt:m<n
  .have ac:fs.length=n:=by rw[HB.2.2.2];exact ySc HJ.same
   obtain⟨x,hx⟩:∃x,fs[m]?=some x:=qg qo;have a3:=mem_of_getElem? hx;obtain⟨xa,xc,a1⟩:=(HJ.each x a3).slice;have a6:x.l.length<=1048576:=by
    obtain⟨y,hy⟩:∃y,bs[m]?=some y:=qg (qw HB.2.2.2);have e1:(fs.map shp)[m]?=some (shp x):=by rw[getElem?_map,hx];rfl
    have e2:(bs.map shp)[m]?=some (shp y):=by rw[getElem?_map,hy];rfl
    rw[HJ.same,e2]at e1;have e3:=congrArg Prod.snd (Option.some.inj e1);have e4:y.l.length=x.l.length:=e3;rw[<-e4];exact HB.2.2.1 y (mem_of_getElem? hy)
   have a2:RowB wr base (xg g fs.length cap) fs:=by rw[ac];exact HJ.row
   obtain⟨q0,q1⟩:=a2.cell hx;have z1:wr.frozen? (xd g (m*2+1))=false:=World.ownsRow.frozenAt a2 _;have aa:=(World.ownsRow.lt a2 g rfl).2;obtain⟨xn,a0⟩:=qE x.l.length;have HX:=qH5 hx a0 (by rw[a0,<-a1];exact HJ.each x a3:RowX wr base (.slice xa xn xc) x.l) (by rw[a0];exact a1:x.v=.slice xa xn xc) HJ.row;rw[a1,<-a0]at q0;rw[<-a0]at a6;have HC:Hid (Calls prog 126 #[.slice xa xn xc,xi a] wr λe w'=>
     ∃R',e=.returned (xi (a+xn*11))/\RowX w' base (.slice xa xn xc) R'/\R'.length=x.l.length/\yCt a R' R'.length/\wr.grownBy w' (Value.slice xa xn xc).ownBlock):=by
    have h9:=yIb base (.slice xa xn xc) x.l a wr HX.2.2.1 ae qo (by rw[<-a0];exact a6);rw[<-a0]at h9;rw[<-a0];exact h9
   have HS:Hid (a+xn*11+1<=k+yA6 bs):=by have h2:=yWk hx;have h3:=yWj fs (m+1);have h4:=yJv HJ.same;have h5:=HJ.val;show _<=_;omega
   have hS:=HS.out;have af:=HB.2.1;have ad:a+xn*11+1<=2^29:=qo
   clear hx a3 a1 a2 a0 hS af;go_wp2_with fail;refine HC.mono ?_;rintro e w1 ⟨R',rfl,ab,a9,a8,a4⟩;have ag:Hid (MkJ w (xt w1 g (m*2+1) (xi (a+(xn:Int)*11))) base g n cap bs (fs.set m ⟨x.v,a+x.l.length*11,R'⟩) k (a+(xn:Int)*11+1) (m+1)):=by have h9:=HJ.step HB.1 HX.1 (by rw[HX.2.2.2.1];exact ab) a9 a8 (by rw[HX.2.2.2.1];exact a4);rw[<-HX.2.1]at h9|-;exact h9
   have a5:=Chg.of_grown a4 (λj hj=>hj);have a7:¬(Value.slice xa xn xc).ownBlock=some g:=λq=>yE6 HX.2.2.1 HX.2.2.2.2 g q rfl;have y1:(xk w1 g (m*2+1) (xi x.cnt):Prop):=by rw[a5.cell (p:=(xd g (m*2+1))) aa a7];exact q1
   have y2:w1.frozen? (xd g (m*2+1))=false:=by rw[a5.frozen (p:=(xd g (m*2+1))) aa a7];exact z1
   clear ab a9 a8 a4 a5 q0 q1 z1;go_wp2_with fail;refine⟨⟨m+1,a+(xn:Int)*11+1,fs.set m ⟨x.v,a+x.l.length*11,R'⟩,qo,by go_num,rfl,qo,ad,ag.out⟩,?_⟩;go_light;simp[intOf];omega
  .obtain rfl:m=n:=qo
   have HV:Hid (a=k+yA6 bs):=by show a=_;have h1:=HJ.val;rw[take_of_length_le (by rw[ySc HJ.same,<-HB.2.2.2];exact Nat.le_refl _),yJv HJ.same]at h1;exact h1
   go_wp2;go_ret;refine⟨fs,by rw[HV.out];rfl,?_⟩;rw[<-HV.out];exact HJ.out
theorem yJy(a:Option Addr)(cap:Nat)(k:Int)(w:World):
  (xf 67 #[.slice a 0 cap,xi k] w (xi k):Prop):=by
 go_enter func67,ntmps67;exact xD4
def MbP(base:Nat)(cv:Value)(bs:List Bk)(k:Int)(w:World)(e:Ending)(w':World):Prop:=
 ∃fs,e=.returned (xi (k+yA6 bs))/\RowB w' base cv fs/\Eac w' base fs/\fs.map shp=bs.map shp/\yJw k fs/\Chg (MkS cv (bs.map Bk.v)) w w'
theorem yLh(base:Nat)(cv:Value)(bs:List Bk)(k:Int) w (hR:RowB w base cv bs) (hE:Eac w base bs) (hpw:pwV (bs.map Bk.v)) (h0:0<k) (h1:k<=2^28) (hl:yA6 bs<=2^28) (hx:∀x∈bs,x.l.length<=1048576):
  Calls prog 67 #[cv,xi k] w (MbP base cv bs k w):=by
 rcases hR.cases with⟨rfl,rfl⟩|⟨g,cp,rfl,_⟩
 .refine(yJy none 0 k w).mono ?_;rintro e w' ⟨rfl,hb⟩;exact⟨[],by simp[yA6],xB _ _,(λx hx=>by cases hx),rfl,trivial,Chg.of_below hb⟩
 .refine(yJz base g cp bs k w bs.length hR hE hpw h0 h1 hl hx).mono ?_;rintro e w' ⟨fs,rfl,hJ⟩;refine⟨fs,rfl,hJ.row,hJ.each,hJ.same,?_,hJ.chg⟩;have h9:=hJ.marked;rw[take_of_length_le (Nat.le_of_eq (ySc hJ.same))]at h9;exact h9
theorem yN5(base:Nat)(u:Value)(c:Int)(R:List Ix)(k:Int)(w:World)(h:RowX w base u R)(h0:0<k)(h1:k<=2^30)(hn:R.length<=1048576):
  Calls prog 68 #[.agg #[u,xi c],xi k] w λe w'=>
   ∃R',e=.returned (xi (k+R.length*11))/\RowX w' base u R'/\R'.length=R.length/\yCt k R' R'.length/\w.grownBy w' u.ownBlock:=by
 obtain⟨ua,uc,hu⟩:=h.slice;obtain⟨un,a0⟩:=qE R.length;have a1:Below w w (xw w #[u,xi c] 32):=qB;have HC:Hid (Calls prog 126 #[u,xi k] (xw w #[u,xi c] 32) λe w'=>
   ∃R',e=.returned (xi (k+un*11))/\RowX w' base u R'/\R'.length=R.length/\yCt k R' R'.length/\(w.alloc (Obj.cells #[u,xi c] 32)).grownBy w' u.ownBlock):=by rw[a0];exact yIb base u R k _ (h.below a1) h0 h1 hn
 have a4:Hid (un=R.length):=a0;rw[<-a0]at hu|-;subst hu;clear h a0;go_enter func68,ntmps68;go_wp2_with fail;refine HC.mono ?_;rintro e w1 ⟨R',rfl,a2,hl,hm,a3⟩;have HF:Hid (RowX w1 base (.slice ua un uc) R'/\R'.length=R.length/\yCt k R' R'.length):=⟨a2,hl,hm⟩;clear a2 hl hm;go_wp2;go_ret;exact⟨R',rfl,HF.1,by rw[a4.out];exact HF.2.1,HF.2.2,(yAu a1 _).trans a3⟩
theorem yKe(x y:Bk)(w:World)(h:yAy w x.v x.l)(h':yAy w y.v y.l)(hv:x.vw=y.vw):
  Calls prog 65 #[x.val,y.val] w λe w'=>e=.returned (.bool true)/\Below w w w':=by
 have hu:=h.cells;have a1:=h'.cells;obtain⟨v,cnt,l⟩:=x;obtain⟨v',a4,l'⟩:=y;simp only[Bk.vw,Prod.mk.injEq]at hv;obtain⟨rfl,rfl⟩:=hv;have HE:Hid (yAy w v l/\yAy w v' l):=⟨h,h'⟩;simp only at hu a1;clear h h';go_enter func65,ntmps65;go_wp2_with fail;have k0:Below w w (xw (w.alloc (Obj.cells #[v,xi cnt] 32)) #[v',xi cnt] 32):=(qB).alloc (by simp) _;refine(yWw v v' l _ (HE.1.below k0 qr) (HE.2.below k0 qr)).mono ?_;rintro e w1 ⟨rfl,a0⟩;obtain⟨a3,a2⟩:=yOw a0;go_wp2;go_ret;exact⟨rfl,k0.trans (a0.mono (by simp;omega))⟩
theorem yOh(b off cap b' off' cap':Nat)(bs bs':List Bk)(w:World)(hE:yK0 w b off bs)(hE':yK0 w b' off' bs')(hv:bs.map Bk.vw=bs'.map Bk.vw)(hB:b<w.heap.size)(hB':b'<w.heap.size)(hlen:bs.length<=maxLen):
  Calls prog 64 #[.slice (some ⟨b,off,none⟩) bs.length cap,.slice (some ⟨b',off',none⟩) bs.length cap'] w λe w'=>
   e=.returned true/\Below w w w':=by
 have HE:=qH3 hE hE' hv;clear hE hE' hv;unfold maxLen at hlen;go_enter func64,ntmps64;go_wp2;go_loopw[5] (λi wr=>∃(k:Nat),k<=bs.length/\i=(xi k)/\Below w.heap.size w wr) (λi _=>bs.length-(intOf i).toNat);case atStart=>exact⟨0,zero_le _,rfl,Below.refl _ _⟩
 case round=>
  obtain⟨k,hk,rfl,hb⟩:=hrel;have a4:=hb.size;by_cases hlt:k<bs.length
  .obtain⟨x,hx⟩:∃x,bs[k]?=some x:=⟨_,getElem?_eq_getElem hlt⟩;have a1:=congrArg List.length HE.2.2;simp only[length_map]at a1;obtain⟨y,hy⟩:∃y,bs'[k]?=some y:=⟨_,getElem?_eq_getElem qo⟩;obtain⟨c0,c1,hI⟩:=HE.1.below hb hB k x hx;obtain⟨d0,d1,hJ⟩:=HE.2.1.below hb hB' k y hy;have a0:x.vw=y.vw:=by have:=congrArg (λl=>l[k]?) HE.2.2;simp only[getElem?_map,hx,hy]at this;exact Option.some.inj this
   have HX:=qH3 hI hJ a0;have hu:=hI.cells;have a3:=hJ.cells;clear hx hy hI hJ a0 a1;go_upto_region 6 with fail;go_cut[26] (λs wx=>s=.bool false/\Below w.heap.size w wx);case first=>
    have z2:(k:Int)<(bs.length:Int):=qo
    go_region_with (go_at_call 65;refine(yKe x y _ (HX.1.below (Below.refl _ _).drew qr) (HX.2.1.below (Below.refl _ _).drew qr) HX.2.2).mono ?_;rintro e' w' ⟨rfl,a2⟩);all_goals go_wp2_with fail
    all_goals go_meet
    all_goals exact⟨rfl,hb.drew.trans (a2.mono (by simp;omega))⟩
   case rest=>
   obtain⟨rfl,h3⟩:=hcut;clear c0 c1 d0 d1;exact xDx
  .go_wp2;go_ret;exact⟨rfl,hb⟩
theorem yEh(a a':Option Addr)(cap cap':Nat)(w:World):
  (xf 64 #[.slice a 0 cap,.slice a' 0 cap'] w true:Prop):=by
 go_enter func64,ntmps64;exact xD2
theorem yQy(u u':Value)(bs bs':List Bk)(w:World)(h:yCg w u bs)(h':yCg w u' bs')(hv:bs.map Bk.vw=bs'.map Bk.vw):
  (xf 64 #[u,u'] w true:Prop):=by
 have a1:=congrArg List.length hv;simp only[length_map]at a1;rcases h with⟨a,cap,rfl,rfl⟩|⟨b,off,cap,rfl,hE,a5,g1,g2⟩
 .rcases h' with⟨a',a0,rfl,_⟩|⟨b',a2,a0,rfl,a4,a3,a7,a6⟩
  .exact yEh a a' cap a0 w
  .rw[<-a1];exact yEh a _ cap a0 w
 .rcases h' with⟨a',a0,rfl,rfl⟩|⟨b',a2,a0,rfl,a4,a3,a7,a6⟩
  .rw[a1];exact yEh _ a' cap a0 w
  .rw[<-a1];exact yOh b off cap b' a2 a0 bs bs' w hE a4 hv a5 a3 (Nat.le_trans g1 g2)
theorem yWx(u u':Value)(bs bs':List Bk)(m m':Bk)(w:World)(h:yCg w u bs)(h':yCg w u' bs')(hv:bs.map Bk.vw=bs'.map Bk.vw)(hm:yAy w m.v m.l)(hm':yAy w m'.v m'.l)(hmv:m.vw=m'.vw):
  Calls prog 22 #[.agg #[u,m.v,.int .i64 m.cnt],.agg #[u',m'.v,.int .i64 m'.cnt]] w λe w'=>e=.returned (.bool true)/\Below w w w':=by
 have HE:=qH6 h h' hv hm hm' hmv;have hu:=h.cells;have a8:=h'.cells;have a7:=hm.cells;have a6:=hm'.cells;clear h h' hv hm hm' hmv;obtain⟨W0,a3⟩:=qW (xw (w.alloc (Obj.cells #[u,m.v,xi m.cnt] 34)) #[u',m'.v,xi m'.cnt] 34);have k0:Below w w W0:=by rw[a3];exact(qB).alloc (by simp) _
 have a5:W0.heap.size=w.heap.size+1+1:=by rw[a3];simp
 have HK:Hid (∀wx,Below W0 W0 wx->xk wx w 0 u/\xk wx w 1 m.v/\xk wx w 2 (xi m.cnt)/\xk wx (w+1) 0 u'/\xk wx (w+1) 1 m'.v/\xk wx (w+1) 2 (xi m'.cnt)):=by
  intro wx hx;have e1:w.heap.size<W0.heap.size:=qo
  have e2:w.heap.size+1<W0.heap.size:=qo
  rw[hx.cell (p:=(xd w 0)) e1,hx.cell (p:=(xd w 1)) e1,hx.cell (p:=(xd w 2)) e1,hx.cell (p:=(xd (w+1) 0)) e2,hx.cell (p:=(xd (w+1) 1)) e2,hx.cell (p:=(xd (w+1) 2)) e2,a3];refine⟨?_,?_,?_,?_,?_,?_⟩<;>simp[go_sem]
 obtain⟨a0,a1,a2,b0,b1,b2⟩:=HK.out W0 (Below.refl _ _);go_enter func22,ntmps22;go_upto_region 1 with fail;rw[<-a3];clear a3;go_wp2_with fail;refine(yQy u u' bs bs' _ (HE.1.below k0) (HE.2.1.below k0) HE.2.2.1).mono ?_;rintro e w1 ⟨rfl,a4⟩;have s1:=a4.size;have k1:=k0.trans (a4.mono qo);clear a0 a1 a2 b0 b1 b2;obtain⟨a0,a1,a2,b0,b1,b2⟩:=HK.out w1 a4;go_wp2_with fail;refine(yKe m m' _ (HE.2.2.2.1.below k1 qr) (HE.2.2.2.2.1.below k1 qr) HE.2.2.2.2.2).mono ?_;rintro e w2 ⟨rfl,hb2⟩;go_wp2;go_ret;exact⟨rfl,k1.trans (hb2.mono qo)⟩
theorem Tryz.cellsBk:prog.cellsOf 49=2:=qk
theorem Tryz.cellsIxs:prog.cellsOf 47=1:=qk
theorem xFe{α:Type}{cs:List α}(h:cs.length=2):∃c0 c1,cs= [c0,c1]:=by
 match cs,h with
 | [c0,c1],_=>exact⟨c0,c1,rfl⟩
variable {H:Type} {held:Bool}
theorem yMw{enc:TypeId×Value->H}{fuel:Nat}{cs:List Value}{x:DataW H×List MemPlace}
  (h:DataW.trod enc prog w base (λ_=>true) held fuel 49 cs=some x):∃e:Bk,e.ok/\cs=e.two/\yAy w e.v e.l:=by
 obtain⟨xs,n,_,_,hl,a0,hf⟩:=DataW.trod_struct underlying49 h;rw[Tryz.cellsBk]at hl;obtain⟨c0,c1,rfl⟩:=xFe hl;obtain⟨x0,x1,rfl⟩:=xFe (cs:=xs) a0;have h0:=hf 0 _ rfl;have h1:=hf 1 _ rfl;simp[Tryz.cellsIxs,Tryz.cellsI64]at h0 h1;obtain⟨es,a2,ok⟩:=yTi h0;obtain⟨a1,e1,_,b1⟩:=DataW.trod_int underlying2 h1;simp only[List.cons.injEq,and_true]at e1;exact⟨⟨c0,a1,es⟩,⟨b1,ok⟩,by rw[e1],a2⟩
theorem yT3{enc:TypeId×Value->H}{fuel:Nat}{v:Value}{x:DataW H×List MemPlace}
  (h:DataW.trod enc prog w base (λ_=>true) held fuel 46 [v]=some x):∃es:List Bk,yCg w v es/\∀e∈es,e.ok:=by
 rcases open_slice underlying46 h with⟨hcs,_⟩|⟨a,len,cap,m,n,D,Pl,hcs,a7,hl,hm,a3,_,a4⟩
 .exact xDt
 .simp only[List.cons.injEq,and_true]at hcs;subst hcs;rw[if_pos rfl]at a3;subst a3;have a1:∀i,i<m->∃cs',w.cells? base (a.add (i*2)) 2=some cs'/\DataW.trod enc prog w base (λ_=>true) held n 49 cs'=some (D i,Pl i):=λi hi=>by have:=a4 i hi;rw[Tryz.cellsBk]at this;exact this
  clear a4;have HM:=qH1 hm;clear hm;by_cases h0:len=0
  .subst h0;exact⟨[],.inl ⟨_,_,rfl,rfl⟩,by simp⟩
  .obtain⟨b,off,a2⟩:=a;have a5:a2=none:=by
    obtain⟨cs',hc,_⟩:=a1 0 qo;obtain⟨_,a6,a0⟩:=World.cells?_some hc;have h1:=a0 0 qo;have h2:(w.cell? ((Addr.add ⟨b,off,a2⟩ (0*2)).add 0)).isSome=true:=by rw[h1];simp;omega
    obtain⟨u,hu⟩:=Option.isSome_iff_exists.1 h2;simpa [Addr.add]using World.cell?_spot hu
   subst a5;obtain⟨es,hes,hp⟩:=yC0 (P:=λi (e:Bk)=>e.ok/\(xk w b (off+i*2) e.v/\xk w b (off+i*2+1) (xi e.cnt)/\yAy w e.v e.l)) len (λi hi=>by
    obtain⟨cs',hc,ht⟩:=a1 i qo
    obtain⟨e,ok,rfl,hI⟩:=yMw ht
    obtain⟨_,a6,a0⟩:=World.cells?_some hc
    refine⟨e,ok,?_,?_,hI⟩
    .simpa [Addr.add_mid]using a0 0 qo
    .simpa [Addr.add_mid]using a0 1 qo)
   have hlt:b<w.heap.size:=by obtain⟨cs',hc,_⟩:=a1 0 qo;simpa [Addr.add]using World.cells?_block hc qo
   exact xD0
set_option maxRecDepth 100000 in
theorem yYt{enc:TypeId×Value->H}{b0:Nat}{r:Reach}{v:Value}{d:DataW H}{p:List MemPlace}
  (hv:Value.okWide prog w r b0 51 v) (h:DataW.Trod enc prog w base (λ_=>true) held 51 v d p):
  ∃(u:Value)(bs:List Bk)(m:Bk),v=.agg #[u,m.v,xi m.cnt]/\yCg w u bs/\(∀x∈bs,x.ok)/\yAy w m.v m.l/\m.ok:=by
 obtain⟨cs,rfl,a0⟩:=okWide_struct underlying51 hv;obtain⟨fuel,hf⟩:=h;have h1:prog.cellsOf 51=3:=qk
 have h2:prog.cellsOf 46=1:=qk
 obtain⟨xs,n,_,_,hl,a3,a1⟩:=DataW.trod_struct underlying51 hf;rw[h1]at a0;obtain⟨l⟩:=cs;match l,a0 with
 | [u,c1,c2],_=>
   obtain⟨x0,x1,rfl⟩:=xFe (cs:=xs) a3;have t0:=a1 0 _ rfl;have t1:=a1 1 _ rfl;simp[h2,Tryz.cellsBk,Value.cells]at t0 t1;obtain⟨bs,hb,ok⟩:=yT3 t0;obtain⟨m,a2,he,hI⟩:=yMw t1;simp only[List.cons.injEq,and_true]at he;exact⟨u,bs,m,by rw[he.1,he.2],hb,ok,hI,a2⟩
end Go.Proofs.YtnnagkfoiganfaaGreatDoor
