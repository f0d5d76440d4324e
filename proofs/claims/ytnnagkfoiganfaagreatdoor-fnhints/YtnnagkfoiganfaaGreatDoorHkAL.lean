import Derived.Test.YtnnagkfoiganfaaGreatDoorHkAJ
import Derived.Test.YtnnagkfoiganfaaGreatDoorHkAI
namespace Go.Proofs.YtnnagkfoiganfaaGreatDoor
open Go.ChangeShapes Go.WideShapes Go.ChangeAt Go.RowKit Go.Deep XD XI XU XG XP XK XW XT XF XE XH _root_.List _root_.Nat XY Go.Proofs.Tryz
open _root_.List renaming length_eq_zero_iff->AB,length_append->AD,length_take->AE,length_drop->AF
open _root_.Nat renaming le_trans->AA,le_refl->AC,zero_le->AG
set_option linter.unusedVariables false
set_option linter.unusedSimpArgs false
set_option maxRecDepth 100000
set_option maxHeartbeats 64000000
variable {S E':Nat->Prop} {k:Int} {v:Vv} {n e:Nd} {base' g m j B q cq gN oN:Nat} {wr:Ww} {t:CT}
def TrX(w:Ww)(E:Nat->Prop):CT->Nat->Nat->Nat->Prop
 | .leaf n,lo,hi,p=>yAl n.f=0/\∃v k,BoxT w lo p n v k/\p<hi/\¬E p
 | .chain n a b,lo,hi,p=>n.f=14/\∃m m2 pa pb q cq k,TrX w E a lo m pa/\TrX w E b m m2 pb/\lo<=m/\m<=m2/\BoxT w m2 p n (xg q 2 cq) k/\PRow w m2 q cq [pa,pb]/\p<hi/\q<hi/\¬E p/\¬E q
 | .inter n a b,lo,hi,p=>n.f=15/\∃m m2 pa pb q cq k,TrX w E a lo m pa/\TrX w E b m m2 pb/\lo<=m/\m<=m2/\BoxT w m2 p n (xg q 2 cq) k/\PRow w m2 q cq [pa,pb]/\p<hi/\q<hi/\¬E p/\¬E q
 | .cond n a b c,lo,hi,p=>n.f=16/\∃m m2 m3 pa pb pc q cq k,TrX w E a lo m pa/\TrX w E b m m2 pb/\TrX w E c m2 m3 pc/\lo<=m/\m<=m2/\m2<=m3/\BoxT w m3 p n (xg q 3 cq) k/\PRow w m3 q cq [pa,pb,pc]/\p<hi/\q<hi/\¬E p/\¬E q
variable {w:Ww} {E:Nat->Prop}
theorem TrX.tr:∀{t:CT}{lo hi p:Nat},TrX w E t lo hi p->TrAt w t lo hi p none:=by
 intro t;induction t with
 |leaf n=>intro lo hi p h;have⟨h0,v,k,hb,hp,_⟩:=h;exact⟨h0,v,k,hb,hp⟩
 |chain n a b ha hb'|inter n a b ha hb'=>intro lo hi p h;have⟨h0,m,m2,pa,pb,q,cq,k,h1,h2,l1,l2,hb,hr,hp,hq,_⟩:=h;exact⟨h0,m,m2,pa,pb,q,cq,k,ha h1,hb' h2,l1,l2,hb,hr,hp,hq⟩
 |cond n a b c ha hb' hc'=>intro lo hi p h;have⟨h0,m,m2,m3,pa,pb,pc,q,cq,k,h1,h2,h3,l1,l2,l3,hb,hr,hp,hq,_⟩:=h;exact⟨h0,m,m2,m3,pa,pb,pc,q,cq,k,ha h1,hb' h2,hc' h3,l1,l2,l3,hb,hr,hp,hq,λf0 q=>by cases q⟩
variable {w':Ww}
theorem TrX.K(hc:Chg S w w')(hS:∀b,b<w.heap.size->¬E b->¬S b/\¬E' b):∀{t:CT}{lo hi p:Nat},TrX w E t lo hi p->TrX w' E' t lo hi p:=by
 intro t;induction t with
 |leaf n=>intro lo hi p h;obtain⟨h0,v,k,hb,hp,he⟩:=h;have:=hS p (yA.lt hb).2 he;exact⟨h0,v,k,yA.i hb hc this.1,hp,this.2⟩
 |chain n a b ha hb'=>
  intro lo hi p h;obtain⟨h0,m,m2,pa,pb,q,cq,k,h1,h2,l1,l2,hb,hr,hp,hq,he,he'⟩:=h;exact xFp
 |inter n a b ha hb'=>
  intro lo hi p h;have⟨h0,m,m2,pa,pb,q,cq,k,h1,h2,l1,l2,hb,hr,hp,hq,he,he'⟩:=h;exact xFp
 |cond n a b c ha hb' hc'=>
  intro lo hi p h;have⟨h0,m,m2,m3,pa,pb,pc,q,cq,k,h1,h2,h3,l1,l2,l3,hb,hr,hp,hq,he,he'⟩:=h;have g1:=hS p (yA.lt hb).2 he;have g2:=hS q hr.lt.2 he';exact⟨h0,m,m2,m3,pa,pb,pc,q,cq,k,ha h1,hb' h2,hc' h3,l1,l2,l3,yA.i hb hc g1.1,hr.i hc g2.1,hp,hq,g1.2,g2.2⟩
variable {O p:Nat}
theorem yKe(h:BoxT w O p n v k)(hb:base'<=O):BoxT w base' p n v k:=by exact xFv
theorem xDa:∀{t:CT}{lo lo' hi p:Nat},TrX w E t lo hi p->lo'<=lo->TrX w E t lo' hi p:=by
 intro t;induction t with
 |leaf n=>intro lo lo' hi p h hl;have⟨h0,v,k,hb,hp,he⟩:=h;exact⟨h0,v,k,yKe hb hl,hp,he⟩
 |chain n a b ha _|inter n a b ha _=>intro lo lo' hi p h hl;have⟨h0,m1,m2,pa,pb,q,cq,k,h1,h2,l1,l2,rest⟩:=h;exact⟨h0,m1,m2,pa,pb,q,cq,k,ha h1 hl,h2,AA hl l1,l2,rest⟩
 |cond n a b c ha _ _=>intro lo lo' hi p h hl;have⟨h0,m1,m2,m3,pa,pb,pc,q,cq,k,h1,h2,h3,l1,rest⟩:=h;exact⟨h0,m1,m2,m3,pa,pb,pc,q,cq,k,ha h1 hl,h2,h3,AA hl l1,rest⟩
def Seg(w:Ww)(E:Nat->Prop):Nat->List Nat->List CT->Nat->Prop
 |lo,[],[],hi=>lo<=hi
 |lo,p::ps,t::ts,hi=>∃m,TrX w E t lo m p/\lo<=m/\Seg w E m ps ts hi
 |_,_,_,_=>False
theorem Seg.X:∀{ps:List Nat}{ts:List CT}{lo hi:Nat},Seg w E lo ps ts hi->ps.length=ts.length
 | [],[],_,_,_=>rfl
 |p::ps,t::ts,_,_,h=>by have⟨m,_,_,h⟩:=h;simp[Seg.X h]
 | [],_::_,_,_,h|_::_,[],_,_,h=>h.elim
theorem Seg.le:∀{ps:List Nat}{ts:List CT}{lo hi:Nat},Seg w E lo ps ts hi->lo<=hi
 | [],[],_,_,h=>h
 |p::ps,t::ts,_,_,h=>by have⟨m,_,h1,h⟩:=h;exact AA h1 (Seg.le h)
 | [],_::_,_,_,h|_::_,[],_,_,h=>h.elim
theorem Seg.K{S E':Nat->Prop}(hc:Chg S w w')(hS:∀b,b<w.heap.size->¬E b->¬S b/\¬E' b):∀{ps:List Nat}{ts:List CT}{lo hi:Nat},Seg w E lo ps ts hi->Seg w' E' lo ps ts hi
 | [],[],_,_,h=>h
 |p::ps,t::ts,_,_,h=>by have⟨m,h0,h1,h⟩:=h;exact⟨m,h0.K hc hS,h1,Seg.K hc hS h⟩
 | [],_::_,_,_,h|_::_,[],_,_,h=>h.elim
theorem Seg.high:∀{ps:List Nat}{ts:List CT}{lo hi hi':Nat},Seg w E lo ps ts hi->hi<=hi'->Seg w E lo ps ts hi'
 | [],[],_,_,_,h,h'=>AA h h'
 |p::ps,t::ts,_,_,_,h,h'=>by have⟨m,h0,h1,h⟩:=h;exact⟨m,h0,h1,Seg.high h h'⟩
 | [],_::_,_,_,_,h,_|_::_,[],_,_,_,h,_=>h.elim
theorem Seg.split:∀(k:Nat){ps:List Nat}{ts:List CT}{lo hi:Nat},Seg w E lo ps ts hi->∃m,Seg w E lo (ps.take k) (ts.take k) m/\Seg w E m (ps.drop k) (ts.drop k) hi
 |0,ps,ts,lo,hi,h|k+1,[],[],lo,hi,h=>⟨lo,AC _,h⟩
 |k+1,p::ps,t::ts,lo,hi,h=>by
  have⟨m,h0,h1,h⟩:=h
  have⟨m2,g1,g2⟩:=Seg.split k h
  exact⟨m2,⟨m,h0,h1,g1⟩,g2⟩
 |_+1,[],_::_,_,_,h|_+1,_::_,[],_,_,h=>h.elim
theorem Seg.snoc{t:CT}{m hi:Nat}(hT:TrX w E t m hi p)(hm:m<=hi):∀{ps:List Nat}{ts:List CT}{lo:Nat},Seg w E lo ps ts m->Seg w E lo (ps++ [p]) (ts++ [t]) hi
 | [],[],lo,h=>by exact⟨hi,xDa hT h,AA h hm,AC _⟩
 |p'::ps,t'::ts,_,h=>by have⟨m',h0,h1,h⟩:=h;exact⟨m',h0,h1,Seg.snoc hT hm h⟩
 | [],_::_,_,h|_::_,[],_,h=>h.elim
variable {ps:List Nat}
theorem yMw(h:PRow w O q cq ps)(hb:base'<=O):PRow w base' q cq ps:=by exact xFv
variable {cp:Nat}
theorem PRow.take(h:PRow w O g cp ps){k:Nat}(hk:k<=ps.length):PRow w O g cp (ps.take k):=by have h1:=yQt h hk;rw[Nat.mul_one,<-List.map_take]at h1;unfold PRow;rw[show(ps.take k).length=k by rw[AE];omega];exact h1
variable {ts:List CT}
theorem xA{lo hi:Nat}(hs:Seg w E lo ps ts m)(hl:ts.length=yAl e.f)(hb:BoxT w m p e (xg q ps.length cq) k)(hr:PRow w m q cq ps)(hp:p<hi)(hq:q<hi)(he:¬E p)(he':¬E q):TrX w E (ctV e ts) lo hi p:=by
 have hlen:=hs.X;by_cases h14:e.f=14
 .have ha:yAl e.f=2:=by unfold yAl;rw[iB (.inl h14)]
  rw[ha]at hl;match ts,ps,hl,hlen,hs,hb,hr with
  | [a,b],[pa,pb],_,_,hs,hb,hr=>
    have⟨m1,t1,l1,m2,t2,l2,l3⟩:=hs;have e1:ctV e [a,b]=.chain e a b:=iB h14;rw[e1];have l3':=l3;exact⟨h14,m1,m2,pa,pb,q,cq,k,t1,t2,l1,l2,yKe hb l3',yMw hr l3',hp,hq,he,he'⟩
 .by_cases h15:e.f=15
  .have ha:yAl e.f=2:=by unfold yAl;rw[iB (.inr h15)]
   rw[ha]at hl;match ts,ps,hl,hlen,hs,hb,hr with
   | [a,b],[pa,pb],_,_,hs,hb,hr=>
     have⟨m1,t1,l1,m2,t2,l2,l3⟩:=hs;have e1:ctV e [a,b]=.inter e a b:=iA h14;rw[e1];have l3':=l3;exact⟨h15,m1,m2,pa,pb,q,cq,k,t1,t2,l1,l2,yKe hb l3',yMw hr l3',hp,hq,he,he'⟩
  .by_cases h16:e.f=16
   .have ha:yAl e.f=3:=by unfold yAl;rw[iA qo,iB h16]
    rw[ha]at hl;match ts,ps,hl,hlen,hs,hb,hr with
    | [a,b,c],[pa,pb,pc],_,_,hs,hb,hr=>
      have⟨m1,t1,l1,m2,t2,l2,m3,t3,l3,l4⟩:=hs;have l4':=l4;exact⟨h16,m1,m2,m3,pa,pb,pc,q,cq,k,t1,t2,t3,l1,l2,l3,yKe hb l4',yMw hr l4',hp,hq,he,he'⟩
   .have ha:yAl e.f=0:=by unfold yAl;rw[iA qo,iA h16]
    rw[ha]at hl;obtain rfl:=AB.1 hl;exact⟨ha,_,k,yKe hb hs.le,hp,he⟩
structure FcJ(w:Ww)(xs:List Nd)(j g cp:Nat)(ps:List Nat)(ts:List CT)(wr:Ww):Prop where
 fold:yE6 ctV [] (xs.take j)=some ts
 Z:PRow wr w g cp ps
 seg:Seg wr (λb=>b=g) w ps ts wr
 k:Below w w wr
variable {xs:List Nd}
theorem FcJ.K(h:FcJ w xs j g cp ps ts wr)(hb:Below wr wr w'):FcJ w xs j g cp ps ts w':=
 ⟨h.fold,h.Z.i (S:=λ_=>False) (Chg.h hb) (λq=>q),(h.seg.K (S:=λ_=>False) (Chg.h hb) (λb _ hb=>⟨λq=>q,hb⟩)).high hb.size,h.k.trans (hb.mono h.k.size)⟩
theorem FcJ.push{X:Ww}{g' cp' fr:Nat}(h:FcJ w xs j g cp ps ts X)(hB:Below B X X)(hseg:∃m,Seg X (λb=>b=g) w (ps.take fr) (ts.take fr) m/\m<=X.heap.size/\TrX X (λb=>b=g) (ctV e (ts.drop fr)) m X p)(hY:yE6 ctV [] (xs.take (j+1))=some (ts.take fr++ [ctV e (ts.drop fr)]))(hA:AppC (xw X #[ptrV p] 71) w' w g fr cp (ps.take fr) [p] g' cp'):FcJ w xs (j+1) g' cp' (ps.take fr++ [p]) (ts.take fr++ [ctV e (ts.drop fr)]) w':=by
 have hbX:Below X X (xw X #[ptrV p] 71):=qB;have hsX:(X.alloc (Obj.cells #[ptrV p] 71)).heap.size=X.heap.size+1:=by simp
 have hgl:=h.Z.lt;have hC:Chg (λk=>k=g) (xw X #[ptrV p] 71) w':=Chg.M hA.grown (λk hk=>by cases hk;rfl);have hC2:Chg (λk=>k=g) X w':=(Chg.h hbX).trans hC;obtain⟨m,s1,hm,t1⟩:=hseg;have hmv:∀b,b<X.heap.size->¬(b=g)->¬(b=g)/\¬(b=g'):=λb hb hn=>⟨hn,by
  rcases hA.U with q|q
  .rw[q];exact hn
  .rw[q,hsX];omega⟩
 refine⟨hY,hA.Z,?_,?_⟩
 .have g1:=Seg.snoc t1 hm s1;exact(g1.K hC2 hmv).high hC2.size
 .exact Chg.k h.k hC2 h.k.size (λk hk=>by omega)
def yZp(t:CT)(w:Ww)(r:Ending)(w':Ww):Prop:=∃p,r=.returned (.tuple #[ptrV p,true])/\TrAt w' t w w' p none/\Below w w w'
theorem yNg{cpN:Nat}(h:yD1 w gN oN xs)(hg:gN<w.heap.size)(hT:yA9 xs t)(hl:xs.length<=200):
  Calls prog 35 #[(xy gN oN xs.length cpN),.func (Fn.func 36) #[] #[]] w (yZp t w):=by
 have hF:yE6 ctV [] xs=some [t]:=by have h9:=TrV.fold _ hT [];simpa using h9
 have HF:=qH3 h hF hl;obtain⟨n,hn⟩:=qE xs.length;have HL:=qH1 hn;rw[<-hn]at hl|-;clear h hF hT hn;obtain⟨W0,hW0⟩:=qW (xw w #[] 71);have HW0:Hid (FcJ w xs 0 w 0 [] [] W0):=by rw[hW0];refine⟨rfl,World.ownsRow_lit w #[] 0 qr qj qj,?_,qB⟩;show w.heap.size<=_;simp
 go_enter func35,ntmps35;go_upto_region 2 with fail;rw[<-hW0];clear hW0;go_wp2;go_loopw[4,6,14] (λwv sv iv wr=>∃(j m g cp:Nat)(ps:List Nat)(ts:List CT),wv=.pointer none/\iv=(xi j)/\j<=n/\m=ps.length/\m<=j/\m<=cp/\sv=(xg g m cp)/\FcJ w xs j g cp ps ts wr) (λ_ _ iv _=>n-(intOf iv).toNat);case atStart=>exact⟨0,0,_,0,[],[],rfl,rfl,AG _,rfl,AC _,AG _,rfl,HW0.out⟩
 case round=>
  obtain⟨j,m,g,cp,ps,ts,rfl,rfl,hj,hm,hmj,hmc,rfl,hJ⟩:=hrel;have HJ:=qH2 hm hJ;have hgl:=hJ.Z.lt;have hcp:cp<=9223372036854775807:=by have:=hJ.Z.caps.2;unfold maxLen at this;omega
  have hsz:=hJ.k.size;clear hm hJ HW0;by_cases hlt:j<n
  .have zj:(j:Int)<(n:Int):=qo
   obtain⟨e,he⟩:∃e,xs[j]?=some e:=qg (qw HL.out);obtain⟨d0,d1,d2,d3,d4,d5,d6⟩:=(HF.1.k HJ.2.k hg) j e he;have HE:=qH1 he;clear he;obtain⟨W1,hW1⟩:=qE (xw wr #[xi e.f,e.s,e.hi,e.t,xu e.lo,xu e.up,xi e.n] 83:Ww);have hb1:=qN hW1
   have hz1:wr.heap.size<W1.heap.size:=by rw[hW1];simp
   have HJ1:Hid (m=ps.length/\FcJ w xs j g cp ps ts W1/\yA W1 w 83 7 wr [xi e.f,e.s,e.hi,e.t,xu e.lo,xu e.up,xi e.n]):=by refine⟨HJ.1,HJ.2.K hb1,?_⟩;rw[hW1];exact yAa wr _ hsz rfl
   go_upto_region 5 with fail;rw[<-hW1];clear hW1 d0 d1 d2 d3 d4 d5 d6 HJ hb1;obtain⟨c0,c1,c2,c3,c4,c5,c6⟩:=HJ1.2.2.c7;obtain⟨a,ha⟩:=qE (yAl e.f);have ha3:a<=3:=by rw[ha];exact yHi _
   have HAr:Hid (Calls prog 83 #[xi e.f] W1 λr w'=>r=.returned (xi a)/\w'=W1):=by rw[ha];exact yD7 e.f W1
   have HAk:=qH1 ha;clear ha;go_wp2_with fail;refine HAr.mono ?_;rintro r w9 ⟨rfl,hw9⟩;rw[hw9];clear hw9 HAr;have hfr:¬m<a:=λq=>by have h1:=yVc ctV HJ1.2.1.fold HE.out (by rw[<-HJ1.2.1.seg.X,<-HJ1.1,<-HAk.out];exact q);rw[HF.2.1]at h1;cases h1
   obtain⟨fr,hfrm⟩:∃fr:Nat,(m:Int)-(a:Int)=(fr:Int):=⟨m-a,qo⟩;have hfrle:fr<=m:=qo
   have HFr:Hid (fr=ts.length-yAl e.f/\yAl e.f<=ts.length):=by have h1:=HJ1.1;have h2:=HAk.out;have h3:=HJ1.2.1.seg.X;exact⟨qo,qo⟩
   have zf:¬(fr:Int)<0:=qo
   have z2:(fr:Int)<=(m:Int):=qo
   have z3:(m:Int)<=(cp:Int):=qo
   have HY:Hid (yE6 ctV [] (xs.take (j+1))=some (ts.take fr++ [ctV e (ts.drop fr)])):=by show _=_;rw[HFr.1];exact yVd ctV HJ1.2.1.fold HE.out HFr.2
   obtain⟨ad,had⟩:∃ad:Option Addr,(if cp=fr then some (⟨g,0,none⟩:Addr)else some ⟨g,fr,none⟩)=ad:=⟨_,rfl⟩;have HSh:Hid (∀X,Below W1 W1 X->Calls prog 36 #[.agg #[xi e.f,e.s,e.hi,e.t,xu e.lo,xu e.up,xi e.n],.slice ad (m-fr) (cp-fr)] X (CtP e (ps.drop fr) X)):=λX hX=>by
    have hJX:=HJ1.2.1.K hX;have hlen:m-fr=(ps.drop fr).length:=by rw[AF,<-HJ1.1]
    rw[<-had];by_cases hcf:cp=fr
    .rw[iB hcf];have hnil:=AB.1 (by rw[<-hlen];omega);exact yFk e g 0 (m-fr) (cp-fr) (ps.drop fr) X hlen (by rw[<-hlen];omega) hJX.Z.lt.2 (by rw[hnil];intro i u hu;simp at hu)
    .rw[iA hcf];exact yFk e g fr (m-fr) (cp-fr) (ps.drop fr) X hlen (by rw[<-hlen];omega) hJX.Z.lt.2 (by intro i u hu;rw[List.getElem?_drop]at hu;exact hJX.Z.z hu)
   clear hfr;go_upto_region 8 with fail;go_cut[10] (λsv wx=>∃X p q cq,Hid (Below W1 W1 X/\BoxT wx X p e (xg q (ps.drop fr).length cq) 0/\PRow wx X q cq (ps.drop fr)/\Below X X wx)/\sv=ptrV p);case first=>
    go_region_law ((go_simp;go_at_call 36;refine(HSh.out _ ?hX).mono ?_;(case hX=>(repeat (first|exact Below.refl _ _|refine Below.drew ?_)));rintro r w' ⟨p7,q7,cq7,rfl,h7,h8,h9⟩));all_goals go_wp2_with fail
    all_goals go_meet
    all_goals exact⟨_,p7,q7,cq7,⟨(by(repeat (first|exact Below.refl _ _|refine Below.drew ?_))),h7,h8,h9⟩,rfl⟩
   case rest=>
   obtain⟨X,p,q,cq,HK,rfl⟩:=hcut;obtain⟨w4,hw4⟩:=qE (wc:Ww);subst hw4;have hb14:=HK.1.trans (HK.2.2.2.mono HK.1.size);have HK2:=qH1 (HJ1.2.1.K hb14);have hgl2:=HK2.Z.lt;have hsz2:=HK2.k.size;have hfl:fr<=ps.length:=by rw[<-HJ1.1];exact hfrle
   have HSeg:Hid (∃m',Seg w4 (λb=>b=g) w (ps.take fr) (ts.take fr) m'/\m'<=w4.heap.size/\TrX w4 (λb=>b=g) (ctV e (ts.drop fr)) m' w4 p):=by have hJX:=HJ1.2.1.K HK.1;have hbX:=HK.2.2.2;have s4:=hJX.seg.K (S:=λ_=>False) (Chg.h hbX) (E':=λb=>b=g) (λb _ hb=>⟨λq=>q,hb⟩);obtain⟨m',g1,g2⟩:=s4.split fr;have hgX:=hJX.Z.lt;have hpb:=yA.lt HK.2.1;have hqb:=HK.2.2.1.lt;exact⟨m',g1,by have:=g2.le;have:=hbX.size;omega,xA g2 (by rw[AF];have:=HFr.out;omega) HK.2.1 HK.2.2.1 hpb.2 hqb.2 qo qo⟩
   have HM:Hid (fr=(ps.take fr).length):=by show fr=_;rw[AE];omega
   have HO2:Hid (PRow (xw w4 #[ptrV p] 71) w g cp (ps.take fr)):=(HK2.Z.take hfl).i (S:=λ_=>False) (Chg.h (qB)) (λq=>q);have HC2:Hid (∀i v,[p][i]?=some v->(xk (w4.alloc (Obj.cells #[ptrV p] 71)) w4 (0+i) (ptrV v):Prop)):=λi v hv=>by
    match i,hv with
    |0,hv=>cases hv;simp[go_sem]
   have z4:(fr:Int)<=(cp:Int):=qo
   clear c0 c1 c2 c3 c4 c5 c6 HSh;go_wp2_with (at_builtin;refine wpA rfl (apK apCt rfl w (ps.take fr) [p] rfl rfl HM.out rfl HO2.out HC2.out (by rw[<-HM.out];simp;omega) (by simp;omega) ?_));intro g' cp' w' k1 k2 k3;have hA':AppC _ w' w.heap.size g fr cp (ps.take fr) [p] g' cp':=⟨k1,k2,by simpa using k3⟩;clear k1 k2 k3;have fin:=qH1 (HK2.push (B:=0) (Below.refl _ _) HSeg.out HY.out hA');have hcp':fr+1<=cp':=by have h8:=hA'.Z.caps.1;rw[AD,<-HM.out]at h8;exact h8
   clear hA';refine zX ?_;exact⟨j+1,fr+1,g',cp',ps.take fr++ [p],ts.take fr++ [ctV e (ts.drop fr)],rfl,by go_num,qo,by rw[AD,List.length_singleton,<-HM.out],qo,hcp',rfl,fin.out⟩
  .have zj:¬(j:Int)<(n:Int):=qo
   have hFo:ts= [t]:=by have h1:=HJ.2.fold;rw[List.take_of_length_le (by have:=HL.out;omega),HF.2.1]at h1;exact(Option.some.inj h1).symm
   subst hFo;have hm1:m=1:=by rw[HJ.1,HJ.2.seg.X];rfl
   subst hm1;obtain⟨p,rfl⟩:∃p,ps= [p]:=by
    have h1:=HJ.1;match ps,h1 with
    | [p],_=>exact⟨p,rfl⟩
   have e0:=HJ.2.Z.z (j:=0) rfl;have HR:Hid (yZp t w (.returned (.tuple #[ptrV p,true])) wr):=by obtain⟨m',h1,h2,h3⟩:=HJ.2.seg;exact⟨p,rfl,(h1.tr).high h3,HJ.2.k⟩
   go_wp2_with fail;exact bodyPost_ret (v:=.tuple #[ptrV p,true]) (by simp[results,results35,go_sem]) rfl HR.out
end Go.Proofs.YtnnagkfoiganfaaGreatDoor
