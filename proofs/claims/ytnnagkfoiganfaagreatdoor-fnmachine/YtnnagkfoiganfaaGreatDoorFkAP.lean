import Derived.Test.YtnnagkfoiganfaaGreatDoorFkAK
import Derived.Test.YtnnagkfoiganfaaGreatDoorFkAL
namespace Go.Proofs.YtnnagkfoiganfaaGreatDoor
open Go.ChangeShapes Go.WideShapes Go.ChangeAt Go.RowKit Go.Deep Go.Maps XD XI XU XG XP XK XW XT XF XE XH _root_.List _root_.Nat XY Go.Proofs.Tryz
open _root_.Go.Fn renaming func->AE
open _root_.Go.Obj renaming cells->AJ
open _root_.List renaming length_append->AB,mem_cons->AC,pairwise_cons->AD,mem_cons_of_mem->AF,mem_singleton->AI,getElem?_eq_some_iff->AK,replicate->AM,append_eq_nil_iff->AN,drop_eq_getElem_cons->AQ,mem_append->AR,map_append->AS,drop_eq_nil_of_le->AT,length->AW,range->AX
open _root_.List.Pairwise renaming nil->AG
open _root_.Nat renaming le_refl->AA,zero_le->AH,le_trans->AL,le_of_lt->AO,lt_of_lt_of_le->AP,zero_add->AU,le_of_eq->AV
set_option linter.unusedVariables false
set_option linter.unusedSimpArgs false
set_option maxRecDepth 100000
set_option maxHeartbeats 64000000
variable {W' w2 w' w0 w:Ww} {S R':Nat->Prop} {ks:List Ctr} {g cap N tb nc p1 o j:Nat} {v cv1 cv2 cv cv':Vv} {c:Ent} {a b out es:List Ent} {hints:Bool} {x:Ix} {conds b':List Bool} {d:Nat->Nat} {r:It×List Ctr} {f:Option Nat} {t:CT} {Z:List Bk} {q:Prop} {M:List Ix} {xs:List Nd}
variable {O:Nat} {Ts:List Tt} {W:Ww}
theorem TsA.side(h:TsA O Ts W)(hc:Chg S W W')(hS:∀q,S q->∀X∈Ts,q<X.lo\/X.t<q)(hv:¬S 1):TsA O Ts W':=
 ⟨λT hT=>⟨(h.U T hT).1.i hc (λq hq z=>qw (hS q hq T hT)) hv,(h.U T hT).2⟩,h.apart,h.tab.i hc hv,h.tabl⟩
variable {T:Tt}
theorem TsA.one(h:TsA O Ts W)(hT:T∈Ts)(hc:Chg (InB T.lo T.hi) W W')(ht:yDy W' T.lo T.hi T.n (.pointer T.mp)):TsA O Ts W':=by
 have hv:¬InB T.lo T.hi 1:=λq=>qv ((h.U T hT).1.tab) q.1
 refine⟨λX hX=>?_,h.apart,h.tab.i hc hv,h.tabl⟩;refine⟨?_,(h.U X hX).2⟩;have hx:=(h.U X hX).1;have h1:=hx.r1;have h2:=hx.r2;have a1:=(h.U T hT).1;have t1:=a1.r1;have t2:=a1.r2;by_cases e:X=T
 .subst e;have hn:¬InB X.lo X.hi X.t:=λq=>qw q.2
  have a0:∀j,W'.cell? (xd X.t j)=W.cell? (xd X.t j):=λj=>hc.z (p:=(xd X.t j)) hx.lt hn;have⟨c0,c1,c2,c3,c4,c5,c6,c7⟩:=hx.ctv;exact⟨⟨(a0 0).trans c0,(a0 1).trans c1,(a0 2).trans c2,(a0 3).trans c3,(a0 4).trans c4,(a0 5).trans c5,(a0 6).trans c6,(a0 7).trans c7⟩,(a0 8).trans hx.low,AP hx.lt hc.size,ht,h1,h2,hx.tab⟩
 .have a2:X.t<T.lo\/T.t<X.lo:=by
   have hp:=h.apart;induction Ts with
   |nil=>cases hX
   |cons Y Ys ih=>
    have⟨p1,p2⟩:=AD.1 hp;rcases AC.1 hX with x1|x1
    .rcases AC.1 hT with y1|y1
     .exact absurd (x1.trans y1.symm) e
     .rw[x1];exact .inr (p1 T y1)
    .rcases AC.1 hT with y1|y1
     .rw[y1];exact .inl (p1 X x1)
     .exact ih ⟨λZ hZ=>h.U Z (mem_cons_of_mem _ hZ),p2,h.tab,h.tabl⟩ y1 x1 p2
  exact hx.i hc (λq hq z=>qv hq.1 hq.2) hv
theorem xEp(k:Int):EntF (cntF k):=by
 unfold cntF;split
 .exact yO5
 .split
  .exact yXp
  .exact xBh
theorem xIu{t:Nat}{i:Nat}{k:Ctr}{n:Nd}(hk:cntK n.f)(h:CkA w O t g cap ks i k n.n)(c:Ent)(hkk:CtK k)(hr:¬c.j=⟨#[]⟩):
  Calls prog (cntF n.f) #[xp t,c.c] w λe w'=>e=.returned (yBi n k c).1/\yF7 w' O g cap (ks.set i (yBi n k c).2)/\Chg (λq=>q=g) w w':=by
 have hc:0<=k.count/\k.count<=1000000:=⟨hkk.lo,qw hkk.up⟩;rcases hk with hk|hk|hk
 .have h1:=xBx (n:=n) hkk hr (k.j.toList==c.j.toList && (k.E.toList==c.E.toList && k.C.toList==c.C.toList)) (by simp[hk]);have⟨h2,h3⟩:=xF6 h1 qo;rw[show cntF n.f=189 from by unfold cntF;rw[iB hk]];apply (yWg h c hc).mono;rintro e w' ⟨q1,q2,q3⟩;rw[h2]at q1;rw[h3]at q2;exact⟨q1,q2.j,q3⟩
 .have h1:=xBx (n:=n) hkk hr (k.j.toList==c.j.toList) (by simp[hk]);have⟨h2,h3⟩:=xF6 h1 qo;rw[show cntF n.f=191 from by unfold cntF;rw[iA qo,iB hk]];apply (yLn h c hc).mono;rintro e w' ⟨q1,q2,q3⟩;rw[h2]at q1;rw[h3]at q2;exact⟨q1,q2.j,q3⟩
 .have h1:=xBx (n:=n) hkk hr (k.j.toList==c.j.toList) (by simp[hk]);have⟨h2,h3⟩:=xEt h1 hk;rw[show cntF n.f=192 from by unfold cntF;rw[iA qo,iA qo]];apply (yWn h c hc).mono;rintro e w' ⟨q1,q2,q3⟩;rw[h2]at q1;rw[h3]at q2;exact⟨q1,q2.j,q3⟩
theorem TtA.lfa(h:TtA T W):LfA W T.t T.n (.pointer T.mp) (lowB T.n):=⟨h.ctv.t4,h.ctv.t7,h.low,h.lt⟩
theorem TtA.mv(h:TtA T W):(PatK T.n.f/\mvB (.pointer T.mp) true)\/(¬PatK T.n.f/\mvB (.pointer T.mp) false):=by
 rcases h.tst with⟨q,e⟩|⟨q,M,e,_⟩
 .exact .inr ⟨q,.inl ⟨e,rfl⟩⟩
 .exact .inl ⟨q,.inr ⟨M,e,rfl⟩⟩
theorem xIj(T:Tt)(hk:tstK T.n.f):∃(kh:Nat)(hv:Vv),hntV T.n.f T.t=.func (AE kh) #[hv] #[]/\EntF kh/\∀(c:Ent)(W:Ww),TtA T W->(xf kh #[hv,c.c] W (yBj (pfxB T.n.s) T.n c).v:Prop):=by
 have a0:∀(r:Int),hntV T.n.f T.t=anyV r->(∀c,yBj (pfxB T.n.s) T.n c=⟨r,⟨#[]⟩⟩)->∃(kh:Nat)(hv:Vv),hntV T.n.f T.t=.func (AE kh) #[hv] #[]/\EntF kh/\∀(c:Ent)(W:Ww),TtA T W->(xf kh #[hv,c.c] W (yBj (pfxB T.n.s) T.n c).v:Prop):=λr h1 h2=>
  ⟨_,_,h1,yNh,λc W hT=>by rw[h2 c];exact yM4 ⟨r,⟨#[]⟩⟩ c W⟩
 have a1:hntV T.n.f T.t=ofT 194 T.t->(∀c W,TtA T W->∃m,mvB (.pointer T.mp) m/\txtH (lowB T.n) m c.j 5 4 6=yBj (pfxB T.n.s) T.n c)->∃(kh:Nat)(hv:Vv),hntV T.n.f T.t=.func (AE kh) #[hv] #[]/\EntF kh/\∀(c:Ent)(W:Ww),TtA T W->(xf kh #[hv,c.c] W (yBj (pfxB T.n.s) T.n c).v:Prop):=λh1 h2=>
  ⟨_,_,h1,yRg,λc W hT=>by
    have⟨m,hm,h3⟩:=h2 c W hT
    rw[<-h3]
    exact yP6 hT.lfa hm c⟩
 have a2:hntV T.n.f T.t=ofT 195 T.t->(∀c W,TtA T W->∃m,mvB (.pointer T.mp) m/\txtH (lowB T.n) m c.C 2 1 3=yBj (pfxB T.n.s) T.n c)->∃(kh:Nat)(hv:Vv),hntV T.n.f T.t=.func (AE kh) #[hv] #[]/\EntF kh/\∀(c:Ent)(W:Ww),TtA T W->(xf kh #[hv,c.c] W (yBj (pfxB T.n.s) T.n c).v:Prop):=λh1 h2=>
  ⟨_,_,h1,yO6,λc W hT=>by
    have⟨m,hm,h3⟩:=h2 c W hT
    rw[<-h3]
    exact yOa hT.lfa hm c⟩
 rcases hk with h|h|h|h|h|h|h|h|h|h
 .exact xGj
 .exact a0 6 (by rw[h];rfl) (λc=>by unfold yBj;simp[h])
 .exact xGj
 .refine a1 (by rw[h];rfl) (λc W hT=>?_);rcases hT.mv with⟨q,hm⟩|⟨q,hm⟩
  .exact⟨true,hm,by rw[yS5 q];unfold yBj txtH;simp[h]⟩
  .exact absurd (.inl h) q
 .exact a0 3 (by rw[h];rfl) (λc=>by unfold yBj;simp[h])
 .refine a2 (by rw[h];rfl) (λc W hT=>?_);rcases hT.mv with⟨q,hm⟩|⟨q,hm⟩
  .exact⟨true,hm,by rw[yS5 q];unfold yBj txtH;simp[h]⟩
  .exact absurd (.inr (.inr (.inl h))) q
 .exact xGj
 .refine a1 (by rw[h];rfl) (λc W hT=>?_);exact xFc
 .refine a2 (by rw[h];rfl) (λc W hT=>?_);exact xFc
 .refine⟨_,_,by rw[h];rfl,yTt,λc W hT=>?_⟩;have h9:=ySc hT.lfa c;have h8:yBj (pfxB T.n.s) T.n c=(if c.ts<T.n.lo then(⟨1,⟨#[]⟩⟩:Hn)else noH):=by unfold yBj;simp[h]
  rw[h8];exact h9
structure MaD(G:MchG)(l:List Ix)(tb lo N:Nat)(Ts:List Tt)(L:List Vv):Prop where
 ti:G.TI=TsA tb Ts
 tq:G.T=λq=>∃X∈Ts,X.lo<=q/\q<X.hi
 sp:yF6 G.w0 lo G.p N L
 pS:¬G.S G.p
 pT:∀X∈Ts,G.p<X.lo\/X.t<G.p
 gT:∀X∈Ts,G.g<X.lo\/X.t<G.g
 gl:G.g<G.w0
 gp:¬G.g=G.p
 gv:¬1=G.g
 cS:∀t vs,yA G.w0 lo 283 2 t vs->(∀X∈Ts,t<X.lo\/X.t<t)->¬G.S t/\¬t=G.g
 xl:∀X∈Ts,X.t<G.w0
 don:∀(at_:Nat)(x:Ix),l[at_]?=some x->StpD lo G.g Ts L at_ x G.w0
 good:∀(k:Nat)(x:Ix),l[k]?=some x->x.op=1->yBq x.leaf/\(cntK x.leaf.f->0<=x.a/\x.a<(G.nk:Int))
theorem xC4{p:Nat}{L:List Vv}(h:yF6 w O p N L)(hv:L[j]?=some v):(xk w p j v:Prop):=by have hj:=qf hv;rw[World.ownsRow.cellAt h j (qw h.1),hv]
variable {lo:Nat}
theorem xIe{G:MchG}{l:List Ix}{L:List Vv}(hD:MaD G l tb lo N Ts L):xMd G l:=by
 intro at_ x i c ks W hx ho aa a5 a9 aD a3 an;have ao:=(World.ownsRow.lt hD.sp G.p rfl).2;have a1:∀j v,L[at_*13+j]?=some v->(xk W G.p (at_*13+j) v:Prop):=λj v hv=>by rw[aa.z (p:=(xd G.p _)) ao hD.pS];exact xC4 hD.sp hv
 have aB:=aa.size;cases hal:i.H
 .have au:leafI pfxB x c i ks=(i,ks):=by unfold leafI;rw[iA (by simp[hal])]
  apply (xAq hal).mono;rintro e w' ⟨rfl,hb⟩;unfold LfQ;rw[au];have hc:Chg (λ_=>False) W w':=Chg.h hb;refine⟨rfl,a9.k hb,a3,?_,hc.mono (λq z=>z.elim)⟩;rw[hD.ti]at a5|-;exact a5.side hc (λq z=>z.elim) (λz=>z)
 .have hd:=hD.don at_ x hx;have ag:=a1 3 _ (hd.ten 3 _ rfl);have ae:=a1 4 _ (hd.ten 4 _ rfl);have a0:TsA tb Ts W:=by rw[<-hD.ti];exact a5
  rcases hd.leaf ho with⟨a2,t,⟨aC,am⟩,hb,a8,hl2⟩|⟨ac,T,hT,a4,a8,hl2⟩
  .have⟨aw,af⟩:=hD.good at_ x hx ho;have af:=af a2;obtain⟨k,hk⟩:∃k,ks[x.a.toNat]?=some k:=qg qo;have ad:=a3 k (mem_of_getElem? hk);have⟨ak,al⟩:=hD.cS t _ hb am;have ab:=hb.i aa ak;have ay:¬(yA0 i c).j=⟨#[]⟩:=by unfold yA0;split<;>exact an
   have a6:StA W G.p (at_*13) x (cntF x.leaf.f) (xp t) 190 (.agg #[xi (cntR x.leaf.f),xe]):=⟨ag,ae,a1 11 _ a8,a1 12 _ hl2,qo⟩
   have a7:=yQq (i:=i) (c:=c) (d:=yA0 i c) (b:=(yBi x.leaf k c).1) (H:=⟨cntR x.leaf.f,⟨#[]⟩⟩) (S:=λq=>q=G.g) (R:=λW1 W2=>yF7 W2 G.O G.g G.cap (ks.set x.a.toNat (yBi x.leaf k c).2)/\Chg (λq=>q=G.g) W1 W2) hal (xEp _) yNh a6 rfl (λW1 W2 h=>h.2) (λq hq=>by subst hq;exact⟨qw hD.gl,hD.gp⟩)
    (λW1 hb1=>by
     have az:CkA W1 G.O t G.g G.cap ks x.a.toNat k x.leaf.n:=⟨a9.k hb1,hk,(ab.k hb1).z (j:=0) rfl,(ab.k hb1).z (j:=1) rfl,(ab.k hb1).lt.2,al⟩
     apply (xIu a2 az (yA0 i c) ad ay).mono
     rintro e w' ⟨q1,q2,q3⟩
     rw[xAg]at q1 q2
     exact⟨q1,q2,q3⟩)
    (λW1 _=>yM4 ⟨cntR x.leaf.f,⟨#[]⟩⟩ (yA0 i c) W1)
   have av:(⟨cntR x.leaf.f,⟨#[]⟩⟩:Hn)=yBj (pfxB x.leaf.s) x.leaf c:=by unfold cntR yBj;rcases a2 with q|q|q<;>simp[q,noH]
   apply a7.mono;rintro e w' ⟨rfl,W1,W2,p1,⟨p2,p3⟩,p4⟩;unfold LfQ;rw[xAs hal a2 hk,av];have aG:=p1.size;have aF:=p3.size;have aE:=hD.gl;refine⟨rfl,p2.i p4 (by show¬_<=_;omega),λk' hk'=>?_,?_,?_⟩
   .rcases mem_or_eq_of_mem_set hk' with q|q
    .exact a3 k' q
    .rw[q];exact xH7 ad (by rcases aw.2.2.2 with z|z|z|z|z<;>(unfold cntK at a2;omega))
   .rw[hD.ti];have t1:=a0.side (S:=λ_=>False) (Chg.h p1) (λq z=>z.elim) (λz=>z);have t2:=t1.side p3 (λq hq X hX=>by subst hq;exact hD.gT X hX) hD.gv;exact t2.side p4 (λq hq X hX=>.inr (qw (hD.xl X hX))) (by show¬_<=_;have:=a0.tab.lt;omega)
   .refine((Chg.h p1).trans (p3.mono (λq hq=>.inl hq))).absorb p4 (λq hq=>.inr hq)
  .have aq:¬cntK x.leaf.f:=by unfold tstK at ac;unfold cntK;omega
   have aj:=(a0.U T hT).1;have aA:=hD.xl T hT;have r1:=aj.r1;have r2:=aj.r2;have⟨kh,hv,he,ax,ah⟩:=xIj T (a4▸ac);rw[a4]at he ah;rw[he]at hl2;have a6:StA W G.p (at_*13) x 193 (ctvV x.leaf (.pointer T.mp)) kh hv:=⟨ag,ae,a1 11 _ a8,a1 12 _ hl2,qo⟩;have ai:∀W1,LfP W (λW1 W2=>yDy W2 T.lo T.hi T.n (.pointer T.mp)/\Chg (InB T.lo T.hi) W1 W2) W1->TsA tb Ts W1/\Chg (InB T.lo T.hi) W W1:=λW1 h=>by have⟨V1,V2,p1,⟨p2,p3⟩,p4⟩:=h;have t1:=a0.side (S:=λ_=>False) (Chg.h p1) (λq z=>z.elim) (λz=>z);have t2:=t1.one hT p3 p2;exact⟨t2.side p4 (λq hq X hX=>.inr (qw (hD.xl X hX))) (by show¬_<=_;have:=a0.tab.lt;omega),((Chg.h p1).trans p3).absorb p4 (λq hq=>.inr hq)⟩
   have a7:=yQq (i:=i) (c:=c) (d:=yA0 i c) (b:=tstB x.leaf (yA0 i c)) (H:=yBj (pfxB x.leaf.s) x.leaf c) (S:=InB T.lo T.hi) (R:=λW1 W2=>yDy W2 T.lo T.hi T.n (.pointer T.mp)/\Chg (InB T.lo T.hi) W1 W2) hal yXo ax a6 rfl (λW1 W2 h=>h.2) (λq hq=>⟨qw hq.2,λz=>by have h9:=hD.pT T hT;have:=hq.1;have:=hq.2;omega⟩)
    (λW1 hb1=>by
     have t1:=a0.side (S:=λ_=>False) (Chg.h hb1) (λq z=>z.elim) (λz=>z)
     have⟨mp,ar,hc⟩:=yXg T.n (yA0 i c) (.pointer T.mp) W1 T.lo T.hi (t1.U T hT).1.tst (qw hb1.size)
     cases ar
     rw[a4]at hc
     apply hc.mono
     rintro e w' ⟨q1,q2⟩
     refine⟨q1,?_,q2.2⟩
     rw[a4];exact q2.1)
    (λW1 h=>by
     have h9:=ah (yA0 i c) W1 ((ai W1 h).1.U T hT).1
     rw[xA3]at h9
     exact h9)
   apply a7.mono;rintro e w' ⟨rfl,h⟩;have⟨t9,c9⟩:=ai w' h;unfold LfQ;rw[xEd hal aq];refine⟨rfl,a9.i c9 (λq=>?_),a3,by rw[hD.ti];exact t9,c9.mono (λq hq=>.inr ?_)⟩
   .have:=hD.gT T hT;have:=q.1;have:=q.2;omega
   .rw[hD.tq];exact⟨T,hT,hq⟩
def colB(a b:Ent):Bool:=(a.E.toList==b.E.toList) && (a.C.toList==b.C.toList)
def befN(pre:List Ent)(c:Ent):Nat:=pre.countP λx=>colB x c
noncomputable def keepB(n:Nd)(pre:List Ent)(c:Ent):Bool:=
 if n.f=11 then decide ((befN pre c:Int)<n.n)else if n.f=12 then decide ((pre.length:Int)<n.n)else if n.f=13 then decide (n.n<=(pre.length:Int))else tstB n c
def yB0(n:Nd)(c:Ent):Ent:=if n.f=3 then {c with val:=⟨#[]⟩}else c
noncomputable def leafG(n:Nd):List Ent->List Ent->List Ent
 |_,[]=> []
 |pre,c::cs=>if keepB n pre c then yB0 n c::leafG n (pre++ [c]) cs else leafG n (pre++ [c]) cs
noncomputable def leafM(n:Nd)(row:List Ent):List Ent:=leafG n [] row
def uniM(a b:List Ent):List Ent:=a.foldl into (b.foldl into [])
noncomputable def mean:CT->List Ent->List Ent
 | .leaf n,row=>leafM n row
 | .chain _ a b,row=>mean b (mean a row)
 | .inter _ a b,row=>uniM (mean a row) (mean b row)
 | .cond _ p a b,row=>if mean p row= []then mean b row else mean a row
theorem yL{a b:Ent}(h:yAf a b=0):yAf b a=0:=by rw[yA3,h];rfl
theorem ySe:∀{row l:List Ent},Ord row->Ord l->(∀x∈l,∃y∈row,yAf x y=0)->l.length<=row.length
 | [],l,_,_,h=>by
   match l,h with
   | [],_=>exact AA _
   |x::l,h=>obtain⟨y,hy,_⟩:=h x (by simp);simp at hy
 |y::row,[],_,_,_=>AH _
 |y::row,x::l,hr,hl,h=>by
  have hr':=AD.1 hr
  have hl':=AD.1 hl
  by_cases hz:yAf x y=0
  .have:l.length<=row.length:=ySe hr'.2 hl'.2 λz hzl=>by
    obtain⟨u,hu,hk⟩:=h z (AF _ hzl)
    rcases AC.1 hu with rfl|hu
    .have h1:=hl'.1 z hzl
     have h2:yAf x z=0:=by have:=yDc (c:=z) hz;rw[this];exact yL hk
     omega
    .exact⟨u,hu,hk⟩
   simpa using this
  .have:(x::l).length<=row.length:=ySe hr'.2 hl λz hzl=>by
    obtain⟨u,hu,hk⟩:=h z hzl;rcases AC.1 hu with rfl|hu
    .exfalso;rcases AC.1 hzl with rfl|hzl
     .exact hz hk
     .obtain⟨v,hv,hkv⟩:=h x (by simp);rcases AC.1 hv with rfl|hv
      .exact hz hkv
      .have h1:=hl'.1 z hzl;have h2:=hr'.1 v hv;have h3:yAf x u= -1:=by have a1:=yDc (c:=x) hk;have a2:=yA3 z x;have a3:=yA3 u x;omega
       have h4:yAf u x= -1:=by have a1:=yDc (c:=u) (yL hkv);have a2:=yA3 v u;have a3:=yA3 u x;have a4:=yA3 u v;have a5:=yA3 x u;omega
       have h5:=yA3 u x;omega
    .exact⟨u,hu,hk⟩
   exact Nat.le_succ_of_le this
variable {row:List Ent}
theorem Sub.X{l:List Ent}(h:Sub row l)(hr:Ord row):l.length<=row.length:=ySe hr h.ord h.key
theorem yI5 n c d:yAf (yB0 n c) d=yAf c d:=by unfold yB0;split<;>rfl
theorem keyCmp_strip' n c d:yAf d (yB0 n c)=yAf d c:=by unfold yB0;split<;>rfl
theorem yEm n:∀(cs pre:List Ent)(x:Ent),x∈leafG n pre cs->∃c∈cs,x=yB0 n c
 | [],_,x,h=>by simp[leafG]at h
 |c::cs,pre,x,h=>by
  unfold leafG at h
  split at h
  .rcases AC.1 h with rfl|h
   .exact⟨c,by simp,rfl⟩
   .obtain⟨d,hd,e⟩:=yEm n cs _ x h;exact⟨d,AF _ hd,e⟩
  .obtain⟨d,hd,e⟩:=yEm n cs _ x h;exact⟨d,AF _ hd,e⟩
theorem yK5 n:∀(cs pre:List Ent),Ord cs->Ord (leafG n pre cs)
 | [],_,_=>AG
 |c::cs,pre,h=>by
  have h':=AD.1 h
  unfold leafG
  split
  .refine AD.2 ⟨λx hx=>?_,yK5 n cs _ h'.2⟩
   obtain⟨d,hd,rfl⟩:=yEm n cs _ x hx
   rw[yI5,keyCmp_strip']
   exact h'.1 d hd
  .exact yK5 n cs _ h'.2
theorem xC3{n:Nd}(h:c.ok):(yB0 n c).ok:=by
 unfold yB0;split
 .exact⟨h.j,h.E,h.C,AH _,h.ts,h.f⟩
 .exact h
theorem xAr n {row:List Ent} (h:Sub row row):Sub row (leafM n row):=by
 refine⟨yK5 n row [] h.ord,λx hx=>?_,λx hx=>?_,λx hx=>?_⟩
 .obtain⟨c,hc,rfl⟩:=yEm n row [] x hx;exact⟨c,hc,by rw[yI5];exact yB1 c⟩
 .obtain⟨c,hc,rfl⟩:=yEm n row [] x hx;have:=h.f c hc;unfold yB0;split<;>exact this
 .obtain⟨c,hc,rfl⟩:=yEm n row [] x hx;exact xC3 (h.ok c hc)
theorem yLe:∀(a L:List Ent),Ord L->Ord a->Ord (a.foldl into L)/\∀x,x∈a.foldl into L↔x∈a\/(x∈L/\∀y∈a,yAf x y≠0)
 | [],L,h,_=>⟨h,λx=>by simp⟩
 |e::a,L,h,ha=>by
  have ha':=AD.1 ha
  obtain⟨h1,h2⟩:=yQ4 e L h
  obtain⟨h3,h4⟩:=yLe a (into L e) h1 ha'.2
  refine⟨h3,λx=>?_⟩
  show x∈a.foldl into (into L e)↔_
  have h5:x∈into L e↔x=e\/(x∈L/\yAf x e≠0):=h2 x
  rw[h4,h5]
  constructor
  .rintro(h6|⟨rfl|⟨h6,h7⟩,h8⟩)
   .exact .inl (AF _ h6)
   .exact .inl (by simp)
   .refine .inr ⟨h6,λy hy=>?_⟩
    rcases AC.1 hy with rfl|hy
    .exact h7
    .exact h8 y hy
  .rintro(h6|⟨h6,h7⟩)
   .rcases AC.1 h6 with rfl|h6
    .exact .inr ⟨.inl rfl,λy hy q=>qw (ha'.1 y hy)⟩
    .exact .inl h6
   .exact .inr ⟨.inr ⟨h6,h7 e (by simp)⟩,λy hy=>h7 y (AF _ hy)⟩
theorem yFm(ha:Ord a)(hb:Ord b):Ord (uniM a b)/\∀x,x∈uniM a b↔x∈a\/(x∈b/\∀y∈a,yAf x y≠0):=by obtain⟨h1,h2⟩:=yLe b [] AG hb;obtain⟨h3,h4⟩:=yLe a _ h1 ha;refine⟨h3,λx=>?_⟩;show x∈a.foldl into (b.foldl into [])↔_;rw[h4,h2];simp
theorem xCx(ha:Sub row a)(hb:Sub row b):Sub row (uniM a b):=by
 obtain⟨h1,h2⟩:=yFm ha.ord hb.ord;refine⟨h1,λx hx=>?_,λx hx=>?_,λx hx=>?_⟩
 .rcases(h2 x).1 hx with h|h
  .exact ha.key x h
  .exact hb.key x h.1
 .rcases(h2 x).1 hx with h|h
  .exact ha.f x h
  .exact hb.f x h.1
 .rcases(h2 x).1 hx with h|h
  .exact ha.ok x h
  .exact hb.ok x h.1
theorem Sub.self{l:List Ent}(h:Sub row l):Sub l l:=⟨h.ord,λx hx=>⟨x,hx,yB1 x⟩,h.f,h.ok⟩
theorem yA7:∀(t:CT){row:List Ent},Sub row row->Sub row (mean t row)
 | .leaf n,row,h=>xAr n h
 | .chain _ a b,row,h=>(yA7 a h).trans (yA7 b (yA7 a h).self)
 | .inter _ a b,row,h=>xCx (yA7 a h) (yA7 b h)
 | .cond _ p a b,row,h=>by
   unfold mean
   split
   .exact yA7 b h
   .exact yA7 a h
inductive MvR(l:List Ix)(hints:Bool):List Ent->List Ctr->List Ent->Nat->Prop
 |nil (cs:List Ctr):MvR l hints [] cs [] 0
 |cons {c:Ent} {r:List Ent} {cs cs':List Ctr} {i:It} {out:List Ent} {n:Nat} (h:LkR pfxB l c [] ⟨0,[newI],cs⟩ (i,cs')) (hr:MvR l hints (if i.H=false/\hints=true then r.dropWhile (yAy i.G c)else r) cs' out n):MvR l hints (c::r) cs (if i.H=true then yA0 i c::out else out) (n+1)
theorem xBm{p:Ent->Bool}:∀(es:List Ent),es.drop (es.takeWhile p).length=es.dropWhile p
 | []=>rfl
 |a::es=>by
  rw[takeWhile_cons,dropWhile_cons]
  split
  .rw[length_cons,drop_succ_cons];exact xBm es
  .rfl
variable {l:List Ix} {n m:Nat}
theorem MvR.step{hints:Bool}{out:List Ent}{cs0 cs cs':List Ctr}{c:Ent}{i:It}
  (h:∀o k,MvR l hints (row.drop n) cs o k->MvR l hints row cs0 (out++o) (m+k)) (hc:row[n]?=some c) (hl:LkR pfxB l c [] ⟨0,[newI],cs⟩ (i,cs'))
  (hj:j=if i.H=false/\hints=true then n+1+((row.drop (n+1)).takeWhile (yAy i.G c)).length else n+1):
  ∀o k,MvR l hints (row.drop j) cs' o k->MvR l hints row cs0 ((if i.H=true then out++ [yA0 i c]else out)++o) (m+1+k):=by
 intro o k ho;have⟨hn,hv⟩:=AK.1 hc;have hd:row.drop n=c::row.drop (n+1):=by rw[AQ hn,hv]
 have a0:row.drop j=(if i.H=false/\hints=true then(row.drop (n+1)).dropWhile (yAy i.G c)else row.drop (n+1)):=by
  rw[hj];split
  .rw[<-xBm,drop_drop]
  .rfl
 rw[a0]at ho;have h1:=h _ _ (by rw[hd];exact .cons hl ho);rw[show m+(k+1)=m+1+k by omega]at h1;cases ha:i.H
 .rw[ha]at h1;simpa using h1
 .rw[ha]at h1;simpa using h1
theorem MvR.done{cs0 cs:List Ctr}(h:∀o k,MvR l hints (row.drop n) cs o k->MvR l hints row cs0 (out++o) (m+k))(hn:row.length<=n):MvR l hints row cs0 out m:=by have:=h [] 0 (by rw[AT hn];exact .nil _);rwa [append_nil]at this
inductive CdR(row:List Ent):List (Int×List Ix)->List Bool->List Bool->Prop
 |nil (bs:List Bool):CdR row [] bs bs
 |cons {x:Int×List Ix} {Bs:List (Int×List Ix)} {bs r:List Bool} {o:List Ent} (h:RowR x.2 bs row (AM x.1.toNat newC) o) (k:CdR row Bs (bs++ [decide (0<o.length)]) r):CdR row (x::Bs) bs r
variable {Bs:List (Int×List Ix)} {bs:List Bool}
theorem CdR.X{r:List Bool}(h:CdR row Bs bs r):r.length=bs.length+Bs.length:=by
 induction h with
 |nil bs=>simp
 |cons h _ ih=>rw[ih];simp;omega
theorem CdR.step{x:Int×List Ix}{o:List Ent}(h:∀r,CdR row (Bs.drop n) bs r->CdR row Bs [] r)(hx:Bs[n]?=some x)(ho:RowR x.2 bs row (AM x.1.toNat newC) o):
  ∀r,CdR row (Bs.drop (n+1)) (bs++ [decide (0<o.length)]) r->CdR row Bs [] r:=by
 intro r hr;have⟨hn,hv⟩:=AK.1 hx;apply h r;rw[AQ hn,hv];exact .cons ho hr
theorem CdR.done(h:∀r,CdR row (Bs.drop n) bs r->CdR row Bs [] r)(hn:Bs.length<=n):CdR row Bs [] bs:=h bs (by rw[AT hn];exact .nil _)
inductive RwsR(m:Int×List Ix)(Bs:List (Int×List Ix)):List (List Ent)->List Ent->Prop
 |nil:RwsR m Bs [] []
 |cons {row:List Ent} {rs:List (List Ent)} {bs:List Bool} {o out:List Ent} (h:CdR row Bs [] bs) (k:RowR m.2 bs row (AM m.1.toNat newC) o) (hr:RwsR m Bs rs out):RwsR m Bs (row::rs) (o++out)
theorem xB7{x:Ent}(h:es[j]?=some x):befN (es.take (j+1)) c=befN (es.take j) c+(if colB x c then 1 else 0):=by unfold befN;rw[List.take_add_one,h,Option.toList_some,List.countP_append];simp[List.countP_cons]
abbrev BfS(b off i j:Nat)(x c:Ent)(w:Ww):Prop:=xk w b (off+j*5+1) x.E/\xk w b (off+j*5+2) x.C/\xk w b (off+i*5+1) c.E/\xk w b (off+i*5+2) c.C
theorem yT9{b off:Nat}(h:CSl w b off cap es){i:Nat}(hi:es[i]?=some c)(hl:es.length<=1048576):Calls prog 202 #[(xy b off es.length cap),.int .i64 (i:Int)] w λe w'=>e=.returned (.int .i64 (befN (es.take i) c:Int))/\Below w.heap.size w w':=by
 obtain⟨n,hn⟩:=qE es.length;have hin:i<n:=by rw[hn];exact(AK.1 hi).1
 have HL:=qH3 h hn hi;rw[<-hn];rw[<-hn]at hl;clear h hn hi;go_enter func202,ntmps202;go_wp2;go_loopw[5,6] (λkv jv wr=>∃(j:Nat),j<=i/\jv=.int .i64 (j:Int)/\kv=.int .i64 (befN (es.take j) c:Int)/\Hid (Below w.heap.size w wr)) (λ_ jv _=>i-(intOf jv).toNat);case atStart=>exact⟨0,AH _,rfl,rfl,Below.refl _ _⟩
 case round=>
  obtain⟨j,hj,rfl,rfl,HB⟩:=hrel;obtain⟨m,hm⟩:=qE (befN (es.take j) c);have HM:=qH1 hm;have hml:m<=1048576:=by rw[hm];refine AL List.countP_le_length ?_;rw[List.length_take];omega
  rw[<-hm];clear hm;by_cases hlt:j<i
  .have zj:(j:Int)<(i:Int):=qo
   have zjn:(j:Int)<(n:Int):=qo
   have zin:(i:Int)<(n:Int):=qo
   obtain⟨x,hx⟩:∃x,es[j]?=some x:=⟨_,List.getElem?_eq_getElem (qw HL.2.1)⟩;have hC:=HL.1.k HB.out;obtain⟨-,f1,f2,-,-⟩:=hC.U j x hx;obtain⟨-,g1,g2,-,-⟩:=hC.U i c HL.2.2;have HBd:=qH1 (HB.trans (((Below.refl _ _).drew).mono HB.size));have HN:Hid (befN (es.take (j+1)) c=m+(if colB x c then 1 else 0)):=by rw[HM.out];exact xB7 hx
   obtain⟨-,f1,f2,-,-⟩:=hC.U j x hx;obtain⟨-,g1,g2,-,-⟩:=hC.U i c HL.2.2;have hS:BfS b off i j x c wr.drew:=⟨f1,f2,g1,g2⟩;clear hC hx f1 f2 g1 g2;cases hf:(x.E.toList==c.E.toList)<;>cases hq:(x.C.toList==c.C.toList)
   all_goals go_upto_region 5 with fail
   all_goals refine yAe 99 (BfS b off i j x c) qk ?_
   all_goals refine ja 0 hS ?_
   all_goals iterate 23 refine jb hS ?_
   all_goals refine qD ?_
   all_goals go_wp2_with fail
   all_goals go_roundw
   all_goals first
    |exact⟨j+1,qo,by go_num,by rw[HN.out];simp[colB,hf,hq],HBd.out⟩
    |(go_light;simp[intOf];omega)
  .obtain rfl:j=i:=qo
   have zj:¬(j:Int)<(j:Int):=qo
   go_wp2;go_ret;exact⟨by rw[HM.out];rfl,HB.out⟩
variable {P:Ba->Ba}
theorem yYz{s:Lk}(h:least x.op<=(s.st.length:Int)):
  (((stepL P c conds x s).st.length:Nat):Int)=s.st.length+more x.op/\(stepL P c conds x s).U∈ways s.U x:=by
 have⟨at_,st,cs⟩:=s;unfold stepL least more ways at*;simp only at h|-;by_cases h1:x.op=1
 .simp only[h1,iB,if_true,show¬((1:Int)=3\/(1:Int)=4)by omega,if_false]at h|-;cases st with
  |nil=>simp at h
  |cons i r=>simp
 by_cases h2:x.op=2
 .simp only[h2,show¬((2:Int)=3\/(2:Int)=4)by omega,if_false]at h|-;cases st with
  |nil=>simp at h
  |cons i r=>simp
 by_cases h3:x.op=3
 .simp only[h3]at h|-;match st,h with
  | [],h| [i],h=>simp at h
  |i::j::r,h=>simp
 by_cases h4:x.op=4
 .simp only[h4]at h|-;match st,h with
  | [],h| [i],h=>simp at h
  |i::j::r,h=>simp;omega
 by_cases h5:x.op=5
 .simp only[h5];by_cases hc:conds[x.a.toNat]?=some false
  .simp[hc]
  .simp[hc]
 by_cases h6:x.op=6
 .simp[h6]
 .simp[h1,h2,h3,h4,h5,h6]
theorem lkR_ex'(hD:xCl l d):∀(n:Nat)(s:Lk),l.length-s.U<=n->s.U<=l.length->s.st.length=d s.U->1<=s.st.length->∃r,LkR P l c conds s r:=by
 intro n;induction n with
 |zero=>
  intro s h1 h2 h3 h4;exact xJo
 |succ n ih=>
  intro s h1 h2 h3 h4;by_cases hlt:s.U<l.length
  .obtain⟨x,hx⟩:∃x,l[s.U]?=some x:=qg hlt;have⟨a,b,e⟩:=hD.step _ x hx qo;rw[<-h3]at a b e;have⟨k1,k2⟩:=yYz (P:=P) (c:=c) (conds:=conds) a;have⟨e1,e2,e3⟩:=e _ k2;have hm:1<=(s.st.length:Int)+more x.op:=by unfold least at a;unfold more;split at a<;>split<;>(try split)<;>omega
   have⟨r,hr⟩:=ih (stepL P c conds x s) qo e3 qo qo;exact⟨r,.step hx hr⟩
  .exact xJo
variable {cnt:Int}
theorem xLu(h:yCc l cnt nc) c (conds:List Bool) cs:∃r,LkR P l c conds ⟨0,[newI],cs⟩ r:=by have⟨d,hD⟩:=yO9 h;exact lkR_ex' hD l.length ⟨0,[newI],cs⟩ (by simp) (AH _) (by simp[hD.start]) (by simp)
theorem yZd{nc:Nat}(h:yCc l cnt nc)(conds:List Bool):∀(row:List Ent)(cs:List Ctr),∃o,RowR l conds row cs o
 | [],cs=>⟨_,.nil cs⟩
 |c::r,cs=>by
  have⟨⟨i,cs'⟩,h1⟩:=xLu (P:=pfxB) h c conds cs
  have⟨o,h2⟩:=yZd h conds r cs'
  exact⟨_,.cons h1 h2⟩
theorem xAl(h:yCc l cnt nc){b:List Bool}(hb:∀i,i<nc->b[i]?=b'[i]?){s:Lk}(hk:LkR P l c b s r):LkR P l c b' s r:=by
 induction hk with
 |fin h hs=>exact .fin h hs
 |step hx _ ih=>
  rename_i s x r _;refine .step hx ?_;have:stepL P c b' x s=stepL P c b x s:=by
   by_cases h5:x.op=5
   .have hi:b[x.a.toNat]?=b'[x.a.toNat]?:=by
     apply hb _;rcases yCf h hx with q|q|q|q
     .have:=q.1;omega
     .have:=q.2.2.1;have:=q.2.2.2.1;omega
     .have:=q.1;omega
     .have:=q.1;omega
    simp[stepL,h5,hi]
   .simp[stepL,h5]
  rw[this];exact ih
theorem yO7(t:CT):EmC t:=by
 induction t with
 |leaf n=>exact xBj n
 |chain n a b ha hb=>exact yXr n a b ha hb
 |inter n a b ha hb=>exact yXq n a b ha hb
 |cond n a b c ha hb hc=>exact xBk n a b c hb hc
def BeP(w:Ww)(eb:Nat)(v:Vv)(L:List Ix)(s:Bool)(r:Ending)(w':Ww):Prop:=∃v',r=.returned s/\EmTo w w' eb v v' (absG 0 0 L) (cntL L)
def xM8(w:Ww)(R:Nat->Prop)(k:FuncId)(cs:Array Vv)(L:List Ix)(s:Bool):Prop:=EntF k/\∀(wx:Ww)(eb:Nat)(v:Vv),Chg (λb=>¬R b) w wx->w.heap.size<=eb->EmAt wx eb v [] 0->Calls prog k (#[ptrV eb]++cs) wx (BeP wx eb v L s)
def Bef(w:Ww)(R:Nat->Prop)(fv:Vv)(L:List Ix)(s:Bool):Prop:=∃k cs,fv=.func (AE k) #[] cs/\xM8 w R k cs L s
variable {R:Nat->Prop} {L:List Ix} {s:Bool}
theorem Bef.K{fv:Vv}(h:Bef w R fv L s)(hc:Chg (λb=>¬R b) w w')(hR:∀b,R b->R' b):Bef w' R' fv L s:=
 let ⟨k,cs,h1,h2,h3⟩:=h
 ⟨k,cs,h1,h2,λwx eb v hx he hE=>h3 wx eb v (hc.trans (hx.mono (λb hb q=>hb (hR b q)))) (AL hc.size he) hE⟩
theorem Bef.k{fv:Vv}(h:Bef w R fv L s)(hb:Below w w w'):Bef w' R fv L s:=h.K (Chg.h hb) (λ_ q=>q)
structure CoAt(w:Ww)(cb:Nat)(cv:Vv)(X:List (List Ix))(bs:List Bk):Prop where
 A:yA w cb 34 3 cb [cv,xh,xi 0]
 j:RowB w (cb+1) cv bs
 each:Eac w (cb+1) bs
 view:bs.map Bk.vw=X.map yCx
 apart:bs.Pairwise (λx y=>x.v.ownBlock≠y.v.ownBlock)
 some:∀x∈bs,x.l≠ []
variable {cb:Nat} {bs:List Bk}
theorem CoAt.X{X:List (List Ix)}(h:CoAt w cb v X bs):bs.length=X.length:=by have:=congrArg AW h.view;simpa using this
theorem CoAt.lt{X:List (List Ix)}(h:CoAt w cb v X bs):cb<w.heap.size:=h.A.lt.2
theorem CoAt.i{X:List (List Ix)}(h:CoAt w cb v X bs)(hc:Chg S w w')(h1:¬S cb)(h2:∀k,v.ownBlock=.some k->¬S k)(h3:∀x∈bs,∀k,x.v.ownBlock=.some k->¬S k):CoAt w' cb v X bs:=
 ⟨h.A.i hc h1,h.j.i hc h2,λx hx=>(h.each x hx).i hc (h3 x hx),h.view,h.apart,h.some⟩
theorem CoAt.k{X:List (List Ix)}(h:CoAt w cb v X bs)(hb:Below w w w'):CoAt w' cb v X bs:=
 h.i (S:=λ_=>False) (Chg.h hb) (λq=>q) (λ_ _ q=>q) (λ_ _ _ _ q=>q)
def AdS(lo hi cb:Nat)(cv:Vv)(b:Nat):Prop:=(lo<=b/\b<hi)\/b=cb\/cv.ownBlock=some b
structure AdF(w w':Ww)(lo hi cb:Nat)(cv cv':Vv):Prop where
 i:Chg (AdS lo hi cb cv) w w'
 new:∀k,cv'.ownBlock=some k->cv.ownBlock=some k\/w.heap.size<=k
variable {w1:Ww} {hi:Nat}
theorem AdF.trans(h:AdF w w1 lo hi cb cv cv1)(k:AdF w1 w2 lo hi cb cv1 cv2):AdF w w2 lo hi cb cv cv2:=by
 refine⟨⟨k.i.os.trans h.i.os,k.i.tape.trans h.i.tape,k.i.output.trans h.i.output,AL h.i.size k.i.size,λi hi hn=>?_⟩,λi hi=>?_⟩
 .refine(k.i.block i (AP hi h.i.size) ?_).trans (h.i.block i hi hn);rintro(q|q|q)
  .exact hn (.inl q)
  .exact hn (.inr (.inl q))
  .rcases h.new i q with q|q
   .exact hn (.inr (.inr q))
   .omega
 .exact xJd
variable {lo' hi':Nat}
theorem AdF.mono(h:AdF w w1 lo' hi' cb cv cv1)(h1:lo<=lo')(h2:hi'<=hi):AdF w w1 lo hi cb cv cv1:=
 ⟨h.i.mono (λk hk=>by rcases hk with⟨q1,q2⟩|q|q;exact .inl ⟨qo,qo⟩;exact .inr (.inl q);exact .inr (.inr q)),h.new⟩
theorem AdF.h(hb:Below w w w'):AdF w w' lo hi cb cv cv:=⟨Chg.h hb,λk hk=>.inl hk⟩
theorem yPp{b:Nat}{X:List (List Ix)}(hC:CoAt w cb cv X bs)(hb:b<cb)(hn:¬(lo<=b/\b<hi)):¬AdS lo hi cb cv b:=by
 rintro(q|q|q)
 .exact hn q
 .omega
 .have:=(hC.j.blk q).1;omega
theorem TrAt.adf{p:Nat}{X:List (List Ix)}(h:TrAt w t lo hi p f)(hC:CoAt w cb cv X bs)(hF:AdF w w' lo' hi' cb cv cv')(hh:hi<=cb)(hd:hi<=lo'\/hi'<=lo):TrAt w' t lo hi p f:=
 h.i hF.i (λb h1 h2=>yPp hC qo qo)
structure AdTo(w w':Ww)(t:CT)(lo hi p cb:Nat)(cv cv':Vv)(X Y:List (List Ix))(bs':List Bk):Prop where
 tree:TrAt w' t lo hi p (some X.length)
 code:CoAt w' cb cv' (X++Y) bs'
 fr:AdF w w' lo hi cb cv cv'
def AdP(w:Ww)(t:CT)(lo hi p cb:Nat)(cv:Vv)(X:List (List Ix))(L:List Ix)(s:Bool)(r:Ending)(w':Ww):Prop:=r=.returned (.tuple #[])/\∃cv' bs',AdTo w w' t lo hi p cb cv cv' X (t.V L s X.length) bs'
structure yLw(w:Ww)(R:Nat->Prop)(lo hi cb:Nat)(cv:Vv):Prop where
 lt:∀b,R b->b<w.heap.size
 off:∀b,R b->¬AdS lo hi cb cv b
theorem yLw.K(h:yLw w R lo hi cb cv)(hs:w.heap.size<=w'.heap.size)(hn:∀k,cv'.ownBlock=some k->cv.ownBlock=some k\/w.heap.size<=k)(h1:lo<=lo')(h2:hi'<=hi):yLw w' R lo' hi' cb cv':=by
 refine⟨λb hb=>qw (h.lt b hb),λb hb q=>?_⟩;have hoff:=h.off b hb;rcases q with⟨q1,q2⟩|q|q
 .exact hoff (.inl ⟨qo,qo⟩)
 .exact hoff (.inr (.inl q))
 .rcases hn b q with q|q
  .exact hoff (.inr (.inr q))
  .have:=h.lt b hb;omega
theorem Bef.adf{fv:Vv}(h:Bef w R fv L s)(hR:yLw w R lo hi cb cv)(hF:AdF w w' lo hi cb cv cv'):Bef w' R fv L s:=h.K (hF.i.mono (λb hb q=>hR.off b q hb)) (λ_ q=>q)
def AdC(t:CT):Prop:=∀(w:Ww)(lo hi p cb:Nat)(cv:Vv)(X:List (List Ix))(bs:List Bk)(fv:Vv)(R:Nat->Prop)(L:List Ix)(s:Bool),TrAt w t lo hi p none->CoAt w cb cv X bs->hi<=cb->Bef w R fv L s->yLw w R lo hi cb cv->L.length+3*t.size<=10000->cntL L+t.size<=10000->X.length+t.J<=1000->
 Calls prog 37 #[ptrV cb,ptrV p,fv] w (AdP w t lo hi p cb cv X L s)
theorem xB6(w:Ww)(R:Nat->Prop):Bef w R (.func (AE 38) #[] #[]) [] false:=by refine⟨_,_,rfl,yDt func38 qk rfl,λwx eb v hx he hE=>?_⟩;have HR:Hid (BeP wx eb v [] false (.returned false) wx):=⟨v,rfl,EmTo.h hE (Below.refl _ _)⟩;clear hE;go_enter func38,ntmps38;go_wp2;go_ret;exact HR.out
def RC(R:Nat->Prop)(lo m p1 p2:Nat)(b:Nat):Prop:=R b\/(lo<=b/\b<m)\/b=p1\/b=p2
variable {eb:Nat}
theorem EmTo.gen{f:Nat}{v1 v2:Vv}{a:CT}(h:EmTo w w1 eb v v1 (absG 0 0 L) (cntL L))(k:EmTo w1 w2 eb v1 v2 (absG 0 0 L++absG (absG 0 0 L).length (cntL L) (a.gen s f)) (cntL L+cntL (a.gen s f))):EmTo w w2 eb v v2 (absG 0 0 (L++a.gen s f)) (cntL (L++a.gen s f)):=by have h9:=h.trans k;rw[yC9,yAj,AU,AU];rwa [yAl]at h9
theorem xB0{pa f p2:Nat}{fv:Vv}{a:CT}(hB1:yA w p1 71 1 p1 [ptrV pa])(hB2:yA w p2 77 1 p2 [fv])(hT:TrAt w a lo m pa (some f))(hBf:Bef w R fv L s)(hm:m<=w.heap.size)(hl:L.length+3*a.size<=20000)(hc:cntL L+a.size<=20000)(hf:f+a.J<=20000):
  Bef w (RC R lo m p1 p2) (.func (AE 84) #[] #[ptrV p1,ptrV p2]) (L++a.gen s f) (s || a.passes):=by
 refine⟨_,_,rfl,yDt func84 qk rfl,λwx eb v hx he hE=>?_⟩;obtain⟨fk,fs,rfl,hE0,hbf⟩:=hBf;have hx2:=hx.trans (Chg.h ((Below.refl wx wx).drew));have HE:=qH1 hE0;have HB:=hidO (hbf wx.drew eb v (hx2.mono (λb hb q=>hb (.inl q))) he (hE.k ((Below.refl _ _).drew)));have hq1:=hB1.lt.2;have hq2:=hB2.lt.2;have HS:Hid (∀wy,Below eb wx.drew wy->xk wy p1 0 (ptrV pa)/\xk wy p2 0 (.func (AE fk) #[] fs)/\∀v1,EmAt wy eb v1 (absG 0 0 L) (cntL L)->Calls prog 39 #[ptrV pa,ptrV eb,s] wy (EmP wy eb (cntL L) v1 (absG 0 0 L) a s f)):=λwy hy=>by have h4:Chg (λb=>eb<=b) wx.drew wy:=⟨hy.os,hy.tape,hy.output,hy.size,λk _ hk=>hy.block k qo⟩;exact⟨((hB1.i hx2 (λq=>q (.inr (.inr (.inl rfl))))).i h4 qo).z (j:=0) rfl,((hB2.i hx2 (λq=>q (.inr (.inr (.inr rfl))))).i h4 qo).z (j:=0) rfl,λv1 h=>yO7 a wy lo m pa f eb (cntL L) v1 (absG 0 0 L) s (((hT.i hx2 (λb h1 h2 q=>q (.inr (.inl ⟨h1,h2⟩))))).i h4 (λb _ _ q=>qo)) h qo (by rw[yAl];omega) qo qo⟩
 have HT:Hid (∀w1 v1,EmTo wx.drew w1 eb v v1 (absG 0 0 L) (cntL L)->Below eb wx.drew w1/\EmTo wx w1 eb v v1 (absG 0 0 L) (cntL L)):=λw1 v1 h=>⟨h.k (hE.k ((Below.refl _ _).drew)),(EmTo.h hE ((Below.refl _ _).drew)).trans h⟩;have hS0:SW (λw':Ww=>xk w' p1 0 (ptrV pa)/\xk w' p2 0 (.func (AE fk) #[] fs)) wx.drew:=⟨(HS.out _ (Below.refl _ _)).1,(HS.out _ (Below.refl _ _)).2.1⟩;have hc1:=hS0.1;have hc2:=hS0.2;clear hx hx2 hB1 hB2 hT hbf hE0 hE;show Calls prog 84 #[ptrV eb,ptrV p1,ptrV p2] wx _;go_enter func84,ntmps84;go_upto_region 1 with fail;refine wpR 99 hS0 ?_;refine ja 0 hS0 ?_;iterate 3 refine jb hS0 ?_
 refine qO 4 rfl λK hK=>?_;go_simp;rw[HE.out];go_simp;refine HB.mono ?_;rintro r w1 ⟨v1,rfl,hT1⟩;obtain⟨hb1,HT1⟩:=HT.out _ _ hT1;have HC:=hidO ((HS.out _ hb1).2.2 _ HT1.U);refine hK.out _ _ (.inr ⟨(HS.out _ hb1).1,(HS.out _ hb1).2.1⟩) (jS ?_);clear hK hT1 HB;refine qO 5 rfl λK hK=>?_;go_simp;go_at_call 39;refine HC.mono ?_;rintro r w2 ⟨v2,rfl,hT2⟩;have hb2:=HS.out w2 (hb1.trans (hT2.k HT1.U));have HR:Hid (BeP wx eb v (L++a.gen s f) (s || a.passes) (.returned (s || a.passes)) w2):=⟨v2,rfl,HT1.gen hT2⟩;clear hT2 HC HT1;refine hK.out _ _ (.inr ⟨hb2.1,hb2.2.1⟩) (jS ?_);clear hK;refine qO 6 rfl λK hK=>?_;go_simp;refine hK.out _ _ (.inr ⟨hb2.1,hb2.2.1⟩) (jS ?_);clear hK;refine qD ?_;go_wp2;go_ret;exact HR.out
section
structure Acg where
 n:Nd
 t:Nat->CT
 lo:Nat->Nat
 pp:Nat->Nat
 m:Nat
 hi:Nat
 q:Nat
 cq:Nat
 p:Nat
 cb:Nat
 p2:Nat
 fk:FuncId
 fs:Array Vv
 W:Ww
 c0:Vv
 R:Nat->Prop
 L:List Ix
 s:Bool
abbrev Acg.fv(G:Acg):Vv:=.func (AE G.fk) #[] G.fs
structure AcS(G:Acg):Prop where
 mo:∀i j,i<=j->G.lo i<=G.lo j
 hh:G.hi<=G.cb
 hp:G.lo G.m<=G.p/\G.p<G.hi
 hq:G.lo G.m<=G.q/\G.q<G.hi
 h2:G.cb<G.p2
structure AcI(G:Acg)(w:Ww)(f:Nat->Option Nat)(k:Int)(cv:Vv)(X:List (List Ix))(bs:List Bk):Prop where
 tr:∀j,j<G.m->TrAt w (G.t j) (G.lo j) (G.lo (j+1)) (G.pp j) (f j)
 bx:BoxT w (G.lo G.m) G.p G.n (xg G.q G.m G.cq) k
 pr:w.ownsRow (G.lo G.m) 71 1 (xg G.q G.m G.cq) G.m ((AX G.m).map λj=>ptrV (G.pp j))
 b2:yA w G.p2 77 1 G.p2 [G.fv]
 co:CoAt w G.cb cv X bs
 fr:AdF G.W w (G.lo 0) G.hi G.cb G.c0 cv
 bf:Bef w G.R G.fv G.L G.s
 ra:yLw w G.R (G.lo 0) G.hi G.cb cv
variable {G:Acg} {f f':Nat->Option Nat} {kz kz':Int} {X X' Y:List (List Ix)} {bs bs':List Bk}
theorem AcI.any(h:AcI G w f kz cv X bs)(hc:Chg S w w')(F:AdF w w' (G.lo 0) G.hi G.cb cv cv')(n2:¬S G.q)(n3:¬S G.p2)(tr:∀j,j<G.m->TrAt w' (G.t j) (G.lo j) (G.lo (j+1)) (G.pp j) (f' j))(bx:BoxT w' (G.lo G.m) G.p G.n (xg G.q G.m G.cq) kz')(co:CoAt w' G.cb cv' X' bs'):AcI G w' f' kz' cv' X' bs':=
 ⟨tr,bx,yAh h.pr hc (λkz q=>by cases q;exact n2),h.b2.i hc n3,co,h.fr.trans F,h.bf.adf h.ra F,h.ra.K F.i.size F.new qr qr⟩
theorem AcI.k(h:AcI G w f kz cv X bs)(a:AcS G)(hb:Below w w w'):AcI G w' f kz cv X bs:=
 h.any (S:=λ_=>False) (Chg.h hb) (AdF.h hb) id id (λj hj=>(h.tr j hj).k hb (qv h.bx.lt (a.mo (j+1) G.m hj)) qr) (yA.k h.bx hb) (h.co.k hb)
theorem AcI.off(h:AcI G w f kz cv X bs)(a:AcS G)(lo hi:Nat)(h1:hi<=G.lo G.m):¬AdS lo hi G.cb cv G.p/\¬AdS lo hi G.cb cv G.q/\(hi<=G.cb->¬AdS lo hi G.cb cv G.p2):=by
 have:=a.hp;have:=a.hq;have:=a.hh;have:=a.h2;refine⟨yPp h.co qo qo,yPp h.co qo qo,λ_=>?_⟩;rintro(q|q|q)
 .omega
 .omega
 .exact yAc h.b2 h.co.j qj _ rfl q
theorem AcI.call(h:AcI G w f kz cv X bs)(a:AcS G)(hj:j<G.m)(hA:AdTo w w' (G.t j) (G.lo j) (G.lo (j+1)) (G.pp j) G.cb cv cv' X Y bs'):AcI G w' (λi=>if i=j then some X.length else f i) kz cv' (X++Y) bs':=by
 have h1:=a.mo (j+1) G.m hj;have h2:=a.mo 0 j (AH _);have:=a.hp;have:=a.hh;have⟨o1,o2,o3⟩:=h.off a (G.lo j) _ h1;refine h.any hA.fr.i (hA.fr.mono h2 qo) o2 (o3 qo) (λi hi=>?_) (yA.i h.bx hA.fr.i o1) hA.code;by_cases hij:i=j
 .subst hij;simpa using hA.tree
 .have h3:=a.mo (i+1) G.m hi;simp only[hij,if_false];apply (h.tr i hi).adf h.co hA.fr qo;rcases Nat.lt_or_gt_of_ne hij with q|q
  .exact .inl (a.mo _ _ q)
  .exact .inr (a.mo _ _ q)
theorem AcI.go(h:AcI G w f kz cv X bs)(a:AcS G)(hb:Below w w w')(j:Nat)(hj:j<G.m)(Ha:AdC (G.t j))(hf:f j=none)(h1:G.L.length+3*(G.t j).size<=10000)(h2:cntL G.L+(G.t j).size<=10000)(h3:X.length+(G.t j).J<=1000):
  Hid (Calls prog 37 #[ptrV G.cb,ptrV (G.pp j),G.fv] w' (λr w2=>r=.returned (.tuple #[])/\∃cv' bs',AcI G w2 (λi=>if i=j then some X.length else f i) kz cv' (X++(G.t j).V G.L G.s X.length) bs'/\Chg (AdS (G.lo j) (G.lo (j+1)) G.cb cv) w' w2)):=by
 have h0:=h.k a hb;have:=a.mo (j+1) G.m hj;have:=a.mo 0 j (AH _);have:=a.hp;have:=a.hh;refine(Ha w' _ _ _ _ cv X bs _ G.R _ _ (hf▸h0.tr j hj) h0.co qo h0.bf (h0.ra.K qr (λ_=>.inl) qo qo) h1 h2 h3).mono ?_;rintro r w2 ⟨q,cv',bs',z⟩;exact⟨q,cv',bs',h0.call a hj z,z.fr.i⟩
abbrev AcC(G:Acg)(m i:Nat)(w:Ww):Prop:=xk w G.p 7 (xg G.q m G.cq)/\xk w G.q 0 (ptrV (G.pp 0))/\xk w G.q 1 (ptrV (G.pp 1))/\xk w G.q i (ptrV (G.pp i))/\xk w G.p2 0 G.fv
theorem AcI.ch(h:AcI G w f kz cv X bs)(hj:j<G.m):(xk w G.q j (ptrV (G.pp j)):Prop):=by rw[World.ownsRow.cellAt h.pr j qo];simp[hj]
theorem AcI.cs(h:AcI G w f kz cv X bs){i:Nat}(hm:G.m=m)(h2:1<m/\i<m):AcC G m i w:=by subst hm;exact⟨yA.z h.bx (j:=7) rfl,h.ch qo,h.ch qo,h.ch qo,h.b2.z (j:=0) rfl⟩
theorem AcI.num(h:AcI G w f kz cv X bs)(a:AcS G)(kz':Int):AcI G (xt w G.p 8 (xi kz')) f kz' cv X bs:=by have:=a.hp;have:=a.hh;have:=a.h2;have hc:Chg (λb=>b=G.p) w (xt w G.p 8 (xi kz')):=Chg.D _ _ _ _ rfl;have:=a.mo 0 G.m (AH _);refine h.any hc ⟨hc.mono λb q=>.inl qo,λ_=>.inl⟩ (λq=>yAc h.pr h.bx (by decide) _ rfl (by rw[q];rfl)) (by omega) (λj hj=>(h.tr j hj).i hc λb _ _ q=>qw (a.mo (j+1) G.m hj)) (yA.set h.bx 8 _) (h.co.i hc (by omega) (λj hj q=>qw ((h.co.j.blk hj).1)) (λx hx j hj q=>qw (((h.co.each x hx).blk hj).1)))
theorem AcI.fin(h:AcI G w f kz cv X bs)(hm:G.m=m):BoxT w (G.lo m) G.p G.n (xg G.q m G.cq) kz/\w.ownsRow (G.lo m) 71 1 (xg G.q m G.cq) m ((AX m).map λj=>ptrV (G.pp j)):=by subst hm;exact⟨h.bx,h.pr⟩
theorem xLz(t:CT):∀(s:Bool)(f:Nat),t.gen s f≠ []:=by
 induction t with
 |leaf n=>intro s f;simp[CT.gen]
 |chain n a b ha hb=>intro s f;simp only[CT.gen];intro q;exact ha s f (AN.1 q).1
 |inter n a b ha hb|cond n a b c ha hb hc=>intro s f;simp[CT.gen]
theorem xI3(kz c:Nat)(h:l≠ []):absG kz c l≠ []:=λq=>h (by have:=congrArg AW q;rw[yAl]at this;exact List.length_eq_zero_iff.1 this)
variable {bs:List Bk}
theorem CoAt.app{X:List (List Ix)}(h:CoAt w cb cv X bs)(hR:RowX w O v (absG 0 0 l))(hb:cb+1<=O)(hap:∀x∈bs,x.v.ownBlock≠v.ownBlock)(hne:l≠ [])(hA:AppB w w' (cb+1) cv cv' bs [⟨v,(cntL l:Nat),absG 0 0 l⟩]):
  CoAt (xt w' cb 0 cv') cb cv' (X++ [l]) (bs++ [⟨v,(cntL l:Nat),absG 0 0 l⟩]):=by
 have hch:=Chg.M hA.grown (λkz hk=>hk);have hne':¬cv.ownBlock=.some cb:=λq=>qw ((h.j.blk q).1)
 have hset:Chg (λb=>b=cb) w' (xt w' cb 0 cv'):=Chg.D _ _ _ _ rfl;have hE:Eac w' (cb+1) bs:=h.each.grown h.j hA.grown;have hR':RowX w' (cb+1) v (absG 0 0 l):=(hR.low hb).i hch (λkz hk q=>yP5 hR h.j kz hk q);refine⟨?_,hA.Z.i hset (λkz hk q=>qw ((hA.Z.blk hk).1)),λx hx=>?_,?_,?_,λx hx=>?_⟩
 .have:=(h.A.i hch hne').set 0 cv';simpa using this
 .rcases AR.1 hx with hx|hx
  .exact(hE x hx).i hset (λkz hk q=>qw (((hE x hx).blk hk).1))
  .simp only[AI]at hx;subst hx;exact hR'.i hset (λkz hk q=>qw ((hR'.blk hk).1))
 .rw[AS,AS,h.view];rfl
 .refine List.pairwise_append.2 ⟨h.apart,List.pairwise_singleton _ _,λx hx y hy=>?_⟩;simp only[AI]at hy;subst hy;exact hap x hx
 .rcases AR.1 hx with hx|hx
  .exact h.some x hx
  .simp only[AI]at hx;subst hx;exact xI3 0 0 hne
theorem EmAt.off{c:Nat}(h:EmAt w eb v l c)(hc:Chg S w w')(hs:∀b,eb<=b->S b->False):EmAt w' eb v l c:=
 ⟨h.A.i hc (hs _ qr),h.j.i hc λkz hk=>hs kz (qw ((h.j.blk hk).1))⟩
theorem AcI.s9{c:Nat}(h:AcI G w f kz cv X bs)(hE:EmAt w eb v l c)(hA:AppB w w' (G.cb+1) cv cv' bs Z):yA w' G.cb 34 3 G.cb [cv,xh,xi 0]/\yA w' eb 79 2 eb [v,xi c]:=by have hg:=Chg.M hA.grown (λkz hk=>hk);exact⟨h.co.A.i hg (λq=>qw ((h.co.j.blk q).1)),hE.A.i hg (λq=>yAc hE.A h.co.j qj _ rfl q)⟩
theorem AcI.app(h:AcI G w f kz cv X bs)(a:AcS G){c:Nat}(hE:EmAt w eb v (absG 0 0 l) c)(he:G.cb<eb)(hx:∀x∈bs,∀kz,x.v.ownBlock=some kz->kz<eb)(hne:l≠ [])(hA:AppB w w' (G.cb+1) cv cv' bs [⟨v,(cntL l:Nat),absG 0 0 l⟩]):AcI G (xt w' G.cb 0 cv') f kz cv' (X++ [l]) (bs++ [⟨v,(cntL l:Nat),absG 0 0 l⟩]):=by
 have hg:Chg (λkz=>cv.ownBlock=some kz\/kz=G.cb) w w':=Chg.M hA.grown (λkz hk=>.inl hk);have hc:=hg.trans (Chg.D w' G.cb 0 cv' (.inr rfl));have hr:∀kz,cv.ownBlock=some kz->G.cb<kz:=λkz hk=>(h.co.j.blk hk).1;have:=a.hp;have:=a.hq;have:=a.hh;have:=a.h2;have off:∀b,b<G.cb->(cv.ownBlock=some b\/b=G.cb)->False:=λb hb q=>by rcases q with q|q;have:=hr b q;omega;omega
 refine h.any hc ⟨hc.mono λb q=>by rcases q with q|q;exact .inr (.inr q);exact .inr (.inl q),λj hj=>?_⟩ (off _ qo) ?_ (λj hj=>(h.tr j hj).i hc λb _ _=>off b (qw (a.mo (j+1) G.m hj))) (yA.i h.bx hc (off _ (by omega))) (h.co.app (hE.j.low (by omega)) qr (λx hx' q=>?_) hne hA)
 .rcases hA.U with q|q
  .rw[q]at hj;exact .inl hj
  .rw[q]at hj;cases hj;exact .inr qr
 .rintro(q|q)
  .exact yAc h.b2 h.co.j (by decide) _ rfl q
  .omega
 .rcases hz:v.ownBlock with _|j
  .rw[hz]at q;rcases(h.co.each x hx').cases with⟨_,h6⟩|⟨g6,c6,h6,_⟩
   .exact h.co.some x hx' h6
   .rw[h6]at q;simp[Value.ownBlock]at q
  .rw[hz]at q;have:=hx x hx' j q;have:=(hE.j.blk hz).1;omega
end
variable {p:Prop}
theorem zAd (k:q) (h:q->p:=by
  intro z
  first
   |(refine yAe 99 (AcC G 2 1) qk ?_;refine ja 0 hS ?_)
   |(refine yAe 99 (AcC G 3 1) qk ?_;refine ja 0 hS ?_)
   |(refine yAe 99 (AcC G 3 2) qk ?_;refine ja 0 hS ?_)
  iterate 7 refine jb hS ?_
  refine qO 8 rfl λK hK=>?_;go_simp;go_at_call 37;refine C.out.mono ?_;rintro r w3 ⟨rfl,cv3,bs3,I3,-⟩;refine hK.out _ _ (.inr (I3.cs gm qj)) (jS ?_);refine qD ?_;revert I3 bs3 cv3 w3;exact z):p:=h k
theorem zAe(h:p:=by go_wp2_with fail;refine bodyPost_end (results_none rfl _ _ _) rfl ?_;exact Z):p:=h
theorem yUb{G:Acg}{k:Int}{X:List (List Ix)}(g1:AcS G)(I0:AcI G G.W (λ_=>none) k G.c0 X bs)(hW:w.alloc (AJ #[.func (AE G.fk) #[] G.fs] 77)=G.W)(hp:w.heap.size=G.p2)(hk:G.n.f=14/\G.m=2/\t=.chain G.n (G.t 0) (G.t 1)\/G.n.f=15/\G.m=2/\t=.inter G.n (G.t 0) (G.t 1)\/G.n.f=16/\G.m=3/\t=.cond G.n (G.t 0) (G.t 1) (G.t 2))(IH:∀u:CT,u.size<t.size->AdC u)(hl:G.L.length+3*t.size<=10000)(hc:cntL G.L+t.size<=10000)(hx:X.length+t.J<=1000):
  Calls prog 37 #[ptrV G.cb,ptrV G.p,.func (AE G.fk) #[] G.fs] w (AdP w t (G.lo 0) G.hi G.p G.cb G.c0 X G.L G.s):=by
 have hb0:Below w w G.W:=by rw[<-hW];exact qB
 have HE:Hid (∀w' cv' bs',AdF G.W w' (G.lo 0) G.hi G.cb G.c0 cv'->TrAt w' t (G.lo 0) G.hi G.p (some X.length)->CoAt w' G.cb cv' (X++t.V G.L G.s X.length) bs'->AdP w t (G.lo 0) G.hi G.p G.cb G.c0 X G.L G.s (.returned (.tuple #[])) w'):=λw' cv' bs' h2 h3 h4=>⟨rfl,cv',bs',h3,h4,(AdF.h hb0).trans h2⟩;have d0:=yA.z I0.bx (j:=0) rfl;clear hb0;go_enter func37,ntmps37;go_upto_region 1 with fail;clear hW hp;have z1:=yDe (G.t 0) G.L G.s X.length;rcases hk with⟨h0,gm,rfl⟩|⟨h0,gm,rfl⟩|⟨h0,gm,rfl⟩<;>simp only[CT.size,CT.J]at IH hl hc hx
 .have z14:(G.n.f==14)=true:=by rw[beq_iff_eq];exact h0
  have L1:=g1.mo 0 1 qo;have L2:=g1.mo 1 2 qo;have L3:=gm▸g1.hp;have L4:=g1.hh;have L5:=g1.h2;have z3:=yE7 (G.t 0) G.s X.length;have z4:=yF (G.t 0) G.s X.length;obtain⟨V1,hV1⟩:=qE ((G.W.alloc (AJ #[.pointer none] 71)).drew:Ww);obtain⟨p1,hp1⟩:=qE G.W;have hb1:Below G.W.heap.size G.W V1:=by rw[hV1];exact(qB).drew
  have B1:yA V1 p1 71 1 p1 [.pointer none]:=by rw[hV1,hp1];exact(yAa G.W _ (AA _) rfl).k ((Below.refl _ _).drew)
  obtain⟨V2,hV2⟩:=qE (V1.setCell ⟨p1,0,none⟩ (ptrV (G.pp 0)):Ww);have hb2:Below G.W.heap.size G.W V2:=by rw[hV2];exact yAb hb1 (by rw[hp1];exact AA _) _ _
  have B2:yA V2 p1 71 1 p1 [ptrV (G.pp 0)]:=by rw[hV2];exact B1.set 0 _
  have hS0:AcC G 2 1 G.W.drew:=(I0.k g1 ((Below.refl _ _).drew)).cs gm qj;have hS1:=(I0.k g1 hb1).cs gm (i:=1) qj;have I2:=I0.k g1 hb2;have hS2:=I2.cs gm (i:=1) qj;have C1:=I2.go g1 (Below.refl _ _) 0 qo (IH _ qo) rfl qo qo qo;have hcw:=hp1▸I0.co.lt;go_upto_region 3 with fail;refine yAe 99 (AcC G 2 1) qk ?_;refine ja 0 hS0 ?_;iterate 11 refine jb hS0 ?_
  refine qO 12 rfl λK hK=>?_;go_simp;rw[<-hV1,<-hp1];refine hK.out _ _ (.inr hS1) (jS ?_);clear hK hV1 hp1;have x0:=B1.z (j:=0) rfl;have y0:=B1.frozen 0;refine qO 13 rfl λK hK=>?_;go_simp;rw[<-hV2];refine hK.out _ _ (.inr hS2) (jS ?_);clear hK hV2 x0 y0;refine qO 14 rfl λK hK=>?_;go_simp;refine hK.out _ _ (.inr hS2) (jS ?_);clear hK;refine qD ?_;have e1:=B2.z (j:=0) rfl;have e2:=I2.b2.z (j:=0) rfl;clear hS0 hS1 hS2 hb1 hb2 d0;go_wp2_with fail;refine C1.out.mono ?_;rintro r w3 ⟨rfl,cv3,bs3,I3,c3⟩;have L6:G.lo (0+1)=G.lo 1:=rfl;have L7:G.lo (1+1)=G.lo 2:=rfl;have B3:=B2.i c3 (by rintro(q|q|q);omega;omega;exact yAc B2 I2.co.j qj _ rfl q);have HCl:=xB0 B3 I3.b2 (I3.tr 0 qo) I3.bf (by have:=I3.co.lt;omega) qo qo qo;have RB:yLw w3 (RC G.R (G.lo 0) (G.lo 1) p1 G.p2) (G.lo 1) (G.lo 2) G.cb cv3:=by
   have gR:=I3.ra;have:=I3.co.lt;refine⟨λb hb=>?_,λb hb=>?_⟩
   .rcases hb with q|q|rfl|rfl
    .exact gR.lt b q
    .omega
    .exact B3.lt.2
    .exact I3.b2.lt.2
   .rcases hb with q|q|rfl|rfl
    .intro h;exact gR.off b q (h.imp_left λz=>⟨qo,qo⟩)
    .exact yPp I3.co qo qo
    .rintro(h|h|h)
     .omega
     .omega
     .exact yAc B3 I3.co.j qj _ rfl h
    .rintro(h|h|h)
     .omega
     .omega
     .exact yAc I3.b2 I3.co.j qj _ rfl h
  have C2:=hidO (IH (G.t 1) qo w3 _ _ _ G.cb cv3 _ bs3 _ _ _ _ (I3.tr 1 qo) I3.co qo HCl RB (by rw[AB];omega) (by rw[yAj];omega) (by rw[AB];omega));clear C1 e1 e2 HCl RB;go_wp2_with fail;refine C2.out.mono ?_;rintro r w4 ⟨rfl,cv4,bs4,hA4⟩;have I4:=I3.call g1 (j:=1) qo hA4;have Z:=HE.out w4 cv4 bs4 I4.fr ⟨h0,G.lo 1,G.lo 2,_,_,_,_,_,I4.tr 0 qo,by simpa [z1]using I4.tr 1 qo,g1.mo _ _ qo,g1.mo _ _ qo,(I4.fin gm).1,(I4.fin gm).2,g1.hp.2,g1.hq.2⟩ (by simpa [CT.V,z1]using I4.co);clear hA4 C2;exact zAe
 .have z14:(G.n.f==14)=false:=by rw[iC];omega
  have z15:(G.n.f==15)=true:=by rw[beq_iff_eq];exact h0
  have hS:AcC G 2 1 G.W.drew:=(I0.k g1 ((Below.refl _ _).drew)).cs gm qj;have C:=I0.go g1 ((Below.refl _ _).drew) 0 qo (IH _ qo) rfl qo qo qo;go_upto_region 7 with fail;refine zAd ?_;intro w3 cv3 bs3 I3;clear C hS;have hS:AcC G 2 1 w3.drew:=(I3.k g1 ((Below.refl _ _).drew)).cs gm qj;have C:=I3.go g1 ((Below.refl _ _).drew) 1 qo (IH _ qo) rfl qo qo (by rw[AB];omega);go_upto_region 8 with fail;refine zAd ?_;intro w4 cv4 bs4 I4;clear C hS;have Z:=HE.out w4 cv4 bs4 I4.fr ⟨h0,G.lo 1,G.lo 2,_,_,_,_,_,I4.tr 0 qo,by simpa [z1]using I4.tr 1 qo,g1.mo _ _ qo,g1.mo _ _ qo,(I4.fin gm).1,(I4.fin gm).2,g1.hp.2,g1.hq.2⟩ (by simpa [CT.V,z1]using I4.co);exact zAe
 .have z14:(G.n.f==14)=false:=by rw[iC];omega
  have z15:(G.n.f==15)=false:=by rw[iC];omega
  have z16:(G.n.f==16)=true:=by rw[beq_iff_eq];exact h0
  have L1:=g1.mo 0 3 qo;have L3:=gm▸g1.hp;have L4:=g1.hh;have L5:=g1.h2;have z2:=yDe (G.t 1) G.L G.s (X.length+(G.t 0).J+1);obtain⟨c0,c1,-,-,c4⟩:=I0.cs gm (i:=1) qj;have C1:=I0.go g1 (Below.refl _ _) 0 qo (IH _ qo) rfl qo qo qo;go_wp2_with fail;refine C1.out.mono ?_;rintro r w3 ⟨rfl,cv3,bs3,I3,-⟩;obtain⟨ca,cc,hcv⟩:=I3.co.j.slice;obtain⟨cn,hcn⟩:=qE bs3.length;rw[<-hcn]at hcv;subst hcv;have HN:=qH2 (by rw[hcn,I3.co.X,AB,z1]:cn=X.length+(G.t 0).J) hcn;clear hcn;obtain⟨W4,hW4⟩:=qE (w3.alloc (AJ #[.slice none 0 0,.int .i64 0] 79):Ww);obtain⟨eb,heb⟩:=qE w3.heap.size;have hb4:Below w3.heap.size w3 W4:=by rw[hW4];exact qB
  have E4:EmAt W4 eb (.slice none 0 0) [] 0:=⟨by rw[hW4,heb];exact yAa w3 _ (AA _) rfl,yN7 _ _⟩;have I4:=I3.k g1 hb4;have e2:=I4.b2.z (j:=0) rfl;have hce:=heb▸I3.co.lt;obtain⟨fk,fs,hfv,hE0,hbf⟩:=I3.bf;cases hfv
  have HF:=hidO hE0;have HB:=hidO (hbf W4 eb (.slice none 0 0) (Chg.h hb4) (AV heb.symm) E4);have HW:Hid (∀v w6 l c,EmTo W4 w6 eb (.slice none 0 0) v l c->Below w3.heap.size w3 w6/\eb=w3.heap.size):=λv w6 l c h=>⟨hb4.trans (heb▸h.k E4),heb⟩;have HEm:Hid (∀w5 v5,EmTo W4 w5 eb (.slice none 0 0) v5 (absG 0 0 G.L) (cntL G.L)->Calls prog 39 #[ptrV (G.pp 0),ptrV eb,.bool G.s] w5 (EmP w5 eb (cntL G.L) v5 (absG 0 0 G.L) (G.t 0) G.s X.length)):=λw5 v5 h=>
   yO7 (G.t 0) w5 _ _ _ X.length eb _ v5 _ G.s ((I3.k g1 (HW.out _ _ _ _ h).1).tr 0 qo) h.U (by have:=g1.mo (0+1) 3 qo;omega) (by rw[yAl];omega) qo qo
  clear hE0 hbf c0 c1 c4 C1;go_upto_region 13 with fail;rw[<-hW4,<-heb];clear hW4 heb;go_wp2_with fail;rw[HF.out];refine HB.mono ?_;rintro r w5 ⟨v5,rfl,hT5⟩;have HT5:=hidO hT5;have C2:=hidO (HEm.out _ _ hT5);clear hT5 HB e2 I4 HF;go_wp2_with fail;refine C2.out.mono ?_;rintro r w6 ⟨v6,rfl,hT6⟩;obtain⟨M,hM⟩:=qE (G.L++(G.t 0).gen G.s X.length);have T6:EmTo W4 w6 eb (.slice none 0 0) v6 (absG 0 0 M) (cntL M):=by rw[hM];exact HT5.gen hT6
  obtain⟨b6,heb⟩:=HW.out _ _ _ _ T6;have I6:=I3.k g1 b6;obtain⟨va,vc,hv6⟩:=T6.U.j.slice;obtain⟨vn,hvn⟩:=qE ((absG 0 0 M).length);rw[<-hvn]at hv6;subst hv6;have HX:=qH2 heb hM;obtain⟨ct,hct⟩:∃ct:Int,Hid (ct=((cntL M:Nat):Int)):=⟨_,rfl⟩;have E6:=T6.U;obtain⟨W7,hW7⟩:=qE (w6.setCell ⟨G.p,8,none⟩ (.int .i64 (cn:Int)):Ww);have I7:=hW7▸I6.num g1 cn;have E7:EmAt W7 eb _ _ _:=E6.off (S:=λb=>b=G.p) (by rw[hW7];exact Chg.D _ _ _ _ rfl) (λb h q=>qo);have g8:=yA.z I6.bx (j:=8) rfl;have f8:=yA.frozen I6.bx 8;have x0:=I6.co.A.z (j:=0) rfl;clear hT6 C2 HT5 hvn hM heb T6 HEm;go_upto_region 15 with fail;rw[<-hW7];have E7b:=E7.A;have hS:SW (λw':Ww=>w'.cell? ⟨G.cb,0,none⟩=some (.slice ca cn cc)/\w'.cell? ⟨eb,0,none⟩=some (.slice va vn vc)/\w'.cell? ⟨eb,1,none⟩=some (.int .i64 ct)) W7.drew:=⟨I7.co.A.z (j:=0) rfl,E7b.z (j:=0) rfl,hct.out▸E7b.z (j:=1) rfl⟩;clear hW7 g8 f8 x0 E7b I6 E6;refine wpR 11 hS ?_;refine ja 0 hS ?_;iterate 6 refine jb hS ?_
  obtain⟨V8,hV8⟩:=qE ((W7.alloc (AJ #[.slice va vn vc,.int .i64 ct] 32)).drew:Ww);obtain⟨G8,hG8⟩:=qE W7.heap.size;have b8:Below W7.heap.size W7 V8:=by rw[hV8];exact(qB).drew
  have I8:=I7.k g1 b8;have E8:=E7.k b8;have BC:xCn V8 G8 0 [⟨.slice va vn vc,ct,absG 0 0 M⟩]:=by
   rw[hV8,hG8];intro i x hx;match i,hx with
   |0,hx=>cases hx;exact⟨by simp[go_sem],by simp[go_sem]⟩
  have hS8:=SWm hS V8 <|⟨I8.co.A.z (j:=0) rfl,E8.A.z (j:=0) rfl,hct.out▸E8.A.z (j:=1) rfl⟩;have HLn:=qH2 (by have:=HN.out;omega:bs3.length+1<=2^30) I8.co.lt;refine qO 7 rfl λK hK=>?_;go_simp;rw[<-hV8,<-hG8];clear hV8 hG8;refine hK.out _ _ (.inr hS8) (jS ?_);clear hK hS I7 E7 b8;refine qO 8 rfl λK hK=>?_;refine yKa _ rfl _ _ rfl (G.cb+1) (.slice ca cn cc) G8 0 1 1 bs3 [⟨.slice va vn vc,ct,absG 0 0 M⟩] rfl rfl rfl I8.co.j BC (λx hx=>by simp only[AI]at hx;subst hx;rfl) HLn.1 HLn.2 ?_;intro cv9 w9 hA9;have B9:=I8.s9 E8 hA9;have I10:=I8.app g1 E8 hce (λx hx k q=>by rw[HX.1];exact((I3.co.each x hx).blk q).2) (by rw[HX.2];intro q;exact xLz _ _ _ (AN.1 q).2) (hct.out▸hA9);obtain⟨a9,c9,hv9⟩:=hA9.Z.slice;clear hA9;generalize (bs3++ [(⟨.slice va vn vc,ct,absG 0 0 M⟩:Bk)]).length=n9 at hv9;subst hv9;have hS9:=SWm hS8 w9 <|⟨B9.1.z (j:=0) rfl,B9.2.z (j:=0) rfl,hct.out▸B9.2.z (j:=1) rfl⟩;refine hK.out _ _ (.inr hS9) (jS ?_);clear hK;refine qO 9 rfl λK hK=>?_;go_simp;refine hK.out _ _ (.inr hS9) (jS ?_);clear hK;refine qO 10 rfl λK hK=>?_;go_simp;refine hK.out _ _ (.inr hS9) (jS ?_);clear hK;have z0:=B9.1.frozen 0;have e0:=B9.1.z (j:=0) rfl;obtain⟨W10,hW10⟩:=qE (w9.setCell ⟨G.cb,0,none⟩ (.slice a9 n9 c9):Ww);rw[<-hW10]at I10;refine qO 11 rfl λK hK=>?_;go_simp;rw[<-hW10];refine hK.out _ _ (.inl rfl) (jS ?_);clear hK hW10 z0 e0 hS8 hS9 I8 E8 BC B9 b6;refine qD ?_;obtain⟨XX,hXX⟩:=qE (X++(G.t 0).V G.L G.s X.length++ [M]);rw[<-hXX]at I10;have HXX:=qH2 hXX (by rw[hXX,AB,AB,z1];rfl:XX.length=X.length+(G.t 0).J+1);clear hXX;have hS:AcC G 3 1 W10.drew:=(I10.k g1 ((Below.refl _ _).drew)).cs gm qj;have C:=I10.go g1 ((Below.refl _ _).drew) 1 qo (IH _ qo) rfl qo qo (by have:=HXX.2;omega);go_upto_region 16 with fail;refine zAd ?_;intro w12 cv12 bs12 I12;clear C hS;have hS:AcC G 3 2 w12.drew:=(I12.k g1 ((Below.refl _ _).drew)).cs gm qj;have HL:Hid ((XX++(G.t 1).V G.L G.s XX.length).length=X.length+(G.t 0).J+1+(G.t 1).J):=by show _=_;rw[AB,yDe,HXX.2]
  have C:=I12.go g1 ((Below.refl _ _).drew) 2 qo (IH _ qo) rfl qo qo (by rw[HL.out];omega);go_upto_region 17 with fail;refine zAd ?_;intro w14 cv14 bs14 I14;clear C hS;have Z:=HE.out w14 cv14 bs14 I14.fr ⟨h0,G.lo 1,G.lo 2,G.lo 3,_,_,_,_,_,cn,I14.tr 0 qo,by simpa [HXX.2]using I14.tr 1 qo,by simpa [HL.out]using I14.tr 2 qo,g1.mo _ _ qo,g1.mo _ _ qo,g1.mo _ _ qo,(I14.fin gm).1,(I14.fin gm).2,g1.hp.2,g1.hq.2,λf0 hf0=>by cases hf0;rw[HN.1]⟩ (by
   have h9:=I14.co
   rw[HL.out,HXX.2,HXX.1,HX.2]at h9
   simpa [CT.V]using h9)
  exact zAe
theorem zAo (h:p:=by
  refine⟨λi j hij=>?_,hh,⟨hb.lt.1,hp⟩,⟨hr.lt.1,hq⟩,hcl⟩;dsimp only;repeat' split
  all_goals omega):p:=h
theorem xI1:∀(N:Nat)(t:CT),t.size<=N->AdC t:=by
 intro N;induction N with
 |zero=>intro t ht;cases t<;>simp[CT.size]at ht
 |succ N IH=>
 intro t ht w lo hi p cb cv X bs fv R L s hT hC hh hBf hRA hl hc hx;obtain⟨fk,fcs,rfl,hB9⟩:=id hBf;have hb0:Below w w (xw w #[.func (AE fk) #[] fcs] 77):=qB;have HP:=yAa w (O:=w.heap.size) (t:=77) (sz:=1) #[.func (AE fk) #[] fcs] qr rfl;have hcl:=hC.lt;have HC:=hC.k hb0;have HB:=hBf.k hb0;have HR:=hRA.K hb0.size (λ_=>.inl) (AA _) (AA _);have hT0:=hT.k hb0 qo (AA _);have IH':∀u:CT,u.size<t.size->AdC u:=λu hu=>IH u qo;cases t with
 |leaf n=>
  have⟨h0,vv,k,hb,hp⟩:=id hT0;have z:∀i:Int,yAk i≠0->(n.f==i)=false:=λi hi=>by rw[iC];rintro rfl;exact hi h0
  have z14:=z 14 qj;have z15:=z 15 qj;have z16:=z 16 qj;have d0:=yA.z hb (j:=0) rfl;have Z:AdP w (.leaf n) lo hi p cb cv X L s (.returned (.tuple #[])) _:=⟨rfl,cv,bs,⟨h0,vv,k,hb,hp⟩,by simpa [CT.V]using HC,AdF.h hb0⟩;clear hT hT0 hb h0 z;go_enter func37,ntmps37;exact zAe
 |chain n a b=>
  have⟨h0,m,m2,pa,pb,q,cq,k,hA,hB,l1,l2,hb,hr,hp,hq⟩:=hT0;exact yUb (G:=⟨n,λj=>if j=0 then a else b,λj=>if j=0 then lo else if j=1 then m else m2,λj=>if j=0 then pa else pb,2,hi,q,cq,p,cb,_,fk,fcs,_,cv,R,L,s⟩) zAo ⟨λj hj=>match j,hj with|0,_=>hA|1,_=>hB,hb,hr,HP,HC,AdF.h (Below.refl _ _),HB,HR⟩ rfl rfl (.inl ⟨h0,rfl,rfl⟩) IH' hl hc hx
 |inter n a b=>
  have⟨h0,m,m2,pa,pb,q,cq,k,hA,hB,l1,l2,hb,hr,hp,hq⟩:=hT0;exact yUb (G:=⟨n,λj=>if j=0 then a else b,λj=>if j=0 then lo else if j=1 then m else m2,λj=>if j=0 then pa else pb,2,hi,q,cq,p,cb,_,fk,fcs,_,cv,R,L,s⟩) zAo ⟨λj hj=>match j,hj with|0,_=>hA|1,_=>hB,hb,hr,HP,HC,AdF.h (Below.refl _ _),HB,HR⟩ rfl rfl (.inr (.inl ⟨h0,rfl,rfl⟩)) IH' hl hc hx
 |cond n a b d=>
  have⟨h0,m,m2,m3,pa,pb,pc,q,cq,k,hA,hB,hD,l1,l2,l3,hb,hr,hp,hq,_⟩:=hT0;exact yUb (G:=⟨n,λj=>if j=0 then a else if j=1 then b else d,λj=>if j=0 then lo else if j=1 then m else if j=2 then m2 else m3,λj=>if j=0 then pa else if j=1 then pb else pc,3,hi,q,cq,p,cb,_,fk,fcs,_,cv,R,L,s⟩) zAo ⟨λj hj=>match j,hj with|0,_=>hA|1,_=>hB|2,_=>hD,hb,hr,HP,HC,AdF.h (Below.refl _ _),HB,HR⟩ rfl rfl (.inr (.inr ⟨h0,rfl,rfl⟩)) IH' hl hc hx
theorem xMb(t:CT):AdC t:=xI1 _ t qr
structure Apt(bs:List Bk)(mv:Vv):Prop where
 pw:bs.Pairwise (λx y=>x.v.ownBlock≠y.v.ownBlock)
 main:∀x∈bs,x.v.ownBlock≠mv.ownBlock
 some:∀x∈bs,x.l≠ []
def CmpI(xs:List Nd)(w:Ww)(r:Ending)(w':Ww):Prop:=∃(a:Option Addr)(n c:Nat)(a':Option Addr)(n' c':Nat)(cnt:Int)(X:List (List Ix))(M:List Ix)(bs:List Bk),r=.returned (.agg #[.slice a n c,.slice a' n' c',xi cnt])/\CdU w w' (.slice a n c) (.slice a' n' c') cnt X M bs/\yYc xs X M/\Apt bs (.slice a' n' c')
theorem xBw{mv:Vv}{c:Nat}{X:List (List Ix)}(hC:CoAt w cb cv X bs)(hE:EmAt w eb mv (absG 0 0 M) c)(hc:c=cntL M)(hb:Below w0 w0 w)(h1:w0<=p1)(h2:p1<cb)(h3:cb<eb)(u0 u1 u2 v1 v2:Vv):
  CdU w0 (xt ((((w.setCell (xd cb 1) v1).setCell (xd cb 2) v2).setCell (xd p1 0) u0).setCell (xd p1 1) u1) p1 2 u2) cv mv ((c:Nat):Int) X M bs:=by
 have hch:Chg (λb=>b<=cb) w (xt ((((w.setCell (xd cb 1) v1).setCell (xd cb 2) v2).setCell (xd p1 0) u0).setCell (xd p1 1) u1) p1 2 u2):=
  ((((Chg.D (S:=λb=>b<=cb) w cb 1 v1 (AA cb)).trans (Chg.D (S:=λb=>b<=cb) _ cb 2 v2 (AA cb))).trans (Chg.D (S:=λb=>b<=cb) _ p1 0 u0 (AO h2))).trans (Chg.D (S:=λb=>b<=cb) _ p1 1 u1 (AO h2))).trans (Chg.D (S:=λb=>b<=cb) _ p1 2 u2 (AO h2))
 refine⟨⟨(hC.j.i hch (λk hk q=>qw ((hC.j.blk hk).1))).low qo,λx hx=>((hC.each x hx).i hch (λk hk q=>qw (((hC.each x hx).blk hk).1))).low qo,hC.view,?_⟩,(hE.j.i hch (λk hk q=>qw ((hE.j.blk hk).1))).low qo,by rw[hc]⟩;exact yAb (yAb (yAb (yAb (yAb hb qo _ _) qo _ _) h1 _ _) h1 _ _) h1 _ _
theorem yFu{cp:Nat}(h:WdN w g o cp xs)(hok:∀e∈xs,e.ok):Calls prog 7 #[.agg #[(xy g o xs.length cp)]] w (CmpI xs w):=by
 have HO:=qH2 h hok;have hgl:=h.lt;have hcp:=h.caps;have⟨n,hn⟩:=qE xs.length;have HN:=qH1 hn;have⟨W0,hW0⟩:=qW (xw (w.alloc (AJ #[(xy g o n cp)] 25)) #[xh,xh,xi 0] 34);have hb0:Below w w W0:=hW0▸((qB).alloc (by simp) _)
 have hz0:W0.heap.size=w+1+1:=by rw[hW0];simp
 have HK:Hid (∀wx,Below W0 W0 wx->xk wx w 0 (xy g o n cp)/\yA wx (w+1) 34 3 (w+1) [xh,xh,xi 0]/\WdN wx g o cp xs/\Below w w wx/\w.heap.size+2<=wx):=by
  intro wx hx;refine⟨?_,?_,(HO.1.k hb0 hgl).k hx qo,hb0.trans (hx.mono qo),qw hx.size⟩
  .rw[hx.cell (p:=(xd w 0)) (by show w.heap.size<_;omega),hW0];simp[go_sem]
  .refine yA.k ?_ hx;rw[hW0];have z1:(w.alloc (AJ #[(xy g o n cp)] 25)).heap.size=w+1:=by simp
   have hb2:=yAa (xw w #[(xy g o n cp)] 25) (O:=w.heap.size+1) (t:=34) (sz:=3) #[xh,xh,xi 0] (z1▸AA _) rfl;rw[z1]at hb2;exact hb2
 have HF:Hid (Calls prog 34 #[.agg #[(xy g o n cp)]] W0 (yG6 xs W0)):=hn▸(yEi (HK.out W0 (Below.refl _ _)).2.2.1 hok)
 rw[<-hn];clear h hok hn;have c0:=(HK W0 (Below.refl _ _)).1;go_enter func7,ntmps7;go_upto_region 1 with fail;rw[<-hW0];clear hW0;go_wp2_with fail;apply HF.mono;rintro e w1 ⟨r,rfl,hr,hb1⟩;have HR:=qH1 hr;have HK1:=qH3 ((HK w1 hb1).2.1) ((HK w1 hb1).2.2.2.1) ((HK w1 hb1).2.2.2.2);clear hr c0 HF;have c0:=(HK w1 hb1).1;cases r
 case false=>
  have⟨f0,f1,f2⟩:=HK1.1.c3;have⟨z0,z1,z2⟩:=HK1.1.f3
  have HG:Hid (CmpI xs w (.returned (.agg #[xh,xh,xi 0])) (xt ((w1.setCell (xd (w+1) 0) xh).setCell (xd (w.heap.size+1) 1) (.slice none 0 0)) (w.heap.size+1) 2 (.int .i64 0))):=
   ⟨_,_,_,_,_,_,_,[],[],[],rfl,xIx w _ (yAb (yAb (yAb HK1.2.1 qo _ _) qo _ _) qo _ _),.inl ⟨λq=>Bool.noConfusion (HR.2 q),rfl,rfl⟩,⟨AG,(λx hx=>by cases hx),(λx hx=>by cases hx)⟩⟩
  have HB:Hid (yA (((w1.setCell ⟨w.heap.size+1,0,none⟩ (.slice none 0 0)).setCell ⟨w.heap.size+1,1,none⟩ (.slice none 0 0)).setCell (xd (w.heap.size+1) 2) (.int .i64 0)) (w.heap.size+1) 34 3 (w.heap.size+1) [.slice none 0 0,.slice none 0 0,.int .i64 0]):=((HK1.1.set 0 _).set 1 _).set 2 _;go_wp2_with fail;have⟨e0,e1,e2⟩:=HB.c3;exact bodyPost_ret (v:=.agg #[.slice none 0 0,.slice none 0 0,.int .i64 0]) (by simp[results,results7,go_sem,e0,e1,e2]) rfl HG
 case true=>
 have hG:=HR.1 rfl;have⟨t,ht⟩:=xA7 hG;have HT:=qH4 hG ht (by rw[ht.size];exact hG.1:t.size<=200) (by rw[<-ht.J];exact AL (xIi xs) hG.1:t.J<=200);have HFo:Hid (Calls prog 35 #[(xy g o n cp),.func (AE 36) #[] #[]] w1 (xCk t w1)):=by rw[HN];exact yO2 (HK w1 hb1).2.2.1.at (HK w1 hb1).2.2.1.lt ht hG.1
 clear hG ht;go_wp2_with fail;apply HFo.mono;rintro e w2 ⟨p,rfl,hT2,hb2⟩;have s2:=hb2.size;have HT2:=qH1 hT2;have k2:=hb1.trans (hb2.mono hb1.size);clear hT2 HFo c0;have⟨W3,hW3⟩:=qE (w2.alloc (AJ #[.slice none 0 0,.slice none 0 0,.int .i64 0] 34):Ww);have⟨cb,hcb⟩:=qE w2.heap.size;have hb3:Below w2 w2 W3:=hW3▸qB
 have HC3:Hid (CoAt W3 cb (.slice none 0 0) [] []/\cb=w2):=by refine⟨⟨?_,yU7 _ _,(λx hx=>by cases hx),rfl,AG,(λx hx=>by cases hx)⟩,hcb⟩;rw[hW3,hcb];exact yAa w2 _ (AA _) rfl
 have HAd:Hid (Calls prog 37 #[ptrV cb,ptrV p,.func (AE 38) #[] #[]] W3 (AdP W3 t w1.heap.size w2.heap.size p cb (.slice none 0 0) [] [] false)):=by
  refine xMb t W3 w1.heap.size w2.heap.size p cb (.slice none 0 0) [] [] _ (λ_=>False) [] false (HT2.k hb3 (AA _) (AA _)) HC3.1 (AV hcb.symm) (xB6 _ _) ⟨λb q=>q.elim,λb q=>q.elim⟩ ?_ ?_ ?_
  .have:=HT.2.2.1;simp;omega
  .have:=HT.2.2.1;simp[cntL];omega
  .have:=HT.2.2.2;simp;omega
 have k3:=k2.trans (hb3.mono k2.size);go_upto_region 5 with fail;rw[<-hW3,<-hcb];clear hW3 hcb;go_wp2_with fail;apply HAd.mono;rintro e w4 ⟨rfl,cv4,bs4,hA4⟩;have⟨ca,cc,hcv⟩:=hA4.code.j.slice;have⟨cn,hcn⟩:=qE bs4.length;rw[<-hcn]at hcv;clear hcn;subst hcv;have HA4:=qH2 hA4.tree hA4.code;have k4:Below W0.heap.size W0 w4:=by
  refine Chg.k k3 hA4.fr.i k3.size (λb hb=>?_);have g1:=k2.size;have g2:=hb1.size;have g3:=HC3.2;rcases hb with q|q|q
  .omega
  .omega
  .simp[Value.ownBlock]at q
 have hc4:=hA4.code.lt;clear hA4 HAd;have⟨W5,hW5⟩:=qE (w4.alloc (AJ #[.slice none 0 0,.int .i64 0] 79):Ww);have⟨eb,heb⟩:=qE w4.heap.size;have hb5:Below w4 w4 W5:=hW5▸qB
 have HE5:Hid (EmAt W5 eb (.slice none 0 0) [] 0/\eb=w4):=by refine⟨⟨?_,yN7 _ _⟩,heb⟩;rw[hW5,heb];exact yAa w4 _ (AA _) rfl
 have HEm:Hid (Calls prog 39 #[ptrV p,ptrV eb,.bool false] W5 (EmP W5 eb 0 (.slice none 0 0) [] t false 0)):=by
  refine yO7 t W5 w1.heap.size w2.heap.size p 0 eb 0 (.slice none 0 0) [] false (HA4.1.k hb5 (by have:=HC3.2;omega) (AA _)) HE5.1 (by have:=HC3.2;omega) ?_ ?_ ?_
  .have:=HT.2.2.1;simp;omega
  .have:=HT.2.2.1;omega
  .have:=HT.2.2.2;omega
 have k5:=k4.trans (hb5.mono k4.size);have hbe:Hid (Below eb W5 W5/\cb<eb/\W0<=eb/\W0<=cb):=⟨Below.refl _ _,qo,by rw[heb];exact k4.size,by rw[HC3.2];exact k2.size⟩;have HC5:=qH1 (HA4.2.k hb5);go_upto_region 7 with fail;rw[<-hW5,<-heb];clear hW5 heb;go_wp2_with fail;apply HEm.mono;rintro e w6 ⟨v6,rfl,hT6⟩;have⟨M,hM⟩:=qE (t.gen false 0);have hE6:EmAt w6 eb v6 (absG 0 0 M) (cntL M):=by have h9:=hT6.U;rw[hM];simpa using h9
 have⟨va,vc,hv6⟩:=hE6.j.slice;have⟨vn,hvn⟩:=qE ((absG 0 0 M).length);rw[<-hvn]at hv6;clear hvn;subst hv6;have hx6:=hT6.k HE5.1;have k6:=k5.trans (hx6.mono hbe.2.2.1);have HC6:Hid (CoAt w6 cb (.slice ca cn cc) (t.V [] false 0) bs4):=by
  refine HC5.i (S:=λb=>eb<=b) ⟨hx6.os,hx6.tape,hx6.output,hx6.size,λk hk hn=>hx6.block k qo⟩ (by have:=hbe.2.1;omega) (λk hk q=>?_) (λx hx k hk q=>?_)
  .have:=(HA4.2.j.blk hk).2;have:=HE5.2;omega
  .have:=((HA4.2.each x hx).blk hk).2;have:=HE5.2;omega
 have⟨ct,hct⟩:=qE (((cntL M:Nat):Int):Int);have HE6:=qH3 hE6 hct hM;have HApt:Hid (Apt bs4 (.slice va vn vc)):=by
  refine⟨HC6.apart,λx hx q=>?_,HC6.some⟩;rcases hz:(Value.slice va vn vc).ownBlock with _|j
  .rw[hz]at q;rcases(HA4.2.each x hx).cases with⟨_,h6⟩|⟨g6,c6,h6,_⟩
   .exact HC6.some x hx h6
   .rw[h6]at q;simp[Value.ownBlock]at q
  .rw[hz]at q;have h1:=((HA4.2.each x hx).blk q).2;have h2:=(hE6.j.blk hz).1;have h3:=HE5.2;omega
 have a0:=hE6.A.z (j:=0) rfl;have a1:(xk w6 eb 1 (xi ct):Prop):=hct▸(hE6.A.z (j:=1) rfl)
 have b1:=HC6.A.z (j:=1) rfl;have b2:=HC6.A.z (j:=2) rfl;have g1:=HC6.A.frozen 1;have g2:=HC6.A.frozen 2;have⟨W7,hW7⟩:=qE (xt (w6.setCell (xd cb 1) (.slice va vn vc)) cb 2 (xi ct):Ww);have HB7:Hid (yA W7 cb 34 3 cb [.slice ca cn cc,.slice va vn vc,xi ct]):=hW7▸((HC6.A.set 1 _).set 2 _)
 have HP7:Hid (yA W7 (w+1) 34 3 (w+1) [xh,xh,xi 0]):=by rw[hW7];exact(((HK w6 k6).2.1).Q (by have:=hbe.2.2.2;omega) _ _).Q (by have:=hbe.2.2.2;omega) _ _
 have HG:Hid (CmpI xs w (.returned (.agg #[.slice ca cn cc,.slice va vn vc,xi ct])) (xt ((W7.setCell (xd (w+1) 0) (.slice ca cn cc)).setCell (xd (w+1) 1) (.slice va vn vc)) (w+1) 2 (xi ct))):=by refine⟨_,_,_,_,_,_,_,t.V [] false 0,M,bs4,rfl,?_,.inr ⟨HT.1,t,HT.2.1,rfl,hM⟩,HApt⟩;rw[hW7];have h9:=xBw (w0:=w) (p1:=w.heap.size+1) HC6 hE6 rfl (HK w6 k6).2.2.2.1 qo (by have:=hbe.2.2.2;omega) hbe.2.1 (.slice ca cn cc) (.slice va vn vc) (xi ct) (.slice va vn vc) (xi ct);rw[<-hct]at h9;exact h9
 clear hT6 hE6 hx6 hM hct;go_upto_region 9 with fail;rw[<-hW7];clear hW7 a0 a1 b1 b2 g1 g2;have⟨d0,d1,d2⟩:=HB7.c3;have⟨f0,f1,f2⟩:=HP7.c3;have⟨z0,z1,z2⟩:=HP7.f3;have HB:Hid (yA (xt ((W7.setCell (xd (w+1) 0) (.slice ca cn cc)).setCell (xd (w+1) 1) (.slice va vn vc)) (w+1) 2 (xi ct)) (w+1) 34 3 (w+1) [.slice ca cn cc,.slice va vn vc,xi ct]):=((HP7.set 0 _).set 1 _).set 2 _;go_wp2_with fail;have⟨e0,e1,e2⟩:=HB.c3;exact bodyPost_ret (v:=.agg #[.slice ca cn cc,.slice va vn vc,xi ct]) (by simp[results,results7,go_sem,e0,e1,e2]) rfl HG
end Go.Proofs.YtnnagkfoiganfaaGreatDoor
