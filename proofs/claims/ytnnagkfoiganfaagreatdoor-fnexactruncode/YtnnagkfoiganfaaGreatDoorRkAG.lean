import Derived.Test.YtnnagkfoiganfaaGreatDoorRkAA
import Derived.Test.YtnnagkfoiganfaaGreatDoorRkAF
import Derived.Test.YtnnagkfoiganfaaGreatDoorRkAC
import Derived.RangeFuncNested
import Derived.Test.YtnnagkfoiganfaaGreatDoorRkAE
import Derived.Test.YtnnagkfoiganfaaGreatDoorRkAD
import Derived.Test.YtnnagkfoiganfaaGreatDoorRkAB
import Derived.Great.BuildSlice
import Derived.OrdersIn
import Derived.RangeFuncBound
import Derived.RangeFuncCalls
import Derived.RangeFuncLeaves
import Derived.Shelf.Abstract
import Derived.Shelf.RegionOpen
import Derived.WalkKit
import Derived.OwnWalkIn
import Derived.TacticsInMore
import Derived.LoopNIn
import Derived.LoopIn
import Derived.Stop.RegionWithIn
namespace Go.Proofs.YtnnagkfoiganfaaGreatDoor
open Go.ChangeShapes Go.WideShapes Go.ChangeAt Go.RowKit Go.Deep Go.Maps XD XI XU XG XP XK XW XT XF XE XH _root_.List _root_.Nat Go.Shelf Go.Proofs.Tryz
set_option linter.unusedVariables false
set_option linter.unusedSimpArgs false
set_option maxRecDepth 100000
set_option maxHeartbeats 40000000
variable {W:World} {cnt:Int} {nc N NM:Nat} {Ts:List Tt}
theorem xDh {B tb:Nat} {l:List Ix} {bI oI cI nk:Nat} (hg:yBe l cnt nc) (hok:∀x∈l,x.ok) (hN:N=l.length) (hnk:nk=cnt.toNat) (hI:yB5 W bI oI l) (hb:bI<W.heap.size) (hB:B<tb) (hbB:¬bI=B) (htb:tb<=W.heap.size) (hv:¬1=B) (hNM:NM<=5000000) (p g mb:Nat):LdO ⟨W,B,l,N,bI,oI,cI,cnt,p,g,mb,nk,tb,Ts,NM⟩:=by
 have h3:=hg.2.2.1;have h4:=hg.2.2.2.1;have h2:=hg.2.1;have a0:∀(k:Nat) (x:Ix),l[k]?=some x->x.op=1->yFk [x.leaf]/\(cntK x.leaf.kind->0<=x.a/\x.a<cnt):=λk x hx ho=>by
  rcases yC3 hg hx with q|q|q|q
  .refine⟨q.2.1,λhc=>?_⟩;rcases q.2.2.2 with z|z
   .exact z.2
   .exact absurd hc z.1
  .have:=q.1;omega
  .have:=q.1;omega
  .have:=q.1;omega
 exact {B:=⟨hB,htb,hv⟩,N:=hN,Nl:=by show N<=4000;omega,nk:=by show((nk:Nat):Int)=cnt;omega,nkl:=by show nk<=200;omega,ins:=hI,bI:=⟨hb,hbB⟩,ok:=hok,N0:=hNM,good:=a0}
abbrev dkl (d:Md):Nat×List Ix:=(d.nk,d.l)
abbrev bkl (x:Bk):Nat×List Ix:=(x.cnt.toNat,x.l)
structure LcJ (w:World) (bs:List Bk) (m:Bk) (u mv:Value) (pb k:Nat) (a:Option Addr) (n c:Nat) (d0:Md) (ds:List Md) (Ts:List Tt) (NM:Nat) (wr:World):Prop where
 cod:yA wr w 34 3 w [u,mv,xi m.cnt]
 res:yA wr w 96 2 (w+1) [xh,.pointer none]
 ldr:yA wr w 174 1 (w+1+1+1) [.map (some (w+1+1))]
 prg:yA wr w 96 2 pb [.slice a n c,xp d0.mb]
 row:RowM wr w (.slice a n c) ds
 nl:n=ds.length
 mds:MdsA (w+1+1+1) (w+1+1) NM Ts (d0::ds) wr
 pt:∀X∈Ts,X.t<pb∨pb<X.lo
 rt:∀q,(Value.slice a n c).ownBlock=some q->¬q=w.heap.size+1+1/\∀X∈Ts,X.t<q∨q<X.lo
 pn:w.heap.size+1+1+1<pb
 dm:dkl d0=bkl m
 dsm:ds.map dkl=(bs.take k).map bkl
 below:Below w w wr
variable {w wr:World}
theorem LcJ.on {bs:List Bk} {m:Bk} {u mv:Value} {pb k:Nat} {a:Option Addr} {n c:Nat} {d0:Md} {ds:List Md} (h:LcJ w bs m u mv pb k a n c d0 ds Ts NM wr) (hb:Below wr wr W):LcJ w bs m u mv pb k a n c d0 ds Ts NM W:=
 {h with
  cod:=h.cod.below hb,res:=h.res.below hb,ldr:=h.ldr.below hb,prg:=h.prg.below hb,row:=yAh h.row (S:=λ_=>False) (Chg.of_below hb) (λ_ _ q=>q)
  mds:=h.mds.on (S:=λ_=>False) (Chg.of_below hb) (λq z=>z.elim),below:=h.below.trans (hb.mono h.below.size)}
theorem LcJ.load {bs:List Bk} {m:Bk} {u mv:Value} {pb k:Nat} {a:Option Addr} {n c:Nat} {d0:Md} {ds:List Md} {Ts':List Tt} {NM':Nat} {d:Md} (h:LcJ w bs m u mv pb k a n c d0 ds Ts NM wr) (hm:MdsA (w+1+1+1) (w+1+1) NM' Ts' (d0::(ds++ [d])) W) (hc:Chg (λq=>q=w.heap.size+1+1) wr W) (hnw:∀X∈Ts',X∈Ts∨wr.heap.size<=X.lo):
  yA W w 34 3 w [u,mv,xi m.cnt]/\yA W w 96 2 (w+1) [xh,.pointer none]/\yA W w 174 1 (w+1+1+1) [.map (some (w+1+1))]/\yA W w 96 2 pb [.slice a n c,xp d0.mb]/\RowM W w (.slice a n c) ds/\(∀X∈Ts',X.t<pb∨pb<X.lo)/\(∀q,(Value.slice a n c).ownBlock=some q->¬q=w.heap.size+1+1/\∀X∈Ts',X.t<q∨q<X.lo)/\Below w w W:=by
 have a0:=h.pn;have a1:=h.prg.lt;refine⟨h.cod.chg hc qo,h.res.chg hc qo,h.ldr.chg hc qo,h.prg.chg hc qo,yAh h.row hc (λq hq z=>(h.rt q hq).1 z),λX hX=>?_,λq hq=>⟨(h.rt q hq).1,λX hX=>?_⟩,Chg.below h.below hc h.below.size (λq z=>qo)⟩
 .rcases hnw X hX with z|z
  .exact h.pt X z
  .exact .inr qo
 .rcases hnw X hX with z|z
  .exact(h.rt q hq).2 X z
  .have a2:q<wr.heap.size:=by
    rcases h.row.2 with⟨q0,_⟩|⟨g',a3,cur,hv,h1,h2,_⟩
    .rw[q0]at hq;simp[Value.ownBlock]at hq
    .have:=World.ownsRow.lt h.row q hq;exact this.2
   exact .inr qo
variable {base:Nat} {W':World}
theorem TsA.side {S:Nat->Prop} (h:TsA base Ts W) (hc:Chg S W W') (hS:∀q,S q->∀X∈Ts,q<X.lo∨X.t<q) (hv:¬S 1):TsA base Ts W':=
 ⟨λT hT=>⟨(h.at_ T hT).1.chg hc (λq hq z=>qw (hS q hq T hT)) hv,(h.at_ T hT).2⟩,h.apart,h.tab.chg hc hv,h.tabl⟩
variable {T:Tt}
theorem TsA.one (h:TsA base Ts W) (hT:T∈Ts) (hc:Chg (InB T.lo T.hi) W W') (ht:yDm W' T.lo T.hi T.n (.pointer T.mp)):TsA base Ts W':=by
 have hv:¬InB T.lo T.hi 1:=λq=>qv ((h.at_ T hT).1.tab) q.1
 refine⟨λX hX=>?_,h.apart,h.tab.chg hc hv,h.tabl⟩;refine⟨?_,(h.at_ X hX).2⟩;have hx:=(h.at_ X hX).1;have h1:=hx.r1;have h2:=hx.r2;have a1:=(h.at_ T hT).1;have t1:=a1.r1;have t2:=a1.r2;by_cases e:X=T
 .subst e;have hn:¬InB X.lo X.hi X.t:=λq=>qw q.2
  have a0:∀j,W'.cell? (xd X.t j)=W.cell? (xd X.t j):=λj=>hc.cell (p:=(xd X.t j)) hx.lt hn;obtain⟨c0,c1,c2,c3,c4,c5,c6,c7⟩:=hx.ctv;exact⟨⟨(a0 0).trans c0,(a0 1).trans c1,(a0 2).trans c2,(a0 3).trans c3,(a0 4).trans c4,(a0 5).trans c5,(a0 6).trans c6,(a0 7).trans c7⟩,(a0 8).trans hx.low,Nat.lt_of_lt_of_le hx.lt hc.size,ht,h1,h2,hx.tab⟩
 .have a2:X.t<T.lo∨T.t<X.lo:=by
   have hp:=h.apart;clear hc ht hx a1;induction Ts with
   |nil=>cases hX
   |cons Y Ys ih=>
    obtain⟨p1,p2⟩:=List.pairwise_cons.1 hp;rcases mem_cons.1 hX with x1|x1
    .rcases mem_cons.1 hT with y1|y1
     .exact absurd (x1.trans y1.symm) e
     .rw[x1];exact .inr (p1 T y1)
    .rcases mem_cons.1 hT with y1|y1
     .rw[y1];exact .inl (p1 X x1)
     .exact ih ⟨λZ hZ=>h.at_ Z (mem_cons_of_mem _ hZ),p2,h.tab,h.tabl⟩ y1 x1 p2
  exact hx.chg hc (λq hq z=>qv hq.1 hq.2) hv
theorem xB4 (k:Int):EntF (cntF k):=by
 unfold cntF;split
 .exact yOi
 .split
  .exact yWz
  .exact yZu
variable {t cap:Nat} {ks:List Ctr}
theorem xFp {g:Nat} {i:Nat} {k:Ctr} {n:Nd} (hk:cntK n.kind) (h:CkA w base t g cap ks i k n.n) (c:Ent) (hkk:CtK k) (hr:¬c.row=⟨#[]⟩):
  Calls prog (cntF n.kind) #[xp t,c.c] w λe w'=>e=.returned (yCh n k c).1/\yFj w' base g cap (ks.set i (yCh n k c).2)/\Chg (λq=>q=g) w w':=by
 have hc:0<=k.count/\k.count<=1000000:=⟨hkk.lo,qw hkk.up⟩;rcases hk with hk|hk|hk
 .have h1:=yZ2 (n:=n) hkk hr (k.row.toList==c.row.toList && (k.fam.toList==c.fam.toList && k.qual.toList==c.qual.toList)) (by simp[hk]);obtain⟨h2,h3⟩:=xDk h1 qo;rw[show cntF n.kind=189 from by unfold cntF;rw[if_pos hk]];refine(yVq h c hc).mono ?_;rintro e w' ⟨q1,q2,q3⟩;rw[h2]at q1;rw[h3]at q2;exact⟨q1,q2.row,q3⟩
 .have h1:=yZ2 (n:=n) hkk hr (k.row.toList==c.row.toList) (by simp[hk]);obtain⟨h2,h3⟩:=xDk h1 qo;rw[show cntF n.kind=191 from by unfold cntF;rw[if_neg qo,if_pos hk]];refine(yKp h c hc).mono ?_;rintro e w' ⟨q1,q2,q3⟩;rw[h2]at q1;rw[h3]at q2;exact⟨q1,q2.row,q3⟩
 .have h1:=yZ2 (n:=n) hkk hr (k.row.toList==c.row.toList) (by simp[hk]);obtain⟨h2,h3⟩:=xB8 h1 hk;rw[show cntF n.kind=192 from by unfold cntF;rw[if_neg qo,if_neg qo]];refine(yV1 h c hc).mono ?_;rintro e w' ⟨q1,q2,q3⟩;rw[h2]at q1;rw[h3]at q2;exact⟨q1,q2.row,q3⟩
theorem TtA.lfa (h:TtA T W):LfA W T.t T.n (.pointer T.mp) (lowB T.n):=⟨h.ctv.t4,h.ctv.t7,h.low,h.lt⟩
theorem TtA.mv (h:TtA T W):(PatK T.n.kind/\mvB (.pointer T.mp) true)∨(¬PatK T.n.kind/\mvB (.pointer T.mp) false):=by
 rcases h.tst with⟨q,e⟩|⟨q,M,e,_⟩
 .exact .inr ⟨q,.inl ⟨e,rfl⟩⟩
 .exact .inl ⟨q,.inr ⟨M,e,rfl⟩⟩
theorem xFi (T:Tt) (hk:tstK T.n.kind):∃(kh:Nat) (hv:Value),hntV T.n.kind T.t=.func (Fn.func kh) #[hv] #[]/\EntF kh/\∀(c:Ent) (W:World),TtA T W->(xf kh #[hv,c.c] W (yB4 (pfxB T.n.s) T.n c).v:Prop):=by
 have a0:∀(r:Int),hntV T.n.kind T.t=anyV r->(∀c,yB4 (pfxB T.n.s) T.n c=⟨r,⟨#[]⟩⟩)->∃(kh:Nat) (hv:Value),hntV T.n.kind T.t=.func (Fn.func kh) #[hv] #[]/\EntF kh/\∀(c:Ent) (W:World),TtA T W->(xf kh #[hv,c.c] W (yB4 (pfxB T.n.s) T.n c).v:Prop):=λr h1 h2=>
  ⟨_,_,h1,yMp,λc W hT=>by rw[h2 c];exact yL9 ⟨r,⟨#[]⟩⟩ c W⟩
 have a1:hntV T.n.kind T.t=ofT 194 T.t->(∀c W,TtA T W->∃m,mvB (.pointer T.mp) m/\txtH (lowB T.n) m c.row 5 4 6=yB4 (pfxB T.n.s) T.n c)->∃(kh:Nat) (hv:Value),hntV T.n.kind T.t=.func (Fn.func kh) #[hv] #[]/\EntF kh/\∀(c:Ent) (W:World),TtA T W->(xf kh #[hv,c.c] W (yB4 (pfxB T.n.s) T.n c).v:Prop):=λh1 h2=>
  ⟨_,_,h1,yQz,λc W hT=>by
    obtain⟨m,hm,h3⟩:=h2 c W hT
    rw[<-h3]
    exact yPn hT.lfa hm c⟩
 have a2:hntV T.n.kind T.t=ofT 195 T.t->(∀c W,TtA T W->∃m,mvB (.pointer T.mp) m/\txtH (lowB T.n) m c.qual 2 1 3=yB4 (pfxB T.n.s) T.n c)->∃(kh:Nat) (hv:Value),hntV T.n.kind T.t=.func (Fn.func kh) #[hv] #[]/\EntF kh/\∀(c:Ent) (W:World),TtA T W->(xf kh #[hv,c.c] W (yB4 (pfxB T.n.s) T.n c).v:Prop):=λh1 h2=>
  ⟨_,_,h1,yOj,λc W hT=>by
    obtain⟨m,hm,h3⟩:=h2 c W hT
    rw[<-h3]
    exact yNq hT.lfa hm c⟩
 rcases hk with h|h|h|h|h|h|h|h|h|h
 .exact a0 0 (by rw[h];rfl) (λc=>by unfold yB4;simp[h,noH])
 .exact a0 6 (by rw[h];rfl) (λc=>by unfold yB4;simp[h])
 .exact a0 0 (by rw[h];rfl) (λc=>by unfold yB4;simp[h,noH])
 .refine a1 (by rw[h];rfl) (λc W hT=>?_);rcases hT.mv with⟨q,hm⟩|⟨q,hm⟩
  .exact⟨true,hm,by rw[ySx q];unfold yB4 txtH;simp[h]⟩
  .exact absurd (.inl h) q
 .exact a0 3 (by rw[h];rfl) (λc=>by unfold yB4;simp[h])
 .refine a2 (by rw[h];rfl) (λc W hT=>?_);rcases hT.mv with⟨q,hm⟩|⟨q,hm⟩
  .exact⟨true,hm,by rw[ySx q];unfold yB4 txtH;simp[h]⟩
  .exact absurd (.inr (.inr (.inl h))) q
 .exact a0 0 (by rw[h];rfl) (λc=>by unfold yB4;simp[h,noH])
 .refine a1 (by rw[h];rfl) (λc W hT=>?_);exact xCv
 .refine a2 (by rw[h];rfl) (λc W hT=>?_);exact xCv
 .refine⟨_,_,by rw[h];rfl,yTq,λc W hT=>?_⟩;have h9:=yRu hT.lfa c;have h8:yB4 (pfxB T.n.s) T.n c=(if c.ts<T.n.lo then(⟨1,⟨#[]⟩⟩:Hn)else noH):=by unfold yB4;simp[h]
  rw[h8];exact h9
structure MaD (G:MchG) (l:List Ix) (tb lo N:Nat) (Ts:List Tt) (L:List Value):Prop where
 ti:G.TI=TsA tb Ts
 tq:G.T=λq=>∃X∈Ts,X.lo<=q/\q<X.hi
 sp:yFi G.w0 lo G.p N L
 pS:¬G.S G.p
 pT:∀X∈Ts,G.p<X.lo∨X.t<G.p
 gT:∀X∈Ts,G.g<X.lo∨X.t<G.g
 gl:G.g<G.w0.heap.size
 gp:¬G.g=G.p
 gv:¬1=G.g
 cS:∀t vs,yA G.w0 lo 283 2 t vs->(∀X∈Ts,t<X.lo∨X.t<t)->¬G.S t/\¬t=G.g
 xl:∀X∈Ts,X.t<G.w0.heap.size
 don:∀(at_:Nat) (x:Ix),l[at_]?=some x->StpD lo G.g Ts L at_ x G.w0
 good:∀(k:Nat) (x:Ix),l[k]?=some x->x.op=1->yCb x.leaf/\(cntK x.leaf.kind->0<=x.a/\x.a<(G.nk:Int))
variable {j:Nat}
theorem xAy {p:Nat} {L:List Value} (h:yFi w base p N L) {v:Value} (hv:L[j]?=some v):(xk w p j v:Prop):=by have hj:=qf hv;rw[World.ownsRow.cellAt h j (qw h.1),hv]
theorem xFf {G:MchG} {l:List Ix} {tb lo:Nat} {L:List Value} (hD:MaD G l tb lo N Ts L):xIf G l:=by
 intro at_ x i c ks W hx ho aa a5 a9 aD a3 an;have ao:=(World.ownsRow.lt hD.sp G.p rfl).2;have a1:∀j v,L[at_*13+j]?=some v->(xk W G.p (at_*13+j) v:Prop):=λj v hv=>by rw[aa.cell (p:=(xd G.p _)) ao hD.pS];exact xAy hD.sp hv
 have aB:=aa.size;cases hal:i.alive
 .have au:leafI pfxB x c i ks=(i,ks):=by unfold leafI;rw[if_neg (by simp[hal])]
  refine(yZd hal).mono ?_;rintro e w' ⟨rfl,hb⟩;unfold LfQ;rw[au];have hc:Chg (λ_=>False) W w':=Chg.of_below hb;refine⟨rfl,a9.below hb,a3,?_,hc.mono (λq z=>z.elim)⟩;rw[hD.ti]at a5⊢;exact a5.side hc (λq z=>z.elim) (λz=>z)
 .have hd:=hD.don at_ x hx;have ag:=a1 3 _ (hd.ten 3 _ rfl);have ae:=a1 4 _ (hd.ten 4 _ rfl);have a0:TsA tb Ts W:=by rw[<-hD.ti];exact a5
  rcases hd.leaf ho with⟨a2,t,⟨aC,am⟩,hb,a8,hl2⟩|⟨ac,T,hT,a4,a8,hl2⟩
  .obtain⟨aw,af⟩:=hD.good at_ x hx ho;have af:=af a2;obtain⟨k,hk⟩:∃k,ks[x.a.toNat]?=some k:=qg qo;have ad:=a3 k (mem_of_getElem? hk);obtain⟨ak,al⟩:=hD.cS t _ hb am;have ab:=hb.chg aa ak;have ay:¬(yB i c).row=⟨#[]⟩:=by unfold yB;split<;>exact an
   have a6:StA W G.p (at_*13) x (cntF x.leaf.kind) (xp t) 190 (.agg #[xi (cntR x.leaf.kind),xe]):=⟨ag,ae,a1 11 _ a8,a1 12 _ hl2,qo⟩
   have a7:=yP6 (i:=i) (c:=c) (d:=yB i c) (b:=(yCh x.leaf k c).1) (H:=⟨cntR x.leaf.kind,⟨#[]⟩⟩) (S:=λq=>q=G.g) (R:=λW1 W2=>yFj W2 G.base G.g G.cap (ks.set x.a.toNat (yCh x.leaf k c).2)/\Chg (λq=>q=G.g) W1 W2) hal (xB4 _) yMp a6 rfl (λW1 W2 h=>h.2) (λq hq=>by subst hq;exact⟨qw hD.gl,hD.gp⟩)
    (λW1 hb1=>by
     have az:CkA W1 G.base t G.g G.cap ks x.a.toNat k x.leaf.n:=⟨a9.below hb1,hk,(ab.below hb1).cell (j:=0) rfl,(ab.below hb1).cell (j:=1) rfl,(ab.below hb1).lt.2,al⟩
     refine(xFp a2 az (yB i c) ad ay).mono ?_
     rintro e w' ⟨q1,q2,q3⟩
     rw[yY5]at q1 q2
     exact⟨q1,q2,q3⟩)
    (λW1 _=>yL9 ⟨cntR x.leaf.kind,⟨#[]⟩⟩ (yB i c) W1)
   have av:(⟨cntR x.leaf.kind,⟨#[]⟩⟩:Hn)=yB4 (pfxB x.leaf.s) x.leaf c:=by unfold cntR yB4;rcases a2 with q|q|q<;>simp[q,noH]
   refine a7.mono ?_;rintro e w' ⟨rfl,W1,W2,p1,⟨p2,p3⟩,p4⟩;unfold LfQ;rw[yP7 hal a2 hk,av];have aG:=p1.size;have aF:=p3.size;have aE:=hD.gl;refine⟨rfl,p2.chg p4 (by show¬_<=_;omega),λk' hk'=>?_,?_,?_⟩
   .rcases mem_or_eq_of_mem_set hk' with q|q
    .exact a3 k' q
    .rw[q];exact xE9 ad (by rcases aw.2.2.2 with z|z|z|z|z<;>(unfold cntK at a2;omega))
   .rw[hD.ti];have t1:=a0.side (S:=λ_=>False) (Chg.of_below p1) (λq z=>z.elim) (λz=>z);have t2:=t1.side p3 (λq hq X hX=>by subst hq;exact hD.gT X hX) hD.gv;exact t2.side p4 (λq hq X hX=>.inr (qw (hD.xl X hX))) (by show¬_<=_;have:=a0.tab.lt;omega)
   .refine((Chg.of_below p1).trans (p3.mono (λq hq=>.inl hq))).absorb p4 (λq hq=>.inr hq)
  .have aq:¬cntK x.leaf.kind:=by unfold tstK at ac;unfold cntK;omega
   have aj:=(a0.at_ T hT).1;have aA:=hD.xl T hT;have r1:=aj.r1;have r2:=aj.r2;obtain⟨kh,hv,he,ax,ah⟩:=xFi T (by rw[a4];exact ac);rw[a4]at he ah;rw[he]at hl2;have a6:StA W G.p (at_*13) x 193 (ctvV x.leaf (.pointer T.mp)) kh hv:=⟨ag,ae,a1 11 _ a8,a1 12 _ hl2,qo⟩;have ai:∀W1,LfP W (λW1 W2=>yDm W2 T.lo T.hi T.n (.pointer T.mp)/\Chg (InB T.lo T.hi) W1 W2) W1->TsA tb Ts W1/\Chg (InB T.lo T.hi) W W1:=λW1 h=>by obtain⟨V1,V2,p1,⟨p2,p3⟩,p4⟩:=h;have t1:=a0.side (S:=λ_=>False) (Chg.of_below p1) (λq z=>z.elim) (λz=>z);have t2:=t1.one hT p3 p2;exact⟨t2.side p4 (λq hq X hX=>.inr (qw (hD.xl X hX))) (by show¬_<=_;have:=a0.tab.lt;omega),((Chg.of_below p1).trans p3).absorb p4 (λq hq=>.inr hq)⟩
   have a7:=yP6 (i:=i) (c:=c) (d:=yB i c) (b:=tstB x.leaf (yB i c)) (H:=yB4 (pfxB x.leaf.s) x.leaf c) (S:=InB T.lo T.hi) (R:=λW1 W2=>yDm W2 T.lo T.hi T.n (.pointer T.mp)/\Chg (InB T.lo T.hi) W1 W2) hal yWy ax a6 rfl (λW1 W2 h=>h.2) (λq hq=>⟨qw hq.2,λz=>by have h9:=hD.pT T hT;have:=hq.1;have:=hq.2;omega⟩)
    (λW1 hb1=>by
     have t1:=a0.side (S:=λ_=>False) (Chg.of_below hb1) (λq z=>z.elim) (λz=>z)
     obtain⟨mp,ar,hc⟩:=yWt T.n (yB i c) (.pointer T.mp) W1 T.lo T.hi (t1.at_ T hT).1.tst (qw hb1.size)
     cases ar
     rw[a4]at hc
     refine hc.mono ?_
     rintro e w' ⟨q1,q2⟩
     refine⟨q1,?_,q2.out.2⟩
     rw[a4];exact q2.out.1)
    (λW1 h=>by
     have h9:=ah (yB i c) W1 ((ai W1 h).1.at_ T hT).1
     rw[yZn]at h9
     exact h9)
   refine a7.mono ?_;rintro e w' ⟨rfl,h⟩;obtain⟨t9,c9⟩:=ai w' h;unfold LfQ;rw[yVa hal aq];refine⟨rfl,a9.chg c9 (λq=>?_),a3,by rw[hD.ti];exact t9,c9.mono (λq hq=>.inr ?_)⟩
   .have:=hD.gT T hT;have:=q.1;have:=q.2;omega
   .rw[hD.tq];exact⟨T,hT,hq⟩
variable {p:Prop}
theorem zMkB (h:p:=by
 obtain⟨an,han⟩:∃an:Nat,x.a=(an:Int):=⟨x.a.toNat,qo⟩;obtain⟨bv,hbv⟩:∃bv,L.conds[an]?=some bv:=qg (qw HG.2.2.1);obtain⟨bc,oc,hca,hcc,-,-⟩:=HJ.1.cnd an bv hbv;have hnc:(an:Int)<(L.nC:Int):=qv HG.2.2.1 hC.out
 have HBV:Hid (L.conds[x.a.toNat]?=some bv):=by show _=_;rw[han];simpa using hbv
 rw[han]at y1;rw[ho]at y0;have HCA:=qH1 hca;rw[hca];clear hbv ha0 ha1 hca;have zb:((x.b.toNat:Nat):Int)=x.b:=qo
 cases bv
 .have HR:Hid (LkL L x.b.toNat m ks/\at_<x.b.toNat/\x.b.toNat<=L.N/\1<=m.length/\m.length<=250):=
   HL.2.next HG.2.1 hN.out (qw HL.1) HX.out (by unfold stepL;rw[if_neg qo,if_neg qo,if_neg qo,if_neg qo,if_pos ho,if_pos HBV.out]) (by unfold ways;rw[if_pos ho];simp) (by unfold more;rw[if_neg qo,if_neg qo];omega)
  have hr1:=HR.2.1;have hr2:=HR.2.2.1;go_wp2_with fail;(try rw[<-HCA.out]);exact xCr
 .have HR:Hid (LkL L (at_+1) m ks/\at_<at_+1/\at_+1<=L.N/\1<=m.length/\m.length<=250):=
   HL.2.next HG.2.1 hN.out (qw HL.1) HX.out (by unfold stepL;rw[if_neg qo,if_neg qo,if_neg qo,if_neg qo,if_pos ho,if_neg (by rw[HBV.out];simp)]) (by unfold ways;rw[if_pos ho];simp) (by unfold more;rw[if_neg qo,if_neg qo];omega)
  have hr2:=HR.2.2.1;go_wp2_with fail;(try rw[<-HCA.out]);go_roundw;case rel=>exact⟨at_+1,sn,g,cp,m,ks,hr2,hs1,hs2,rfl,by go_num,HJ.1,HL.1,HR.1⟩
  case measure=>simp[intOf];omega):p:=h
theorem zMkJ (h:p:=by
 have zb:((x.b.toNat:Nat):Int)=x.b:=qo
 have HR:Hid (LkL L x.b.toNat m ks/\at_<x.b.toNat/\x.b.toNat<=L.N/\1<=m.length/\m.length<=250):=
  HL.2.next HG.2.1 hN.out (qw HL.1) HX.out (by unfold stepL;rw[if_neg qo,if_neg qo,if_neg qo,if_neg qo,if_neg qo,if_pos ho]) (by unfold ways;rw[if_neg qo,if_pos ho];simp) (by unfold more;rw[if_neg qo,if_neg qo];omega)
 rw[ho]at y0;have hr1:=HR.2.1;have hr2:=HR.2.2.1;go_wp2_with fail;exact xCr):p:=h
theorem zMkD (h:p:=by
 obtain⟨i,hi⟩:∃i,m[tn]?=some i:=qg (qw HL.1);rw[ho]at y0;have t0:=HJ.1.stk.cell yAd hi 0 qo;have t1:=HJ.1.stk.cell yAd hi 1 qo;have t2:=HJ.1.stk.cell yAd hi 2 qo;have t3:=HJ.1.stk.cell yAd hi 3 qo;simp only[getElem?_cons_zero,getElem?_cons_succ,Nat.add_zero]at t0 t1 t2 t3;obtain⟨W3,hW3⟩:=qW (xw wr #[i.alive,i.strip,xi i.hint.rank,i.hint.txt] 181);have HW3:Hid (MkM G L v0 m g cp ks W3/\(∀j u,i.four[j]?=some u->(xk W3 wr j u:Prop))):=by
  have hb3:=qN hW3
  exact⟨HJ.1.on HS.out hb3,by rw[hW3];exact yBm wr i.four _⟩
 have HI:=qH1 hi;have hgl:=HW3.1.stk.lt;have z3:=qS hW3
 clear hi;go_wp2_with (at_builtin;(try rw[<-hW3]);refine yDb yAd _ rfl _ _ 228 rfl underlying228 Tryz.infoIti rfl qj qj yG2 G.w0 g cp (tn+1) wr 1 m i rfl rfl HL.1 HW3.1.stk HW3.2 ?hl ?hb ?_);case hl=>rw[<-HL.1];omega
 case hb=>have:=(HW3.1.all HS.out).size;exact this
 intro g' cp' w' hO' hgr hat';have hgr2:W3.grownBy w' (some g):=by first|exact hgr|(rw[hW3];exact hgr)
 have HR:Hid (LkL L (at_+1) (m++ [i]) ks/\at_<at_+1/\at_+1<=L.N/\1<=(m++ [i]).length/\(m++ [i]).length<=250):=
  HL.2.next HG.2.1 hN.out (qw HL.1) HX.out (by unfold stepL;rw[if_neg qo,if_pos ho,reverse_append,yDr HL.1 HI.out];rfl) (by unfold ways;rw[if_neg qo,if_neg qo];simp) (by unfold more;rw[if_pos ho];simp)
 have HR2:Hid (MkM G L v0 (m++ [i]) g' cp' ks w'/\tn+1+1=(m++ [i]).length):=
  ⟨HW3.1.grow HS.out hO' (by have:=HW3.1.res.lt;rcases hat' with q|q<;>omega) (Chg.of_grown hgr2 (λk hk=>by cases hk;rfl)),by rw[length_append,<-HL.1];rfl⟩
 have hr2:=HR.2.2.1;have hr3:tn+1+1<=250:=qv HR.2.2.2.2 HR2.2
 clear hO' hgr hgr2 hat' hW3;refine zY ?_;exact⟨at_+1,tn+1+1,g',cp',m++ [i],ks,hr2,qo,hr3,rfl,by go_num,HR2.1,HR2.2,HR.1⟩):p:=h
theorem zMkL (h:p:=by
 obtain⟨tn,rfl⟩:∃tn,sn=tn+1:=⟨sn-1,qo⟩;obtain⟨i,hi⟩:∃i,m[tn]?=some i:=qg (qw HL.1);rw[ho]at y0;have HI:=qH1 hi;have HSS:Hid (∀(X:World) (ks:List Ctr),MkM G L v0 m g cp ks X->(λw':World=>xk w' g (tn*4) i.alive/\xk w' g (tn*4+1) i.strip/\xk w' g (tn*4+2) (xi i.hint.rank)/\xk w' g (tn*4+3) i.hint.txt/\xk w' L.w 0 L.c.row/\xk w' L.w 1 L.c.fam/\xk w' L.w 2 L.c.qual/\xk w' L.w 3 (xu L.c.ts)/\xk w' L.w 4 L.c.val) X):=λX ks h1=>
  ⟨h1.stk.cell yAd hi 0 qo,h1.stk.cell yAd hi 1 qo,h1.stk.cell yAd hi 2 qo,h1.stk.cell yAd hi 3 qo,h1.cel.cell (j:=0) rfl,h1.cel.cell (j:=1) rfl,h1.cel.cell (j:=2) rfl,h1.cel.cell (j:=3) rfl,h1.cel.cell (j:=4) rfl⟩
 have HD:=qH1 (HJ.1.on HS.out ((Below.refl _ _).drew));have hS0:=HSS.out wr.drew ks HD.out
 have HLf:Hid (Calls prog 156 #[.pointer (some ⟨G.p,at_*13,none⟩),.agg #[i.alive,i.strip,xi i.hint.rank,i.hint.txt],.agg #[L.c.row,L.c.fam,L.c.qual,xu L.c.ts,L.c.val]] wr.drew (LfQ G x L.c i ks wr.drew)):=
  HS.ok.leaf at_ x i L.c ks wr.drew HX.out ho (HD.all HS.out) HD.ti HD.ctr HD.len HD.cb HRow.out
 obtain⟨iz,hiz⟩:=qE ((leafI pfxB x L.c i ks).1);obtain⟨kz,hkz⟩:=qE ((leafI pfxB x L.c i ks).2);have HIZ:=qH2 hiz hkz
 have HR:Hid (LkL L (at_+1) (m.set tn iz) kz/\at_<at_+1/\at_+1<=L.N/\1<=(m.set tn iz).length/\(m.set tn iz).length<=250):=
  HL.2.next HG.2.1 hN.out (qw HL.1) HX.out (by
   rw[yFm ho (yDr HL.1 HI.out),yNe HL.1,hiz,hkz]) (by unfold ways;rw[if_neg qo,if_neg qo];simp) (by unfold more;rw[if_neg qo,if_neg qo,length_set];omega)
 have hr2:=HR.2.2.1;have hgl:=HJ.1.stk.lt.2;have zt:(tn:Int)<(tn:Int)+1:=qo
 clear hi hiz hkz;go_upto_region 9 with fail;refine yCq [10] (λw':World=>xk w' g (tn*4) i.alive/\xk w' g (tn*4+1) i.strip/\xk w' g (tn*4+2) (xi i.hint.rank)/\xk w' g (tn*4+3) i.hint.txt/\xk w' L.w 0 L.c.row/\xk w' L.w 1 L.c.fam/\xk w' L.w 2 L.c.qual/\xk w' L.w 3 (xu L.c.ts)/\xk w' L.w 4 L.c.val) qk ?_;refine txa 0 hS0 ?_;iterate 7 refine txb hS0 ?_
 refine yA3 (i:=8) qk rfl (λK hK=>?_);go_simp;refine HLf.mono ?_;rintro e w4 ⟨rfl,H4⟩;rw[<-HIZ.1];have HW4:Hid (MkM G L v0 m g cp kz w4):=by obtain⟨k1,k2,k3,k4⟩:=H4.out;rw[<-HIZ.2]at k1 k2;exact HD.leaf HS.out k1 (by rw[HIZ.2];exact yZe _ _ _ _ _) k2 k3 k4
 have hS4:=HSS.out w4 kz HW4.out;clear H4 HLf HD hS0;refine hK.out _ _ (.inr hS4) ?_;clear hK;refine jS ?_;refine txb hS4 ?_;obtain⟨d0,d1,d2,d3,-,-,-,-,-⟩:=hS4;have fz:∀k,w4.frozen? (xd g k)=false:=λk=>World.ownsRow.frozenAt HW4.stk k;have g0:=fz (tn*4);have g1:=fz (tn*4+1);have g2:=fz (tn*4+2);have g3:=fz (tn*4+3);obtain⟨W5,hW5⟩:=qW (setCs w4 g (tn*4) iz.four);have HW5:Hid (MkM G L v0 (m.set tn iz) g cp kz W5/\tn+1=(m.set tn iz).length):=by have hm:=HL.1;exact⟨HW4.grow HS.out (by rw[hW5];exact HW4.stk.setAll yAd (i:=tn) (e:=iz) qo) (.inl rfl) (by rw[hW5];exact yAl (S:=λk=>k=g) g rfl _ _ _),by rw[length_set];exact hm⟩
 simp only[setCs]at hW5;clear fz;refine yA3 (i:=10) qk rfl (λK hK=>?_);go_simp;rw[<-hW5];refine hK.out _ _ (.inl qj) ?_;clear hK hW5 d0 d1 d2 d3 g0 g1 g2 g3;refine jS ?_;refine yD6 qk ?_;refine zY ?_;exact⟨at_+1,tn+1,g,cp,m.set tn iz,kz,hr2,hs1,hs2,rfl,by go_num,HW5.1,HW5.2,HR.1⟩):p:=h
theorem zMkS (h:p:=by
 obtain⟨un,rfl⟩:∃un,tn=un+1:=⟨tn-1,by rw[ho]at hle;unfold least at hle;rw[if_pos qo]at hle;omega⟩;obtain⟨i,hi⟩:∃i,m[un+1]?=some i:=qg (qw HL.1);obtain⟨j,hj⟩:∃j,m[un]?=some j:=qg (qw HL.1);rw[ho]at y0;have HI:=qH2 hi hj;have HD:=qH1 (HJ.1.on HS.out ((Below.refl _ _).drew));have hS0:(λw':World=>xk w' g ((un+1)*4) i.alive/\xk w' g ((un+1)*4+1) i.strip/\xk w' g ((un+1)*4+2) (xi i.hint.rank)/\xk w' g ((un+1)*4+3) i.hint.txt/\xk w' g (un*4) j.alive/\xk w' g (un*4+1) j.strip/\xk w' g (un*4+2) (xi j.hint.rank)/\xk w' g (un*4+3) j.hint.txt) wr.drew:=⟨HD.stk.cell yAd hi 0 qo,HD.stk.cell yAd hi 1 qo,HD.stk.cell yAd hi 2 qo,HD.stk.cell yAd hi 3 qo,HD.stk.cell yAd hj 0 qo,HD.stk.cell yAd hj 1 qo,HD.stk.cell yAd hj 2 qo,HD.stk.cell yAd hj 3 qo⟩;have hgl:=HJ.1.stk.lt.2;have z0:(0:Int)<=(un:Int)+1:=qo
 have z1:(un:Int)<(un:Int)+1:=qo
 have z2:(un:Int)<(un:Int)+1+1:=qo
 have hwu:IntKind.i64.wrap ((un:Nat):Int)=(un:Int):=by rw[IntKind.wrap_i64];omega
 have hnn:0<=(un:Int):=qo
 clear hi hj;go_upto_region 13 with fail;refine yCq [3,4,15,16,17] (λw':World=>xk w' g ((un+1)*4) i.alive/\xk w' g ((un+1)*4+1) i.strip/\xk w' g ((un+1)*4+2) (xi i.hint.rank)/\xk w' g ((un+1)*4+3) i.hint.txt/\xk w' g (un*4) j.alive/\xk w' g (un*4+1) j.strip/\xk w' g (un*4+2) (xi j.hint.rank)/\xk w' g (un*4+3) j.hint.txt) qk ?_;generalize wr.drew=WD at HD hS0⊢;refine txna 3 (.inl qj) (λ_ _ _=>qj) ?_;refine txna 4 (.inl qj) (λ_ _ _=>qj) ?_;refine txa 0 hS0 ?_;iterate 2 refine txb hS0 ?_
 refine txa 5 hS0 ?_;iterate 9 refine txb hS0 ?_
 obtain⟨t0,t1,t2,t3,s0,s1,s2,s3⟩:=hS0;have fz:∀k,WD.frozen? (xd g k)=false:=λk=>World.ownsRow.frozenAt HD.stk k;have e0:=fz (un*4);have e1:=fz (un*4+1);have e2:=fz (un*4+2);have e3:=fz (un*4+3);obtain⟨W6,hW6⟩:=qW (setCs WD g (un*4) i.four);have HW6:Hid (xCd W6 G.w0 g cp (m.set un i)/\Chg (λk=>k=g) WD W6):=by have hm:=HL.1;exact⟨by rw[hW6];exact HD.stk.setAll yAd (i:=un) (e:=i) qo,by rw[hW6];exact yAl (S:=λk=>k=g) g rfl _ _ _⟩
 simp only[setCs]at hW6;refine yA3 (i:=15) qk rfl (λK hK=>?_);go_simp;rw[<-hW6];refine hK.out _ _ (.inl qj) ?_;clear hK hW6 fz t0 t1 t2 t3 s0 s1 s2 s3 e0 e1 e2 e3;refine jS ?_;refine yA3 (i:=16) qk rfl (λK hK=>?_);go_simp;refine hK.out _ _ (.inl qj) ?_;clear hK;refine jS ?_;have hi6:(m.set un i)[un+1]?=some i:=by rw[getElem?_set_ne qo];exact HI.1
 have t0:=HW6.1.cell yAd hi6 0 qo;have t1:=HW6.1.cell yAd hi6 1 qo;have t2:=HW6.1.cell yAd hi6 2 qo;have t3:=HW6.1.cell yAd hi6 3 qo;simp only[getElem?_cons_zero,getElem?_cons_succ,Nat.add_zero]at t0 t1 t2 t3;have fz:∀k,W6.frozen? (xd g k)=false:=λk=>World.ownsRow.frozenAt HW6.1 k;have f0:=fz ((un+1)*4);have f1:=fz ((un+1)*4+1);have f2:=fz ((un+1)*4+2);have f3:=fz ((un+1)*4+3);obtain⟨W9,hW9⟩:=qW (setCs W6 g ((un+1)*4) j.four);have HR2:Hid (MkM G L v0 (m.take un++ [i,j]) g cp ks W9/\un+1+1=(m.take un++ [i,j]).length):=by have hm:=HL.1;have o1:=HW6.1.setAll yAd (i:=un+1) (e:=j) (by rw[length_set];omega);rw[set_comm _ _ qo,yPb HL.1 HI.1 HI.2,<-hW9]at o1;exact⟨HD.grow HS.out o1 (.inl rfl) (HW6.2.trans (by rw[hW9];exact yAl (S:=λk=>k=g) g rfl _ _ _)),by rw[length_append,length_take];simp;omega⟩
 have HR:Hid (LkL L (at_+1) (m.take un++ [i,j]) ks/\at_<at_+1/\at_+1<=L.N/\1<=(m.take un++ [i,j]).length/\(m.take un++ [i,j]).length<=250):=
  HL.2.next HG.2.1 hN.out (qw HL.1) HX.out (by unfold stepL;rw[if_neg qo,if_neg qo,if_pos ho];rw[yNm HL.1 HI.1 HI.2,reverse_append];rfl) (by unfold ways;rw[if_neg qo,if_neg qo];simp) (by unfold more;rw[if_neg qo,if_neg qo,<-HR2.2,<-HL.1];omega)
 have hr2:=HR.2.2.1;simp only[setCs]at hW9;refine yA3 (i:=17) qk rfl (λK hK=>?_);go_simp;rw[<-hW9];refine hK.out _ _ (.inl qj) ?_;clear hK hW9 fz hi6 t0 t1 t2 t3 f0 f1 f2 f3;refine jS ?_;refine yD6 qk ?_;refine zY ?_;exact⟨at_+1,un+1+1,g,cp,m.take un++ [i,j],ks,hr2,qo,hs2,rfl,by go_num,HR2.1,HR2.2,HR.1⟩):p:=h
theorem zMkI (h:p:=by
 obtain⟨un,rfl⟩:∃un,tn=un+1:=⟨tn-1,by rw[ho]at hle;unfold least at hle;rw[if_pos qo]at hle;omega⟩;obtain⟨i,hi⟩:∃i,m[un+1]?=some i:=qg (qw HL.1);obtain⟨j,hj⟩:∃j,m[un]?=some j:=qg (qw HL.1);rw[ho]at y0;have HI:=qH2 hi hj;have HSS:Hid (∀X:World,MkM G L v0 m g cp ks X->(λw':World=>xk w' g ((un+1)*4) i.alive/\xk w' g ((un+1)*4+1) i.strip/\xk w' g ((un+1)*4+2) (xi i.hint.rank)/\xk w' g ((un+1)*4+3) i.hint.txt/\xk w' g (un*4) j.alive/\xk w' g (un*4+1) j.strip/\xk w' g (un*4+2) (xi j.hint.rank)/\xk w' g (un*4+3) j.hint.txt) X):=λX h=>⟨h.stk.cell yAd hi 0 qo,h.stk.cell yAd hi 1 qo,h.stk.cell yAd hi 2 qo,h.stk.cell yAd hi 3 qo,h.stk.cell yAd hj 0 qo,h.stk.cell yAd hj 1 qo,h.stk.cell yAd hj 2 qo,h.stk.cell yAd hj 3 qo⟩;have HD:=qH1 (HJ.1.on HS.out ((Below.refl _ _).drew));have hS0:=HSS.out _ HD.out;have hgl:=HJ.1.stk.lt.2;have z0:(0:Int)<=(un:Int)+1:=qo
 have z1:(un:Int)<(un:Int)+1:=qo
 have z2:(un:Int)<(un:Int)+1+1:=qo
 have hcap:=HJ.1.stk.caps;rw[<-HL.1]at hcap;have hwu:IntKind.i64.wrap ((un:Nat):Int)=(un:Int):=by rw[IntKind.wrap_i64];omega
 have hcu:(un:Int)<=(cp:Int):=qo
 have hnn:0<=(un:Int):=qo
 have HUN:Hid (un<=m.length):=by have:=HL.1;show un<=_;omega
 obtain⟨it,hit⟩:=qE (yTh j i);have HJn:Hid (∀X:World,(xf 157 #[.agg #[j.alive,j.strip,xi j.hint.rank,j.hint.txt],.agg #[i.alive,i.strip,xi i.hint.rank,i.hint.txt]] X it.v:Prop)):=λX=>by rw[hit];exact yTg j i X
 have HIT:=qH1 hit;clear hi hj hit;go_upto_region 15 with fail;refine yCq [15,16] (λw':World=>xk w' g ((un+1)*4) i.alive/\xk w' g ((un+1)*4+1) i.strip/\xk w' g ((un+1)*4+2) (xi i.hint.rank)/\xk w' g ((un+1)*4+3) i.hint.txt/\xk w' g (un*4) j.alive/\xk w' g (un*4+1) j.strip/\xk w' g (un*4+2) (xi j.hint.rank)/\xk w' g (un*4+3) j.hint.txt) qk ?_;refine txa 0 hS0 ?_;iterate 12 refine txb hS0 ?_
 refine yA3 (i:=13) qk rfl (λK hK=>?_);go_simp;refine(HJn.out _).mono ?_;rintro e w4 ⟨rfl,hb4⟩;have HW4:=qH1 (HD.on HS.out hb4);have hS4:=HSS.out _ HW4.out;clear hb4 hS0;refine hK.out _ _ (.inr hS4) ?_;clear hK;refine jS ?_;obtain⟨W5,hW5⟩:=qW (xw w4 #[it.alive,it.strip,xi it.hint.rank,it.hint.txt] 181);have HW5:Hid (MkM G L v0 m g cp ks W5/\(∀j u,it.four[j]?=some u->(xk W5 w4 j u:Prop))):=by
  have k5:=qN hW5
  exact⟨HW4.on HS.out k5,by rw[hW5];exact yBm w4 it.four _⟩
 have hS5:=HSS.out _ HW5.1;refine yA3 (i:=14) qk rfl (λK hK=>?_);go_simp;rw[<-hW5];refine hK.out _ _ (.inr hS5) ?_;clear hK hW5 hS4;refine jS ?_;refine yA3 (i:=15) qk rfl (λK hK=>?_);refine yE yAd W5 rfl _ _ 228 rfl underlying228 Tryz.infoIti rfl qj qj yG2 G.w0 g cp un w4 1 (m.take un) it rfl rfl (by rw[length_take,Nat.min_eq_left HUN.out]) (HW5.1.stk.take yAd HUN.out) HW5.2 (by rw[length_take];omega) (by have:=(HW5.1.all HS.out).size;exact this) ?_;intro g' cp' w' hO' hgr hat';have hlen:(m.take un++ [it]).length=un+1:=by rw[length_append,length_take,Nat.min_eq_left HUN.out];rfl
 have HR:Hid (LkL L (at_+1) (m.take un++ [it]) ks/\at_<at_+1/\at_+1<=L.N/\1<=(m.take un++ [it]).length/\(m.take un++ [it]).length<=250):=
  HL.2.next HG.2.1 hN.out (qw HL.1) HX.out (by unfold stepL;rw[if_neg qo,if_neg qo,if_neg qo,if_pos ho,yNm HL.1 HI.1 HI.2,reverse_append,HIT.out];rfl) (by unfold ways;rw[if_neg qo,if_neg qo];simp) (by unfold more;rw[if_neg qo,if_pos ho,hlen,<-HL.1];omega)
 have HR2:Hid (MkM G L v0 (m.take un++ [it]) g' cp' ks w'/\un+1=(m.take un++ [it]).length):=
  ⟨HW5.1.grow HS.out hO' (by have:=HW5.1.res.lt;rcases hat' with q|q<;>omega) (Chg.of_grown hgr (λk hk=>by cases hk;rfl)),hlen.symm⟩
 have hr2:=HR.2.2.1;clear hO' hgr hat' hlen hS5;refine hK.out _ _ (.inl qj) ?_;clear hK;refine jS ?_;refine yA3 (i:=16) qk rfl (λK hK=>?_);go_simp;refine hK.out _ _ (.inl qj) ?_;clear hK;refine jS ?_;refine yD6 qk ?_;refine zY ?_;exact⟨at_+1,un+1,g',cp',m.take un++ [it],ks,hr2,qo,qo,rfl,by go_num,HR2.1,HR2.2,HR.1⟩):p:=h
theorem zMkZ (h:p:=by
 have t0:=HM.stk.cell yAd (i:=0) (e:=i) rfl 0 qo;have t1:=HM.stk.cell yAd (i:=0) (e:=i) rfl 1 qo;have t2:=HM.stk.cell yAd (i:=0) (e:=i) rfl 2 qo;have t3:=HM.stk.cell yAd (i:=0) (e:=i) rfl 3 qo;simp only[getElem?_cons_zero,getElem?_cons_succ,Nat.zero_mul,Nat.zero_add]at t0 t1 t2 t3;have m2:=HM.box.cell (j:=2) rfl;have e2:=HM.box.frozen 2;have hgm:¬g=G.mb:=qv HM.stk.lt HS.ok.ml
 have hrm:¬L.w.heap.size+1=G.mb:=qo
 have hgr:¬g=L.w.heap.size+1:=qw HM.gsn
 obtain⟨W8,hW8⟩:=qW (xt wr G.mb 2 (xg g 1 cp));have HW8:Hid (yA W8 G.base 230 3 G.mb [xg G.p L.N L.N,xg G.g G.nk G.cap,xg g 1 cp]/\Chg (λq=>q=G.mb) wr W8):=by rw[hW8];exact⟨HM.box.set 2 _,Chg.of_set _ _ _ _ rfl⟩
 have hr8:=HM.res.chg HW8.2 hrm;obtain⟨v1,v2,v3,v4⟩:=hr8.c4;obtain⟨f0,f1,f2,f3⟩:=hr8.f4;have hs8:=HM.stk.chg HW8.2 hgm;obtain⟨u0,u1,u2,u3⟩:=And.intro (hs8.cell yAd (i:=0) (e:=i) rfl 0 qo) (And.intro (hs8.cell yAd (i:=0) (e:=i) rfl 1 qo) (And.intro (hs8.cell yAd (i:=0) (e:=i) rfl 2 qo) (hs8.cell yAd (i:=0) (e:=i) rfl 3 qo)));simp only[getElem?_cons_zero,getElem?_cons_succ,Nat.zero_mul,Nat.zero_add]at u0 u1 u2 u3;obtain⟨W9,hW9⟩:=qW (setCs W8 (L.w+1) 0 i.four);obtain⟨b9,c9⟩:=yEo hr8 hW9;have HR:Hid (LooP G L v0 (.returned i.v) W9):=by
  have ok:=HS.ok;have hw:=HS.chg.size;have h8:=HW8.out;have h9:=ok.ml;have h7:=ok.gl;have hgl:=HM.stk.lt;refine⟨i,ks,xg g 1 cp,HLR.out,rfl,⟨?_,?_,?_,HM.len,HM.cb,h8.1.chg c9 (λq=>hrm q.symm),⟨[i],?_⟩⟩,?_,?_⟩
  .exact((HM.all HS.out).trans (h8.2.mono (λq z=>by subst z;exact ok.mS))).absorb c9 (λq z=>.inr qo)
  .exact ok.ti (λq=>q=L.w.heap.size+1) W8 W9 (ok.ti (λq=>q=G.mb) wr W8 HM.ti h8.2 (λq z=>.inr (.inl z))) c9 (λq z=>.inr (.inr qo))
  .exact(HM.ctr.chg h8.2 (λq=>ok.gm q)).chg c9 qo
  .exact hs8.chg c9 hgr
  .exact((HM.chg.mono (λq z=>z.elim .inl (λz=>.inr (.inr z)))).trans (h8.2.mono (λq z=>.inr (.inl z)))).absorb c9 (λq z=>.inr qo)
  .rcases HM.gsn with q|q
   .exact .inr ⟨g,rfl,qo⟩
   .exact .inl (by rw[q.1];rfl)
 obtain⟨q0,q1,q2,q3⟩:=b9.c4;simp only[setCs,Nat.zero_add,Nat.reduceAdd]at hW9;clear b9 c9 hr8 hs8;go_upto_region 22 with fail;rw[<-hW8];clear hW8 t0 t1 t2 t3 m2 e2;go_wp2;rw[<-hW9];exact bodyPost_ret (v:=i.v) (by simp[results,results104,go_sem,q0,q1,q2,q3]) rfl (by have h9:=HR.out;rw[HV0.out]at h9;exact h9)):p:=h
theorem yP2 (G:MchG) (L:LkG) (v0:Value) (nc:Nat) (hB:yBe L.l L.cnt nc) (hD:yUc L.l L.d) (hnc:nc<=L.conds.length) (cc:Nat) (hN:Hid (L.N=L.l.length)) (hC:Hid (L.nC=L.conds.length)) (hK:(G.nk:Int)=L.cnt)
  (hS:MaOk G L.l) (hI:McI G L.N L.cs0 v0 L.w) (hrow:¬L.c.row=⟨#[]⟩)
  (hcd:∀(i:Nat) (b:Bool),L.conds[i]?=some b->∃bc oc,L.ca=some ⟨bc,oc,none⟩/\xk L.w bc (oc+i) b/\bc<L.w.heap.size/\¬bc=G.g/\¬G.T bc/\¬v0.ownBlock=some bc):
  Calls prog 104 #[xp G.mb,L.c.c,.slice L.ca L.nC cc] L.w (LooP G L v0):=by
 obtain⟨m0,a4⟩:=hI.stk;obtain⟨a0,n0,c0,a2⟩:∃a n c,v0=.slice a n c:=by
  rcases a4.cases with⟨q,_⟩|⟨g,cp,q,_⟩
  .exact⟨_,_,_,q⟩
  .exact⟨_,_,_,q⟩
 subst a2;have ai:L.N<=4000:=qv hB.2.1 hN.out
 have HG:=qH4 hB hD hnc hK;have HRow:=qH1 hrow;have HS:Hid (MaS G L (.slice a0 n0 c0)):=by
  refine⟨hS,hI.chg,λk hk=>?_⟩;rcases a4.cases with⟨q,_⟩|⟨g,cp,q,hO⟩
  .rw[q]at hk;simp[Value.ownBlock]at hk
  .rw[q]at hk;simp[Value.ownBlock]at hk;subst hk;exact hO.lt
 have a5:RowS L.w G.w0 (.slice a0 0 c0) []:=by
  rcases a4.cases with⟨q,_⟩|⟨g,cp,q,hO⟩
  .cases q;exact⟨rfl,.inl ⟨rfl,rfl⟩⟩
  .cases q;exact hO.take yAd (zero_le _)
 have c2:=hI.box.cell (j:=2) rfl;have ag:=hI.box.lt.2;obtain⟨W1,a1⟩:=qW (xw ((L.w.alloc (Obj.cells #[L.c.row,L.c.fam,L.c.qual,xu L.c.ts,L.c.val] 70)).alloc (Obj.cells #[false,false,xi 0,xe] 181)) #[true,false,xi 0,xe] 181);have H1:Hid (yA W1 L.w 70 5 L.w L.c.five/\yA W1 L.w 181 4 (L.w+1) (yBl noH).four/\Below L.w L.w W1/\(∀j u,newI.four[j]?=some u->(xk W1 (L.w+1+1) j u:Prop))/\RowS W1 G.w0 (.slice a0 0 c0) []/\W1.heap.size=L.w.heap.size+1+1+1):=by
  obtain⟨X,hX⟩:=qW (xw L.w #[L.c.row,L.c.fam,L.c.qual,xu L.c.ts,L.c.val] 70);rw[<-hX]at a1;obtain⟨Y,hY⟩:=qW (xw X #[false,false,xi 0,xe] 181);rw[<-hY]at a1;have zx:=qS hX
  have zy:Y.heap.size=L.w.heap.size+1+1:=by rw[hY];simp;omega
  have k1:=qN hX
  have k2:=qN hY
  have k3:=qN a1
  have k9:=(k1.trans (k2.mono qo)).trans (k3.mono qo);have b1:yA X L.w 70 5 L.w L.c.five:=by rw[hX];exact yAa L.w _ qr rfl
  have b2:yA Y L.w 181 4 (L.w+1) (yBl noH).four:=by rw[hY,<-zx];exact yAa X _ qo rfl
  exact⟨(b1.below k2).below k3,b2.below k3,k9,by rw[a1,<-zy];exact yBm Y newI.four _,yAh a5 (S:=λ_=>False) (Chg.of_below k9) (λ_ _ q=>q),by rw[a1];simp;omega⟩
 have HI:=qH1 hI;have a9:=qH1 hcd;clear hB hD hnc hK hS hI hrow hcd a5 a4;go_enter func104,ntmps104;go_wp2_with (at_builtin;(try rw[<-a1]);refine yIn yAd _ rfl _ _ 228 rfl underlying228 Tryz.infoIti rfl qj qj yG2 G.w0 (.slice a0 0 c0) (L.w+1+1) 1 [] newI rfl rfl H1.2.2.2.2.1 H1.2.2.2.1 (zero_le _) ?hb ?_);case hb=>have:=HI.chg.size;have:=H1.2.2.2.2.2;omega
 intro g' cp' w' hO' hgr hat';have hgr2:W1.grownBy w' (Value.slice a0 0 c0).ownBlock:=by first|exact hgr|(rw[a1];exact hgr)
 have HM:Hid (MkM G L (.slice a0 n0 c0) [newI] g' cp' L.cs0 w'):=by
  obtain⟨b1,b2,k9,_,_,hz⟩:=H1.out;have aa:(Value.slice a0 0 c0).ownBlock=(Value.slice a0 n0 c0).ownBlock:=by cases a0<;>rfl
  rw[aa]at hgr2 hat';have hv:=HS.v0;have hc:=Chg.of_grown hgr2 (λk hk=>hk);have a3:=(Chg.of_below k9).trans hc;have hi:=HI.out;have ok:=HS.ok;have hw:=HS.chg.size;refine⟨b1.chg hc (λq=>qw (hv _ q)),b2.chg hc (λq=>qw (hv _ q)),hO',?_,?_,?_,hi.len,hi.cb,?_,?_,a3.mono (λk q=>.inr (.inr q))⟩
  .rcases hat' with q|q
   .exact .inr ⟨q,(hv _ q).2⟩
   .exact .inl (by first|omega|(rw[<-a1]at q;omega))
  .exact ok.ti _ L.w w' hi.ti a3 (λq z=>.inr (.inr (hv _ z).1))
  .exact hi.ctr.chg a3 (λq=>qv (hv _ q) ok.gl)
  .exact hi.box.chg a3 (λq=>qv (hv _ q) ok.ml)
  .intro i b ac;obtain⟨bc,oc,h1,h2,h3,h4,h5,h6⟩:=a9.out i b ac;exact⟨bc,oc,h1,(a3.cell (p:=(xd bc (oc+i))) h3 h6).trans h2,h3,h4,h5,h6⟩
 obtain⟨v0,a2⟩:=qE (.slice a0 n0 c0:Value);rw[<-a2]at HS HM⊢;have HV0:=qH1 a2;clear hO' hgr hgr2 hat' a1 H1 HI a9 c2 a2;go_wp2;go_loopw[7,8] (λsv kv wr=>∃(at_ sn g cp:Nat) (m:List It) (ks:List Ctr),at_<=L.N/\1<=sn/\sn<=250/\sv=(xg g sn cp)/\kv=(xi at_)/\Hid (MkM G L v0 m g cp ks wr/\sn=m.length/\LkL L at_ m ks)) (λ_ kv _=>L.N-(intOf kv).toNat);case atStart=>exact⟨0,1,g',cp',[newI],L.cs0,zero_le _,Nat.le_refl _,qo,rfl,rfl,HM.out,rfl,HG.2.1.start.symm,zero_le _,λr h=>h⟩
 case round=>
  clear HM;obtain⟨at_,sn,g,cp,m,ks,af,hs1,hs2,rfl,rfl,HJ⟩:=hrel;have ak:=HJ.1.box.cell (j:=0) rfl;by_cases hlt:at_<L.N
  .obtain⟨x,hx⟩:∃x,L.l[at_]?=some x:=qg (qw hN.out);obtain⟨y0,y1,y2⟩:=HJ.1.step HS.out hx;have HX:=qH1 hx;clear hx;have z:(at_:Int)<(L.N:Int):=qo
   have HL:=qH1 HJ.2;have a8:=yC3 HG.1 HX.out;have hle:=HL.2.least HG.2.1 (qw HL.1) HX.out;rw[<-HL.1]at hle;rw[<-hN.out]at a8;rcases a8 with⟨ho,ah,ae,aj⟩|⟨ho,a6,ha0,ha1,ab,ad⟩|⟨ho,a6,ha0,ab,ad⟩|⟨ho,a6,ha0,ae⟩
   .as_aux_lemma=>exact zMkL
   .as_aux_lemma=>exact zMkB
   .as_aux_lemma=>exact zMkJ
   .obtain⟨tn,rfl⟩:∃tn,sn=tn+1:=⟨sn-1,qo⟩;rcases ho with ho|ho|ho
    .as_aux_lemma=>exact zMkD
    .as_aux_lemma=>exact zMkS
    .as_aux_lemma=>exact zMkI
  .have z:¬(at_:Int)<(L.N:Int):=qo
   have a7:m.length=1:=by
    have h1:=HJ.2.2.1;have h2:at_=L.l.length:=qw hN.out
    rw[h2,HG.2.1.last]at h1;exact h1
   obtain⟨i,rfl⟩:∃i,m= [i]:=List.length_eq_one_iff.1 a7;obtain rfl:sn=1:=HJ.2.1;have HLR:=qH1 (HJ.2.2.2.2 _ (.fin (by have:=hN.out;show¬at_<_;omega) rfl));have HM:=qH1 HJ.1;clear HJ a7 af hlt;as_aux_lemma=>exact zMkZ
section
def TqB (Ts:List Tt) (q:Nat):Prop:=∃X∈Ts,X.lo<=q/\q<X.hi
def PrgB (Ts:List Tt) (ds:List Md) (q:Nat):Prop:=TqB Ts q∨∃d∈ds,q=d.g∨q=d.mb
def PrgX (tb:Nat) (Ts:List Tt) (ds:List Md) (q:Nat):Prop:=PrgB Ts ds q∨q<tb
def yN2 (W0:World) (tb:Nat) (Ts:List Tt) (ds:List Md) (d:Md):MchG:=⟨W0,TqB Ts,PrgX tb Ts ds,TsA tb Ts,d.p,d.lo,d.g,d.nk,d.nk,d.mb⟩
section
variable {tb B NM:Nat} {Ts:List Tt} {ds:List Md} {W0:World} {d:Md}
theorem MdA.off (h:MdA d Ts W):(∀X∈Ts,d.p<X.lo∨X.t<d.p)/\(∀X∈Ts,d.g<X.lo∨X.t<d.g)/\(∀X∈Ts,d.mb<X.lo∨X.t<d.mb):=by have ho:=h.ord;exact⟨λX hX=>by rcases h.new X hX with q|q<;>omega,λX hX=>by rcases h.new X hX with q|q<;>omega,λX hX=>by rcases h.new X hX with q|q<;>omega⟩
variable {q:Nat}
theorem MdsA.noT (h:MdsA tb B NM Ts ds W0) (hq:∀X∈Ts,q<X.lo∨X.t<q):¬TqB Ts q:=fun⟨X,hX,z1,z2⟩=>by
 have:=(h.ts.at_ X hX).1.r2
 rcases hq X hX with z|z<;>omega
theorem xHw (h:MdsA tb B NM Ts ds W0) (hd:d∈ds) (hg:∀(k:Nat) (x:Ix),d.l[k]?=some x->x.op=1->yCb x.leaf/\(cntK x.leaf.kind->0<=x.a/\x.a<(d.nk:Int))):MaD (yN2 W0 tb Ts ds d) d.l tb d.lo d.N Ts d.L:=by
 have hm:=(h.md d hd).1;have a4:=(h.md d hd).2;have a1:=hm.ord;obtain⟨o1,o2,o3⟩:=hm.off;have a3:=h.ts.tabl;have a2:d.g<W0.heap.size:=hm.ctr.lt.2;refine {ti:=rfl,tq:=rfl,sp:=hm.sp,pS:=λq=>?_,pT:=o1,gT:=o2,gl:=a2,gp:=λq=>?_,gv:=?_,cS:=λt vs hb ht=>⟨λq=>?_,λq=>?_⟩,xl:=λX hX=>(h.ts.at_ X hX).1.lt,don:=hm.don,good:=hg}
 .rcases q with(q|⟨d',a0,q|q⟩)|q
  .exact h.noT o1 q
  .exact yAb hm.sp (h.md d' a0).1.ctr qj _ rfl (by rw[show d.p=d'.g from q];rfl)
  .exact yAb hm.sp (h.md d' a0).1.mch qj _ rfl (by rw[show d.p=d'.mb from q];rfl)
  .have q2:d.p<tb:=q;omega
 .exact a1.2.2.1 (show d.p=d.g from(show d.g=d.p from q).symm)
 .show¬1=d.g;omega
 .rcases q with(q|⟨d',a0,q|q⟩)|q
  .exact h.noT ht q
  .exact yAb hb (h.md d' a0).1.ctr qj _ rfl (by rw[q];rfl)
  .exact yAb hb (h.md d' a0).1.mch qj _ rfl (by rw[q];rfl)
  .have:=hb.lt.1;have q2:=q;omega
 .exact yAb hb hm.ctr qj _ rfl (by rw[show t=d.g from q];rfl)
theorem ySw (h:MdsA tb B NM Ts ds W0) (hd:d∈ds) (hg:∀(k:Nat) (x:Ix),d.l[k]?=some x->x.op=1->yCb x.leaf/\(cntK x.leaf.kind->0<=x.a/\x.a<(d.nk:Int))):MaOk (yN2 W0 tb Ts ds d) d.l:=by
 have hD:=xHw h hd hg;have hm:=(h.md d hd).1;have a6:=(h.md d hd).2;have a5:=hm.ord;obtain⟨o1,o2,o3⟩:=hm.off;have a4:=h.ts.tabl;have a0:=(World.ownsRow.lt hm.sp d.p rfl).2;have a2:=hm.ctr.lt.2;have a1:d.mb<W0.heap.size:=hm.mch.lt.2;refine {stp:=λat_ x hx=>?_,pl:=a0,pS:=hD.pS,ti:=λS' W W' hT hc hS=>?_,leaf:=xFf hD,gS:=Or.inl (Or.inr ⟨d,hd,Or.inl rfl⟩),mS:=Or.inl (Or.inr ⟨d,hd,Or.inr rfl⟩),tS:=λq hq=>Or.inl (Or.inl hq),gl:=a2,ml:=a1,tl:=λq hq=>?_,gm:=λq=>?_,tg:=h.noT o2,tm:=h.noT o3}
 .have ht:=(hm.don at_ x hx).ten;exact⟨yDd hm.sp (ht 0 _ rfl),yDd hm.sp (ht 1 _ rfl),yDd hm.sp (ht 2 _ rfl)⟩
 .have a3:TsA tb Ts W:=hT;refine a3.side hc (λq hq X hX=>?_) (λhq=>?_)
  .rcases hS q hq with z|z|z
   .rw[z];exact o2 X hX
   .rw[z];exact o3 X hX
   .have:=(h.ts.at_ X hX).1.lt;exact .inr (Nat.lt_of_lt_of_le this z)
  .have hv:=h.ts.tab.lt;rcases hS _ hq with z|z|z
   .have z2:1=d.g:=z;omega
   .have z2:1=d.mb:=z;omega
   .have z2:W0.heap.size<=1:=z;omega
 .obtain⟨X,hX,z1,z2⟩:=hq;have h1:=(h.ts.at_ X hX).1.lt;have h2:=(h.ts.at_ X hX).1.r2;show q<W0.heap.size;omega
 .have z:d.g=d.mb:=q;omega
theorem xHv (h:MdsA tb B NM Ts ds W0) (hd:d∈ds):McI (yN2 W0 tb Ts ds d) d.N (List.replicate d.nk newC) xh W0:=by have hm:=(h.md d hd).1;exact {chg:=Chg.refl _ _,ti:=h.ts,ctr:=hm.ctr,len:=length_replicate,cb:=λk hk=>by rw[eq_of_mem_replicate hk];exact yZz,box:=hm.mch,stk:=⟨[],⟨rfl,.inl ⟨rfl,rfl⟩⟩⟩}
theorem yJ9 {l:List Ix} {nk:Nat} (hg:yBe l cnt nc) (hnk:nk=cnt.toNat):∀(k:Nat) (x:Ix),l[k]?=some x->x.op=1->yCb x.leaf/\(cntK x.leaf.kind->0<=x.a/\x.a<(nk:Int)):=λk x hx ho=>by
 have h3:=hg.2.2.1
 rcases yC3 hg hx with q|q|q|q
 .refine⟨yF q.2.1 x.leaf (by simp),λhc=>?_⟩
  rcases q.2.2.2 with z|z
  .have:=z.2;omega
  .exact absurd hc z.1
 .have:=q.1;omega
 .have:=q.1;omega
 .have:=q.1;omega
end
end
abbrev ptB (b:Nat):Value:=(xp b)
abbrev mvW (w:World) (a:Option Addr) (n c mb:Nat) (ca:Option Addr) (cn cc:Nat) (h:Bool):World:=
 (xw ((w.alloc (Obj.cells #[.slice a n c,ptB mb] 96)).alloc (Obj.cells #[.slice ca cn cc] 26)) #[h] 4)
theorem yWi (w:World) (a:Option Addr) (c mb:Nat) (ca:Option Addr) (cn cc:Nat) (h:Bool):
  Calls prog 47 #[.agg #[.slice a 0 c,ptB mb],.slice ca cn cc,h] w λe w'=>e=.returned (.func (Fn.func 103) #[] #[ptB (w+1),ptB w,ptB (w+1+1)])/\w'=mvW w a 0 c mb ca cn cc h:=by
 go_enter func47,ntmps47;go_wp2;go_ret;exact⟨rfl,rfl⟩
theorem yJu (w:World) (a:Option Addr) (n c mb:Nat) (ca:Option Addr) (cn cc:Nat):
  Calls prog 102 #[.agg #[.slice a n c,ptB mb],.slice ca cn cc] w λe w'=>e=.returned (.func (Fn.func 152) #[] #[ptB w,ptB (w+1)])/\w'=(xw (w.alloc (Obj.cells #[.slice a n c,ptB mb] 96)) #[.slice ca cn cc] 26):=by
 go_enter func102,ntmps102;go_wp2;go_ret;exact⟨rfl,rfl⟩
theorem yN1 (w:World) (a:Option Addr) (n c mb:Nat) (hn:(0:Int)<(n:Int)) (ca:Option Addr) (cn cc:Nat) (h:Bool):
  Calls prog 47 #[.agg #[.slice a n c,ptB mb],.slice ca cn cc,h] w λe w'=>e=.returned (.func (Fn.func 152) #[] #[ptB (w+1+1+1),ptB (w+1+1+1+1)])/\w'=(xw ((mvW w a n c mb ca cn cc h).alloc (Obj.cells #[.slice a n c,ptB mb] 96)) #[.slice ca cn cc] 26):=by
 obtain⟨W,hW⟩:=qW (mvW w a n c mb ca cn cc h);have hz:W.heap.size=w.heap.size+1+1+1:=by rw[hW];simp
 have HB:Hid (Calls prog 102 #[.agg #[.slice a n c,ptB mb],.slice ca cn cc] W λe w'=>e=.returned (.func (Fn.func 152) #[] #[ptB (w+1+1+1),ptB (w+1+1+1+1)])/\w'=(xw (W.alloc (Obj.cells #[.slice a n c,ptB mb] 96)) #[.slice ca cn cc] 26)):=by have h9:=yJu W a n c mb ca cn cc;rw[hz]at h9;exact h9
 go_enter func47,ntmps47;rw[<-hW];unfold mvW at hW;clear hz;go_wp2_with fail;rw[<-hW];refine HB.mono ?_;rintro e w' ⟨rfl,rfl⟩;go_wp2;go_ret;exact⟨rfl,by rw[hW]⟩
theorem yMf (w:World) (mb:Nat) (ra:Option Addr) (rn rc:Nat) (ca:Option Addr) (cn cc:Nat):
  Calls prog 155 #[ptB mb,.slice ra rn rc,.slice ca cn cc] w λe w'=>e=.returned (.func (Fn.func 200) #[] #[ptB w,ptB (w+1),ptB (w+1+1)])/\w'=(xw ((w.alloc (Obj.cells #[ptB mb] 94)).alloc (Obj.cells #[.slice ra rn rc] 26)) #[.slice ca cn cc] 118):=by
 go_enter func155,ntmps155;go_wp2;go_ret;exact⟨rfl,rfl⟩
section
def ObT (t:Nat) (W:World) (q:Nat):Prop:=∃cur,W.heap[q]?=some (.cells cur t)
variable {n k:Nat}
theorem yAk {e size:Nat} {v:Value} {xs:List Value} (h:w.ownsRow base e size v n xs) (hk:v.ownBlock=some k):ObT e w k:=by
 rcases h.2 with⟨q,_⟩|⟨g',a0,cur,hv,_,hh,_⟩
 .rw[q]at hk;simp[Value.ownBlock]at hk
 .rw[hv]at hk;simp[Value.ownBlock]at hk;subst hk;exact⟨_,hh⟩
variable {q:Nat}
theorem ObT.one {t':Nat} (h:ObT t W q) (h':ObT t' W q):t=t':=by
 obtain⟨a,ha⟩:=h;obtain⟨b,hb⟩:=h';rw[ha]at hb;cases hb
 rfl
theorem ObT.not {o:Obj} (h:ObT t W q) (ho:W.heap[q]?=some o) (hc:o.isCells=false):False:=by
 obtain⟨a,ha⟩:=h;rw[ha]at ho;cases ho
 simp[Obj.isCells]at hc
structure PgI (W0:World) (tb:Nat) (Ts:List Tt) (all:List Md) (kf:Nat->List Ctr) (vf:Nat->Value) (W:World):Prop where
 mc:∀d∈all,McI (yN2 W0 tb Ts all d) d.N (kf d.mb) (vf d.mb) W
 ap:∀d∈all,∀d'∈all,¬d.mb=d'.mb->∀k,(vf d.mb).ownBlock=some k->¬(vf d'.mb).ownBlock=some k
def PgD (W0:World) (tb:Nat) (Ts:List Tt) (all:List Md) (d:Md) (ks:List Ctr) (v:Value) (W:World):Prop:=∃kf vf,PgI W0 tb Ts all kf vf W/\kf d.mb=ks/\vf d.mb=v
section
variable {tb B NM:Nat} {Ts:List Tt} {all:List Md} {W0:World} {d:Md}
theorem xFa (h:MdsA tb B NM Ts all W0) {d d':Md} (hd:d∈all) (hd':d'∈all) (hne:¬d.mb=d'.mb):d.mb<d'.lo∨d'.mb<d.lo:=by
 obtain⟨i,hi⟩:=List.mem_iff_getElem?.1 hd;obtain⟨j,hj⟩:=List.mem_iff_getElem?.1 hd';obtain⟨li,ei⟩:=List.getElem?_eq_some_iff.1 hi;obtain⟨lj,ej⟩:=List.getElem?_eq_some_iff.1 hj;have hp:=List.pairwise_iff_getElem.1 h.apart;rcases Nat.lt_trichotomy i j with q|q|q
 .have:=hp i j li lj q;rw[ei,ej]at this;exact .inl this
 .subst q;rw[ei]at ej;rw[ej]at hne;exact absurd rfl hne
 .have:=hp j i lj li q;rw[ei,ej]at this;exact .inr this
theorem xEv (h:MdsA tb B NM Ts all W0):PgI W0 tb Ts all (λmb=>match all.find? (λd=>d.mb=mb)with|some d=>List.replicate d.nk newC|none=> []) (λ_=>xh) W0:=by
 refine⟨λd hd=>?_,λd _ d' _ _ k hk=>by simp[Value.ownBlock]at hk⟩;have h9:=xHv h hd;cases hf:all.find? (λx=>x.mb=d.mb)with
 |none=>have:=List.find?_eq_none.1 hf d hd;simp at this
 |some d'=>
  have h1:d'.mb=d.mb:=by simpa using find?_some hf
  have h2:=mem_of_find?_eq_some hf;have:d'=d:=by
   obtain⟨i,hi⟩:=List.mem_iff_getElem?.1 hd;obtain⟨j,hj⟩:=List.mem_iff_getElem?.1 h2;obtain⟨li,ei⟩:=List.getElem?_eq_some_iff.1 hi;obtain⟨lj,ej⟩:=List.getElem?_eq_some_iff.1 hj;have hp:=List.pairwise_iff_getElem.1 h.apart;rcases Nat.lt_trichotomy i j with q|q|q
   .have:=hp i j li lj q;rw[ei,ej]at this;have:=(h.md d' h2).1.ord;omega
   .subst q;rw[ei]at ej;exact ej.symm
   .have:=hp j i lj li q;rw[ei,ej]at this;have:=(h.md d hd).1.ord;omega
  subst this;simpa using h9
theorem PgI.step (h:MdsA tb B NM Ts all W0) {kf:Nat->List Ctr} {vf:Nat->Value} (hI:PgI W0 tb Ts all kf vf W) (hd:d∈all) {ks':List Ctr} {v':Value} (hm:McI (yN2 W0 tb Ts all d) d.N ks' v' W')
  (hc:Chg (λq=>q=d.g∨q=d.mb∨TqB Ts q∨(vf d.mb).ownBlock=some q) W W') (hv:v'.ownBlock=(vf d.mb).ownBlock∨∃k,v'.ownBlock=some k/\W.heap.size<=k):PgI W0 tb Ts all (λq=>if q=d.mb then ks' else kf q) (λq=>if q=d.mb then v' else vf q) W':=by
 have a0:∀d'∈all,∀k,(vf d'.mb).ownBlock=some k->W0.heap.size<=k/\k<W.heap.size:=λd' hd' k hk=>by obtain⟨m,a3⟩:=(hI.mc d' hd').stk;exact World.ownsRow.lt a3 k hk
 refine⟨λd' hd'=>?_,λd1 h1 d2 h2 a1 k hk=>?_⟩
 .by_cases q:d'.mb=d.mb
  .have a5:d'=d:=by
    apply Classical.byContradiction;intro a1;obtain⟨i,hi⟩:=List.mem_iff_getElem?.1 hd;obtain⟨j,hj⟩:=List.mem_iff_getElem?.1 hd';obtain⟨li,ei⟩:=List.getElem?_eq_some_iff.1 hi;obtain⟨lj,ej⟩:=List.getElem?_eq_some_iff.1 hj;have hp:=List.pairwise_iff_getElem.1 h.apart;have o1:=(h.md d hd).1.ord;have o2:=(h.md d' hd').1.ord;rcases Nat.lt_trichotomy i j with z|z|z
    .have:=hp i j li lj z;rw[ei,ej]at this;omega
    .subst z;rw[ei]at ej;exact a1 ej.symm
    .have:=hp j i lj li z;rw[ei,ej]at this;omega
   subst a5;simpa using hm
  .simp only[if_neg q];have hM:=hI.mc d' hd';have m1:=(h.md d hd).1;have m2:=(h.md d' hd').1;obtain⟨o1,o2,o3⟩:=m2.off;have r1:=m1.ord;have r2:=m2.ord;have gl:=m2.ctr.lt.2;have ml:=m2.mch.lt.2;have a8:d.g<W0.heap.size:=m1.ctr.lt.2;have a6:d.mb<W0.heap.size:=m1.mch.lt.2;have a7:=xFa h hd hd' (λz=>q z.symm);refine⟨hm.chg,hm.ti,hM.ctr.chg hc (λz=>?_),hM.len,hM.cb,hM.box.chg hc (λz=>?_),?_⟩
   .have z':d'.g=d.g∨d'.g=d.mb∨TqB Ts d'.g∨(vf d.mb).ownBlock=some d'.g:=z;rcases z' with z|z|z|z
    .omega
    .omega
    .exact h.noT o2 z
    .have:=(a0 d hd _ z).1;omega
   .have z':d'.mb=d.g∨d'.mb=d.mb∨TqB Ts d'.mb∨(vf d.mb).ownBlock=some d'.mb:=z;rcases z' with z|z|z|z
    .omega
    .omega
    .exact h.noT o3 z
    .have:=(a0 d hd _ z).1;omega
   .obtain⟨m,a2⟩:=hM.stk;refine⟨m,yAh a2 hc (λk hk z=>?_)⟩;have:=(a0 d' hd' k hk).1;rcases z with z|z|z|z
    .omega
    .omega
    .obtain⟨X,hX,z1,z2⟩:=z;have:=(h.ts.at_ X hX).1.lt;have:=(h.ts.at_ X hX).1.r2;omega
    .exact hI.ap d hd d' hd' (λe=>q e.symm) k z hk
 .by_cases q1:d1.mb=d.mb
  .have q2:¬d2.mb=d.mb:=λe=>a1 (q1.trans e.symm);simp only[if_pos q1]at hk;simp only[if_neg q2];intro hz;rcases hv with e|⟨k',e,a4⟩
   .rw[e]at hk;exact hI.ap d hd d2 h2 (λe=>q2 e.symm) k hk hz
   .rw[e]at hk;have:=(a0 d2 h2 k hz).2;cases hk
    omega
  .simp only[if_neg q1]at hk;by_cases q2:d2.mb=d.mb
   .simp only[if_pos q2];intro hz;rcases hv with e|⟨k',e,a4⟩
    .rw[e]at hz;exact hI.ap d1 h1 d hd q1 k hk hz
    .rw[e]at hz;have:=(a0 d1 h1 k hk).2;cases hz
     omega
   .simp only[if_neg q2];exact hI.ap d1 h1 d2 h2 a1 k hk
theorem PgI.turn (h:MdsA tb B NM Ts all W0) {kf:Nat->List Ctr} {vf:Nat->Value} (hI:PgI W0 tb Ts all kf vf W) {S:Nat->Prop} (hc:Chg S W W') (hS:∀q,S q->(q<tb/\¬q=1)∨(W0.heap.size<=q/\¬ObT 181 W q)):PgI W0 tb Ts all kf vf W':=by
 refine⟨λd hd=>?_,hI.ap⟩;have hM:=hI.mc d hd;have m1:=(h.md d hd).1;have a6:=(h.md d hd).2;have r1:=m1.ord;have gl:=m1.ctr.lt.2;have ml:=m1.mch.lt.2;have a4:=h.ts.tabl;have a5:=h.ts.tab.lt;have hT:TsA tb Ts W:=hM.ti;obtain⟨m,a0⟩:=hM.stk;have a3:∀q,tb<=q->q<W0.heap.size->¬S q:=λq h1 h2 z=>by
  rcases hS q z with k|k
  .omega
  .omega
 exact {chg:=hM.chg.absorb hc (λq z=>by
      rcases hS q z with k|k
      .exact .inl (Or.inr k.1)
      .exact .inr k.1)
        ti:=hT.side hc (λq z X hX=>by
         have a1:=(h.ts.at_ X hX).1.lt
         have a2:=(h.ts.at_ X hX).2
         rcases hS q z with k|k
         .exact .inl qo
         .exact .inr qo) (λz=>by
         rcases hS _ z with k|k
         .exact k.2 rfl
         .have:=k.1;omega)
        ctr:=hM.ctr.chg hc (a3 _ (by show tb<=d.g;omega) gl)
        len:=hM.len,cb:=hM.cb
        box:=hM.box.chg hc (a3 _ (by show tb<=d.mb;omega) ml)
        stk:=⟨m,yAh a0 hc (λk hk z=>by
         have:=(World.ownsRow.lt a0 k hk).1
         rcases hS k z with q|q
         .have h9:W0.heap.size<=k:=this
          have:=a4
          omega
         .exact q.2 (yAk a0 hk))⟩}
theorem PgD.mc (hd:d∈all) {v:Value} (h:PgD W0 tb Ts all d ks v W):McI (yN2 W0 tb Ts all d) d.N ks v W:=by obtain⟨kf,vf,h1,rfl,rfl⟩:=h;exact h1.mc d hd
theorem PgD.step (h:MdsA tb B NM Ts all W0) (hd:d∈all) {ks':List Ctr} {v v':Value} (hI:PgD W0 tb Ts all d ks v W) (hm:McI (yN2 W0 tb Ts all d) d.N ks' v' W')
  (hc:Chg (λq=>q=d.g∨q=d.mb∨TqB Ts q∨v.ownBlock=some q) W W') (hv:v'.ownBlock=v.ownBlock∨∃k,v'.ownBlock=some k/\W.heap.size<=k):PgD W0 tb Ts all d ks' v' W':=by
 obtain⟨kf,vf,h1,rfl,rfl⟩:=hI;exact⟨_,_,h1.step h hd hm hc hv,by simp,by simp⟩
theorem PgD.turn (h:MdsA tb B NM Ts all W0) {v:Value} (hI:PgD W0 tb Ts all d ks v W) {S:Nat->Prop} (hc:Chg S W W') (hS:∀q,S q->(q<tb/\¬q=1)∨(W0.heap.size<=q/\¬ObT 181 W q)):PgD W0 tb Ts all d ks v W':=by obtain⟨kf,vf,h1,h2,h3⟩:=hI;exact⟨kf,vf,h1.turn h hc hS,h2,h3⟩
def QuB (W0:World) (Ts:List Tt) (all:List Md) (W:World) (q:Nat):Prop:=PrgB Ts all q∨(W0.heap.size<=q/\ObT 181 W q)
theorem McI.qu (hd:d∈all) {v:Value} (h:McI (yN2 W0 tb Ts all d) N ks v W):∀q,(q=d.g∨q=d.mb∨TqB Ts q∨v.ownBlock=some q)->QuB W0 Ts all W q:=λq hq=>by
 rcases hq with z|z|z|z
 .exact .inl (.inr ⟨d,hd,.inl z⟩)
 .exact .inl (.inr ⟨d,hd,.inr z⟩)
 .exact .inl (.inl z)
 .obtain⟨m,hm⟩:=h.stk
  exact .inr ⟨(World.ownsRow.lt hm q z).1,yAk hm z⟩
theorem xBe {Y:Nat->Prop} {A B C:World} (h:Chg (λq=>Y q∨QuB W0 Ts all A q) A B) (k:Chg (λq=>Y q∨QuB W0 Ts all B q) B C):Chg (λq=>Y q∨QuB W0 Ts all A q) A C:=
 ⟨k.os.trans h.os,k.tape.trans h.tape,k.output.trans h.output,Nat.le_trans h.size k.size,λi hi hn=>by
  have h1:=h.block i hi hn
  refine(k.block i (Nat.lt_of_lt_of_le hi h.size) (λz=>hn ?_)).trans h1
  rcases z with z|z|⟨z0,cur,z⟩
  .exact .inl z
  .exact .inr (.inl z)
  .rw[h1]at z;exact .inr (.inr ⟨z0,cur,z⟩)⟩
theorem PrgB.lt (h:MdsA tb B NM Ts all W0) (hq:PrgB Ts all q):tb<=q/\q<W0.heap.size:=by
 rcases hq with⟨X,hX,z1,z2⟩|⟨d,hd,z|z⟩
 .have:=(h.ts.at_ X hX).2;have:=(h.ts.at_ X hX).1.lt;have:=(h.ts.at_ X hX).1.r2;omega
 .have:=(h.md d hd).2;have:=(h.md d hd).1.ord;have:d.g<W0.heap.size:=(h.md d hd).1.ctr.lt.2;omega
 .have:=(h.md d hd).2;have:=(h.md d hd).1.ord;have:d.mb<W0.heap.size:=(h.md d hd).1.mch.lt.2;omega
theorem QuB.noT (h:MdsA tb B NM Ts all W0) (hq:W0.heap.size<=q) (ht:ObT t W q) (hne:¬181=t):¬QuB W0 Ts all W q:=λz=>by
 rcases z with z|z
 .have:=(PrgB.lt h z).2;omega
 .exact hne (z.2.one ht)
theorem QuB.noO (h:MdsA tb B NM Ts all W0) {o:Obj} (hq:W0.heap.size<=q) (ho:W.heap[q]?=some o) (hc:o.isCells=false):¬QuB W0 Ts all W q:=λz=>by
 rcases z with z|z
 .have:=(PrgB.lt h z).2;omega
 .exact z.2.not ho hc
theorem QuB.old (h:MdsA tb B NM Ts all W0) (hq:q<tb) (hw:tb<=W0.heap.size):¬QuB W0 Ts all W q:=λz=>by
 rcases z with z|z
 .have:=(PrgB.lt h z).1;omega
 .have:=z.1;omega
theorem yAt (W:World) (l:Nat) (o:Obj):Chg (λq=>q=l) W (W.putObj l o):=Chg.of_grown (grownBy_putObj' W l o) (λk q=>by cases q;rfl)
end
end
inductive RowR (l:List Ix) (conds:List Bool):List Ent->List Ctr->List Ent->Prop
 |nil (cs:List Ctr):RowR l conds [] cs []
 |cons {c:Ent} {r:List Ent} {cs cs':List Ctr} {i:It} {out:List Ent} (h:LkR pfxB l c conds ⟨0,[newI],cs⟩ (i,cs')) (hr:RowR l conds r cs' out):RowR l conds (c::r) cs (if i.alive=true then yB i c::out else out)
variable {cs:List Ctr} {o o':List Ent}
theorem RowR.one {l:List Ix} {conds:List Bool} {row:List Ent} (h:RowR l conds row cs o) (k:RowR l conds row cs o'):o=o':=by
 induction h generalizing o' with
 |nil cs=>cases k;rfl
 |cons h _ ih=>cases k with
  |cons h' k'=>
   have:=h.one h';simp only[Prod.mk.injEq]at this;obtain⟨rfl,rfl⟩:=this;rw[ih k']
variable {out:List Ent} {cs0:List Ctr} {n:Nat}
theorem RowR.step {l:List Ix} {conds:List Bool} {row:List Ent} {cs':List Ctr} {c:Ent} {i:It}
  (h:∀o,RowR l conds (row.drop n) cs o->RowR l conds row cs0 (out++o)) (hc:row[n]?=some c) (hl:LkR pfxB l c conds ⟨0,[newI],cs⟩ (i,cs')):
  ∀o,RowR l conds (row.drop (n+1)) cs' o->RowR l conds row cs0 ((if i.alive=true then out++ [yB i c]else out)++o):=by
 intro o ho;obtain⟨hn,hv⟩:=List.getElem?_eq_some_iff.1 hc;have hd:row.drop n=c::row.drop (n+1):=by rw[drop_eq_getElem_cons hn,hv]
 have h1:=h _ (by rw[hd];exact .cons hl ho);cases ha:i.alive
 .rw[ha]at h1;simpa using h1
 .rw[ha]at h1;simpa using h1
theorem RowR.done {l:List Ix} {conds:List Bool} {row:List Ent} (h:∀o,RowR l conds (row.drop n) cs o->RowR l conds row cs0 (out++o)) (hn:row.length<=n):RowR l conds row cs0 out:=by have:=h [] (by rw[drop_eq_nil_of_le hn];exact .nil _);rwa [append_nil]at this
inductive MvR (l:List Ix) (hints:Bool):List Ent->List Ctr->List Ent->Nat->Prop
 |nil (cs:List Ctr):MvR l hints [] cs [] 0
 |cons {c:Ent} {r:List Ent} {cs cs':List Ctr} {i:It} {out:List Ent} {n:Nat} (h:LkR pfxB l c [] ⟨0,[newI],cs⟩ (i,cs')) (hr:MvR l hints (if i.alive=false/\hints=true then r.dropWhile (yAz i.hint c)else r) cs' out n):MvR l hints (c::r) cs (if i.alive=true then yB i c::out else out) (n+1)
theorem MvR.one {l:List Ix} {hints:Bool} {row:List Ent} {n':Nat} (h:MvR l hints row cs o n) (k:MvR l hints row cs o' n'):o=o'/\n=n':=by
 induction h generalizing o' n' with
 |nil cs=>cases k;exact⟨rfl,rfl⟩
 |cons h _ ih=>cases k with
  |cons h' k'=>
   have:=h.one h';simp only[Prod.mk.injEq]at this;obtain⟨rfl,rfl⟩:=this;obtain⟨rfl,rfl⟩:=ih k';exact⟨rfl,rfl⟩
theorem MvR.le {l:List Ix} {hints:Bool} {row:List Ent} (h:MvR l hints row cs o n):n<=row.length/\o.length<=n:=by
 induction h with
 |nil cs=>simp
 |cons h hr ih=>
  rename_i c r cs cs' i out n;have h1:(if i.alive=false/\hints=true then r.dropWhile (yAz i.hint c)else r).length<=r.length:=by
   split
   .exact(dropWhile_sublist _).length_le
   .exact Nat.le_refl _
  rw[length_cons];constructor
  .omega
  .split
   .rw[length_cons];omega
   .omega
theorem yZx {p:Ent->Bool}:∀(es:List Ent),es.drop (es.takeWhile p).length=es.dropWhile p
 | []=>rfl
 |a::es=>by
  rw[takeWhile_cons,dropWhile_cons]
  split
  .rw[length_cons,drop_succ_cons];exact yZx es
  .rfl
theorem MvR.step {l:List Ix} {hints:Bool} {row:List Ent} {cs':List Ctr} {m:Nat} {c:Ent} {i:It}
  (h:∀o k,MvR l hints (row.drop n) cs o k->MvR l hints row cs0 (out++o) (m+k)) (hc:row[n]?=some c) (hl:LkR pfxB l c [] ⟨0,[newI],cs⟩ (i,cs'))
  (hj:j=if i.alive=false/\hints=true then n+1+((row.drop (n+1)).takeWhile (yAz i.hint c)).length else n+1):
  ∀o k,MvR l hints (row.drop j) cs' o k->MvR l hints row cs0 ((if i.alive=true then out++ [yB i c]else out)++o) (m+1+k):=by
 intro o k ho;obtain⟨hn,hv⟩:=List.getElem?_eq_some_iff.1 hc;have hd:row.drop n=c::row.drop (n+1):=by rw[drop_eq_getElem_cons hn,hv]
 have a0:row.drop j=(if i.alive=false/\hints=true then(row.drop (n+1)).dropWhile (yAz i.hint c)else row.drop (n+1)):=by
  rw[hj];split
  .rw[<-yZx,drop_drop]
  .rfl
 rw[a0]at ho;have h1:=h _ _ (by rw[hd];exact .cons hl ho);rw[show m+(k+1)=m+1+k by omega]at h1;cases ha:i.alive
 .rw[ha]at h1;simpa using h1
 .rw[ha]at h1;simpa using h1
theorem MvR.done {l:List Ix} {hints:Bool} {row:List Ent} {m:Nat} (h:∀o k,MvR l hints (row.drop n) cs o k->MvR l hints row cs0 (out++o) (m+k)) (hn:row.length<=n):MvR l hints row cs0 out m:=by have:=h [] 0 (by rw[drop_eq_nil_of_le hn];exact .nil _);rwa [append_nil]at this
inductive CdR (row:List Ent):List (Int×List Ix)->List Bool->List Bool->Prop
 |nil (bs:List Bool):CdR row [] bs bs
 |cons {x:Int×List Ix} {Bs:List (Int×List Ix)} {bs r:List Bool} {o:List Ent} (h:RowR x.2 bs row (List.replicate x.1.toNat newC) o) (k:CdR row Bs (bs++ [decide (0<o.length)]) r):CdR row (x::Bs) bs r
variable {Bs:List (Int×List Ix)} {bs:List Bool}
theorem CdR.one {row:List Ent} {r r':List Bool} (h:CdR row Bs bs r) (k:CdR row Bs bs r'):r=r':=by
 induction h with
 |nil bs=>cases k;rfl
 |cons h _ ih=>cases k with
  |cons h' k'=>
   have:=h.one h';subst this;exact ih k'
theorem CdR.len {row:List Ent} {r:List Bool} (h:CdR row Bs bs r):r.length=bs.length+Bs.length:=by
 induction h with
 |nil bs=>simp
 |cons h _ ih=>rw[ih];simp;omega
theorem CdR.step {row:List Ent} {x:Int×List Ix} (h:∀r,CdR row (Bs.drop n) bs r->CdR row Bs [] r) (hx:Bs[n]?=some x) (ho:RowR x.2 bs row (List.replicate x.1.toNat newC) o):
  ∀r,CdR row (Bs.drop (n+1)) (bs++ [decide (0<o.length)]) r->CdR row Bs [] r:=by
 intro r hr;obtain⟨hn,hv⟩:=List.getElem?_eq_some_iff.1 hx;refine h r ?_;rw[drop_eq_getElem_cons hn,hv];exact .cons ho hr
theorem CdR.done {row:List Ent} (h:∀r,CdR row (Bs.drop n) bs r->CdR row Bs [] r) (hn:Bs.length<=n):CdR row Bs [] bs:=h bs (by rw[drop_eq_nil_of_le hn];exact .nil _)
inductive RwsR (m:Int×List Ix) (Bs:List (Int×List Ix)):List (List Ent)->List Ent->Prop
 |nil:RwsR m Bs [] []
 |cons {row:List Ent} {rs:List (List Ent)} {bs:List Bool} {o out:List Ent} (h:CdR row Bs [] bs) (k:RowR m.2 bs row (List.replicate m.1.toNat newC) o) (hr:RwsR m Bs rs out):RwsR m Bs (row::rs) (o++out)
variable {m:Int×List Ix} {rs:List (List Ent)}
theorem RwsR.one (h:RwsR m Bs rs o) (k:RwsR m Bs rs o'):o=o':=by
 induction h generalizing o' with
 |nil=>cases k;rfl
 |cons h1 h2 _ ih=>cases k with
  |cons k1 k2 k3=>
   have:=h1.one k1;subst this;have:=h2.one k2;subst this;rw[ih k3]
theorem RwsR.step {row:List Ent} (h:∀r,RwsR m Bs (rs.drop n) r->RwsR m Bs rs (out++r)) (hx:rs[n]?=some row) (hc:CdR row Bs [] bs) (ho:RowR m.2 bs row (List.replicate m.1.toNat newC) o):
  ∀r,RwsR m Bs (rs.drop (n+1)) r->RwsR m Bs rs ((out++o)++r):=by
 intro r hr;obtain⟨hn,hv⟩:=List.getElem?_eq_some_iff.1 hx;rw[append_assoc];refine h _ ?_;rw[drop_eq_getElem_cons hn,hv];exact .cons hc ho hr
theorem RwsR.done (h:∀r,RwsR m Bs (rs.drop n) r->RwsR m Bs rs (out++r)) (hn:rs.length<=n):RwsR m Bs rs out:=by have:=h [] (by rw[drop_eq_nil_of_le hn];exact .nil);rwa [append_nil]at this
theorem RowR.len {l:List Ix} {conds:List Bool} {row:List Ent} (h:RowR l conds row cs o):o.length<=row.length:=by
 induction h with
 |nil cs=>simp
 |cons h _ ih=>
  rw[length_cons];split
  .rw[length_cons];omega
  .omega
variable {P:ByteArray->ByteArray}
theorem yX4 {c:Ent} {conds:List Bool} {x:Ix} {s:Lk} (h:least x.op<=(s.st.length:Int)):
  (((stepL P c conds x s).st.length:Nat):Int)=s.st.length+more x.op/\(stepL P c conds x s).at_∈ways s.at_ x:=by
 obtain⟨at_,st,cs⟩:=s;unfold stepL least more ways at*;simp only at h⊢;by_cases h1:x.op=1
 .simp only[h1,if_pos,if_true,show¬((1:Int)=3∨(1:Int)=4)by omega,if_false]at h⊢;cases st with
  |nil=>simp at h
  |cons i r=>simp
 by_cases h2:x.op=2
 .simp only[h2,show¬((2:Int)=3∨(2:Int)=4)by omega,if_false]at h⊢;cases st with
  |nil=>simp at h
  |cons i r=>simp
 by_cases h3:x.op=3
 .simp only[h3]at h⊢;match st,h with
  | [],h=>simp at h
  | [i],h=>simp at h
  |i::j::r,h=>simp
 by_cases h4:x.op=4
 .simp only[h4]at h⊢;match st,h with
  | [],h=>simp at h
  | [i],h=>simp at h
  |i::j::r,h=>simp;omega
 by_cases h5:x.op=5
 .simp only[h5];by_cases hc:conds[x.a.toNat]?=some false
  .simp[hc]
  .simp[hc]
 by_cases h6:x.op=6
 .simp[h6]
 .simp[h1,h2,h3,h4,h5,h6]
theorem lkR_ex' {l:List Ix} {c:Ent} {conds:List Bool} {d:Nat->Nat} (hD:yUc l d):∀(n:Nat) (s:Lk),l.length-s.at_<=n->s.at_<=l.length->s.st.length=d s.at_->1<=s.st.length->∃r,LkR P l c conds s r:=by
 intro n;induction n with
 |zero=>
  intro s h1 h2 h3 h4;have h5:s.at_=l.length:=qo
  rw[h5,hD.last]at h3;obtain⟨i,hi⟩:=List.length_eq_one_iff.1 h3;exact⟨_,.fin qo hi⟩
 |succ n ih=>
  intro s h1 h2 h3 h4;by_cases hlt:s.at_<l.length
  .obtain⟨x,hx⟩:∃x,l[s.at_]?=some x:=qg hlt;obtain⟨a,b,e⟩:=hD.step _ x hx qo;rw[<-h3]at a b e;obtain⟨k1,k2⟩:=yX4 (P:=P) (c:=c) (conds:=conds) a;obtain⟨e1,e2,e3⟩:=e _ k2;have hm:1<=(s.st.length:Int)+more x.op:=by unfold least at a;unfold more;split at a<;>split<;>(try split)<;>omega
   obtain⟨r,hr⟩:=ih (stepL P c conds x s) qo e3 qo qo;exact⟨r,.step hx hr⟩
  .have h5:s.at_=l.length:=qo
   rw[h5,hD.last]at h3;obtain⟨i,hi⟩:=List.length_eq_one_iff.1 h3;exact⟨_,.fin qo hi⟩
theorem xHx {l:List Ix} (h:yBe l cnt nc) c (conds:List Bool) cs:∃r,LkR P l c conds ⟨0,[newI],cs⟩ r:=by obtain⟨d,hD⟩:=yIz h;exact lkR_ex' hD l.length ⟨0,[newI],cs⟩ (by simp) (zero_le _) (by simp[hD.start]) (by simp)
theorem yYe {l:List Ix} (h:yBe l cnt nc) (conds:List Bool):∀(row:List Ent) (cs:List Ctr),∃o,RowR l conds row cs o
 | [],cs=>⟨_,.nil cs⟩
 |c::r,cs=>by
  obtain⟨⟨i,cs'⟩,h1⟩:=xHx (P:=pfxB) h c conds cs
  obtain⟨o,h2⟩:=yYe h conds r cs'
  exact⟨_,.cons h1 h2⟩
theorem yZ {l:List Ix} (h:yBe l cnt nc) {c:Ent} {b b':List Bool} (hb:∀i,i<nc->b[i]?=b'[i]?) {s:Lk} {r:It×List Ctr} (hk:LkR P l c b s r):LkR P l c b' s r:=by
 induction hk with
 |fin h hs=>exact .fin h hs
 |step hx _ ih=>
  rename_i s x r _;refine .step hx ?_;have:stepL P c b' x s=stepL P c b x s:=by
   by_cases h5:x.op=5
   .have hi:b[x.a.toNat]?=b'[x.a.toNat]?:=by
     refine hb _ ?_;rcases yC3 h hx with q|q|q|q
     .have:=q.1;omega
     .have:=q.2.2.1;have:=q.2.2.2.1;omega
     .have:=q.1;omega
     .have:=q.1;omega
    simp[stepL,h5,hi]
   .simp[stepL,h5]
  rw[this];exact ih
theorem zLkF (h:p:=by
 have t0:=HZ.1.stk.cell yAd HI.out 0 (by omega);have t1:=HZ.1.stk.cell yAd HI.out 1 (by omega);have t2:=HZ.1.stk.cell yAd HI.out 2 (by omega);have t3:=HZ.1.stk.cell yAd HI.out 3 (by omega);simp only[getElem?_cons_zero,getElem?_cons_succ,Nat.add_zero]at t0 t1 t2 t3;have fz:∀k,WZ.frozen? (xd g k)=false:=λk=>World.ownsRow.frozenAt HZ.1.stk k;have g0:=fz (tn*4);have g1:=fz (tn*4+1);have g2:=fz (tn*4+2);have g3:=fz (tn*4+3);obtain⟨p0,p1,p2,p3⟩:=HZ.2.c4;obtain⟨WY,hWY⟩:=qE (setCs WZ g (tn*4) iz.four:World);have HY:Hid (LkM G (m.set tn iz) g cp cz WY/\tn+1=(m.set tn iz).length):=by have hm:=HL.1;exact⟨HZ.1.grow (by rw[hWY];exact HZ.1.stk.setAll yAd (i:=tn) (e:=iz) (by omega)) HZ.1.gne (by rw[hWY];exact yAl (S:=λk=>k=g) g rfl _ _ _),by rw[length_set];exact hm⟩
 simp only[setCs]at hWY;have hrz:=HRz.2.2.1;clear fz;go_upto_region 45 with fail;rw[<-hWY];clear hWY;go_wp2;go_roundw;case rel=>exact⟨at_+1,tn+1,g,cp,m.set tn iz,cz,hrz,hs1,hs2,rfl,by go_num,HY.1,HY.2,HRz.1⟩
 case measure=>simp[intOf];omega):p:=h
theorem zLkT (h:p:=by
 have a4:=HWQ.2.1.cell (j:=4) rfl;obtain⟨p0,p1,p2,p3⟩:=HWQ.2.2.c4;rw[HAL.out]at p0;rw[hst]at p1;obtain⟨f0,f1,f2,f3⟩:=HWQ.2.2.f4;obtain⟨i2,hi2⟩:=qE (⟨true,i.strip || (x.leaf.kind==3),i.hint⟩:It);have HI2:Hid (i2=⟨true,i.strip || (x.leaf.kind==3),i.hint⟩):=hi2;obtain⟨W8,hW8⟩:=qE (xt wq W2 1 i2.strip:World);have HW8:Hid (LkM G m g cp cq W8/\yA W8 G.w 153 11 wr x.ten/\yA W8 G.w 115 4 W2 i2.four):=by
  have hc8:Chg (λk=>k=W2.heap.size) wq W8:=by rw[hW8];exact Chg.of_set _ _ _ _ rfl
  have h1:=HWQ.2.2.set 1 i2.strip;rw[<-hW8]at h1;refine⟨HWQ.1.side ⟨by have:=HWQ.1.gne;omega,by omega⟩ hc8,HWQ.2.1.chg hc8 (by omega),?_⟩;have h2:i.four.set 1 i2.strip=i2.four:=by rw[hi2];unfold It.four;simp[HAL.out]
  rw[<-h2];exact h1
 simp only[hi2,hst,Bool.false_or,Bool.true_or]at hW8;go_upto_region 20 with fail;rw[<-hW8];clear hW8 hi2 p0 p1 p2 p3 f0 f1 f2 f3;cases tb
 .obtain⟨p0,p1,p2,p3⟩:=HW8.2.2.c4;obtain⟨f0,f1,f2,f3⟩:=HW8.2.2.f4;obtain⟨W10,hW10⟩:=qE (setCs W8 W2 0 (yBl noH).four:World);have HW10:Hid (LkM G m g cp cq W10/\yA W10 G.w 153 11 wr x.ten/\yA W10 G.w 115 4 W2 (yBl noH).four):=by obtain⟨q1,q2⟩:=yEo HW8.2.2 hW10;exact⟨HW8.1.side ⟨by have:=HW8.1.gne;omega,by omega⟩ q2,HW8.2.1.chg q2 (by omega),q1⟩
  have hs10:W10.heap.size=W8.heap.size:=by rw[hW10];simp[setCs]
  simp only[setCs,yBl,noH,Nat.zero_add,Nat.reduceAdd]at hW10;have HLI:Hid (leafI pfxB x G.c i cs=(yBl (if x.free=true then yB4 (pfxB x.leaf.s) x.leaf G.c else noH),cq)):=by show _=_;rw[HQ.out,if_neg (by simp)]
  go_upto_region 22 with fail;rw[<-hW10];clear hW10 p0 p1 p2 p3 f0 f1 f2 f3 hs10;have a3:=HW10.2.1.cell (j:=3) rfl;obtain⟨cz,hcz⟩:=qE cq;cases hfr:x.free
  .rw[hfr]at a3;obtain⟨WZ,hWZ⟩:=qE W10;obtain⟨iz,hiz⟩:=qE (yBl noH);have HZ:Hid (LkM G m g cp cz WZ/\yA WZ G.w 115 4 W2 iz.four):=by rw[hWZ,hiz,hcz];exact⟨HW10.1,HW10.2.2⟩
   have HRz:Hid (LkL G (at_+1) (m.set tn iz) cz/\at_<at_+1/\at_+1<=G.N/\1<=(m.set tn iz).length/\(m.set tn iz).length<=250):=
    HL.2.next HG.2.1 hN.out (by have:=HL.1;omega) HX.out (by
     rw[yFm ho (yDr HL.1 HI.out),HLI.out,yNe HL.1,hfr,if_neg (by simp),hiz,hcz]) (by unfold ways;rw[if_neg (by omega),if_neg (by omega)];simp) (by unfold more;rw[if_neg (by omega),if_neg (by omega),length_set];omega)
   rw[<-hWZ]at a3⊢;clear hWZ hiz hcz hfr;exact zLkF
  .rw[hfr]at a3;have a4:=HW10.2.1.cell (j:=4) rfl;have a5:=HW10.2.1.cell (j:=5) rfl;have a6:=HW10.2.1.cell (j:=6) rfl;have a7:=HW10.2.1.cell (j:=7) rfl;have a8:=HW10.2.1.cell (j:=8) rfl;have a9:=HW10.2.1.cell (j:=9) rfl;have a10:=HW10.2.1.cell (j:=10) rfl;obtain⟨c0,c1,c2,c3,c4⟩:=HW10.1.cel.c5;go_wp2_with fail;refine(yTl x.leaf G.c W10 hsx).mono ?_;rintro e w11 ⟨rfl,hb11⟩;obtain⟨hx,hhx⟩:=qE (yB4 (pfxB x.leaf.s) x.leaf G.c);rw[<-hhx];have HHX:Hid (hx=yB4 (pfxB x.leaf.s) x.leaf G.c):=hhx;have HW11:Hid (LkM G m g cp cq w11/\yA w11 G.w 115 4 W2 (yBl noH).four):=⟨HW10.1.on hb11,HW10.2.2.below hb11⟩;clear hhx hb11 a3 a4 a5 a6 a7 a8 a9 a10 c0 c1 c2 c3 c4;have p2:=HW11.2.cell (j:=2) rfl;have p3:=HW11.2.cell (j:=3) rfl;have f2:=HW11.2.frozen 2;have f3:=HW11.2.frozen 3;obtain⟨WZ,hWZ⟩:=qE (xt (w11.setCell (xd W2 2) (xi hx.rank)) W2 3 hx.txt:World);obtain⟨iz,hiz⟩:=qE (yBl hx);have HZ:Hid (LkM G m g cp cz WZ/\yA WZ G.w 115 4 W2 iz.four):=by
    have b1:=(HW11.2.set 2 (xi hx.rank)).set 3 hx.txt;rw[<-hWZ]at b1;have hc:Chg (λk=>k=W2.heap.size) w11 WZ:=by rw[hWZ];exact(Chg.of_set (S:=λk=>k=W2.heap.size) _ _ _ _ rfl).trans (Chg.of_set (S:=λk=>k=W2.heap.size) _ _ _ _ rfl)
    rw[hiz,hcz];exact⟨HW11.1.side ⟨by have:=HW11.1.gne;omega,by omega⟩ hc,b1⟩
   have HRz:Hid (LkL G (at_+1) (m.set tn iz) cz/\at_<at_+1/\at_+1<=G.N/\1<=(m.set tn iz).length/\(m.set tn iz).length<=250):=
    HL.2.next HG.2.1 hN.out (by have:=HL.1;omega) HX.out (by
     rw[yFm ho (yDr HL.1 HI.out),HLI.out,yNe HL.1,hfr,if_pos rfl,hiz,hcz,HHX.out]) (by unfold ways;rw[if_neg (by omega),if_neg (by omega)];simp) (by unfold more;rw[if_neg (by omega),if_neg (by omega),length_set];omega)
   go_upto_region 24 with fail;rw[<-hWZ];clear hWZ hiz hcz hfr p2 p3 f2 f3;exact zLkF
 .obtain⟨WZ,hWZ⟩:=qE W8;obtain⟨iz,hiz⟩:=qE i2;obtain⟨cz,hcz⟩:=qE cq;have HZ:Hid (LkM G m g cp cz WZ/\yA WZ G.w 115 4 W2 iz.four):=by rw[hWZ,hiz,hcz];exact⟨HW8.1,HW8.2.2⟩
  have HRz:Hid (LkL G (at_+1) (m.set tn iz) cz/\at_<at_+1/\at_+1<=G.N/\1<=(m.set tn iz).length/\(m.set tn iz).length<=250):=
   HL.2.next HG.2.1 hN.out (by have:=HL.1;omega) HX.out (by
    rw[yFm ho (yDr HL.1 HI.out),HQ.out,yNe HL.1,if_pos rfl,hiz,HI2.out,hcz]) (by unfold ways;rw[if_neg (by omega),if_neg (by omega)];simp) (by unfold more;rw[if_neg (by omega),if_neg (by omega),length_set];omega)
  rw[<-hWZ];clear hWZ hiz hcz;exact zLkF):p:=h
theorem zRdL (h:p:=by
 obtain⟨tn,rfl⟩:∃tn,sn=tn+1:=⟨sn-1,by omega⟩;obtain⟨i,hi⟩:∃i,m[tn]?=some i:=qg (by have:=HL.1;omega);rw[ho]at y0;have t0:=HW2.1.stk.cell yAd hi 0 (by omega);have t1:=HW2.1.stk.cell yAd hi 1 (by omega);have t2:=HW2.1.stk.cell yAd hi 2 (by omega);have t3:=HW2.1.stk.cell yAd hi 3 (by omega);simp only[getElem?_cons_zero,getElem?_cons_succ,Nat.add_zero]at t0 t1 t2 t3;have HI:Hid (m[tn]?=some i):=hi;have hgl:=HW2.1.stk.lt.2;have hgn:=yF hlf x.leaf (by simp);have hsx:x.leaf.s.size<=maxLen:=by have:=hgn.1;unfold maxLen;omega
 clear hi;obtain⟨W3,hW3⟩:=qE (xw W2 #[i.alive,i.strip,xi i.hint.rank,i.hint.txt] 115:World);have HW3:Hid (LkM G m g cp cs W3/\yA W3 G.w 153 11 wr x.ten/\yA W3 G.w 115 4 W2 i.four/\W3.heap.size=W2.heap.size+1):=by
  have k3:=qN hW3
  exact⟨HW2.1.on k3,HW2.2.1.below k3,by rw[hW3];exact yAa W2 _ HW2.1.chg.size rfl,by rw[hW3];simp⟩
 go_upto_region 10 with fail;rw[<-hW3];clear hW3 t0 t1 t2 t3;obtain⟨p0,p1⟩:=HW3.2.2.1.c2;cases hal:i.alive
 .rw[hal]at p0
  have HR:Hid (LkL G (at_+1) m cs/\at_<at_+1/\at_+1<=G.N/\1<=m.length/\m.length<=250):=
   HL.2.next HG.2.1 hN.out (by have:=HL.1;omega) HX.out (by unfold stepL;rw[if_pos ho,yDr HL.1 HI.out];simp only[leafI,hal];rfl) (by unfold ways;rw[if_neg (by omega),if_neg (by omega)];simp) (by unfold more;rw[if_neg (by omega),if_neg (by omega)];omega)
  have hr2:=HR.2.2.1;clear hal;go_wp2;go_roundw;case rel=>exact⟨at_+1,tn+1,g,cp,m,cs,hr2,hs1,hs2,rfl,by go_num,HW3.1,HL.1,HR.1⟩
  case measure=>simp[intOf];omega
 .rw[hal]at p0;have HAL:Hid (i.alive=true):=hal;clear hal;obtain⟨c0,c1,c2,c3,c4⟩:=HW3.1.cel.c5;have hsr3:G.w.heap.size+1<W3.heap.size:=by have:=HW3.1.gne;have:=HW3.1.stk.lt;omega
  have hl3:W2.heap.size<W3.heap.size:=by have:=HW3.2.2.2;omega
  obtain⟨W5,hW5⟩:=qE (xw W3 #[G.c.row,G.c.fam,G.c.qual,xu G.c.ts,(yB i G.c).val] 70:World);obtain⟨c',hc'⟩:=qE (yB i G.c);have HC:Hid (c'=yB i G.c):=hc';have HW5:Hid (LkM G m g cp cs W5/\yA W5 G.w 153 11 wr x.ten/\yA W5 G.w 115 4 W2 i.four/\yA W5 G.w 70 5 W3 c'.five):=by
   have k5:=qN hW5
   have b5:yA W5 G.w 70 5 W3 (yB i G.c).five:=by rw[hW5,yX2];exact yAa W3 _ HW3.1.chg.size rfl
   exact⟨HW3.1.on k5,HW3.2.1.below k5,HW3.2.2.1.below k5,by rw[hc'];exact b5⟩
  obtain⟨d0,d1,d2,d3,d4⟩:=HW5.2.2.2.c5;have a4:=HW5.2.1.cell (j:=4) rfl;have a5:=HW5.2.1.cell (j:=5) rfl;have a6:=HW5.2.1.cell (j:=6) rfl;have a7:=HW5.2.1.cell (j:=7) rfl;have a8:=HW5.2.1.cell (j:=8) rfl;have a9:=HW5.2.1.cell (j:=9) rfl;have a10:=HW5.2.1.cell (j:=10) rfl;have hw23:W2.heap.size<W3.heap.size:=hl3;have hwr2:wr.heap.size<W2.heap.size:=HW2.2.1.lt.2;clear hc';cases hst:i.strip
  all_goals
   rw[hst]at p1
   go_upto_region 14 with fail
   simp only[yB,hst,if_true,if_false,Bool.false_eq_true]at hW5
   rw[<-hW5]
   clear hW5 c0 c1 c2 c3 c4 p0 p1
   go_wp2_with fail
   refine(yS7 x.leaf c' W5 hsx).mono ?_
   rintro e w6 ⟨rfl,hb6⟩
   obtain⟨tb,htb⟩:=qE (tstB x.leaf c')
   have HTB:Hid (tb=tstB x.leaf c'):=htb
   rw[<-htb]
   have HW6:Hid (LkM G m g cp cs w6/\yA w6 G.w 153 11 wr x.ten/\yA w6 G.w 115 4 W2 i.four):=⟨HW5.1.on hb6,HW5.2.1.below hb6,HW5.2.2.1.below hb6⟩
   have hs6:=hb6.size
   clear htb hb6 d0 d1 d2 d3 d4 a4 a5 a6 a7 a8 a9 a10
   have a4:=HW6.2.1.cell (j:=4) rfl
   have a5:=HW6.2.1.cell (j:=5) rfl
   have a6:=HW6.2.1.cell (j:=6) rfl
   have a7:=HW6.2.1.cell (j:=7) rfl
   have a8:=HW6.2.1.cell (j:=8) rfl
   have a9:=HW6.2.1.cell (j:=9) rfl
   have a10:=HW6.2.1.cell (j:=10) rfl
   go_wp2_with fail
   refine(yW0 x.leaf w6).mono ?_
   rintro e w7 ⟨rfl,hb7⟩
   have HW7:Hid (LkM G m g cp cs w7/\yA w7 G.w 153 11 wr x.ten/\yA w7 G.w 115 4 W2 i.four):=⟨HW6.1.on hb7,HW6.2.1.below hb7,HW6.2.2.below hb7⟩
   have hs7:=hb7.size
   clear hb7 a4 a5 a6 a7 a8 a9 a10
   rcases hab with⟨hck,hA0,hA1⟩|⟨hck,hA0⟩
   .have hn1:x.leaf.n<=1000:=by have h9:=hgn.2.2.2;unfold cntK at hck;rcases h9 with⟨q,_⟩|⟨q,_⟩|⟨q,_⟩|⟨_,_,_,q⟩|⟨q,_⟩<;>omega
    obtain⟨an,han⟩:∃an:Nat,x.a=(an:Int):=⟨x.a.toNat,by omega⟩;have hank:(an:Int)<(G.nk:Int):=by have:=hK.out;have:=HG.2.2.2;omega
    obtain⟨k,hk⟩:∃k,cs[an]?=some k:=qg (by have:=HW7.1.len;omega);have HK:Hid (cs[an]?=some k/\x.a=(an:Int)):=⟨hk,han⟩;have hct:yTk x.leaf.kind=true:=by unfold yTk;exact decide_eq_true hck
    rw[hct];obtain⟨W8,hW8⟩:=qE (xw w7 #[false,xe,xe,xe,xi 0] 198:World);have HW8:Hid (LkM G m g cp cs W8/\yA W8 G.w 153 11 wr x.ten/\yA W8 G.w 115 4 W2 i.four/\yA W8 G.w 198 5 w7 newC.five):=by
     have k8:=qN hW8
     exact⟨HW7.1.on k8,HW7.2.1.below k8,HW7.2.2.below k8,by rw[hW8];exact yAa w7 _ HW7.1.chg.size rfl⟩
    have HSS:Hid (∀X:World,LkM G m g cp cs X->yA X G.w 153 11 wr x.ten->(λw':World=>xk w' wr 4 (xi x.leaf.kind)/\xk w' wr 5 x.leaf.s/\xk w' wr 6 x.leaf.hi/\xk w' wr 7 x.leaf.t/\xk w' wr 8 (xu x.leaf.lo)/\xk w' wr 9 (xu x.leaf.up)/\xk w' wr 10 (xi x.leaf.n)/\xk w' wr 1 (xi an)/\xk w' G.gc (an*5) k.used/\xk w' G.gc (an*5+1) k.row/\xk w' G.gc (an*5+2) k.fam/\xk w' G.gc (an*5+3) k.qual/\xk w' G.gc (an*5+4) (xi k.count)/\xk w' (G.w+1) 0 G.c.row/\xk w' (G.w+1) 1 G.c.fam/\xk w' (G.w+1) 2 G.c.qual/\xk w' (G.w+1) 3 (xu G.c.ts)/\xk w' (G.w+1) 4 G.c.val) X):=λX h1 h2=>
     ⟨h2.cell (j:=4) rfl,h2.cell (j:=5) rfl,h2.cell (j:=6) rfl,h2.cell (j:=7) rfl,h2.cell (j:=8) rfl,h2.cell (j:=9) rfl,h2.cell (j:=10) rfl,by rw[<-han];exact h2.cell (j:=1) rfl,
      h1.ctr.cell yGe hk 0 (by omega),h1.ctr.cell yGe hk 1 (by omega),h1.ctr.cell yGe hk 2 (by omega),h1.ctr.cell yGe hk 3 (by omega),h1.ctr.cell yGe hk 4 (by omega),
      h1.cel.cell (j:=0) rfl,h1.cel.cell (j:=1) rfl,h1.cel.cell (j:=2) rfl,h1.cel.cell (j:=3) rfl,h1.cel.cell (j:=4) rfl⟩
    have hS0:=HSS.out W8.drew (HW8.1.on ((Below.refl _ _).drew)) (HW8.2.1.below ((Below.refl _ _).drew));have hkb:=HW8.1.cb k (mem_of_getElem? hk);clear hk han;go_upto_region 17 with fail;rw[<-hW8];clear hW8;refine yAf 99 (λw':World=>xk w' wr 4 (xi x.leaf.kind)/\xk w' wr 5 x.leaf.s/\xk w' wr 6 x.leaf.hi/\xk w' wr 7 x.leaf.t/\xk w' wr 8 (xu x.leaf.lo)/\xk w' wr 9 (xu x.leaf.up)/\xk w' wr 10 (xi x.leaf.n)/\xk w' wr 1 (xi an)/\xk w' G.gc (an*5) k.used/\xk w' G.gc (an*5+1) k.row/\xk w' G.gc (an*5+2) k.fam/\xk w' G.gc (an*5+3) k.qual/\xk w' G.gc (an*5+4) (xi k.count)/\xk w' (G.w+1) 0 G.c.row/\xk w' (G.w+1) 1 G.c.fam/\xk w' (G.w+1) 2 G.c.qual/\xk w' (G.w+1) 3 (xu G.c.ts)/\xk w' (G.w+1) 4 G.c.val) (by kernel_rfl) ?_;refine ja 0 hS0 ?_;iterate 7 refine jb hS0 ?_
    refine qO 8 rfl λK hK=>?_;go_simp;refine(yY6 x.leaf k G.c W8.drew hck ⟨hkb.1,by omega⟩).mono ?_;rintro e w9 ⟨rfl,hb9⟩;obtain⟨mb,hmb⟩:=qE ((yCh x.leaf k G.c).1);obtain⟨k2,hk2⟩:=qE ((yCh x.leaf k G.c).2);rw[<-hmb,<-hk2];have HM:Hid (mb=(yCh x.leaf k G.c).1/\k2=(yCh x.leaf k G.c).2):=⟨hmb,hk2⟩;have h89:Below W8 W8 w9:=((Below.refl _ _).drew).trans hb9;have HW9:Hid (LkM G m g cp cs w9/\yA w9 G.w 153 11 wr x.ten/\yA w9 G.w 115 4 W2 i.four/\yA w9 G.w 198 5 w7 newC.five):=⟨HW8.1.on h89,HW8.2.1.below h89,HW8.2.2.1.below h89,HW8.2.2.2.below h89⟩;have hS9:=HSS.out w9 HW9.1 HW9.2.1;obtain⟨v0,v1,v2,v3,v4⟩:=HW9.2.2.2.c5;obtain⟨f0,f1,f2,f3,f4⟩:=HW9.2.2.2.f5;clear hb9 h89 hmb hk2 hS0;refine hK.out _ _ (.inr hS9) ?_;clear hK;refine jS ?_;iterate 4 refine jb hS9 ?_
    obtain⟨W10,hW10⟩:=qE (setCs w9 w7 0 k2.five:World);have hg7:g<w7.heap.size:=HW7.1.stk.lt.2;have hw27:W2.heap.size<w7.heap.size:=HW7.2.2.lt.2;have hwr7:wr.heap.size<w7.heap.size:=HW7.2.1.lt.2;have HW10:Hid (LkM G m g cp cs W10/\yA W10 G.w 153 11 wr x.ten/\yA W10 G.w 115 4 W2 i.four/\yA W10 G.w 198 5 w7 k2.five):=by
     have hc:Chg (λq=>q=w7.heap.size) w9 W10:=by rw[hW10];exact yAl (S:=λq=>q=w7.heap.size) _ rfl _ _ _
     refine⟨HW9.1.side ⟨by have:=HW9.1.gne;omega,by omega⟩ hc,HW9.2.1.chg hc (by omega),HW9.2.2.1.chg hc (by omega),?_⟩;have:=HW9.2.2.2.setCs k2.five;rw[hW10];exact this
    have hS10:=HSS.out W10 HW10.1 HW10.2.1;simp only[setCs,Nat.zero_add,Nat.reduceAdd]at hW10;refine qO 13 rfl λK hK=>?_;go_simp;rw[<-hW10];refine hK.out _ _ (.inr hS10) ?_;clear hK hW10 hS9 v0 v1 v2 v3 v4 f0 f1 f2 f3 f4;refine jS ?_;refine qD ?_;obtain⟨v0,v1,v2,v3,v4⟩:=HW10.2.2.2.c5;obtain⟨-,-,-,-,-,-,-,b1,u0,u1,u2,u3,u4,-,-,-,-,-⟩:=hS10;have fz:∀q,W10.frozen? (xd G.gc q)=false:=λq=>World.ownsRow.frozenAt HW10.1.ctr q;have f0:=fz (an*5);have f1:=fz (an*5+1);have f2:=fz (an*5+2);have f3:=fz (an*5+3);have f4:=fz (an*5+4);obtain⟨wq,hwq⟩:=qE (setCs W10 G.gc (an*5) k2.five:World);obtain⟨cq,hcq⟩:=qE (cs.set an k2);have hgcl:=HW10.1.gcl;have HWQ:Hid (LkM G m g cp cq wq/\yA wq G.w 153 11 wr x.ten/\yA wq G.w 115 4 W2 i.four):=by
     have hc:Chg (λq=>q=G.gc) W10 wq:=by rw[hwq];exact yAl (S:=λq=>q=G.gc) _ rfl _ _ _
     have hl:=HW10.1.len;refine⟨HW10.1.ctrs (by rw[hwq,hcq];exact HW10.1.ctr.setAll yGe (i:=an) (e:=k2) (by omega)) (by rw[hcq,length_set];exact hl) (λq hq=>?_) hc,HW10.2.1.chg hc (by omega),HW10.2.2.1.chg hc (by omega)⟩;rw[hcq]at hq;rcases mem_or_eq_of_mem_set hq with z|z
     .exact HW10.1.cb q z
     .rw[z,HM.2];exact xF hkb hn1
    have HQ:Hid (leafI pfxB x G.c i cs=(if mb=true then⟨true,i.strip || (x.leaf.kind==3),i.hint⟩else yBl (if x.free=true then yB4 (pfxB x.leaf.s) x.leaf G.c else noH),cq)):=by show _=_;rw[yP7 HAL.out hck (by rw[HK.2];simpa using HK.1),<-HM.1,<-HM.2,hcq,HK.2];simp
    clear fz;simp only[setCs]at hwq;go_upto_region 19 with fail;rw[<-hwq];clear hwq hcq v0 v1 v2 v3 v4 f0 f1 f2 f3 f4 b1 u0 u1 u2 u3 u4;obtain⟨tb,htb⟩:=qE mb;rw[<-htb]at HQ⊢;clear htb;exact zLkT
   .have hcf:yTk x.leaf.kind=false:=by unfold yTk;rw[decide_eq_false_iff_not];exact hck
    rw[hcf];obtain⟨wq,hwq⟩:=qE w7;obtain⟨cq,hcq⟩:=qE cs;have HWQ:Hid (LkM G m g cp cq wq/\yA wq G.w 153 11 wr x.ten/\yA wq G.w 115 4 W2 i.four):=by rw[hwq,hcq];exact HW7.out
    have HQ:Hid (leafI pfxB x G.c i cs=(if tb=true then⟨true,i.strip || (x.leaf.kind==3),i.hint⟩else yBl (if x.free=true then yB4 (pfxB x.leaf.s) x.leaf G.c else noH),cq)):=by show _=_;rw[yVa HAL.out hck,<-HC.out,<-HTB.out,hcq]
    rw[<-hwq]at hs7⊢;clear hwq hcq;exact zLkT):p:=h
theorem zRdB (h:p:=by
 obtain⟨an,han⟩:∃an:Nat,x.a=(an:Int):=⟨x.a.toNat,by omega⟩;obtain⟨bv,hbv⟩:∃bv,G.conds[an]?=some bv:=qg (by have:=HG.2.2.1;omega);obtain⟨bc,oc,hca,hcc,-,-⟩:=HW2.1.cnd an bv hbv;have hnc:(an:Int)<(G.nC:Int):=by have:=HG.2.2.1;have:=hC.out;omega
 have HBV:Hid (G.conds[x.a.toNat]?=some bv):=by show _=_;rw[han];simpa using hbv
 rw[han]at y1;rw[ho]at y0;have HCA:Hid (G.ca=some ⟨bc,oc,none⟩):=hca;rw[hca];clear hbv ha0 ha1 hca;have zb:((x.b.toNat:Nat):Int)=x.b:=by omega
 cases bv
 .have HR:Hid (LkL G x.b.toNat m cs/\at_<x.b.toNat/\x.b.toNat<=G.N/\1<=m.length/\m.length<=250):=
   HL.2.next HG.2.1 hN.out (by have:=HL.1;omega) HX.out (by unfold stepL;rw[if_neg (by omega),if_neg (by omega),if_neg (by omega),if_neg (by omega),if_pos ho,if_pos HBV.out]) (by unfold ways;rw[if_pos ho];simp) (by unfold more;rw[if_neg (by omega),if_neg (by omega)];omega)
  have hr1:=HR.2.1;have hr2:=HR.2.2.1;go_wp2_with fail;rw[<-HCA.out];exact xCu
 .have HR:Hid (LkL G (at_+1) m cs/\at_<at_+1/\at_+1<=G.N/\1<=m.length/\m.length<=250):=
   HL.2.next HG.2.1 hN.out (by have:=HL.1;omega) HX.out (by unfold stepL;rw[if_neg (by omega),if_neg (by omega),if_neg (by omega),if_neg (by omega),if_pos ho,if_neg (by rw[HBV.out];simp)]) (by unfold ways;rw[if_pos ho];simp) (by unfold more;rw[if_neg (by omega),if_neg (by omega)];omega)
  have hr2:=HR.2.2.1;go_wp2_with fail;rw[<-HCA.out];go_roundw;case rel=>exact⟨at_+1,sn,g,cp,m,cs,hr2,hs1,hs2,rfl,by go_num,HW2.1,HL.1,HR.1⟩
  case measure=>simp[intOf];omega):p:=h
theorem zRdJ (h:p:=by
 have zb:((x.b.toNat:Nat):Int)=x.b:=by omega
 have HR:Hid (LkL G x.b.toNat m cs/\at_<x.b.toNat/\x.b.toNat<=G.N/\1<=m.length/\m.length<=250):=
  HL.2.next HG.2.1 hN.out (by have:=HL.1;omega) HX.out (by unfold stepL;rw[if_neg (by omega),if_neg (by omega),if_neg (by omega),if_neg (by omega),if_neg (by omega),if_pos ho]) (by unfold ways;rw[if_neg (by omega),if_pos ho];simp) (by unfold more;rw[if_neg (by omega),if_neg (by omega)];omega)
 rw[ho]at y0;have hr1:=HR.2.1;have hr2:=HR.2.2.1;go_wp2_with fail;exact xCu):p:=h
theorem zRdD (h:p:=by
 obtain⟨i,hi⟩:∃i,m[tn]?=some i:=qg (by have:=HL.1;omega);rw[ho]at y0;have t0:=HW2.1.stk.cell yAd hi 0 (by omega);have t1:=HW2.1.stk.cell yAd hi 1 (by omega);have t2:=HW2.1.stk.cell yAd hi 2 (by omega);have t3:=HW2.1.stk.cell yAd hi 3 (by omega);simp only[getElem?_cons_zero,getElem?_cons_succ,Nat.add_zero]at t0 t1 t2 t3;obtain⟨W3,hW3⟩:=qE (xw W2 #[i.alive,i.strip,xi i.hint.rank,i.hint.txt] 115:World);have HW3:Hid (LkM G m g cp cs W3/\(∀j u,i.four[j]?=some u->(xk W3 W2 j u:Prop))):=by
  have hb3:=qN hW3
  exact⟨HW2.1.on hb3,by rw[hW3];exact yBm W2 i.four _⟩
 have HI:Hid (m[tn]?=some i):=hi;have hgl:=HW3.1.stk.lt;have z3:=qS hW3
 clear hi;go_wp2_with (at_builtin;(try rw[<-hW3]);refine yDb yAd _ rfl _ _ 199 rfl underlying199 Tryz.infoItm rfl (by decide) (by decide) yG2 G.w g cp (tn+1) W2 1 m i rfl rfl HL.1 HW3.1.stk HW3.2 ?hl ?hb ?_);case hl=>rw[<-HL.1];omega
 case hb=>omega
 intro g' cp' w' hO' hgr hat';have hgr2:W3.grownBy w' (some g):=by first|exact hgr|(rw[hW3];exact hgr)
 have HR:Hid (LkL G (at_+1) (m++ [i]) cs/\at_<at_+1/\at_+1<=G.N/\1<=(m++ [i]).length/\(m++ [i]).length<=250):=
  HL.2.next HG.2.1 hN.out (by have:=HL.1;omega) HX.out (by unfold stepL;rw[if_neg (by omega),if_pos ho,reverse_append,yDr HL.1 HI.out];rfl) (by unfold ways;rw[if_neg (by omega),if_neg (by omega)];simp) (by unfold more;rw[if_pos ho];simp)
 have HR2:Hid (LkM G (m++ [i]) g' cp' cs w'/\tn+1+1=(m++ [i]).length):=
  ⟨HW3.1.grow hO' (by have:=HW3.1.gne;have:=HW3.1.chg.size;omega) (Chg.of_grown hgr2 (λk hk=>by cases hk;rfl)),by rw[length_append,<-HL.1];rfl⟩
 have hr2:=HR.2.2.1;have hr3:tn+1+1<=250:=by have:=HR.2.2.2.2;have:=HR2.2;omega
 clear hO' hgr hgr2 hat' hW3;go_wp2;go_roundw;case rel=>exact⟨at_+1,tn+1+1,g',cp',m++ [i],cs,hr2,by omega,hr3,rfl,by go_num,HR2.1,HR2.2,HR.1⟩
 case measure=>simp[intOf];omega):p:=h
theorem zRdS (h:p:=by
 obtain⟨un,rfl⟩:∃un,tn=un+1:=⟨tn-1,by rw[ho]at hle;unfold least at hle;rw[if_pos (by omega)]at hle;omega⟩;obtain⟨i,hi⟩:∃i,m[un+1]?=some i:=qg (by have:=HL.1;omega);obtain⟨j,hj⟩:∃j,m[un]?=some j:=qg (by have:=HL.1;omega);rw[ho]at y0;have t0:=HW2.1.stk.cell yAd hi 0 (by omega);have t1:=HW2.1.stk.cell yAd hi 1 (by omega);have t2:=HW2.1.stk.cell yAd hi 2 (by omega);have t3:=HW2.1.stk.cell yAd hi 3 (by omega);have s0:=HW2.1.stk.cell yAd hj 0 (by omega);have s1:=HW2.1.stk.cell yAd hj 1 (by omega);have s2:=HW2.1.stk.cell yAd hj 2 (by omega);have s3:=HW2.1.stk.cell yAd hj 3 (by omega);simp only[getElem?_cons_zero,getElem?_cons_succ,Nat.add_zero]at t0 t1 t2 t3 s0 s1 s2 s3;have HI:Hid (m[un+1]?=some i/\m[un]?=some j):=⟨hi,hj⟩;have hgl:=HW2.1.stk.lt.2;have fz:∀k,W2.frozen? (xd g k)=false:=λk=>World.ownsRow.frozenAt HW2.1.stk k;have f0:=fz ((un+1)*4);have f1:=fz ((un+1)*4+1);have f2:=fz ((un+1)*4+2);have f3:=fz ((un+1)*4+3);have e0:=fz (un*4);have e1:=fz (un*4+1);have e2:=fz (un*4+2);have e3:=fz (un*4+3);clear hi hj fz;go_upto_region 45 with fail;obtain⟨W9,hW9⟩:=qE (xw (setCs (setCs W2 g ((un+1)*4) j.four) g (un*4) i.four) #[i.alive,i.strip,xi i.hint.rank,i.hint.txt] 115:World);have HR2:Hid (LkM G (m.take un++ [i,j]) g cp cs W9/\un+1+1=(m.take un++ [i,j]).length):=by
  have hm:=HL.1;have o1:=(HW2.1.stk.setAll yAd (i:=un+1) (e:=j) (by omega)).setAll yAd (i:=un) (e:=i) (by rw[length_set];omega);rw[yPb HL.1 HI.1 HI.2]at o1;have k9:Below (setCs (setCs W2 g ((un+1)*4) j.four) g (un*4) i.four).heap.size (setCs (setCs W2 g ((un+1)*4) j.four) g (un*4) i.four) W9:=by rw[hW9];exact qB
  exact⟨HW2.1.grow (o1.below k9) HW2.1.gne (((yAl (S:=λk=>k=g) g rfl _ _ _).trans (yAl (S:=λk=>k=g) g rfl _ _ _)).trans (Chg.of_below k9)),by rw[length_append,length_take];simp;omega⟩
 have HR:Hid (LkL G (at_+1) (m.take un++ [i,j]) cs/\at_<at_+1/\at_+1<=G.N/\1<=(m.take un++ [i,j]).length/\(m.take un++ [i,j]).length<=250):=
  HL.2.next HG.2.1 hN.out (by have:=HL.1;omega) HX.out (by unfold stepL;rw[if_neg (by omega),if_neg (by omega),if_pos ho];rw[yNm HL.1 HI.1 HI.2,reverse_append];rfl) (by unfold ways;rw[if_neg (by omega),if_neg (by omega)];simp) (by unfold more;rw[if_neg (by omega),if_neg (by omega),<-HR2.2,<-HL.1];omega)
 have hr2:=HR.2.2.1;have hW9':W9=_:=hW9;simp only[setCs]at hW9';rw[<-hW9'];clear hW9 hW9';go_wp2;go_roundw;case rel=>exact⟨at_+1,un+1+1,g,cp,m.take un++ [i,j],cs,hr2,by omega,hs2,rfl,by go_num,HR2.1,HR2.2,HR.1⟩
 case measure=>simp[intOf];omega):p:=h
theorem zRdI (h:p:=by
 obtain⟨un,rfl⟩:∃un,tn=un+1:=⟨tn-1,by rw[ho]at hle;unfold least at hle;rw[if_pos (by omega)]at hle;omega⟩;obtain⟨i,hi⟩:∃i,m[un+1]?=some i:=qg (by have:=HL.1;omega);obtain⟨j,hj⟩:∃j,m[un]?=some j:=qg (by have:=HL.1;omega);rw[ho]at y0;have t0:=HW2.1.stk.cell yAd hi 0 (by omega);have t1:=HW2.1.stk.cell yAd hi 1 (by omega);have t2:=HW2.1.stk.cell yAd hi 2 (by omega);have t3:=HW2.1.stk.cell yAd hi 3 (by omega);have s0:=HW2.1.stk.cell yAd hj 0 (by omega);have s1:=HW2.1.stk.cell yAd hj 1 (by omega);have s2:=HW2.1.stk.cell yAd hj 2 (by omega);have s3:=HW2.1.stk.cell yAd hj 3 (by omega);simp only[getElem?_cons_zero,getElem?_cons_succ,Nat.add_zero]at t0 t1 t2 t3 s0 s1 s2 s3;have HI:Hid (m[un+1]?=some i/\m[un]?=some j):=⟨hi,hj⟩;have hgl:=HW2.1.stk.lt.2;clear hi hj;obtain⟨W3,hW3⟩:=qE (xw (W2.alloc (Obj.cells #[i.alive,i.strip,xi i.hint.rank,i.hint.txt] 115)) #[j.alive,j.strip,xi j.hint.rank,j.hint.txt] 115:World);have HW3:Hid (LkM G m g cp cs W3/\yA W3 G.w 115 4 W2 i.four/\yA W3 G.w 115 4 (W2+1) j.four/\W3.heap.size=W2.heap.size+1+1):=by
  obtain⟨X,hX⟩:=qE (xw W2 #[i.alive,i.strip,xi i.hint.rank,i.hint.txt] 115:World);rw[<-hX]at hW3;have zx:=qS hX
  have k1:=qN hX
  have k2:=qN hW3
  have sz:=HW2.1.chg.size;have b1:yA X G.w 115 4 W2 i.four:=by rw[hX];exact yAa W2 _ sz rfl
  exact⟨(HW2.1.on k1).on k2,b1.below k2,by rw[hW3,<-zx];exact yAa X _ (by omega) rfl,by rw[hW3];simp;omega⟩
 go_upto_region 34 with fail;rw[<-hW3];clear hW3 t0 t1 t2 t3 s0 s1 s2 s3;have t2:=HW3.2.1.cell (j:=2) rfl;have t3:=HW3.2.1.cell (j:=3) rfl;have s2:=HW3.2.2.1.cell (j:=2) rfl;have s3:=HW3.2.2.1.cell (j:=3) rfl;go_wp2_with fail;refine(ySy j.hint i.hint W3).mono ?_;rintro e w4 ⟨rfl,hb4⟩;obtain⟨hh,hhh⟩:=qE (yN7 j.hint i.hint);rw[<-hhh];have HH:Hid (hh=yN7 j.hint i.hint):=hhh;obtain⟨W5,hW5⟩:=qE (xw w4 #[false,false,xi hh.rank,hh.txt] 115:World);have HW5:Hid (LkM G m g cp cs W5/\yA W5 G.w 115 4 W2 i.four/\yA W5 G.w 115 4 (W2+1) j.four/\yA W5 G.w 115 4 w4 (yBl hh).four):=by
  have k5:=qN hW5
  have sz:=HW3.1.chg.size;have sb:=hb4.size;exact⟨(HW3.1.on hb4).on k5,(HW3.2.1.below hb4).below k5,(HW3.2.2.1.below hb4).below k5,by rw[hW5];exact yAa w4 _ (by omega) rfl⟩
 have hz4:W2.heap.size+1+1<=w4.heap.size:=by have:=hb4.size;have:=HW3.2.2.2;omega
 clear hhh hb4 t2 t3 s2 s3;obtain⟨t0,t1,t2,t3⟩:xk W5 W2 0 i.alive/\xk W5 W2 1 i.strip/\xk W5 W2 2 (xi i.hint.rank)/\xk W5 W2 3 i.hint.txt:=⟨HW5.2.1.cell (j:=0) rfl,HW5.2.1.cell (j:=1) rfl,HW5.2.1.cell (j:=2) rfl,HW5.2.1.cell (j:=3) rfl⟩;obtain⟨s0,s1,s2,s3⟩:xk W5 (W2+1) 0 j.alive/\xk W5 (W2+1) 1 j.strip/\xk W5 (W2+1) 2 (xi j.hint.rank)/\xk W5 (W2+1) 3 j.hint.txt:=⟨HW5.2.2.1.cell (j:=0) rfl,HW5.2.2.1.cell (j:=1) rfl,HW5.2.2.1.cell (j:=2) rfl,HW5.2.2.1.cell (j:=3) rfl⟩;obtain⟨f0,f1,f2,f3⟩:=HW5.2.2.2.f4;obtain⟨v0,v1,v2,v3⟩:=HW5.2.2.2.c4;go_upto_region 35 with fail;rw[<-hW5];clear hW5;obtain⟨ia,hia⟩:=qE i.alive;obtain⟨ja,hja⟩:=qE j.alive;rw[<-hia]at t0;rw[<-hja]at s0;have HIA:Hid (ia=i.alive/\ja=j.alive):=⟨hia,hja⟩;clear hia hja
 obtain⟨W7,it,hW7,HW7⟩:∃(W7:World) (it:It),W7=(if ja=true then setCs (if ia=true then setCs W5 w4 0 [true,i.strip,xi i.hint.rank,i.hint.txt]else W5) w4 0 [true,j.strip,xi j.hint.rank,j.hint.txt]else if ia=true then setCs W5 w4 0 [true,i.strip,xi i.hint.rank,i.hint.txt]else W5)/\
   Hid (LkM G m g cp cs W7/\yA W7 G.w 115 4 w4 it.four/\it=yTh j i):=by
  have hgn:¬w4.heap.size=g:=by omega
  have hgs:G.w.heap.size+1+1<w4.heap.size:=by have:=HW2.1.gne;omega
  obtain⟨h1,h2⟩:=HIA.out;have hi2:ia=true-> [Value.bool true,i.strip,xi i.hint.rank,i.hint.txt]=i.four:=λq=>by unfold It.four;rw[<-h1,q]
  have hj2:ja=true-> [Value.bool true,j.strip,xi j.hint.rank,j.hint.txt]=j.four:=λq=>by unfold It.four;rw[<-h2,q]
  obtain⟨W6,hW6⟩:=qE ((if ia=true then setCs W5 w4 0 [true,i.strip,xi i.hint.rank,i.hint.txt]else W5):World);have H6:∃i6:It,LkM G m g cp cs W6/\yA W6 G.w 115 4 w4 i6.four/\i6=(if i.alive=true then i else yBl hh):=by
   cases ia
   .rw[if_neg (by simp)]at hW6;rw[hW6];exact⟨yBl hh,HW5.1,HW5.2.2.2,by rw[<-h1];rfl⟩
   .rw[if_pos rfl,hi2 rfl]at hW6;obtain⟨q1,q2⟩:=yEo HW5.2.2.2 hW6;exact⟨i,HW5.1.side ⟨hgs,hgn⟩ q2,q1,by rw[<-h1];rfl⟩
  obtain⟨i6,l6,b6,e6⟩:=H6;rw[<-hW6];cases ja
  .refine⟨W6,i6,by simp,l6,b6,?_⟩;rw[e6];unfold yTh;rw[<-h2];simp[HH.out]
  .obtain⟨W7,hW7⟩:=qE (setCs W6 w4 0 j.four:World);obtain⟨q1,q2⟩:=yEo b6 hW7;refine⟨W7,j,by rw[if_pos rfl,hj2 rfl];exact hW7,l6.side ⟨hgs,hgn⟩ q2,q1,?_⟩;unfold yTh;rw[<-h2,if_pos rfl]
 have hsw:w4.heap.size<W7.heap.size:=HW7.2.1.lt.2;have hcap:=HW7.1.stk.caps;rw[<-HL.1]at hcap;have hwu:IntKind.i64.wrap ((un:Nat):Int)=(un:Int):=by rw[IntKind.wrap_i64];omega
 have hcu:(un:Int)<=(cp:Int):=by omega
 have hnn:0<=(un:Int):=by omega
 have HUN:Hid (un<=m.length):=by have:=HL.1;show un<=_;omega
 obtain⟨V8,hV8⟩:=qE ((W7.alloc (Obj.cells #[it.alive,it.strip,xi it.hint.rank,it.hint.txt] 115)).drew:World);have HV8:Hid (LkM G m g cp cs V8/\(∀j u,it.four[j]?=some u->(xk V8 W7 j u:Prop))/\yA V8 G.w 115 4 w4 it.four/\V8.heap.size=W7.heap.size+1):=by
  have k8:Below W7 W7 V8:=by rw[hV8];exact(qB).drew
  exact⟨HW7.1.on k8,by rw[hV8];exact yBm W7 it.four _,HW7.2.1.below k8,by rw[hV8];simp⟩
 have hS0:SW (λw':World=>xk w' w4 0 it.alive/\xk w' w4 1 it.strip/\xk w' w4 2 (xi it.hint.rank)/\xk w' w4 3 it.hint.txt) W7.drew:=⟨HW7.2.1.cell (j:=0) rfl,HW7.2.1.cell (j:=1) rfl,HW7.2.1.cell (j:=2) rfl,HW7.2.1.cell (j:=3) rfl⟩;have hS8:=SWm hS0 V8 <|⟨HV8.2.2.1.cell (j:=0) rfl,HV8.2.2.1.cell (j:=1) rfl,HV8.2.2.1.cell (j:=2) rfl,HV8.2.2.1.cell (j:=3) rfl⟩;cases ia<;>cases ja<;>simp only[Bool.false_eq_true,if_false,if_true,setCs,Nat.zero_add,Nat.reduceAdd]at hW7
 all_goals
  go_upto_region 39 with fail
  rw[<-hW7]
  clear hW7 t0 t1 t2 t3 s0 s1 s2 s3 f0 f1 f2 f3 v0 v1 v2 v3
  refine wpR 99 hS8 ?_
  refine ja 0 hS0 ?_
  iterate 4 refine jb hS0 ?_
  refine qO 5 rfl λK hK=>?_
  go_simp
  rw[<-hV8]
  refine hK.out _ _ (.inr hS8) ?_
  clear hK hV8
  refine jS ?_
  refine qO 6 rfl λK hK=>?_
  refine yE yAd _ rfl _ _ 199 rfl underlying199 Tryz.infoItm rfl (by decide) (by decide) yG2 G.w g cp un W7 1 (m.take un) it rfl rfl (by rw[length_take,Nat.min_eq_left HUN.out]) (HV8.1.stk.take yAd HUN.out) HV8.2.1 (by rw[length_take];omega) (by have:=HV8.1.chg.size;omega) ?_
  intro g' cp' w' hO' hgr hat'
  have hc9:Chg (λk=>k=g) V8 w':=Chg.of_grown hgr (λk hk=>by cases hk;rfl)
  have hlen:(m.take un++ [it]).length=un+1:=by rw[length_append,length_take,Nat.min_eq_left HUN.out];rfl
  have HR:Hid (LkL G (at_+1) (m.take un++ [it]) cs/\at_<at_+1/\at_+1<=G.N/\1<=(m.take un++ [it]).length/\(m.take un++ [it]).length<=250):=
   HL.2.next HG.2.1 hN.out (by have:=HL.1;omega) HX.out (by unfold stepL;rw[if_neg (by omega),if_neg (by omega),if_neg (by omega),if_pos ho,yNm HL.1 HI.1 HI.2,reverse_append,HW7.2.2];rfl) (by unfold ways;rw[if_neg (by omega),if_neg (by omega)];simp) (by unfold more;rw[if_neg (by omega),if_pos ho,hlen,<-HL.1];omega)
  have HR2:Hid (LkM G (m.take un++ [it]) g' cp' cs w'/\un+1=(m.take un++ [it]).length):=
   ⟨HV8.1.grow hO' (by have:=HV8.1.gne;have:=HV8.1.stk.lt;omega) hc9,hlen.symm⟩
  have b9:=HV8.2.2.1.chg hc9 (by omega)
  have hS9:=SWm hS8 w' <|⟨b9.cell (j:=0) rfl,b9.cell (j:=1) rfl,b9.cell (j:=2) rfl,b9.cell (j:=3) rfl⟩
  have hr2:=HR.2.2.1
  clear hO' hgr hat' hc9 b9 hlen
  refine hK.out _ _ (.inr hS9) ?_
  clear hK
  refine jS ?_
  refine qO 7 rfl λK hK=>?_
  go_simp
  refine hK.out _ _ (.inr hS9) ?_
  clear hK hS0 hS8 hS9
  refine jS ?_
  refine qD ?_
  go_wp2_with fail
  go_roundw
  case rel=>exact⟨at_+1,un+1,g',cp',m.take un++ [it],cs,hr2,by omega,by omega,rfl,by go_num,HR2.1,HR2.2,HR.1⟩
  case measure=>simp[intOf];omega):p:=h
theorem yS5 (G:LkG) (nc:Nat) (hB:yBe G.l G.cnt nc) (hD:yUc G.l G.d) (hnc:nc<=G.conds.length) (hcn:(G.cs0.length:Int)=G.cnt) (cc:Nat) (hN:Hid (G.N=G.l.length)) (hK:Hid (G.nk=G.cs0.length)) (hC:Hid (G.nC=G.conds.length))
  (hI:yB5 G.w G.bI G.oI G.l) (hIl:G.bI<G.w.heap.size/\¬G.bI=G.gc) (hIc:G.N<=G.cI/\G.cI<=maxLen) (hO:yF0 G.w G.b0 G.gc G.cpc G.cs0) (hcb:∀k∈G.cs0,0<=k.count/\k.count<=1000)
  (hcd:∀(i:Nat) (b:Bool),G.conds[i]?=some b->∃bc oc,G.ca=some ⟨bc,oc,none⟩/\xk G.w bc (oc+i) b/\bc<G.w.heap.size/\¬bc=G.gc):
  Calls prog 58 #[.agg #[.slice (some ⟨G.bI,G.oI,none⟩) G.N G.cI,xi G.cnt],G.c.c,xg G.gc G.nk G.cpc,.slice G.ca G.nC cc] G.w (LkP G):=by
 obtain⟨W0,a0⟩:=qE (xw ((G.w.alloc (Obj.cells #[.slice (some ⟨G.bI,G.oI,none⟩) G.N G.cI,xi G.cnt] 32)).alloc (Obj.cells #[G.c.row,G.c.fam,G.c.qual,xu G.c.ts,G.c.val] 70)) #[false,false,xi 0,xe] 115:World);obtain⟨W1,a2⟩:=qE (xw W0 #[true,false,xi 0,xe] 115:World);have H1:Hid (LkM G [newI] (G.w+1+1+1) 1 G.cs0 W1):=by
  obtain⟨X,hX⟩:=qE (xw G.w #[.slice (some ⟨G.bI,G.oI,none⟩) G.N G.cI,xi G.cnt] 32:World);rw[<-hX]at a0;obtain⟨Y,hY⟩:=qE (xw X #[G.c.row,G.c.fam,G.c.qual,xu G.c.ts,G.c.val] 70:World);rw[<-hY]at a0;have zx:=qS hX
  have zy:Y.heap.size=G.w.heap.size+1+1:=by rw[hY];simp;omega
  have zz:W0.heap.size=G.w.heap.size+1+1+1:=by rw[a0];simp;omega
  have k1:=qN hX
  have k2:=qN hY
  have k3:=qN a0
  have k4:=qN a2
  have k9:Below G.w G.w W1:=((k1.trans (k2.mono (by omega))).trans (k3.mono (by omega))).trans (k4.mono (by omega));have b1:yA X G.w 32 2 G.w [.slice (some ⟨G.bI,G.oI,none⟩) G.N G.cI,xi G.cnt]:=by rw[hX];exact yAa G.w _ qr rfl
  have b2:yA Y G.w 70 5 (G.w+1) G.c.five:=by rw[hY,<-zx];exact yAa X _ (by omega) rfl
  have b3:yA W0 G.w 115 4 (G.w+1+1) (yBl noH).four:=by rw[a0,<-zy];exact yAa Y _ (by omega) rfl
  have b4:yA W1 G.w 115 4 (G.w+1+1+1) newI.four:=by rw[a2,<-zz];exact yAa W0 _ (by omega) rfl
  exact⟨((b1.below k2).below k3).below k4,(b2.below k3).below k4,b3.below k4,b4,by omega,hO.below k9,hO.lt.2,hIl,hI.below k9 hIl.1,
   λi b hi=>by
    obtain⟨bc,oc,h1,h2,h3,h4⟩:=hcd i b hi
    exact⟨bc,oc,h1,((Chg.of_below k9 (S:=λ_=>False)).cell (p:=(xd bc (oc+i))) h3 (λq=>q)).trans h2,h3,h4⟩,
   Chg.of_below k9,hK.out.symm,hcb⟩
 have ai:G.N<=4000:=by have:=hB.2.1;have:=hN.out;omega
 have HG:Hid (yBe G.l G.cnt nc/\yUc G.l G.d/\nc<=G.conds.length/\(G.cs0.length:Int)=G.cnt):=⟨hB,hD,hnc,hcn⟩;clear hB hD hnc hcn hI hO hcb hcd hIl;unfold maxLen at hIc;go_enter func58,ntmps58;go_upto_region 2 with fail;rw[<-a0,<-a2];clear a0 a2;go_wp2_with fail;go_loopw[10,11] (λsv kv wr=>∃(at_ sn g cp:Nat) (m:List It) (cs:List Ctr),at_<=G.N/\1<=sn/\sn<=250/\sv=(xg g sn cp)/\kv=(xi at_)/\Hid (LkM G m g cp cs wr/\sn=m.length/\LkL G at_ m cs)) (λ_ kv _=>G.N-(intOf kv).toNat);case atStart=>exact⟨0,1,_,1,[newI],G.cs0,zero_le _,Nat.le_refl _,by omega,rfl,rfl,H1.out,rfl,HG.2.1.start.symm,zero_le _,λr h=>h⟩
 case round=>
  clear H1;obtain⟨at_,sn,g,cp,m,cs,aj,hs1,hs2,rfl,rfl,HJ⟩:=hrel;have c0:=HJ.1.blk.cell (j:=0) rfl;by_cases hlt:at_<G.N
  .obtain⟨x,hx⟩:∃x,G.l[at_]?=some x:=qg (by have:=hN.out;omega);obtain⟨x0,x1,x2,x3,x4,x5,x6,x7,x8,x9,ad⟩:=HJ.1.ins at_ x hx;have HX:Hid (G.l[at_]?=some x):=hx;clear hx;have z:(at_:Int)<(G.N:Int):=by omega
   obtain⟨W2,a1⟩:=qE (xw wr #[xi x.op,xi x.a,xi x.b,x.free,xi x.leaf.kind,x.leaf.s,x.leaf.hi,x.leaf.t,xu x.leaf.lo,xu x.leaf.up,xi x.leaf.n] 153:World);have HW2:Hid (LkM G m g cp cs W2/\yA W2 G.w 153 11 wr x.ten/\Below wr wr W2):=by
    have hb:=qN a1
    exact⟨HJ.1.on hb,by rw[a1];exact yAa wr _ HJ.1.chg.size rfl,hb⟩
   have HL:Hid (sn=m.length/\LkL G at_ m cs):=HJ.2;have ac:yCy x at_ G.l.length G.cnt nc:=yC3 HG.1 HX.out;have hle:=HL.2.least HG.2.1 (by have:=HL.1;omega) HX.out;rw[<-HL.1]at hle;rw[<-hN.out]at ac;have ag:=HJ.1.chg.size;clear HJ;go_upto_region 5 with fail;rw[<-a1];clear a1 x0 x1 x2 x3 x4 x5 x6 x7 x8 x9 ad c0;obtain⟨y0,y1,y2⟩:=HW2.2.1.c3;rcases ac with⟨ho,hlf,af,hab⟩|⟨ho,aa,ha0,ha1,hkb,ae⟩|⟨ho,aa,ha0,hkb,ae⟩|⟨ho,aa,ha0,af⟩
   .as_aux_lemma=>exact zRdL
   .exact zRdB
   .exact zRdJ
   .obtain⟨tn,rfl⟩:∃tn,sn=tn+1:=⟨sn-1,by omega⟩;rcases ho with ho|ho|ho
    .exact zRdD
    .exact zRdS
    .exact zRdI
  .have z:¬(at_:Int)<(G.N:Int):=by omega
   have ab:m.length=1:=by
    have h1:=HJ.2.2.1;have h2:at_=G.l.length:=by have:=hN.out;omega
    rw[h2,HG.2.1.last]at h1;exact h1
   obtain⟨i,rfl⟩:∃i,m= [i]:=List.length_eq_one_iff.1 ab;obtain rfl:sn=1:=HJ.2.1;have t0:=HJ.1.stk.cell yAd (i:=0) (e:=i) rfl 0 (by omega);have t1:=HJ.1.stk.cell yAd (i:=0) (e:=i) rfl 1 (by omega);have t2:=HJ.1.stk.cell yAd (i:=0) (e:=i) rfl 2 (by omega);have t3:=HJ.1.stk.cell yAd (i:=0) (e:=i) rfl 3 (by omega);simp only[getElem?_cons_zero,getElem?_cons_succ,Nat.zero_mul,Nat.zero_add]at t0 t1 t2 t3;obtain⟨f0,f1,f2,f3⟩:=HJ.1.res.f4;obtain⟨v0,v1,v2,v3⟩:=HJ.1.res.c4;obtain⟨W9,hW9⟩:=qE (setCs wr (G.w+1+1) 0 i.four:World);obtain⟨b9,c9⟩:=yEo HJ.1.res hW9;have ah:=HJ.1.gcl
   have HR:Hid (LkP G (.returned (.tuple #[i.v,xg G.gc G.nk G.cpc])) W9):=
    ⟨i,cs,HJ.2.2.2.2 _ (.fin (by have:=hN.out;show¬at_<_;omega) rfl),rfl,HJ.1.len,HJ.1.ctr.chg c9 (by omega),HJ.1.cb,HJ.1.chg.absorb c9 (λj q=>.inr (by omega))⟩
   obtain⟨q0,q1,q2,q3⟩:=b9.c4;simp only[setCs,Nat.zero_add,Nat.reduceAdd]at hW9;clear b9 c9 HJ ab;go_wp2_with fail;rw[<-hW9];exact bodyPost_ret (v:=.tuple #[i.v,xg G.gc G.nk G.cpc]) (by simp[results,results58,go_sem,q0,q1,q2,q3]) rfl HR.out
structure LfJ (w:World) (n:Nd) (b off cap:Nat) (es:List Ent) (g cp:Nat) (L:List Ent) (wr:World):Prop where
 own:OwnC wr w g cp L
 box:yA wr w 83 7 w n.seven
 row:CSl wr b off cap es
 low:b<w.heap.size
 below:Below w w wr
variable {b cp k:Nat} {es:List Ent}
theorem LfJ.set {n:Nd} {off:Nat} {g:Nat} {L:List Ent} {X:World} (h:LfJ w n b off cap es g cp L X) (hk:w.heap.size<k) (hg:¬g=k) (j:Nat) (u:Value):LfJ w n b off cap es g cp L (xt X k j u):=by have hc:Chg (λq=>q=k) X (xt X k j u):=Chg.of_set _ _ _ _ rfl;have a0:=h.low;have hs:=h.below.size;exact⟨yAh h.own hc (λq z=>by simp[Value.ownBlock]at z;subst z;exact hg),h.box.chg hc qo,h.row.chg hc (by omega),a0,Chg.below h.below hc hs (λq z=>by omega)⟩
def yE0 (es:List Ent) (i k:Nat):Bool:=(es[k]?.map λx=>x.row.toList)==(es[i]?.map λx=>x.row.toList)
def yLe (es:List Ent) (i:Nat):Nat->Nat->Nat
 |0,j=>j
 |f+1,j=>if j<es.length then(if yE0 es i j then yLe es i f (j+1)else j)else j
def rEnd (es:List Ent) (i:Nat):Nat:=yLe es i (es.length-i) i
structure yIt (es:List Ent) (i j:Nat):Prop where
 lt:i<j
 le:j<=es.length
 same:∀k,i<=k->k<j->yE0 es i k=true
 other:j<es.length->yE0 es i j=false
variable {i:Nat}
theorem yUw (h:yIt es i j):∀(f k:Nat),i<=k->k<=j->j-k<=f->yLe es i f k=j
 |0,k,_,hk,hf=>by unfold yLe;omega
 |f+1,k,h1,hk,hf=>by
  unfold yLe
  by_cases hkj:k=j
  .subst hkj
   by_cases hl:k<es.length
   .rw[if_pos hl,h.other hl];rfl
   .rw[if_neg hl]
  .have hlt:k<j:=qo
   rw[if_pos (qw h.le),h.same k h1 hlt,if_pos rfl]
   exact yUw h f (k+1) qo qo qo
theorem xEq (h:yIt es i j):rEnd es i=j:=yUw h _ i qr (Nat.le_of_lt h.lt) (qw h.le)
def yFx (es:List Ent):Nat->Nat->List (Nat×Nat)
 |0,_=> []
 |f+1,i=>if i<es.length then(i,rEnd es i)::yFx es f (rEnd es i)else []
def allC (es:List Ent) (i:Nat):List (Nat×Nat):=yFx es (es.length-i) i
theorem yMq (hE:∀i,i<es.length->i<rEnd es i):∀(f g i:Nat),es.length-i<=f->es.length-i<=g->yFx es f i=yFx es g i
 |0,0,i,_,_=>rfl
 |0,g+1,i,h1,_=>by unfold yFx;rw[if_neg qo]
 |f+1,0,i,_,h2=>by unfold yFx;rw[if_neg qo]
 |f+1,g+1,i,h1,h2=>by
  unfold yFx
  by_cases hi:i<es.length
  .rw[if_pos hi,if_pos hi]
   have:=hE i hi
   rw[yMq hE f g (rEnd es i) qo qo]
  .rw[if_neg hi,if_neg hi]
theorem yUv es (i:Nat):∀(f k:Nat),k<=yLe es i f k
 |0,k=>Nat.le_refl _
 |f+1,k=>by
  unfold yLe
  split
  .split
   .exact Nat.le_trans (le_succ k) (yUv es i f (k+1))
   .exact Nat.le_refl _
  .exact Nat.le_refl _
theorem ySj (hi:i<es.length):i<rEnd es i:=by unfold rEnd;obtain⟨f,hf⟩:∃f,es.length-i=f+1:=⟨es.length-i-1,qo⟩;rw[hf];unfold yLe;rw[if_pos hi,show yE0 es i i=true by simp[yE0],if_pos rfl];exact yUv es i f (i+1)
theorem yKx (h:yIt es i j):allC es i=(i,j)::allC es j:=by
 have hi:i<es.length:=qv h.lt h.le
 unfold allC;obtain⟨f,hf⟩:∃f,es.length-i=f+1:=⟨es.length-i-1,qo⟩;rw[hf];conv=>lhs;unfold yFx
 rw[if_pos hi,xEq h];rw[yMq (λi hi=>ySj hi) f (es.length-j) j (qw h.lt) qr]
theorem yRh (h:es.length<=i):allC es i= []:=by unfold allC;rw[show es.length-i=0 by omega];rfl
def segE (es:List Ent) (p:Nat×Nat):List Ent:=(es.take p.2).drop p.1
theorem CSl.seg {off:Nat} (h:CSl w b off cap es) (hij:i<=j) (hj:j<=es.length):CSl w b (off+i*5) (cap-i) (segE es (i,j)):=(h.take hj).drop (by rw[length_take];omega)
theorem yC9 (hj:j<=es.length):(segE es (i,j)).length=j-i:=by unfold segE;rw[length_drop,length_take];simp only;omega
def segV (b off cap:Nat) (p:Nat×Nat):Value:=.slice (some ⟨b,off+p.1*5,none⟩) (p.2-p.1) (cap-p.1)
def yDk (w:World) (base g cp:Nat) (us:List Value):Prop:=w.ownsRow base 26 1 (xg g us.length cp) us.length us
variable {us:List Value}
theorem yDk.lt {g:Nat} (h:yDk w base g cp us):base<=g/\g<w.heap.size:=World.ownsRow.lt h g rfl
variable {w':World}
theorem yDk.below {g:Nat} (h:yDk w base g cp us) (hb:Below w w w'):yDk w' base g cp us:=yAh h (Chg.of_below hb) (S:=λ_=>False) (λk q z=>z)
theorem yDk.cell {g:Nat} (h:yDk w base g cp us) {v:Value} (hv:us[j]?=some v):(xk w g j v:Prop):=by have:=World.ownsRow.cellAt h j (by have:=qf hv;omega);rw[this,hv]
theorem yYp (w:World) (hb:base<=w.heap.size):yDk (xw w #[] 26) base w 0 []:=
 World.ownsRow_made w #[] 0 hb (zero_le _) (by simp)
theorem Tryz.infoCs:(prog.info? 26).map (λi=>(i.zero,i.size,i.bytes))=some (some (.slice none 0 0),1,24):=qk
variable {oo:Oper} {a:Act} {Q:Exit->Act->World->Prop}
theorem yEt {ops:Array Oper} {rest:List Oper} (w:World) (hgd:oo.guard=none) s x
  (ho:oo.op=.call {callee:=.builtin .append,args:=#[s,x],argTypes:=#[185,185]})
  (base gq cp n b:Nat) (us:List Value) (y:Value) (hs:a.eval s=(xg gq n cp)) (hx:a.eval x=.slice (some ⟨b,0,none⟩) 1 1) (hn:n=us.length) (hO:yDk w base gq cp us)
  (hc:w.cell? (xd b 0)=some y) (hy:y.oneCell'=true) (hlen:us.length<=1048576) (hbase:base<=w.heap.size)
  (h:∀g' cp' w',yDk w' base g' cp' (us++ [y])->w.grownBy w' (some gq)->(g'=gq∨g'=w.heap.size)->wpList prog ops Q rest (a.put oo.dst (.slice (some ⟨g',0,none⟩) (n+1) cp')) w'):wpList prog ops Q (oo::rest) a w:=by
 subst hn;obtain⟨i,hi,a4,a3,a2⟩:=info_parts Tryz.infoCs;refine wpList_append_own_at w hgd s x 185 ho base 26 i _ 1 24 underlying185 hi a4 a3 a2 rfl qj (xg gq us.length cp) us.length us hs hO (xd b 0) 1 1 [y] hx rfl ?_ ?_ ?_ ?_ hbase ?_
 .exact xAp
 .intro u hu;simp at hu;subst hu;exact hy
 .unfold maxLen;omega
 .omega
 .intro v' w' a1 a6 a5 a0;rcases a1.2 with⟨h0,_⟩|⟨g',a7,cur,hv,_,_,hn,a8,_,_⟩
  .have:=(a5.1 h0).1;cases this
  .subst hv;refine h g' a7 w' ?_ a6 ?_
   .unfold yDk;rw[length_append];exact a1
   .simp[Value.ownBlock]at a0;exact a0
theorem yS8 {off:Nat} (h:CSl w b off cap es) (hl:es.length<=1048576):Calls prog 107 #[.slice (some ⟨b,off,none⟩) es.length cap] w λe w'=>∃g cp,e=.returned (xg g (allC es 0).length cp)/\yDk w' w g cp ((allC es 0).map (segV b off cap))/\Below w w w':=by
 obtain⟨N,hN⟩:=qE es.length;have HL:=qH2 h hN;have am:N<=cap:=by rw[hN];exact h.len
 have al:cap<=9223372036854775807:=by have:=h.cap;unfold maxLen at this;omega
 obtain⟨A,hA⟩:=qE (allC es 0);have HA:=qH1 hA;rw[<-hN,<-hA];rw[<-hN]at hl;have a9:Hid (yDk (xw w #[] 26) w w 0 []/\Below w w (xw w #[] 26)):=⟨yYp w qr,qB⟩;clear h hN hA;go_enter func107,ntmps107;go_wp2;go_loopw[3,4] (λo iv wr=>∃(i g cp m:Nat),i<=N/\iv=(xi i)/\o=(xg g m cp)/\m<=i/\Hid (∃P,A=P++allC es i/\m=P.length/\yDk wr w g cp (P.map (segV b off cap))/\Below w w wr)) (λ_ iv _=>N-(intOf iv).toNat);case atStart=>exact⟨0,w,0,0,zero_le _,rfl,rfl,Nat.le_refl _,[],HA.out,rfl,a9.1,a9.2⟩
 case round=>
  obtain⟨i,g,cp,m,ak,rfl,rfl,ai,HJ⟩:=hrel;by_cases hlt:i<N
  .have zi:(i:Int)<(N:Int):=qo
   obtain⟨c,hc⟩:∃c,es[i]?=some c:=qg (qw HL.2);have aa:=qH1 hc;obtain⟨P,hP⟩:=HJ.out;have HP:=qH1 hP;clear hP HJ hc;obtain⟨wo,ac⟩:=qW wr;subst ac;go_wp2;go_loopw[5] (λjv wx=>∃j:Nat,i<=j/\j<=N/\jv=(xi j)/\Hid ((∀k,i<=k->k<j->yE0 es i k=true)/\Below wo wo wx)) (λjv _=>N-(intOf jv).toNat);case atStart=>exact⟨i,Nat.le_refl _,qo,rfl,λk h1 h2=>qo,Below.refl _ _⟩
   case round=>
    obtain⟨j,hij,aj,rfl,HQ⟩:=hrel;have ab:=qH1 (HP.2.2.2.trans (HQ.2.mono HP.2.2.2.size));by_cases hjl:j<N
    .have zj:(j:Int)<(N:Int):=qo
     obtain⟨x,hx⟩:∃x,es[j]?=some x:=qg (qw HL.2);have f0:=((HL.1.below ab.out).at_ j x hx).1;have f1:=((HL.1.below ab.out).at_ i c aa.out).1;have a1:(λw':World=>xk w' b (off+j*5) x.row/\xk w' b (off+i*5) c.row) wr.drew:=⟨f0,f1⟩;have a0:=qH1 (HQ.2.trans (((Below.refl _ _).drew).mono HQ.2.size));have a8:Hid (yE0 es i j=(x.row.toList==c.row.toList)):=by show yE0 es i j=_;unfold yE0;rw[hx,aa.out];rfl
     clear f0 f1 hx;cases hr:(x.row.toList==c.row.toList)
     .have HE:Hid (yIt es i j):=by
       have h0:=a8.out;rw[hr]at h0;have ah:¬i=j:=λq=>by subst q;rw[show yE0 es i i=true by simp[yE0]]at h0;cases h0
       exact⟨qo,by rw[<-HL.2];omega,HQ.1,λ_=>h0⟩
      go_upto_region 5 with fail;refine yAf 99 (λw':World=>xk w' b (off+j*5) x.row/\xk w' b (off+i*5) c.row) qk ?_;refine ja 0 a1 ?_;iterate 16 refine jb a1 ?_
      refine qD ?_;have HX:Hid (A=(P++ [(i,j)])++allC es j):=by show _=_;rw[HP.1,yKx HE.out];simp
      have ae:=hij;have a7:Hid (m=(P.map (segV b off cap)).length):=by rw[length_map];exact HP.2.1
      have a3:=HP.2.2.2.size;have ad:=HP.2.2.1.lt;have af:=a0.size;go_wp2_with (at_builtin;refine yEt _ rfl _ _ rfl w g cp _ _ (P.map (segV b off cap)) (segV b off cap (i,j)) rfl rfl a7.out ?hO ?hc ?hy ?hl ?hb ?_);case hO=>exact(HP.2.2.1.below a0.out).below (qB)
      case hc=>simp[go_sem,segV]
      case hy=>rfl
      case hl=>(have h9:=HP.2.1;simp;omega)
      case hb=>exact le_succ_of_le (HP.2.2.2.trans (a0.mono a3)).size
      intro g' a5 w' a4 a2 a6;have HN:Hid (∃P',A=P'++allC es j/\m+1=P'.length/\yDk w' w g' a5 (P'.map (segV b off cap))/\Below w w w'):=by refine⟨P++ [(i,j)],HX.out,by rw[length_append,<-HP.2.1];rfl,by rw[map_append];exact a4,?_⟩;have k1:=HP.2.2.2.trans (a0.mono a3);have k2:=k1.alloc k1.size (Obj.cells #[segV b off cap (i,j)] 26);exact k2.grown a2 k2.size (λq hq=>by cases hq;omega)
      clear a4 a2 a6;go_wp2;go_roundw;case rel=>exact⟨j,g',a5,m+1,by omega,rfl,rfl,qw HE.lt,HN.out⟩
      case measure=>go_light;simp[intOf];have:=HE.lt;omega
     .have ag:Hid (∀k,i<=k->k<j+1->yE0 es i k=true):=λk h1 h2=>by
       by_cases hk:k=j
       .rw[hk,a8.out];exact hr
       .exact HQ.1 k h1 (by omega)
      go_upto_region 5 with fail;refine yAf 99 (λw':World=>xk w' b (off+j*5) x.row/\xk w' b (off+i*5) c.row) (by kernel_rfl) ?_;refine ja 0 a1 ?_;iterate 16 refine jb a1 ?_
      refine qD ?_;go_wp2;go_roundw;case rel=>exact⟨j+1,by omega,by omega,by go_num,ag.out,a0.out⟩
      case measure=>go_light;simp[intOf];omega
    .obtain rfl:j=N:=by omega
     have zj:¬(j:Int)<(j:Int):=by omega
     have a0:Hid (Below wo wo wr.drew):=HQ.2.trans (((Below.refl _ _).drew).mono HQ.2.size);have HE:Hid (yIt es i j):=⟨hlt,by rw[<-HL.2];omega,HQ.1,λq=>by rw[<-HL.2]at q;omega⟩;have a1:(λ_:World=>True) wr.drew:=trivial;go_upto_region 5 with fail;refine yAf 99 (λ_:World=>True) (by kernel_rfl) ?_;refine ja 0 a1 ?_;iterate 16 refine jb a1 ?_
     refine qD ?_;have HX:Hid (A=(P++ [(i,j)])++allC es j):=by show _=_;rw[HP.1,yKx HE.out];simp
     have ae:i<=j:=hij;have a7:Hid (m=(P.map (segV b off cap)).length):=by rw[length_map];exact HP.2.1
     have a3:=HP.2.2.2.size;have ad:=HP.2.2.1.lt;have af:=a0.size;go_wp2_with (at_builtin;refine yEt _ rfl _ _ rfl w g cp _ _ (P.map (segV b off cap)) (segV b off cap (i,j)) rfl rfl a7.out ?hO ?hc ?hy ?hl ?hb ?_);case hO=>exact(HP.2.2.1.below a0.out).below (qB)
     case hc=>simp[go_sem,segV]
     case hy=>rfl
     case hl=>(have h9:=HP.2.1;simp;omega)
     case hb=>exact le_succ_of_le (HP.2.2.2.trans (a0.mono a3)).size
     intro g' a5 w' a4 a2 a6;have HN:Hid (∃P',A=P'++allC es j/\m+1=P'.length/\yDk w' w g' a5 (P'.map (segV b off cap))/\Below w w w'):=by refine⟨P++ [(i,j)],HX.out,by rw[length_append,<-HP.2.1];rfl,by rw[map_append];exact a4,?_⟩;have k1:=HP.2.2.2.trans (a0.mono a3);have k2:=k1.alloc k1.size (Obj.cells #[segV b off cap (i,j)] 26);exact k2.grown a2 k2.size (λq hq=>by cases hq;omega)
     clear a4 a2 a6;go_wp2;go_roundw;case rel=>exact⟨j,g',a5,m+1,by omega,rfl,rfl,qw HE.lt,HN.out⟩
     case measure=>go_light;simp[intOf];have:=HE.lt;omega
  .obtain rfl:i=N:=by omega
   have zi:¬(i:Int)<(i:Int):=by omega
   obtain⟨P,hP⟩:=HJ.out;have HE:Hid (A=P/\m=P.length/\yDk wr w g cp (P.map (segV b off cap))/\Below w w wr):=⟨by rw[hP.1,yRh (by rw[<-HL.2];omega),append_nil],hP.2⟩;clear hP HJ;go_wp2;go_ret;refine⟨g,cp,?_,?_,HE.2.2.2⟩
   .rw[HE.1,<-HE.2.1];rfl
   .rw[HE.1];exact HE.2.2.1
theorem yA4.flat {off:Nat} (h:yA4 w b off es):∀(j:Nat) (u:Value),(yBs es)[j]?=some u->(xk w b (off+j) u:Prop):=by
 intro j u hu;have hl:=qf hu;rw[yCi]at hl;have hk:j/5<es.length:=by omega
 obtain⟨e,he⟩:∃e,es[j/5]?=some e:=qg hk;have h5:=yHw es (j/5) e he (j%5) (by omega);rw[show j/5*5+j%5=j by omega,hu]at h5;obtain⟨h0,h1,h2,h3,h4⟩:=h (j/5) e he;have hm:j%5<5:=by omega
 have hj:off+j=off+j/5*5+j%5:=by omega
 rw[hj];generalize j%5=r at h5 hm;match r,hm,h5 with
 |0,_,h5=>cases h5;exact h0
 |1,_,h5=>cases h5;exact h1
 |2,_,h5=>cases h5;exact h2
 |3,_,h5=>cases h5;exact h3
 |4,_,h5=>cases h5;exact h4
theorem yOf es:∀u∈yBs es,u.oneCell'=true:=by intro u hu;unfold yBs at hu;rw[mem_flatMap]at hu;obtain⟨e,_,h⟩:=hu;simp at h;rcases h with rfl|rfl|rfl|rfl|rfl<;>rfl
theorem yQ2 es:∀(f i:Nat),(yFx es f i).length<=f
 |0,i=>Nat.le_refl _
 |f+1,i=>by
  unfold yFx
  split
  .have:=yQ2 es f (rEnd es i)
   simp
   omega
  .simp
theorem yNp (es:List Ent) (i:Nat):∀(f k:Nat),k<=es.length->yLe es i f k<=es.length
 |0,k,h=>h
 |f+1,k,h=>by
  unfold yLe
  split
  .split
   .exact yNp es i f (k+1) qo
   .exact h
  .exact h
theorem yQ1 (es:List Ent):∀(f i:Nat) (p:Nat×Nat),p∈yFx es f i->p.1<=p.2/\p.2<=es.length
 |0,i,p,h=>by simp[yFx]at h
 |f+1,i,p,h=>by
  unfold yFx at h
  split at h
  .rename_i hi
   rcases mem_cons.1 h with rfl|h
   .exact⟨Nat.le_of_lt (ySj hi),yNp es i _ i (Nat.le_of_lt hi)⟩
   .exact yQ1 es f _ p h
  .simp at h
variable {K:Act->World->Prop} {E:Prop}
theorem yIp {ops:Array Oper} (w:World) (hgd:oo.guard=none) s x
  (ho:oo.op=.call {callee:=.builtin .append,args:=#[s,x],argTypes:=#[26,26]})
  (base g cp n b off m cx:Nat) (fs es:List Ent) (hs:a.eval s=(xg g n cp)) (hx:a.eval x=.slice (some ⟨b,off,none⟩) m cx) (hn:n=fs.length) (hm:m=es.length) (hO:OwnC w base g cp fs)
  (hc:yA4 w b off es) (hlen:fs.length+es.length<=2^30) (hbase:base<=w.heap.size)
  (h:∀g' cp' w',OwnC w' base g' cp' (fs++es)->w.grownBy w' (some g)->(g'=g∨g'=w.heap.size)->K (a.put oo.dst (xg g' (n+m) cp')) w'):if Region.wanted oo (yielded ops a.tmps)=true then Oper.wp prog oo a w K Q else E:=by
 have hw:Region.wanted oo (yielded ops a.tmps)=true:=by simp[Region.wanted,hgd]
 rw[if_pos hw];subst hn;subst hm;obtain⟨i,hi,a4,a3,a2⟩:=info_parts Tryz.infoCel;obtain⟨v',w',hr,a0,a7,a5,a1⟩:=run_append_own_at (P:=prog) w base 26 oo.type 70 i _ 5 72 underlying26 hi a4 a3 a2 rfl qj (xg g fs.length cp) fs.length (yBs fs) hO (xd b off) es.length cx (yBs es) (yCi es) (λj u hu=>by rw[Addr.add_mid];exact hc.flat j u hu) (yOf es) (by unfold maxLen;omega) qo hbase;rw[<-yEl]at a0;have a6:(fs++es).length=fs.length+es.length:=by simp
 rcases a0.2 with⟨hv,_⟩|⟨g',a9,cur,hv,h1,h2,h3⟩
 .have:=(a5.1 hv).1;simp at this
 .subst hv;have a8:=h g' a9 w' (by unfold OwnC;rw[a6];exact a0) a7 (by simp[Value.ownBlock]at a1;exact a1);unfold Oper.wp;simp[execOp,ho,resolve,invoke,builtin,hs,hx,hr,Result.andThen];exact a8
theorem yGn {ops:Array Oper} (w:World) (hgd:oo.guard=none) x (ho:oo.op=.buildSlice 26 1 #[(0,x)]) (e:Ent) (hx:a.eval x=e.c)
  (h:K (a.put oo.dst (xg w 1 1)) (xw w #[e.row,e.fam,e.qual,xu e.ts,e.val] 70)):if Region.wanted oo (yielded ops a.tmps)=true then Oper.wp prog oo a w K Q else E:=by
 have hw:Region.wanted oo (yielded ops a.tmps)=true:=by simp[Region.wanted,hgd]
 rw[if_pos hw];obtain⟨i,hi,a1,a0,a2⟩:=info_parts Tryz.infoCel;refine wp_buildSlice 26 70 1 #[(0,x)] ho _ i _ underlying26 hi a1 (by rw[a0];decide) (by rw[a0];decide) ?_ h;rw[a0,show(Array.map (λx=>(x.1,a.eval x.2)) #[(0,x)]).toList= [(0,a.eval x)]from by simp,hx];kernel_rfl
def RowC (w:World) (base:Nat) (v:Value) (es:List Ent):Prop:=w.ownsRow base 70 5 v es.length (yBs es)
theorem RowC.cases {v:Value} (h:RowC w base v es):(v=xh/\es= [])∨∃g cp,v=(xg g es.length cp)/\OwnC w base g cp es:=by
 rcases h.2 with⟨h0,h1⟩|⟨g',a0,cur,hv,rest⟩
 .refine .inl ⟨h0,?_⟩;have:es.length=0:=h1;exact length_eq_zero_iff.1 this
 .subst hv;exact .inr ⟨g',a0,rfl,h⟩
theorem yGq (w:World) (base:Nat):RowC w base xh []:=⟨rfl,.inl ⟨rfl,rfl⟩⟩
variable {X:List Ent}
theorem RowC.chg {S:Nat->Prop} {v:Value} (h:RowC w base v X) (hc:Chg S w w') (hn:∀k,v.ownBlock=some k->¬S k):RowC w' base v X:=yAh h hc hn
theorem RowC.below {v:Value} (h:RowC w base v X) (hb:Below w w w'):RowC w' base v X:=h.chg (S:=λ_=>False) (Chg.of_below hb) (λ_ _ q=>q)
theorem RowC.blk {v:Value} (h:RowC w base v X) (hk:v.ownBlock=some k):base<=k/\k<w.heap.size:=by exact xCt
theorem yDz {ops:Array Oper} (w:World) (hgd:oo.guard=none) s x
  (ho:oo.op=.call {callee:=.builtin .append,args:=#[s,x],argTypes:=#[26,26]})
  (base:Nat) (a0:Option Addr) (n c0 b off m cx:Nat) (fs es:List Ent) (hs:a.eval s=.slice a0 n c0) (hx:a.eval x=.slice (some ⟨b,off,none⟩) m cx) (hn:n=fs.length) (hm:m=es.length) (hO:RowC w base (.slice a0 n c0) fs)
  (hc:yA4 w b off es) (hlen:fs.length+es.length<=2^30) (hbase:base<=w.heap.size)
  (h:∀a' c' w',RowC w' base (.slice a' (n+m) c') (fs++es)->w.grownBy w' (Value.slice a0 n c0).ownBlock->((Value.slice a' (n+m) c').ownBlock=(Value.slice a0 n c0).ownBlock∨(Value.slice a' (n+m) c').ownBlock=some w.heap.size)->K (a.put oo.dst (.slice a' (n+m) c')) w'):if Region.wanted oo (yielded ops a.tmps)=true then Oper.wp prog oo a w K Q else E:=by
 have hw:Region.wanted oo (yielded ops a.tmps)=true:=by simp[Region.wanted,hgd]
 rw[if_pos hw];subst hn;subst hm;obtain⟨i,hi,a5,a4,a3⟩:=info_parts Tryz.infoCel;obtain⟨v',w',hr,a2,a6,a9,a8⟩:=run_append_own_at (P:=prog) w base 26 oo.type 70 i _ 5 72 underlying26 hi a5 a4 a3 rfl qj (.slice a0 fs.length c0) fs.length (yBs fs) hO (xd b off) es.length cx (yBs es) (yCi es) (λj u hu=>by rw[Addr.add_mid];exact hc.flat j u hu) (yOf es) (by unfold maxLen;omega) qo hbase;rw[<-yEl]at a2;have a1:(fs++es).length=fs.length+es.length:=by simp
 have hR:RowC w' base v' (fs++es):=by unfold RowC;rw[a1];exact a2
 obtain⟨a',c',rfl⟩:∃a' c',v'=.slice a' (fs.length+es.length) c':=by
  rcases hR.cases with⟨q,q2⟩|⟨g,cp,q,_⟩
  .have h9:(fs++es).length=0:=by rw[q2];rfl
   rw[a1]at h9;exact⟨none,0,by rw[h9];exact q⟩
  .exact⟨_,_,by rw[<-a1];exact q⟩
 have a7:=h a' c' w' hR a6 a8;unfold Oper.wp;simp[execOp,ho,resolve,invoke,builtin,hs,hx,hr,Result.andThen];exact a7
structure RwG where
 w:World
 l:List Ix
 N:Nat
 bI:Nat
 oI:Nat
 cI:Nat
 cnt:Int
 nc:Nat
 conds:List Bool
 ca:Option Addr
 nC:Nat
 nk:Nat
structure RwO (R:RwG):Prop where
 good:yBe R.l R.cnt R.nc
 nc:R.nc<=R.conds.length
 nC:R.nC=R.conds.length
 N:R.N=R.l.length
 nk:(R.nk:Int)=R.cnt
 ins:yB5 R.w R.bI R.oI R.l
 bIl:R.bI<R.w.heap.size
 cI:R.N<=R.cI/\R.cI<=maxLen
 cnd:∀(i:Nat) (b:Bool),R.conds[i]?=some b->∃bc oc,R.ca=some ⟨bc,oc,none⟩/\xk R.w bc (oc+i) b/\bc<R.w.heap.size
variable {R:RwG} {gc cpc:Nat}
theorem RwO.look (h:RwO R) {B:Nat} (hB:R.w.heap.size<=B) (hb:Below R.w R.w wr) (hO:yF0 wr B gc cpc cs) (hl:cs.length=R.nk) (hcb:∀k∈cs,0<=k.count/\k.count<=1000) (c:Ent) (cc:Nat):
  Calls prog 58 #[.agg #[.slice (some ⟨R.bI,R.oI,none⟩) R.N R.cI,xi R.cnt],c.c,xg gc R.nk cpc,.slice R.ca R.nC cc] wr λe w'=>∃(i:It) (cs':List Ctr),e=.returned (.tuple #[i.v,xg gc R.nk cpc])/\Hid (LkR pfxB R.l c R.conds ⟨0,[newI],cs⟩ (i,cs')/\cs'.length=R.nk/\yF0 w' B gc cpc cs'/\(∀k∈cs',0<=k.count/\k.count<=1000)/\Chg (λk=>k=gc) wr w'):=by
 obtain⟨d,hd⟩:=yIz h.good;have hz:=hb.size;have hg:=hO.lt;have a0:=h.bIl;refine(yS5 ⟨wr,R.l,R.bI,R.oI,R.cI,R.cnt,c,R.conds,d,cs,B,gc,cpc,R.ca,R.N,R.nk,R.nC⟩ R.nc h.good hd h.nc (by show(cs.length:Int)=R.cnt;rw[hl];exact h.nk) cc h.N hl.symm h.nC (h.ins.chg (S:=λ_=>False) ⟨hb.os,hb.tape,hb.output,hb.size,λk hk _=>hb.block k hk⟩ h.bIl (λq=>q)) ⟨by show R.bI<wr.heap.size;omega,by show¬R.bI=gc;omega⟩ h.cI hO hcb (λi b hi=>?_)).mono ?_
 .obtain⟨bc,oc,h1,h2,h3⟩:=h.cnd i b hi;exact⟨bc,oc,h1,(hb.cell (p:=(xd bc (oc+i))) h3).trans h2,by show bc<wr.heap.size;omega,by show¬bc=gc;omega⟩
 .rintro e w' ⟨i,cs',h1,h2,h3,h4,h5,h6⟩;exact⟨i,cs',h2,h1,h3,h4,h5,h6⟩
structure RwJ (R:RwG) (out:List Ent) (n g cp gc cpc:Nat) (cs:List Ctr) (wr:World):Prop where
 blk:yA wr R.w 32 2 R.w [.slice (some ⟨R.bI,R.oI,none⟩) R.N R.cI,xi R.cnt]
 own:OwnC wr R.w g cp out
 n:n=out.length
 ctr:yF0 wr R.w gc cpc cs
 len:cs.length=R.nk
 cb:∀k∈cs,0<=k.count/\k.count<=1000
 below:Below R.w R.w wr
theorem RwJ.on {g:Nat} (h:RwJ R out n g cp gc cpc cs wr) (hb:Below wr wr W):RwJ R out n g cp gc cpc cs W:=
 {h with blk:=h.blk.below hb,own:=h.own.below hb h.own.lt.2,ctr:=h.ctr.below hb,below:=h.below.trans (hb.mono h.below.size)}
theorem RwJ.apart {g:Nat} (h:RwJ R out n g cp gc cpc cs wr):¬g=gc/\¬R.w.heap.size=gc/\¬R.w.heap.size=g:=
 ⟨λq=>yAb h.own h.ctr (by decide) g rfl (by rw[q];rfl),λq=>yAb h.blk h.ctr (by decide) R.w rfl (by rw[q];rfl),λq=>yAb h.blk h.own (by decide) R.w rfl (by rw[q];rfl)⟩
theorem zRyR (h:p:=by
 obtain⟨c,hc⟩:∃c,es[i]?=some c:=qg (qw HR.2.2);have HC:Hid (es[i]?=some c):=hc;have HSS:Hid (∀(X:World) (out:List Ent) (n g cp gc cpc:Nat) (cs:List Ctr),RwJ R out n g cp gc cpc cs X->(λw':World=>xk w' R.w 0 (.slice (some ⟨R.bI,R.oI,none⟩) R.N R.cI)/\xk w' R.w 1 (xi R.cnt)/\xk w' rb (ro+i*5) c.row/\xk w' rb (ro+i*5+1) c.fam/\xk w' rb (ro+i*5+2) c.qual/\xk w' rb (ro+i*5+3) (xu c.ts)/\xk w' rb (ro+i*5+4) c.val/\xk w' R.w 1 (xi R.cnt)) X):=λX out n g cp gc cpc cs h=>by have hb:=h.below;obtain⟨e0,e1,e2,e3,e4⟩:=HR.2.1.at_ i c hc;exact⟨h.blk.cell (j:=0) rfl,h.blk.cell (j:=1) rfl,by rw[hb.cell (p:=(xd rb _)) hrb];exact e0,by rw[hb.cell (p:=(xd rb _)) hrb];exact e1,by rw[hb.cell (p:=(xd rb _)) hrb];exact e2,by rw[hb.cell (p:=(xd rb _)) hrb];exact e3,by rw[hb.cell (p:=(xd rb _)) hrb];exact e4,h.blk.cell (j:=1) rfl⟩
 obtain⟨W2,hW2⟩:=qW (xw wr #[false,false,xi 0,xe] 115);have HW2:Hid (RwJ R out n g cp gc cpc cs W2.drew/\yA W2.drew R.w 115 4 wr (yBl noH).four):=by
  have k2:=qN hW2
  have b2:yA W2 R.w 115 4 wr (yBl noH).four:=by rw[hW2];exact yAa wr _ HJ.1.below.size rfl
  exact⟨(HJ.1.on k2).on ((Below.refl _ _).drew),b2.below ((Below.refl _ _).drew)⟩
 have HLk:Hid (Calls prog 58 #[.agg #[.slice (some ⟨R.bI,R.oI,none⟩) R.N R.cI,xi R.cnt],.agg #[c.row,c.fam,c.qual,xu c.ts,c.val],xg gc R.nk cpc,.slice R.ca R.nC cc] W2.drew λe w'=>∃(i:It) (cs':List Ctr),e=.returned (.tuple #[i.v,xg gc R.nk cpc])/\Hid (LkR pfxB R.l c R.conds ⟨0,[newI],cs⟩ (i,cs')/\cs'.length=R.nk/\yF0 w' R.w gc cpc cs'/\(∀k∈cs',0<=k.count/\k.count<=1000)/\Chg (λk=>k=gc) W2.drew w')):=
  HR.1.look qr HW2.1.below HW2.1.ctr HW2.1.len HW2.1.cb c cc
 have hS0:=HSS.out _ _ _ _ _ _ _ _ HW2.1;clear hc;go_upto_region 7 with fail;rw[<-hW2];clear hW2;refine yAf 99 (λw':World=>xk w' R.w 0 (.slice (some ⟨R.bI,R.oI,none⟩) R.N R.cI)/\xk w' R.w 1 (xi R.cnt)/\xk w' rb (ro+i*5) c.row/\xk w' rb (ro+i*5+1) c.fam/\xk w' rb (ro+i*5+2) c.qual/\xk w' rb (ro+i*5+3) (xu c.ts)/\xk w' rb (ro+i*5+4) c.val/\xk w' R.w 1 (xi R.cnt)) (by kernel_rfl) ?_;refine ja 0 hS0 ?_;iterate 6 refine jb hS0 ?_
 refine qO 7 rfl λK hK=>?_;go_simp;refine HLk.mono ?_;rintro e w3 ⟨it,cs',rfl,H3⟩;have HW3:Hid (RwJ R out n g cp gc cpc cs' w3/\yA w3 R.w 115 4 wr (yBl noH).four):=by
  obtain⟨k1,k2,k3,k4,k5⟩:=H3.out;have ap:=HW2.1.apart;have hgi:¬wr.heap.size=gc:=qw HJ.1.ctr.lt
  have hgl:=HW2.1.ctr.lt.1;exact⟨⟨HW2.1.blk.chg k5 ap.2.1,yAh HW2.1.own k5 (λk q=>by simp[Value.ownBlock]at q;subst q;exact ap.1),HW2.1.n,k3,k2,k4,Chg.below HW2.1.below k5 HW2.1.below.size (λk q=>by omega)⟩,HW2.2.chg k5 hgi⟩
 have HL:Hid (LkR pfxB R.l c R.conds ⟨0,[newI],cs⟩ (it,cs')):=H3.1;have hS3:=HSS.out _ _ _ _ _ _ _ _ HW3.1;clear H3 HW2 hS0 HLk;refine hK.out _ _ (.inr hS3) ?_;clear hK;refine jS ?_;iterate 3 refine jb hS3 ?_
 obtain⟨W4,hW4⟩:=qW (setCs w3 wr 0 it.four);have HW4:Hid (RwJ R out n g cp gc cpc cs' W4/\yA W4 R.w 115 4 wr it.four):=by obtain⟨q1,q2⟩:=yEo HW3.2 hW4;have h3:=HW3.1;have l1:=HJ.1.own.lt;have l2:=HJ.1.ctr.lt;have l3:=HJ.1.below.size;have l4:=HJ.1.blk.lt;exact⟨⟨h3.blk.chg q2 (by omega),yAh h3.own q2 (λk q=>by simp[Value.ownBlock]at q;omega),h3.n,h3.ctr.chg q2 (by omega),h3.len,h3.cb,Chg.below h3.below q2 h3.below.size (λk q=>by omega)⟩,q1⟩
 have hS4:=HSS.out _ _ _ _ _ _ _ _ HW4.1;obtain⟨v0,v1,v2,v3⟩:=HW3.2.c4;obtain⟨f0,f1,f2,f3⟩:=HW3.2.f4;simp only[setCs,Nat.zero_add,Nat.reduceAdd]at hW4;refine qO 11 rfl λK hK=>?_;go_simp;rw[<-hW4];refine hK.out _ _ (.inr hS4) ?_;clear hK hW4 hS3 v0 v1 v2 v3 f0 f1 f2 f3;refine jS ?_;refine kO 12 hS4 ?_;refine qD ?_;have HN:Hid (∀o,RowR R.l R.conds (es.drop (i+1)) cs' o->RowR R.l R.conds es (List.replicate R.nk newC) ((if it.alive=true then out++ [yB it c]else out)++o)):=RowR.step HJ.2 HC.out HL.out;have p0:=HW4.2.cell (j:=0) rfl;cases hal:it.alive
 .rw[hal]at p0 HN;simp only[Bool.false_eq_true,if_false]at HN;refine zY ?_;exact⟨i+1,n,g,cp,gc,cpc,out,cs',by omega,by omega,rfl,rfl,by go_num,HW4.1,HN.out⟩
 .rw[hal]at p0 HN;simp only[if_true]at HN;obtain⟨c',hc'⟩:=qE (yB it c);have HTd:Hid (∀X:World,(xf 59 #[.agg #[true,it.strip,xi it.hint.rank,it.hint.txt],.agg #[c.row,c.fam,c.qual,xu c.ts,c.val]] X (.agg #[c'.row,c'.fam,c'.qual,xu c'.ts,c'.val]):Prop)):=λX=>by have h9:=yO4 it c X;rw[hal,<-hc']at h9;exact h9
  rw[<-hc']at HN;have HST:Hid (∀(X:World) (out:List Ent) (n g cp:Nat),RwJ R out n g cp gc cpc cs' X->yA X R.w 115 4 wr it.four->(λw':World=>xk w' wr 0 true/\xk w' wr 1 it.strip/\xk w' wr 2 (xi it.hint.rank)/\xk w' wr 3 it.hint.txt/\xk w' rb (ro+i*5) c.row/\xk w' rb (ro+i*5+1) c.fam/\xk w' rb (ro+i*5+2) c.qual/\xk w' rb (ro+i*5+3) (xu c.ts)/\xk w' rb (ro+i*5+4) c.val/\xk w' wr 0 true) X):=λX out n g cp h k=>by obtain⟨_,_,e0,e1,e2,e3,e4,_⟩:=HSS.out X out n g cp gc cpc cs' h;have h0:=k.cell (j:=0) rfl;rw[hal]at h0;exact⟨h0,k.cell (j:=1) rfl,k.cell (j:=2) rfl,k.cell (j:=3) rfl,e0,e1,e2,e3,e4,h0⟩
  have HW5:Hid (RwJ R out n g cp gc cpc cs' W4.drew/\yA W4.drew R.w 115 4 wr it.four):=⟨HW4.1.on ((Below.refl _ _).drew),HW4.2.below ((Below.refl _ _).drew)⟩;have hS5:=HST.out _ _ _ _ _ HW5.1 HW5.2;clear hc' hS4;go_upto_region 9 with fail;refine yAf 99 (λw':World=>xk w' wr 0 true/\xk w' wr 1 it.strip/\xk w' wr 2 (xi it.hint.rank)/\xk w' wr 3 it.hint.txt/\xk w' rb (ro+i*5) c.row/\xk w' rb (ro+i*5+1) c.fam/\xk w' rb (ro+i*5+2) c.qual/\xk w' rb (ro+i*5+3) (xu c.ts)/\xk w' rb (ro+i*5+4) c.val/\xk w' wr 0 true) (by kernel_rfl) ?_;refine ja 0 hS5 ?_;iterate 5 refine jb hS5 ?_
  refine qO 6 rfl λK hK=>?_;go_simp;refine(HTd.out _).mono ?_;rintro e w6 ⟨rfl,hb6⟩;have HW6:Hid (RwJ R out n g cp gc cpc cs' w6/\yA w6 R.w 115 4 wr it.four):=⟨HW5.1.on hb6,HW5.2.below hb6⟩;have hS6:=HST.out _ _ _ _ _ HW6.1 HW6.2;clear hb6 hS5;refine hK.out _ _ (.inr hS6) ?_;clear hK;refine jS ?_;obtain⟨W7,hW7⟩:=qW (xw w6 #[c'.row,c'.fam,c'.qual,xu c'.ts,c'.val] 70);have HW7:Hid (RwJ R out n g cp gc cpc cs' W7/\yA W7 R.w 115 4 wr it.four/\yA4 W7 w6 0 [c']):=by
   have k7:=qN hW7
   refine⟨HW6.1.on k7,HW6.2.below k7,?_⟩;intro j e he;have b7:yA W7 w6 70 5 w6 c'.five:=by rw[hW7];exact yAa w6 _ qr rfl
   have hj:j=0:=by have:=qf he;simpa using this
   subst hj;simp at he;subst he;exact⟨b7.cell (j:=0) rfl,b7.cell (j:=1) rfl,b7.cell (j:=2) rfl,b7.cell (j:=3) rfl,b7.cell (j:=4) rfl⟩
  have hS7:=HST.out _ _ _ _ _ HW7.1 HW7.2.1;refine qO 7 rfl λK hK=>?_;refine yGn w6 rfl _ rfl c' rfl ?_;rw[<-hW7];refine hK.out _ _ (.inr hS7) ?_;clear hK hW7 hS6;refine jS ?_;refine qO 8 rfl λK hK=>?_;refine yIp W7 rfl _ _ rfl R.w g cp n w6 0 1 1 out [c'] rfl rfl HW7.1.n rfl HW7.1.own HW7.2.2 (by have:=HW7.1.n;simp;omega) HW7.1.below.size (λg' cp' w8 hO8 hg8 ha8=>?_);have HW8:Hid (RwJ R (out++ [c']) (n+1) g' cp' gc cpc cs' w8/\yA w8 R.w 115 4 wr it.four):=by have k8:Chg (λk=>k=g) W7 w8:=Chg.of_grown hg8 (λk hk=>by cases hk;rfl);have h7:=HW7.1;have ap:=h7.apart;have l1:=HJ.1.own.lt;exact⟨⟨h7.blk.chg k8 ap.2.2,hO8,by rw[length_append,<-h7.n];rfl,h7.ctr.chg k8 (λq=>ap.1 q.symm),h7.len,h7.cb,Chg.below h7.below k8 h7.below.size (λk q=>by omega)⟩,HW7.2.1.chg k8 (by omega)⟩
  have hS8:=HST.out _ _ _ _ _ HW8.1 HW8.2;clear hO8 hg8 ha8 hS7;refine hK.out _ _ (.inr hS8) ?_;clear hK;refine jS ?_;refine kO 9 hS8 ?_;refine qD ?_;refine zY ?_;exact⟨i+1,n+1,g',cp',gc,cpc,out++ [c'],cs',by omega,by omega,rfl,rfl,by go_num,HW8.1,HN.out⟩):p:=h
theorem yMh (R:RwG) (hR:RwO R) (rb ro rc cc:Nat) (es:List Ent) (M:Nat) (hM:M=es.length) (hE:CSl R.w rb ro rc es) (hes:es.length<=100000):
  Calls prog 118 #[.agg #[.slice (some ⟨R.bI,R.oI,none⟩) R.N R.cI,xi R.cnt],.slice (some ⟨rb,ro,none⟩) M rc,.slice R.ca R.nC cc] R.w λe w'=>∃g cp n,e=.returned (xg g n cp)/\Hid (∃o,n=o.length/\RowR R.l R.conds es (List.replicate R.nk newC) o/\OwnC w' R.w g cp o/\Below R.w R.w w'):=by
 have HR:Hid (RwO R/\CSl R.w rb ro rc es/\M=es.length):=⟨hR,hE,hM⟩;have a3:(R.nk:Int)=R.cnt:=hR.nk;have a4:R.nk<=1000:=qw hR.good.2.2.2.1
 have a6:M<=100000:=by omega
 have hrb:=hE.lt;clear hR hE hM hes;obtain⟨W0,a0⟩:=qW (xw (R.w.alloc (Obj.cells #[.slice (some ⟨R.bI,R.oI,none⟩) R.N R.cI,xi R.cnt] 32)) #[] 70);have H0:Hid (yA W0 R.w 32 2 R.w [.slice (some ⟨R.bI,R.oI,none⟩) R.N R.cI,xi R.cnt]/\OwnC W0 R.w (R.w+1) 0 []/\Below R.w R.w W0):=by
  obtain⟨X,hX⟩:=qW (xw R.w #[.slice (some ⟨R.bI,R.oI,none⟩) R.N R.cI,xi R.cnt] 32);rw[<-hX]at a0;have zx:=qS hX
  have k1:=qN hX
  have k2:=qN a0
  have b1:yA X R.w 32 2 R.w [.slice (some ⟨R.bI,R.oI,none⟩) R.N R.cI,xi R.cnt]:=by rw[hX];exact yAa R.w _ qr rfl
  have o1:OwnC W0 X X 0 []:=by rw[a0];exact xBl X
  rw[zx]at o1;exact⟨b1.below k2,o1.mono (by omega),k1.trans (k2.mono (by omega))⟩
 have c1:=H0.1.cell (j:=1) rfl;go_enter func118,ntmps118;go_upto_region 2 with fail;rw[<-a0];clear a0;go_wp2_with fail;rw[<-a3];refine(yMm R.nk W0 a4).mono ?_;rintro e w1 ⟨gc,cpc,rfl,a2,a1⟩
 have H1:Hid (RwJ R [] 0 (R.w+1) 0 gc cpc (List.replicate R.nk newC) w1):=
  ⟨H0.1.below a1,H0.2.1.below a1 H0.2.1.lt.2,rfl,a2.mono H0.2.2.size,by simp,λk hk=>by rw[eq_of_mem_replicate hk];exact⟨Int.le_refl _,by decide⟩,H0.2.2.trans (a1.mono H0.2.2.size)⟩
 clear a2 a1 c1 H0;go_wp2;go_loopw[7,8,9] (λov cv iv wr=>∃(i n g cp gc cpc:Nat) (out:List Ent) (cs:List Ctr),i<=M/\n<=i/\ov=(xg g n cp)/\cv=(xg gc R.nk cpc)/\iv=(xi i)/\Hid (RwJ R out n g cp gc cpc cs wr/\∀o,RowR R.l R.conds (es.drop i) cs o->RowR R.l R.conds es (List.replicate R.nk newC) (out++o))) (λ_ _ iv _=>M-(intOf iv).toNat);case atStart=>exact⟨0,0,_,0,gc,cpc,[],List.replicate R.nk newC,zero_le _,Nat.le_refl _,rfl,rfl,rfl,H1.out,λo h=>h⟩
 case round=>
  clear H1;obtain⟨i,n,g,cp,gc,cpc,out,cs,hi,a5,rfl,rfl,rfl,HJ⟩:=hrel;by_cases hlt:i<M
  .have z:(i:Int)<(M:Int):=by omega
   as_aux_lemma=>exact zRyR
  .have z:¬(i:Int)<(M:Int):=by omega
   have HE:Hid (∃o,n=o.length/\RowR R.l R.conds es (List.replicate R.nk newC) o/\OwnC wr R.w g cp o/\Below R.w R.w wr):=⟨out,HJ.1.n,RowR.done HJ.2 (qw HR.2.2),HJ.1.own,HJ.1.below⟩;go_wp2;go_ret;exact⟨g,cp,n,rfl,HE⟩
section
abbrev blF (b:Bool):List Value:= [.bool b]
abbrev yF1 (w:World) (base g cap:Nat) (bs:List Bool):Prop:=OwnG blF 1 4 w base g cap bs
theorem yOu (b:Bool):(blF b).length=1:=rfl
theorem xIb (b:Bool):∀u∈blF b,u.oneCell'=true:=λu hu=>by simp at hu;subst hu;rfl
theorem Tryz.infoBl:(prog.info? 4).map (λi=>(i.zero,i.size,i.bytes))=some (some (.bool false),1,1):=by kernel_rfl
theorem yF1.get {g:Nat} (h:yF1 w base g cap bs) {b:Bool} (hi:bs[i]?=some b):(xk w g (0+i) b:Prop):=by have:=h.cell yOu hi 0 (by decide);simpa using this
structure ByG where
 w:World
 bs:List Bk
 m:Bk
 nb:Nat
 ub:Nat
 uo:Nat
 uc:Nat
 N:Nat
 bI:Nat
 oI:Nat
 cI:Nat
 b:Nat
 off:Nat
 cap:Nat
 es:List Ent
 M:Nat
 A:List (Nat×Nat)
structure ByO (R:ByG):Prop where
 good:yCn R.bs R.m
 bks:yK0 R.w R.ub R.uo R.bs
 ubl:R.ub<R.w.heap.size
 nb:R.nb=R.bs.length
 mv:R.m.v=.slice (some ⟨R.bI,R.oI,none⟩) R.N R.cI
 N:R.N=R.m.l.length
 ins:yB5 R.w R.bI R.oI R.m.l
 bIl:R.bI<R.w.heap.size
 cI:R.N<=R.cI/\R.cI<=maxLen
 cel:CSl R.w R.b R.off R.cap R.es
 M:R.M=R.es.length
 Ml:R.M<=10000
 A:R.A=allC R.es 0
 Am:∀p∈R.A,p.1<=p.2/\p.2<=R.es.length
structure ByJ (R:ByG) (gr cr:Nat) (out:List Ent) (a:Option Addr) (n c:Nat) (wr:World):Prop where
 box:yA wr R.w 34 3 R.w [.slice (some ⟨R.ub,R.uo,none⟩) R.nb R.uc,.slice (some ⟨R.bI,R.oI,none⟩) R.N R.cI,xi R.m.cnt]
 res:yA wr R.w 39 3 (R.w+1) [false,xh,xi 0]
 obx:yA wr R.w 39 3 (R.w+1+1) [true,.slice a n c,xi R.M]
 row:RowC wr R.w (.slice a n c) out
 n:n=out.length
 rows:yDk wr R.w gr cr (R.A.map (segV R.b R.off R.cap))
 below:Below R.w R.w wr
section
variable {R:ByG} {gr cr:Nat} {out:List Ent} {a:Option Addr} {n c:Nat} {wr:World}
theorem ByJ.on (h:ByJ R gr cr out a n c wr) (hb:Below wr wr W):ByJ R gr cr out a n c W:=
 {h with box:=h.box.below hb,res:=h.res.below hb,obx:=h.obx.below hb,row:=h.row.below hb,rows:=h.rows.below hb,below:=h.below.trans (hb.mono h.below.size)}
theorem ByJ.bools (h:ByJ R gr cr out a n c wr) {gq cq:Nat} {cs:List Bool} (hO:yF1 wr base gq cq cs) (hl:R.w.heap.size<=gq) (hc:Chg (λk=>k=gq) wr W):ByJ R gr cr out a n c W:=
 {h with
  box:=h.box.chg hc (λq=>yAb h.box hO (by decide) _ rfl (by rw[q];rfl))
  res:=h.res.chg hc (λq=>yAb h.res hO (by decide) _ rfl (by rw[q];rfl))
  obx:=h.obx.chg hc (λq=>yAb h.obx hO (by decide) _ rfl (by rw[q];rfl))
  row:=h.row.chg hc (λk hk q=>yAb h.row hO (by decide) _ hk (by rw[q];rfl))
  rows:=yAh h.rows hc (λk hk q=>yAb h.rows hO (by decide) _ hk (by rw[q];rfl))
  below:=Chg.below h.below hc h.below.size (λk q=>by omega)}
theorem ByJ.cond (h:ByJ R gr cr out a n c wr) (hR:ByO R) {x:Bk} (hx:R.bs[k]?=some x):xk wr R.ub (R.uo+k*2) x.v/\xk wr R.ub (R.uo+k*2+1) (xi x.cnt):=by obtain⟨h0,h1,_⟩:=hR.bks k x hx;exact⟨by rw[h.below.cell (p:=(xd R.ub _)) hR.ubl];exact h0,by rw[h.below.cell (p:=(xd R.ub _)) hR.ubl];exact h1⟩
end
theorem yYq {base' g:Nat} (h:yDk w base g cp us) (hb:base'<=base):yDk w base' g cp us:=by exact xCp
theorem xDb {l:List Ix} (hg:yBe l cnt nc) {bI oI cI:Nat} (hN:N=l.length) (hI:yB5 w bI oI l) (hl:bI<w.heap.size) (hc:N<=cI/\cI<=maxLen) {B:Nat} (hB:w.heap.size=B) (hb:Below B w W) {gq cq:Nat} {cs:List Bool} (hO:yF1 W base gq cq cs) (hn:nc<=cs.length) (hk:k=cs.length):
  RwO ⟨W,l,N,bI,oI,cI,cnt,nc,cs,some ⟨gq,0,none⟩,k,cnt.toNat⟩:=by
 subst hB;exact {good:=hg,nc:=hn,nC:=hk,N:=hN,nk:=by show((cnt.toNat:Nat):Int)=cnt;have:=hg.2.2.1;omega,ins:=hI.chg (S:=λ_=>False) (Chg.of_below hb) hl (λq=>q),bIl:=by have:=hb.size;show bI<W.heap.size;omega,cI:=hc,cnd:=λi b hi=>⟨gq,0,rfl,hO.get hi,hO.lt.2⟩}
structure CdJ (R:ByG) (row:List Ent) (gq cq k:Nat) (cs:List Bool) (wr:World):Prop where
 own:yF1 wr R.w gq cq cs
 kl:k=cs.length
 cd:∀r,CdR row ((R.bs.map Bk.vw).drop k) cs r->CdR row (R.bs.map Bk.vw) [] r
theorem zByC (h:p:=by
 obtain⟨x,hx⟩:∃x,R.bs[k]?=some x:=qg (qw HR.nb);have hgx:yBe x.l x.cnt k:=HR.good.2.2 k x hx;obtain⟨xb,xo,xn,xc,hxv,hxn,hxi,hxl,hxc⟩:∃xb xo xn xc,x.v=.slice (some ⟨xb,xo,none⟩) xn xc/\xn=x.l.length/\yB5 R.w xb xo x.l/\xb<R.w.heap.size/\xn<=xc/\xc<=maxLen:=by
  rcases(HR.bks k x hx).2.2 with⟨_,_,_,q⟩|⟨b,off,cap,q1,q2,q3,q4,q5⟩
  .have:=hgx.1;rw[q]at this;simp at this
  .exact⟨b,off,_,cap,q1,rfl,q2,q3,q4,q5⟩
 have HX:Hid (R.bs[k]?=some x/\yBe x.l x.cnt k/\x.v=.slice (some ⟨xb,xo,none⟩) xn xc/\xn=x.l.length/\yB5 R.w xb xo x.l/\xb<R.w.heap.size/\xn<=xc/\xc<=maxLen):=⟨hx,hgx,hxv,hxn,hxi,hxl,hxc⟩;have HSS:Hid (∀X:World,ByJ R gr cr out a n c X->(λw':World=>xk w' R.w 0 (.slice (some ⟨R.ub,R.uo,none⟩) R.nb R.uc)/\xk w' R.ub (R.uo+k*2) (.slice (some ⟨xb,xo,none⟩) xn xc)/\xk w' R.ub (R.uo+k*2+1) (xi x.cnt)/\xk w' gr r (.slice (some ⟨R.b,R.off+p1*5,none⟩) (p2-p1) (R.cap-p1))) X):=λX h=>by obtain⟨h0,h1⟩:=h.cond HR.out hx;rw[hxv]at h0;exact⟨h.box.cell (j:=0) rfl,h0,h1,h.rows.cell (by rw[getElem?_map,HP.1];rfl)⟩
 have HD:Hid (ByJ R gr cr out a n c wr.drew/\CdJ R (segE R.es (p1,p2)) gq cq k cs wr.drew):=⟨HQ.1.on ((Below.refl _ _).drew),⟨HQ.2.own.below ((Below.refl _ _).drew),HQ.2.kl,HQ.2.cd⟩⟩;have HRo:Hid (Calls prog 118 #[.agg #[.slice (some ⟨xb,xo,none⟩) xn xc,xi x.cnt],.slice (some ⟨R.b,R.off+p1*5,none⟩) (p2-p1) (R.cap-p1),xg gq k cq] wr.drew λe w'=>∃g cp n,e=.returned (xg g n cp)/\Hid (∃o,n=o.length/\RowR x.l cs (segE R.es (p1,p2)) (List.replicate x.cnt.toNat newC) o/\OwnC w' wr.drew g cp o/\Below wr.drew wr.drew w')):=by have h9:=xDb (W:=wr.drew) HX.2.1 HX.2.2.2.1 HX.2.2.2.2.1 HX.2.2.2.2.2.1 HX.2.2.2.2.2.2 rfl HD.1.below HD.2.own (qw HD.2.kl) HD.2.kl;exact yMh _ h9 R.b (R.off+p1*5) (R.cap-p1) cq (segE R.es (p1,p2)) (p2-p1) (yC9 HP.2.2).symm ((HR.cel.below HD.1.below).seg HP.2.1 HP.2.2) (by rw[yC9 HP.2.2];have:=HR.M;have:=HR.Ml;have:=HP.2;omega)
 have hS0:=HSS.out _ HD.1;clear hx hgx hxv hxn hxi hxl hxc;go_upto_region 10 with fail;refine yAf 99 (λw':World=>xk w' R.w 0 (.slice (some ⟨R.ub,R.uo,none⟩) R.nb R.uc)/\xk w' R.ub (R.uo+k*2) (.slice (some ⟨xb,xo,none⟩) xn xc)/\xk w' R.ub (R.uo+k*2+1) (xi x.cnt)/\xk w' gr r (.slice (some ⟨R.b,R.off+p1*5,none⟩) (p2-p1) (R.cap-p1))) (by kernel_rfl) ?_;refine ja 0 hS0 ?_;iterate 10 refine jb hS0 ?_
 refine qO 11 rfl λK hK=>?_;go_simp;refine HRo.mono ?_;rintro e w3 ⟨g3,cp3,n3,rfl,H3⟩;obtain⟨o,ho⟩:=H3.out;have HO:Hid (n3=o.length/\RowR x.l cs (segE R.es (p1,p2)) (List.replicate x.cnt.toNat newC) o):=⟨ho.1,ho.2.1⟩;have HW3:Hid (ByJ R gr cr out a n c w3/\CdJ R (segE R.es (p1,p2)) gq cq k cs w3):=⟨HD.1.on ho.2.2.2,⟨HD.2.own.below ho.2.2.2,HD.2.kl,HD.2.cd⟩⟩;have hS3:=HSS.out _ HW3.1;clear ho H3 hS0 HD HRo;refine hK.out _ _ (.inr hS3) ?_;clear hK;refine jS ?_;obtain⟨bq,hbq⟩:=qE (decide (0<n3));have HBq:Hid (bq=decide (0<o.length)):=by show _=_;rw[hbq,HO.1]
 obtain⟨W7,hW7⟩:=qW (xw w3 #[bq] 4);have HW7:Hid (ByJ R gr cr out a n c W7/\CdJ R (segE R.es (p1,p2)) gq cq k cs W7/\(∀j u,(blF bq)[j]?=some u->(xk W7 w3 j u:Prop))):=by
  have k7:=qN hW7
  exact⟨HW3.1.on k7,⟨HW3.2.own.below k7,HW3.2.kl,HW3.2.cd⟩,by rw[hW7];exact yBm w3 (blF bq) _⟩
 have hS7:=HSS.out _ HW7.1;rw[hbq]at hW7;iterate 2 refine jb hS3 ?_
 refine qO 14 rfl λK hK=>?_;go_simp;rw[<-hW7];refine hK.out _ _ (.inr hS7) ?_;clear hK hW7;refine jS ?_;refine qO 15 rfl λK hK=>?_;refine yE yOu W7 rfl _ _ 118 rfl underlying118 Tryz.infoBl rfl (by decide) (by decide) xIb R.w gq cq k w3 1 cs bq rfl rfl HW7.2.1.kl HW7.2.1.own HW7.2.2 (qw HW7.2.1.kl) HW7.1.below.size ?_;intro gq' cq' w8 hO8 hg8 ha8;have HW8:Hid (ByJ R gr cr out a n c w8/\CdJ R (segE R.es (p1,p2)) gq' cq' (k+1) (cs++ [bq]) w8):=by have k8:Chg (λq=>q=gq) W7 w8:=Chg.of_grown hg8 (λq hk=>by cases hk;rfl);refine⟨HW7.1.bools HW7.2.1.own HW7.2.1.own.lt.1 k8,⟨hO8,by rw[length_append,<-HW7.2.1.kl];rfl,?_⟩⟩;rw[HBq.out];exact CdR.step HW7.2.1.cd (by rw[getElem?_map,HX.1];rfl) HO.2
 have hS8:=HSS.out _ HW8.1;clear hO8 hg8 ha8;refine hK.out _ _ (.inr hS8) ?_;clear hK;refine jS ?_;refine qO 16 rfl λK hK=>?_;go_simp;refine hK.out _ _ (.inr hS8) ?_;clear hK hS7 hS8 hS3;refine jS ?_;refine qD ?_;refine zY ?_;exact⟨k+1,gq',cq',cs++ [bq],by omega,rfl,by go_num,HW8.out⟩):p:=h
theorem zByE (h:p:=by
 have HSS:Hid (∀X:World,ByJ R gr cr out a n c X->(λw':World=>xk w' (R.w+1+1) 1 (.slice a n c)/\xk w' R.w 1 (.slice (some ⟨R.bI,R.oI,none⟩) R.N R.cI)/\xk w' R.w 2 (xi R.m.cnt)/\xk w' gr r (.slice (some ⟨R.b,R.off+p1*5,none⟩) (p2-p1) (R.cap-p1))/\xk w' gr r (.slice (some ⟨R.b,R.off+p1*5,none⟩) (p2-p1) (R.cap-p1))/\xk w' gr r (.slice (some ⟨R.b,R.off+p1*5,none⟩) (p2-p1) (R.cap-p1))/\xk w' gr r (.slice (some ⟨R.b,R.off+p1*5,none⟩) (p2-p1) (R.cap-p1))/\xk w' gr r (.slice (some ⟨R.b,R.off+p1*5,none⟩) (p2-p1) (R.cap-p1))) X):=λX h=>by have h9:=h.rows.cell (j:=r) (by rw[getElem?_map,HP.1];rfl);exact⟨h.obx.cell (j:=1) rfl,h.box.cell (j:=1) rfl,h.box.cell (j:=2) rfl,h9,h9,h9,h9,h9⟩
 have HD:Hid (ByJ R gr cr out a n c wr.drew/\CdJ R (segE R.es (p1,p2)) gq cq k cs wr.drew):=⟨HQ.1.on ((Below.refl _ _).drew),⟨HQ.2.own.below ((Below.refl _ _).drew),HQ.2.kl,HQ.2.cd⟩⟩;have HCd:Hid (CdR (segE R.es (p1,p2)) (R.bs.map Bk.vw) [] cs):=CdR.done HQ.2.cd (by rw[length_map];have:=HR.nb;omega);have HRo:Hid (Calls prog 118 #[.agg #[.slice (some ⟨R.bI,R.oI,none⟩) R.N R.cI,xi R.m.cnt],.slice (some ⟨R.b,R.off+p1*5,none⟩) (p2-p1) (R.cap-p1),xg gq k cq] wr.drew λe w'=>∃g cp n,e=.returned (xg g n cp)/\Hid (∃o,n=o.length/\RowR R.m.l cs (segE R.es (p1,p2)) (List.replicate R.m.cnt.toNat newC) o/\OwnC w' wr.drew g cp o/\Below wr.drew wr.drew w')):=by have h9:=xDb (W:=wr.drew) HR.good.2.1 HR.N HR.ins HR.bIl HR.cI rfl HD.1.below HD.2.own (qv HD.2.kl HR.nb) HD.2.kl;exact yMh _ h9 R.b (R.off+p1*5) (R.cap-p1) cq (segE R.es (p1,p2)) (p2-p1) (yC9 HP.2.2).symm ((HR.cel.below HD.1.below).seg HP.2.1 HP.2.2) (by rw[yC9 HP.2.2];have:=HR.M;have:=HR.Ml;have:=HP.2;omega)
 have hS0:=HSS.out _ HD.1;go_upto_region 11 with fail;refine yCq [12] (λw':World=>xk w' (R.w+1+1) 1 (.slice a n c)/\xk w' R.w 1 (.slice (some ⟨R.bI,R.oI,none⟩) R.N R.cI)/\xk w' R.w 2 (xi R.m.cnt)/\xk w' gr r (.slice (some ⟨R.b,R.off+p1*5,none⟩) (p2-p1) (R.cap-p1))/\xk w' gr r (.slice (some ⟨R.b,R.off+p1*5,none⟩) (p2-p1) (R.cap-p1))/\xk w' gr r (.slice (some ⟨R.b,R.off+p1*5,none⟩) (p2-p1) (R.cap-p1))/\xk w' gr r (.slice (some ⟨R.b,R.off+p1*5,none⟩) (p2-p1) (R.cap-p1))/\xk w' gr r (.slice (some ⟨R.b,R.off+p1*5,none⟩) (p2-p1) (R.cap-p1))) (by kernel_rfl) ?_;refine txa 0 hS0 ?_;iterate 8 refine txb hS0 ?_
 refine yA3 (i:=9) (by kernel_rfl) rfl (λK hK=>?_);go_simp;refine HRo.mono ?_;rintro e w3 ⟨g3,cp3,n3,rfl,H3⟩;obtain⟨o,ho⟩:=H3.out;have HO:Hid (n3=o.length/\RowR R.m.l cs (segE R.es (p1,p2)) (List.replicate R.m.cnt.toNat newC) o/\yA4 w3 g3 0 o):=⟨ho.1,ho.2.1,ho.2.2.1.at⟩;have HW3:Hid (ByJ R gr cr out a n c w3):=HD.1.on ho.2.2.2;have hol:o.length<=p2-p1:=by have:=ho.2.1.len;rw[yC9 HP.2.2]at this;exact this
 have hS3:=HSS.out _ HW3.out;clear ho H3 hS0 HD HRo;refine hK.out _ _ (.inr hS3) ?_;clear hK;refine jS ?_;refine yA3 (i:=10) (by kernel_rfl) rfl (λK hK=>?_);refine yDz w3 rfl _ _ rfl R.w a n c g3 0 n3 cp3 out o rfl rfl HW3.n HO.1 HW3.row HO.2.2 (by have:=HW3.n;have:=HP.2;have:=HR.M;have:=HR.Ml;omega) HW3.below.size (λa' c' w4 hR4 hg4 ha4=>?_);have hc4:Chg (λq=>(Value.slice a n c).ownBlock=some q) w3 w4:=Chg.of_grown hg4 (λq hq=>hq);have H4:Hid (yA w4 R.w 39 3 (R.w+1+1) [true,.slice a n c,xi R.M]/\RowC w4 R.w (.slice a' (n+n3) c') (out++o)/\∀X:World,Chg (λq=>q=R.w.heap.size+1+1) w4 X->yA X R.w 39 3 (R.w+1+1) [true,.slice a' (n+n3) c',xi R.M]->ByJ R gr cr (out++o) a' (n+n3) c' X):=by have h3:=HW3.out;have ho4:=h3.obx.chg hc4 (λq=>yAb h3.row h3.obx (by decide) _ q rfl);refine⟨ho4,hR4,λX hX hB=>?_⟩;have hbx:=(h3.box.chg hc4 (λq=>yAb h3.row h3.box (by decide) _ q rfl)).chg hX (by omega);have hrs:=(h3.res.chg hc4 (λq=>yAb h3.row h3.res (by decide) _ q rfl)).chg hX (by omega);have hrw4:yDk w4 R.w gr cr (R.A.map (segV R.b R.off R.cap)):=yAh h3.rows hc4 (λq hq z=>yAb h3.row h3.rows qj _ z hq);have hrw:=yAh hrw4 hX (λq hq z=>yAb hrw4 ho4 (by decide) _ hq (by rw[z];rfl));refine⟨hbx,hrs,hB,hR4.chg hX (λq hq z=>yAb hR4 ho4 (by decide) _ hq (by rw[z];rfl)),by rw[length_append,<-h3.n,<-HO.1],hrw,?_⟩;have hb4:Below R.w R.w w4:=Chg.below h3.below hc4 h3.below.size (λq z=>(h3.row.blk z).1);exact Chg.below hb4 hX hb4.size (λq z=>by omega)
 have hS4:(λw':World=>xk w' (R.w+1+1) 1 (.slice a n c)/\xk w' R.w 1 (.slice (some ⟨R.bI,R.oI,none⟩) R.N R.cI)/\xk w' R.w 2 (xi R.m.cnt)/\xk w' gr r (.slice (some ⟨R.b,R.off+p1*5,none⟩) (p2-p1) (R.cap-p1))/\xk w' gr r (.slice (some ⟨R.b,R.off+p1*5,none⟩) (p2-p1) (R.cap-p1))/\xk w' gr r (.slice (some ⟨R.b,R.off+p1*5,none⟩) (p2-p1) (R.cap-p1))/\xk w' gr r (.slice (some ⟨R.b,R.off+p1*5,none⟩) (p2-p1) (R.cap-p1))/\xk w' gr r (.slice (some ⟨R.b,R.off+p1*5,none⟩) (p2-p1) (R.cap-p1))) w4:=by have h3:=HW3.out;have hbx:=h3.box.chg hc4 (λq=>yAb h3.row h3.box (by decide) _ q rfl);have hrw:yDk w4 R.w gr cr (R.A.map (segV R.b R.off R.cap)):=yAh h3.rows hc4 (λq hq z=>yAb h3.row h3.rows qj _ z hq);have h9:=hrw.cell (j:=r) (by rw[getElem?_map,HP.1];rfl);exact⟨H4.1.cell (j:=1) rfl,hbx.cell (j:=1) rfl,hbx.cell (j:=2) rfl,h9,h9,h9,h9,h9⟩
 have HN:Hid (∀r',RwsR R.m.vw (R.bs.map Bk.vw) ((R.A.map (segE R.es)).drop (r+1)) r'->RwsR R.m.vw (R.bs.map Bk.vw) (R.A.map (segE R.es)) ((out++o)++r')):=RwsR.step HJ.2 (by rw[getElem?_map,HP.1];rfl) HCd.out HO.2.1;clear hR4 hg4 ha4 hc4;refine hK.out _ _ (.inr hS4) ?_;clear hK;refine jS ?_;refine txb hS4 ?_;have v1:=H4.1.cell (j:=1) rfl;have f1:=H4.1.frozen 1;obtain⟨W5,hW5⟩:=qW (xt w4 (R.w+1+1) 1 (.slice a' (n+n3) c'));have H5:Hid (ByJ R gr cr (out++o) a' (n+n3) c' W5):=H4.2.2 W5 (by rw[hW5];exact Chg.of_set _ _ _ _ rfl) (by rw[hW5];exact H4.1.set 1 _);refine yA3 (i:=12) (by kernel_rfl) rfl (λK hK=>?_);go_simp;rw[<-hW5];refine hK.out _ _ (.inl (by decide)) ?_;clear hK hW5 hS4 hS3;refine jS ?_;refine yD6 (by kernel_rfl) ?_;refine zY ?_;exact⟨r+1,out++o,a',n+n3,c',by omega,by go_num,by have:=HO.1;have:=HP.2;have:=HR.M;have:=HR.Ml;omega,H5.out,HN.out⟩):p:=h
theorem zByZ (h:p:=by
 obtain⟨t0,t1,t2⟩:=HJ.1.obx.c3;obtain⟨v0,v1,v2⟩:=HJ.1.res.c3;obtain⟨f0,f1,f2⟩:=HJ.1.res.f3;obtain⟨W9,hW9⟩:=qE (setCs wr (R.w+1) 0 [true,.slice a n c,xi R.M]:World);have b9:yA W9 R.w 39 3 (R.w+1) [true,.slice a n c,xi R.M]:=by rw[hW9];exact HJ.1.res.setCs _
 have c9:Chg (λq=>q=R.w.heap.size+1) wr W9:=by rw[hW9];exact yAl (S:=λq=>q=R.w.heap.size+1) _ rfl _ _ _
 have HE:Hid (∃out,n=out.length/\RwsR R.m.vw (R.bs.map Bk.vw) ((allC R.es 0).map (segE R.es)) out/\RowC W9 R.w (.slice a n c) out/\Below R.w R.w W9):=by have hj:=HJ.1;refine⟨out,hj.n,?_,hj.row.chg c9 (λq hq z=>yAb hj.row hj.res (by decide) _ hq (by rw[z];rfl)),Chg.below hj.below c9 hj.below.size (λq z=>by omega)⟩;rw[<-HR.A];exact RwsR.done HJ.2 (by rw[length_map];have:=HnA.out;omega)
 obtain⟨q0,q1,q2⟩:=b9.c3;simp only[setCs,Nat.zero_add,Nat.reduceAdd]at hW9;clear b9 c9;go_wp2;rw[<-hW9];exact bodyPost_ret (v:=.agg #[true,.slice a n c,xi R.M]) (by simp[results,results56,go_sem,q0,q1,q2]) rfl ⟨a,n,c,rfl,HE⟩):p:=h
theorem yOb (R:ByG) (hR:ByO R):
  Calls prog 56 #[.agg #[.slice (some ⟨R.ub,R.uo,none⟩) R.nb R.uc,.slice (some ⟨R.bI,R.oI,none⟩) R.N R.cI,xi R.m.cnt],.slice (some ⟨R.b,R.off,none⟩) R.M R.cap] R.w λe w'=>∃a n c,e=.returned (.agg #[true,.slice a n c,xi R.M])/\Hid (∃out,n=out.length/\RwsR R.m.vw (R.bs.map Bk.vw) ((allC R.es 0).map (segE R.es)) out/\RowC w' R.w (.slice a n c) out/\Below R.w R.w w'):=by
 have HR:Hid (ByO R):=hR;have a9:R.nb<=200:=by rw[hR.nb];exact hR.good.1
 have a7:R.A.length<=10000:=by rw[hR.A];exact Nat.le_trans (yQ2 R.es _ 0) (qv hR.M hR.Ml)
 obtain⟨W0,a0⟩:=qW (xw ((R.w.alloc (Obj.cells #[.slice (some ⟨R.ub,R.uo,none⟩) R.nb R.uc,.slice (some ⟨R.bI,R.oI,none⟩) R.N R.cI,xi R.m.cnt] 34)).alloc (Obj.cells #[false,xh,xi 0] 39)) #[true,xh,xi R.M] 39);have H0:Hid (yA W0 R.w 34 3 R.w [.slice (some ⟨R.ub,R.uo,none⟩) R.nb R.uc,.slice (some ⟨R.bI,R.oI,none⟩) R.N R.cI,xi R.m.cnt]/\yA W0 R.w 39 3 (R.w+1) [false,xh,xi 0]/\yA W0 R.w 39 3 (R.w+1+1) [true,xh,xi R.M]/\Below R.w R.w W0):=by
  obtain⟨X,hX⟩:=qW (xw R.w #[.slice (some ⟨R.ub,R.uo,none⟩) R.nb R.uc,.slice (some ⟨R.bI,R.oI,none⟩) R.N R.cI,xi R.m.cnt] 34);rw[<-hX]at a0;obtain⟨Y,hY⟩:=qW (xw X #[.bool false,.slice none 0 0,.int .i64 0] 39);rw[<-hY]at a0;have zx:X.heap.size=R.w.heap.size+1:=by rw[hX];simp
  have zy:Y.heap.size=R.w.heap.size+1+1:=by rw[hY];simp;omega
  have k1:Below R.w R.w X:=by rw[hX];exact qB
  have k2:Below X X Y:=by rw[hY];exact qB
  have k3:Below Y Y W0:=by rw[a0];exact qB
  have b1:yA X R.w.heap.size 34 3 R.w.heap.size [.slice (some ⟨R.ub,R.uo,none⟩) R.nb R.uc,.slice (some ⟨R.bI,R.oI,none⟩) R.N R.cI,.int .i64 R.m.cnt]:=by rw[hX];exact yAa R.w _ (Nat.le_refl _) rfl
  have b2:yA Y R.w.heap.size 39 3 (R.w.heap.size+1) [.bool false,.slice none 0 0,.int .i64 0]:=by rw[hY,<-zx];exact yAa X _ (by omega) rfl
  have b3:yA W0 R.w.heap.size 39 3 (R.w.heap.size+1+1) [.bool true,.slice none 0 0,.int .i64 (R.M:Int)]:=by rw[a0,<-zy];exact yAa Y _ (by omega) rfl
  exact⟨(b1.below k2).below k3,b2.below k3,b3,(k1.trans (k2.mono (by omega))).trans (k3.mono (by omega))⟩
 have a4:Hid (Calls prog 107 #[.slice (some ⟨R.b,R.off,none⟩) R.M R.cap] W0 λe w'=>∃g cp,e=.returned (.slice (some ⟨g,0,none⟩) R.A.length cp)/\yDk w' W0.heap.size g cp (R.A.map (segV R.b R.off R.cap))/\Below W0.heap.size W0 w'):=by rw[hR.A,hR.M];exact yS8 (hR.cel.below H0.2.2.2) (qv hR.M hR.Ml)
 obtain⟨nA,a3⟩:=qE R.A.length;have HnA:Hid (nA=R.A.length):=a3;rw[<-a3]at a4 a7;clear hR a3;go_enter func56,ntmps56;go_upto_region 2 with fail;rw[<-a0];clear a0;go_wp2_with fail;refine a4.mono ?_;rintro e w1 ⟨gr,cr,rfl,a5,a1⟩;have H1:Hid (ByJ R gr cr [] none 0 0 w1):=by obtain⟨h1,h2,h3,h4⟩:=H0.out;refine⟨h1.below a1,h2.below a1,h3.below a1,yGq _ _,rfl,?_,h4.trans (a1.mono h4.size)⟩;exact yYq a5 h4.size
 clear a5 a1 a4 H0;go_wp2;go_loopw[7] (λrv wr=>∃(r:Nat) (out:List Ent) (a:Option Addr) (n c:Nat),r<=nA/\rv=.int .i64 (r:Int)/\n<=10000*r/\Hid (ByJ R gr cr out a n c wr/\∀r',RwsR R.m.vw (R.bs.map Bk.vw) ((R.A.map (segE R.es)).drop r) r'->RwsR R.m.vw (R.bs.map Bk.vw) (R.A.map (segE R.es)) (out++r'))) (λrv _=>nA-(intOf rv).toNat);case atStart=>exact⟨0,[],none,0,0,zero_le _,rfl,zero_le _,H1.out,λo h=>h⟩
 case round=>
  clear H1;obtain⟨r,out,a,n,c,hr,rfl,a8,HJ⟩:=hrel;by_cases hlt:r<nA
  .have zr:(r:Int)<(nA:Int):=by omega
   obtain⟨⟨p1,p2⟩,hp⟩:∃p,R.A[r]?=some p:=⟨_,getElem?_eq_getElem (qw HnA.out)⟩;have HP:Hid (R.A[r]?=some (p1,p2)/\p1<=p2/\p2<=R.es.length):=⟨hp,HR.Am _ (mem_of_getElem? hp)⟩;clear hp;obtain⟨wo,a6⟩:=qW wr;subst a6;obtain⟨W2,a2⟩:=qW (wo.alloc (Obj.cells #[] 4));have H2:Hid (ByJ R gr cr out a n c W2/\CdJ R (segE R.es (p1,p2)) wo.heap.size 0 0 [] W2):=by
    have k2:Below wo wo W2:=by rw[a2];exact qB
    exact⟨HJ.1.on k2,⟨by rw[a2];exact yU1 wo HJ.1.below.size,rfl,λr h=>h⟩⟩
   go_upto_region 7 with fail;rw[<-a2];clear a2;go_wp2;go_loopw[8,9] (λcv kv wr=>∃(k gq cq:Nat) (cs:List Bool),k<=R.nb/\cv=.slice (some ⟨gq,0,none⟩) k cq/\kv=.int .i64 (k:Int)/\Hid (ByJ R gr cr out a n c wr/\CdJ R (segE R.es (p1,p2)) gq cq k cs wr)) (λ_ kv _=>R.nb-(intOf kv).toNat);case atStart=>exact⟨0,_,0,[],zero_le _,rfl,rfl,H2.out⟩
   case round=>
    clear H2;obtain⟨k,gq,cq,cs,hk,rfl,rfl,HQ⟩:=hrel;have y0:=HQ.1.box.cell (j:=0) rfl;by_cases hkl:k<R.nb
    .have zk:(k:Int)<(R.nb:Int):=by omega
     as_aux_lemma=>exact zByC
    .have zk:¬(k:Int)<(R.nb:Int):=by omega
     as_aux_lemma=>exact zByE
  .have zr:¬(r:Int)<(nA:Int):=by omega
   as_aux_lemma=>exact zByZ
end
abbrev rcL (fn:FuncId) (tmps:Array Value) (ps:Array Tmp) (assign body:Code) (D:Nat) (st:LoopState) (pe:Option Code):Obj:=.loop {state:=st,pending:=pe,fn,tmps,params:=ps,assign,body,defers:=D}
def RndP (rec:LoopState->Option Code->Obj) (l:Nat) (R:Ending->World->Prop) (e:Exit) (W:World):Prop:=
 W.heap[l]?=some (rec .busy none)/\match e with
 | .normal=>R (.returned true) (W.putObj l (rec .ready none))
 | .ret=>R (.returned false) (W.putObj l (rec .done (some .ret)))
 | .exit id=>R (.returned false) (W.putObj l (rec .done (some (.exit id))))
 |_=>False
variable {ps:Array Tmp} {body:Code}
theorem yD7 {fn:FuncId} {tmps:Array Value} {assign:Code} {D l:Nat} {args:Array Value} {R:Ending->World->Prop} (hl:W.heap[l]?=some (rcL fn tmps ps assign body D .ready none)) (hs:args.size=ps.size)
  (h:assign.wpIn (Fence.wide.inRound l) n prog (Exit.then (λa' Wa=>Wa.heap[l]?=some (rcL fn tmps ps assign body D .ready none)/\body.wpIn (Fence.wide.inRound l) n prog (λe _ W3=>RndP (rcL fn tmps ps assign body D) l R e W3) a' (Wa.putObj l (rcL fn tmps ps assign body D .busy none))) (λ_ _ _=>False))
   {tmps:=(ps.zip args).foldl (λt (p,v)=>t.setIfInBounds p v) tmps,defers:= []} W):
  YieldAt Fence.wide n prog l args W R:=by
 have hy:=run_yield (P:=prog) (args:=args) hl hs;refine⟨fn,_,assign,body,hy,roundIn_of_wpIn trivial (wpIn_mono h ?_)⟩;intro e a' Wa hp;cases e with
 |normal=>
  obtain⟨a1,hb⟩:=hp;refine⟨_,run_beginRound a1 rfl,wpIn_mono hb ?_⟩;rintro e a3 W3 ⟨a0,hp⟩;cases e with
  |normal=>exact⟨_,_,run_endRound none a0,hp⟩
  |ret=>exact⟨_,_,run_endRound (some .ret) a0,hp⟩
  |exit id=>exact⟨_,_,run_endRound (some (.exit id)) a0,hp⟩
  |goto t=>exact hp.elim
  |panic ch=>exact hp.elim
  |outgrown=>exact hp.elim
 |_=>exact hp
theorem yGa {g:Operand} {assign:Code} {gf:Nat} {lb:Array Value} (hg:a.eval g=.func (.func gf) #[] lb) (eg:∀args w,(callFunc gf args).run prog w=.ok (.enter gf args) w) (h1:1<=n)
  (h:∀fn W1,W1=(w.alloc (.deferred (some []))).alloc (rcL fn a.tmps ps assign body w .ready none)->CallsIn Fence.wide (n-1) prog gf (#[.func (.yield (w+1)) #[] #[]]++lb) W1 λe W2=>(∃v,e=.returned v)/\
   ((W2.heap[w.heap.size+1]?=some (rcL fn a.tmps ps assign body w .ready none)/\Q .normal {a with defers:={target:=.collected w,args:=#[]}::a.defers} (W2.putObj (w+1) (rcL fn a.tmps ps assign body w .exhausted none)))∨
    ∃c,W2.heap[w.heap.size+1]?=some (rcL fn a.tmps ps assign body w .done (some c))/\c.wpIn Fence.wide n prog Q {a with defers:={target:=.collected w,args:=#[]}::a.defers} (W2.putObj (w+1) (rcL fn a.tmps ps assign body w .exhausted (some c))))):
  (Code.rangeFunc g ps assign body).wpIn Fence.wide n prog Q a w:=by
 refine wpIn_rangeFunc ?_;intro fn a1;obtain⟨W1,a0⟩:=qE ((w.alloc (.deferred (some []))).alloc (rcL fn a.tmps ps assign body w .ready none))
 refine⟨w+1,[{target:=.collected w,args:=#[]}],W1,{target:=.fn (.func gf) lb,args:=#[.func (.yield (w+1)) #[] #[]]},W1,gf,
  #[.func (.yield (w+1)) #[] #[]]++lb,W1,by rw[a0];exact run_enterLoop_outer _ _ _ _ _,?_,λ_ _=>trivial,?_,λ_=>h1,?_⟩
 .simp only[resolve,hg];simp[go_sem]
 .simp[invoke,go_sem,eg]
 .refine(h fn W1 a0).mono ?_;exact xF3
theorem ySi {g:Operand} {assign:Code} {l₀:Nat} {r₀:Loop} (hl₀:w.heap[l₀]?=some (.loop r₀)) {gf:Nat} {lb:Array Value} (hg:a.eval g=.func (.func gf) #[] lb) (eg:∀args w,(callFunc gf args).run prog w=.ok (.enter gf args) w) (h1:1<=n)
  (h:∀fn W1,W1=w.alloc (rcL fn a.tmps ps assign body r₀.defers .ready none)->CallsIn Fence.wide (n-1) prog gf (#[.func (.yield w) #[] #[]]++lb) W1 λe W2=>(∃v,e=.returned v)/\
   ((W2.heap[w.heap.size]?=some (rcL fn a.tmps ps assign body r₀.defers .ready none)/\Q .normal a (W2.putObj w (rcL fn a.tmps ps assign body r₀.defers .exhausted none)))∨
    ∃c,W2.heap[w.heap.size]?=some (rcL fn a.tmps ps assign body r₀.defers .done (some c))/\c.wpIn (Fence.wide.inRound l₀) n prog Q a (W2.putObj w (rcL fn a.tmps ps assign body r₀.defers .exhausted (some c))))):
  (Code.rangeFunc g ps assign body).wpIn (Fence.wide.inRound l₀) n prog Q a w:=by
 refine wpIn_rangeFunc ?_;intro fn a1;obtain⟨W1,a0⟩:=qE (w.alloc (rcL fn a.tmps ps assign body r₀.defers .ready none))
 refine⟨w,[],W1,{target:=.fn (.func gf) lb,args:=#[.func (.yield w) #[] #[]]},W1,gf,
  #[.func (.yield w) #[] #[]]++lb,W1,by rw[a0];exact run_enterLoop_inner hl₀ _ _ _ _ _,?_,λ_ _=>trivial,?_,λ_=>h1,?_⟩
 .simp only[resolve,hg];simp[go_sem]
 .simp[invoke,go_sem,eg]
 .refine CallsIn.inRound l₀ ((h fn W1 a0).mono ?_);exact xF3
theorem yV6 {h:Hn} {c:Ent} (hc:∀e∈es,yAo (putE c) (putE e)= -1) (ho:es.Pairwise λa b=>yAo (putE a) (putE b)= -1)
  (i j:Nat) ei ej (hij:i<=j) (hi:es[i]?=some ei) (hj:es[j]?=some ej) (hs:yAz h c ej=true):yAz h c ei=true:=by
 obtain⟨li,rfl⟩:=List.getElem?_eq_some_iff.1 hi;obtain⟨lj,rfl⟩:=List.getElem?_eq_some_iff.1 hj;refine yVz (LeC.of_key (hc _ (getElem_mem li))) ?_ hs;by_cases e:i=j
 .subst e;exact LeC.refl _
 .exact LeC.of_key (List.pairwise_iff_getElem.1 ho i j li lj qo)
section
section
variable {F:Fence} {n:Nat} {P:Program} {ops:Array Oper} {Q:Exit->Act->World->Prop} {md:Region.Mode} {S:World->Prop} {X:List Nat}
def YifI (P:Program) (ops:Array Oper) (S:World->Prop) (o:Oper) (v:Value) (a:Act):Prop:=YieldsIf P ops S o v a/\∀w,o.about P w a.eval=none
variable {o:Oper}
theorem YifI.same {v:Value} {a':Act} (hy:YifI P ops S o v a) (he:execOp a'.eval o=execOp a.eval o) (hw:Region.wanted o (yielded ops a'.tmps)=Region.wanted o (yielded ops a.tmps)) (hb:∀w,o.about P w a'.eval=o.about P w a.eval):YifI P ops S o v a':=
 ⟨hy.1.of_same he hw,λw=>(hb w).trans (hy.2 w)⟩
theorem YifI.op {v:Value} (hro:F.round=none) (hi:ops[i]?=some o) (hy:YifI P ops S o v a) (hS:S w) (h:K (a.put o.dst v) w):wpOpIn F n P ops Q i K a w:=by
 unfold wpOpIn;simp only[hi];have a0:∀f,o.about P w a.eval=some f->F.fn f:=λf hf=>by rw[hy.2 w]at hf;cases hf
 rcases hy.1 with⟨hw,hv⟩|⟨hw,rfl⟩
 .simp only[hw,if_true,Oper.wpIn,hro,Oper.semAt_none,hv w hS,Oper.uponIn];exact⟨a0,h⟩
 .simp only[hw,Bool.false_eq_true,if_false];exact⟨a0,h⟩
theorem yWb {oi oj:Oper} {v:Value} (hro:F.round=none) (hj:ops[j]?=some oj) (hap:oi.apart ops oj=true)
  (hsi:∀cs b,oi.op≠ .select cs b) (hsj:∀cs b,oj.op≠ .select cs b)
  (hQ:∀c a w,Q (.panic c) (a.put oi.dst v) w->Q (.panic c) a w) {K:Act->World->Prop} {a:Act} {w:World}
  (hy:YifI P ops S oi v a) (h:wpOpIn F n P ops Q j K (a.put oi.dst v) w):wpOpIn F n P ops Q j (λa' w'=>YifI P ops S oi v a'/\K (a'.put oi.dst v) w') a w:=by
 obtain⟨h1,h2,h3⟩:=Oper.apart_spec hap;have kp:∀(b:Act),YifI P ops S oi v b->∀u,YifI P ops S oi v (b.put oj.dst u):=λb hb u=>hb.same (execOp_put oi hsi b oj.dst u h3) (wanted_put oi b oj.dst u h3) (λw=>about_put oi w b oj.dst u h3);have fin:∀(u:Value) (w':World),K ((a.put oi.dst v).put oj.dst u) w'->YifI P ops S oi v (a.put oj.dst u)/\K ((a.put oj.dst u).put oi.dst v) w':=λu w' hk=>⟨kp a hy u,by rw[<-Act.put_comm a v u h2];exact hk⟩;unfold wpOpIn at*;simp only[hj]at*;rw[wanted_put oj a oi.dst v h1,about_put oj w a oi.dst v h1]at h;by_cases hw:Region.wanted oj (yielded ops a.tmps)=true
 .rw[if_pos hw]at h⊢;unfold Oper.wpIn at*;rw[about_put oj w a oi.dst v h1,hro,Oper.semAt_none,execOp_put oj hsj a oi.dst v h1]at h;rw[hro,Oper.semAt_none];refine⟨h.1,?_⟩;have hh:=h.2;generalize (execOp a.eval oj).run P w=r at*;cases r with
  |ok x w'=>
   cases x with
   |value u=>exact fin u w' hh
   |skip=>exact fin undef w' hh
   |defer d=>
    simp only[Oper.uponIn]at hh⊢;refine⟨kp {a with defers:=d::a.defers} (hy.same rfl rfl (λ_=>rfl)) undef,?_⟩;rw[<-Act.put_comm _ v undef h2,<-Act.put_defers];exact hh
   |enter f args=>
    simp only[Oper.uponIn]at hh⊢;refine⟨hh.1,CallsIn.mono hh.2 λe w'' he=>?_⟩;cases e with
    |returned u=>exact fin u w'' he
    |panicked c=>exact hQ _ _ _ he
    |outgrown=>exact he
   |row row args=>
    simp only[Oper.uponIn]at hh⊢;exact⟨hh.1,RowsIn.mono hh.2 λu w'' he=>fin u w'' he⟩
   |round l f tmps assign body=>
    simp only[Oper.uponIn]at hh⊢;refine⟨hh.1,RoundIn.mono hh.2 λe w'' he=>?_⟩;cases e with
    |returned u=>exact fin u w'' he
    |panicked c=>exact hQ _ _ _ he
    |outgrown=>exact he
   |_=>exact hh
  |halt x w'=>
   cases x with
   |panic u=>exact hQ _ _ _ hh
   |_=>exact hh
 .rw[if_neg hw]at h⊢;exact⟨h.1,fin undef w h.2⟩
def AnyI (F:Fence) (n:Nat) (P:Program) (md:Region.Mode) (ops:Array Oper) (Q:Exit->Act->World->Prop) (S:World->Prop) (X:List Nat):Nat->Array Bool->Act->World->Prop
 |0,listed,a,w=>Region.ready md ops listed= []/\Q .normal a w
 |fuel+1,listed,a,w=>
  (Region.ready md ops listed= []->Q .normal a w)/\
  ∀i∈Region.ready md ops listed,wpOpIn F n P ops Q i (λa' w'=>(i∈X∨S w')/\AnyI F n P md ops Q S X fuel (listed.setIfInBounds i true) a' w') a w
theorem yVh:∀(fuel:Nat) (listed:Array Bool) (a:Act) (w:World),AnyI F n P md ops Q S X fuel listed a w->wpAnyIn F n P md ops Q fuel listed a w
 |0,_,_,_,h=>h
 |fuel+1,_,_,_,h=>⟨h.1,λi hi=>wpOpIn_mono (λa' w' h'=>yVh fuel _ a' w' h'.2) (h.2 i hi)⟩
theorem yXi {oi:Oper} {v:Value} {Y:List Nat} (hro:F.round=none) (hi:ops[i]?=some oi) (hsel:∀(j:Nat) (o:Oper) cs b,ops[j]?=some o->o.op≠ .select cs b)
  (hQ:∀c a w,Q (.panic c) (a.put oi.dst v) w->Q (.panic c) a w):
  ∀(fuel:Nat) (listed:Array Bool) (a:Act) (w:World),yO2 md ops Y listed i=true->(∀L∈X,listed.getD L true=true∨L∈Y)->
   (∀j oj,ops[j]?=some oj->j≠i->listed.getD j true=false->(∀e∈oj.after,Region.binds md e=true->e.on≠i)->oi.apart ops oj=true)->
   i∈Region.ready md ops listed->YifI P ops S oi v a->S w->
   AnyI F n P md ops Q S X fuel (listed.setIfInBounds i true) (a.put oi.dst v) w->AnyI F n P md ops Q S X (fuel+1) listed a w:=by
 intro fuel;induction fuel with
 |zero=>
  intro listed a w _ _ _ hr hy hS H;refine⟨λh=>(by rw[h]at hr;cases hr),λj hj=>?_⟩;by_cases hji:j=i
  .subst hji;exact hy.op hro hi hS ⟨.inr hS,H⟩
  .have:=ready_mono hj hji;rw[H.1]at this;cases this
 |succ fuel ih=>
  intro listed a w hX a8 a7 hr hy hS H;refine⟨λh=>(by rw[h]at hr;cases hr),λj hj=>?_⟩;by_cases hji:j=i
  .subst hji;exact hy.op hro hi hS ⟨.inr hS,H⟩
  .have h1:=H.2 j (ready_mono hj hji);obtain⟨a3,oj,a1,aa⟩:=mem_ready.1 hj;have a0:∀k,listed.getD k true=false->∀e∈oj.after,Region.binds md e=true->e.on≠k:=λk h0 e he hb heq=>by
    have h1:=aa e he hb;rw[heq]at h1;rcases Nat.lt_or_ge k listed.size with h'|h'
    .simp[h']at h0 h1;rw[h0]at h1;cases h1
    .simp[Array.getElem?_eq_none h']at h1
   have a4:=a0 i (mem_ready.1 hr).1;have a5:j∉Y:=λq=>by
    have h2:=all_eq_true.1 hX j q;rw[Bool.and_eq_true,Bool.or_eq_true]at h2;rcases h2.2 with h3|h3
    .obtain⟨e,he,hb,a2⟩:=yGi a1 h3;exact a4 e he hb a2
    .obtain⟨L',ad,h4⟩:=any_eq_true.1 h3;obtain⟨e,he,hb,a2⟩:=yGi a1 h4;have h5:=all_eq_true.1 hX L' ad;rw[Bool.and_eq_true]at h5;exact a0 L' (by simpa using h5.1) e he hb a2
   have a6:j∉X:=λq=>(a8 j q).elim (λz=>by rw[a3]at z;cases z) a5;have ab:∀L∈X,(listed.setIfInBounds j true).getD L true=true∨L∈Y:=λL hL=>(a8 L hL).imp (λz=>by rw[getD_set_ne true (λq:j=L=>a6 (by rw[q];exact hL))];exact z) (λz=>z)
   have h2:=yWb hro a1 (a7 j oj a1 hji a3 a4) (λcs b=>hsel i oi cs b hi) (λcs b=>hsel j oj cs b a1) hQ hy h1
   have a9:∀k ok,ops[k]?=some ok->k≠i->(listed.setIfInBounds j true).getD k true=false->
     (∀e∈ok.after,Region.binds md e=true->e.on≠i)->oi.apart ops ok=true:=λk ok hk hki a0 hno=>by
    refine a7 k ok hk hki ?_ hno;by_cases hjk:j=k
    .subst hjk;exact a3
    .rw[getD_set_ne true hjk]at a0;exact a0
   have ac:yO2 md ops Y (listed.setIfInBounds j true) i=true:=by refine all_eq_true.2 λL hL=>?_;have h2:=all_eq_true.1 hX L hL;rw[getD_set_ne true (λq:j=L=>a5 (by rw[q];exact hL))];exact h2
   refine wpOpIn_mono (λa' w' h3=>⟨h3.2.1,ih (listed.setIfInBounds j true) a' w' ac ab a9 (ready_mono hr (Ne.symm hji)) h3.1 (h3.2.1.resolve_left a6) ?_⟩) h2;rw[Array.setIfInBounds_comm _ _ hji];exact h3.2.2
theorem yEr {fuel:Nat} {listed:Array Bool} (hr:Region.ready md ops listed= [i]) (ho:ops[i]?=some o)
  (h:∀K':Act->World->Prop,Shut (∀a w,(i∈X∨S w)->AnyI F n P md ops Q S X fuel (listed.setIfInBounds i true) a w->K' a w)->if Region.wanted o (yielded ops a.tmps)=true then Oper.wpIn F n P o a w K' Q else(∀f,o.about P w a.eval=some f->F.fn f)/\K' (a.put o.dst undef) w):
  AnyI F n P md ops Q S X (fuel+1) listed a w:=by
 refine⟨λh0=>(by rw[hr]at h0;cases h0),λj hj=>?_⟩;rw[hr]at hj;simp at hj;subst hj;exact wpOpIn_step ho (λK' hK=>h K' (λa w hS hW=>hK a w ⟨hS,hW⟩))
theorem yKw {fuel:Nat} {listed:Array Bool} (hr:Region.ready md ops listed= []) (h:Q .normal a w):AnyI F n P md ops Q S X fuel listed a w:=by exact xDs
theorem yD8 {id:Nat} (X:List Nat) (S:World->Prop) (hm:P.follows .mixedOrders=true)
  (h:AnyI F n P .any ops Q S X ops.size (Array.replicate ops.size false) a w.drew):(Code.region id ops true).wpIn F n P Q a w:=
 wpIn_region_any hm (yVh _ _ _ _ h)
end
theorem xIq (h:p:=by exact⟨(by exact jy),λ_=>rfl⟩):p:=h
section
variable {F:Fence} {n:Nat} {P:Program} {ops:Array Oper} {Q:Exit->Act->World->Prop} {md:Region.Mode} {S:World->Prop} {X:List Nat} {j:Nat} {v:Value} {oi:Oper} {fuel:Nat} {listed:Array Bool} {a:Act} {w:World} {q:Prop}
theorem tiT (hro:F.round=none) (hx:TxX ops Q md X i v oi listed) (hy:YifI P ops S oi v a) (hS:S w) (h:AnyI F n P md ops Q S X fuel (listed.setIfInBounds i true) (a.put oi.dst v) w):AnyI F n P md ops Q S X (fuel+1) listed a w:=
 yXi (Y:=(cloX md ops listed 6 [i]).erase i) hro hx.1 (Region.noSelect_spec hx.2.1) hx.2.2.2.2.2 fuel listed a w (by
  have h2:=hx.2.2.2.2.1
  unfold yO3 at h2
  rw[Bool.and_eq_true]at h2
  exact h2.1) (λL hL=>by
  have h2:=hx.2.2.2.2.1
  unfold yO3 at h2
  rw[Bool.and_eq_true]at h2
  simpa using all_eq_true.1 h2.2 L hL) (Region.free_spec hx.1 hx.2.2.1) (by simpa using hx.2.2.2.1) hy hS h
theorem yK8 (i:Nat) (hro:F.round=none) (hS:S w) (k:q) (hx:TxX ops Q md X i v oi listed:=by exact txx) (hy:YifI P ops S oi v a:=by exact xIq) (h:q->AnyI F n P md ops Q S X fuel (listed.setIfInBounds i true) (a.put oi.dst v) w:=by exact jz):AnyI F n P md ops Q S X (fuel+1) listed a w:=tiT hro hx hy hS (h k)
end
end
structure MvS (G:MchG) (N:Nat) (es:List Ent) (pc pp ph b off cap:Nat) (hints:Bool) (ks:List Ctr) (v:Value) (W:World):Prop where
 mc:McI G N ks v W
 bc:(xk W pc 0 (.slice (some ⟨b,off,none⟩) es.length cap):Prop)
 bp:(xk W pp 1 (xp G.mb):Prop)
 bh:(xk W ph 0 hints:Prop)
 sl:CSl W b off cap es
 nb:∀q,(q=ph∨q=b)->¬q=G.g/\¬q=G.mb/\¬G.T q/\¬v.ownBlock=some q
def SvI (b off M i:Nat) (sv:Value):Prop:=∃o n cp,sv=.slice (some ⟨b,o,none⟩) n cp/\n=M-i/\n<=cp/\cp<=9223372036854775807/\(0<n->o=off+i*5)
theorem yHy {p:Addr} {v:Value} (h:W.cell? p=some v):p.block<W.heap.size:=by apply Classical.byContradiction;intro hn;unfold World.cell? at h;rw[Array.getElem?_eq_none (by omega)]at h;simp at h
theorem yDj {p:Addr} {v:Value} (hb:Below W W W') (h:W.cell? p=some v):W'.cell? p=W.cell? p:=hb.cell (yHy h)
theorem McI.on {G:MchG} {l:List Ix} {v:Value} (h:McI G N ks v W) (hO:MaOk G l) (hb:Below W W W'):McI G N ks v W':=by have hc:Chg (λ_=>False) W W':=Chg.of_below hb;obtain⟨m,hm⟩:=h.stk;exact⟨h.chg.trans (hc.mono (λq z=>z.elim)),hO.ti (λ_=>False) W W' h.ti hc (λq z=>z.elim),h.ctr.below hb,h.len,h.cb,h.box.below hb,⟨m,yAh hm hc (λ_ _ q=>q)⟩⟩
def nxtM (es:List Ent) (hints:Bool) (i:Nat) (it:It) (c:Ent):Nat:=if it.alive=false/\hints=true then i+1+((es.drop (i+1)).takeWhile (yAz it.hint c)).length else i+1
theorem zMvF (h:p:=by
 have HSS:Hid (∀X,yA X wo 181 4 w3 [false,it.strip,xi it.hint.rank,it.hint.txt]->yA X wo 70 5 wo c.five->(λw':World=>xk w' w3 0 false/\xk w' w3 1 it.strip/\xk w' w3 2 (xi it.hint.rank)/\xk w' w3 3 it.hint.txt/\xk w' wo 0 c.row/\xk w' wo 1 c.fam/\xk w' wo 2 c.qual/\xk w' wo 3 (xu c.ts)/\xk w' wo 4 c.val/\xk w' w3 0 false) X):=λX h k=>
  ⟨h.cell (j:=0) rfl,h.cell (j:=1) rfl,h.cell (j:=2) rfl,h.cell (j:=3) rfl,k.cell (j:=0) rfl,k.cell (j:=1) rfl,k.cell (j:=2) rfl,k.cell (j:=3) rfl,k.cell (j:=4) rfl,h.cell (j:=0) rfl⟩
 have HI5:Hid (yA wY.drew wo 181 4 w3 [false,it.strip,xi it.hint.rank,it.hint.txt]/\yA wY.drew wo 70 5 wo c.five/\Below w3 w3 wY.drew):=by have kd:Below wY wY wY.drew:=(Below.refl _ _).drew;exact⟨HI4.1.below kd,HI4.2.1.below kd,HI4.2.2.trans (kd.mono HI4.2.2.size)⟩
 have hS0:=HSS.out _ HI5.1 HI5.2.1;refine yD8 [6,7] (λw':World=>xk w' w3 0 false/\xk w' w3 1 it.strip/\xk w' w3 2 (xi it.hint.rank)/\xk w' w3 3 it.hint.txt/\xk w' wo 0 c.row/\xk w' wo 1 c.fam/\xk w' wo 2 c.qual/\xk w' wo 3 (xu c.ts)/\xk w' wo 4 c.val/\xk w' w3 0 false) (by kernel_rfl) ?_;exact xG1):p:=h
theorem zMvT (h:p:=by
 have HSS:Hid (∀X,yA X wo 181 4 w3 [true,it.strip,xi it.hint.rank,it.hint.txt]->yA X wo 70 5 wo c.five->(λw':World=>xk w' w3 0 true/\xk w' w3 1 it.strip/\xk w' w3 2 (xi it.hint.rank)/\xk w' w3 3 it.hint.txt/\xk w' wo 0 c.row/\xk w' wo 1 c.fam/\xk w' wo 2 c.qual/\xk w' wo 3 (xu c.ts)/\xk w' wo 4 c.val/\xk w' w3 0 true) X):=λX h k=>
  ⟨h.cell (j:=0) rfl,h.cell (j:=1) rfl,h.cell (j:=2) rfl,h.cell (j:=3) rfl,k.cell (j:=0) rfl,k.cell (j:=1) rfl,k.cell (j:=2) rfl,k.cell (j:=3) rfl,k.cell (j:=4) rfl,h.cell (j:=0) rfl⟩
 have HI5:Hid (yA wY.drew wo 181 4 w3 [true,it.strip,xi it.hint.rank,it.hint.txt]/\yA wY.drew wo 70 5 wo c.five/\Below w3 w3 wY.drew):=by have kd:Below wY wY wY.drew:=(Below.refl _ _).drew;exact⟨HI4.1.below kd,HI4.2.1.below kd,HI4.2.2.trans (kd.mono HI4.2.2.size)⟩
 have hS0:=HSS.out _ HI5.1 HI5.2.1;refine yD8 [6,7] (λw':World=>xk w' w3 0 true/\xk w' w3 1 it.strip/\xk w' w3 2 (xi it.hint.rank)/\xk w' w3 3 it.hint.txt/\xk w' wo 0 c.row/\xk w' wo 1 c.fam/\xk w' wo 2 c.qual/\xk w' wo 3 (xu c.ts)/\xk w' wo 4 c.val/\xk w' w3 0 true) (by kernel_rfl) ?_;exact xG1):p:=h
theorem zMvL (h:p:=by
 refine⟨trivial,(callsIn_wide.2 HLk.out).mono ?_⟩;rintro e w3 ⟨it,ks',v',hlk,rfl,hmc,hch,hvb⟩;have H3:Hid (LkR pfxB l c [] ⟨0,[newI],ks⟩ (it,ks')/\McI G N ks' v' w3/\Chg (λq=>q=G.g∨q=G.mb∨G.T q∨v.ownBlock=some q) W2 w3/\(v'.ownBlock=v.ownBlock∨∃k,v'.ownBlock=some k/\W2.heap.size<=k)):=⟨hlk,hmc,hch,hvb⟩;have z0:(xk w3 ph 0 hints:Prop):=by have h1:=HW2.1.bh;obtain⟨n1,n2,n3,n4⟩:=HW2.1.nb ph (.inl rfl);rw[hch.cell (yHy h1) (λq=>by rcases q with q|q|q|q;exact n1 q;exact n2 q;exact n3 q;exact n4 q)];exact h1
 have hphl:=yHy z0;have hbx:yA w3 wo 70 5 wo c.five:=by
  refine HW2.2.1.chg hch (λq=>?_);have hs:=HR.out _ _ _ _ HJ.2;have hz:=hs.mc.chg.size;have h1:=HOk.1.gl;have h2:=HOk.1.ml;rcases q with q|q|q|q
  .omega
  .omega
  .have:=HOk.1.tl _ q;omega
  .obtain⟨mm,hmm⟩:=hs.mc.stk;have:=(World.ownsRow.lt hmm _ q).2;omega
 have HBx:Hid (yA w3 wo 70 5 wo c.five):=hbx;obtain⟨d0,d1,d2,d3,d4⟩:=hbx.c5;have hwl:wo.heap.size<w3.heap.size:=hbx.lt.2;obtain⟨x',hx'⟩:=qE (yB it c);have HYs:Hid (∀X,Below w3 w3 X->YieldAt Fence.wide (m-1) prog lY #[.agg #[x'.row,x'.fam,x'.qual,xu x'.ts,x'.val],it.alive] X λe W''=>e=.returned true/\J (nxtM es hints i it c) ks' v' W''):=λX hb=>by rw[hx'];refine HY.out i c it ks ks' v v' wo X HJ.2 HC.out H3.1 (H3.2.1.on HOk.1 hb) (((Chg.of_below HW2.2.2).trans H3.2.2.1).trans (Chg.of_below hb)) (H3.2.2.2.imp (λq=>q) (fun⟨k,k1,k2⟩=>⟨k,k1,qw HW2.2.2.size⟩))
 have HSh:Hid (∀X,(xf 106 #[.agg #[it.alive,it.strip,xi it.hint.rank,it.hint.txt],.agg #[c.row,c.fam,c.qual,xu c.ts,c.val]] X (.agg #[x'.row,x'.fam,x'.qual,xu x'.ts,x'.val]):Prop)):=λX=>by rw[hx'];exact yJf it c X
 clear hlk hmc hch hvb HLk hbx hx';cases hal:it.alive
 .rw[hal]at HYs HSh;obtain⟨W4,hW4⟩:=qW (xw w3 #[false,it.strip,xi it.hint.rank,it.hint.txt] 181);have HI4:Hid (yA W4 wo 181 4 w3 [false,it.strip,xi it.hint.rank,it.hint.txt]/\yA W4 wo 70 5 wo c.five/\Below w3 w3 W4):=by
   have k4:=qN hW4
   exact⟨by rw[hW4];exact yAa w3 _ (by omega) rfl,HBx.below k4,k4⟩
  cases hints
  .obtain⟨nx,hnx⟩:=qE (i+1);have HNx:Hid (nxtM es false i it c=nx):=by show _=_;unfold nxtM;simp[hnx]
   have HNl:Hid (i+1<=nx/\nx<=M):=by show _/\_;omega
   have HSx:Hid (SvI b off M nx sv):=by rw[hnx];exact HSv.out
   clear hnx;gi_wp2;rw[<-hW4];clear hW4 z0 hphl d0 d1 d2 d3 d4;generalize W4=wY at HI4⊢;exact zMvF
  .obtain⟨o5,n5,c5,hsv5,hn5,hnc5,hcm5,ho5⟩:=HSv.out;subst hsv5;obtain⟨nw,hnw⟩:=qE (((es.drop (i+1)).takeWhile (yAz it.hint c)).length);have hnl:nw<=n5:=by rw[hnw,hn5];refine Nat.le_trans (takeWhile_sublist _).length_le ?_;rw[length_drop];have:=HM.out;omega
   have HRe:Hid ((xf 105 #[.agg #[xi it.hint.rank,it.hint.txt],.agg #[c.row,c.fam,c.qual,xu c.ts,c.val],.slice (some ⟨b,o5,none⟩) n5 c5] W4 (xi nw):Prop)):=by
    obtain⟨b1,b2,b3,b4⟩:=HW2.1.nb b (.inr rfl);have hsl3:CSl w3 b off cap es:=HW2.1.sl.chg H3.2.2.1 (λq=>by rcases q with q|q|q|q;exact b1 q;exact b2 q;exact b3 q;exact b4 q);have hsl4:=hsl3.below HI4.2.2;have hlen:n5=(es.drop (i+1)).length:=by rw[length_drop];have:=HM.out;omega
    have hc4:yA4 W4 b o5 (es.drop (i+1)):=by intro j e he;have hj:=qf he;rw[ho5 (by omega)];rw[getElem?_drop]at he;have h9:=hsl4.at_ (i+1+j) e he;rw[show off+(i+1+j)*5=off+(i+1)*5+j*5 by omega]at h9;exact h9
    have hpw:=HOk.2.2.2.2.2;have hci:∀e∈es.drop (i+1),yAo (putE c) (putE e)= -1:=λe he=>by obtain⟨j,hj⟩:=List.mem_iff_getElem?.1 he;rw[getElem?_drop]at hj;obtain⟨l1,e1⟩:=List.getElem?_eq_some_iff.1 HC.out;obtain⟨l2,e2⟩:=List.getElem?_eq_some_iff.1 hj;have h9:=List.pairwise_iff_getElem.1 hpw i (i+1+j) l1 l2 (by omega);rw[e1,e2]at h9;exact h9
    have h9:=yV7 (h:=it.hint) (c:=c) (cap:=c5) hc4 hsl4.lt (by omega) (yV6 hci (hpw.sublist (drop_sublist _ _)));rw[<-hlen,<-hnw]at h9;exact h9
   obtain⟨nx,hnx⟩:=qE (i+1+nw);have HNx:Hid (nxtM es true i it c=nx):=by show _=_;unfold nxtM;rw[if_pos ⟨hal,rfl⟩,hnx,hnw]
   have HNl:Hid (i+1<=nx/\nx<=M):=by show _/\_;omega
   have HSq:Hid (n5=M-(i+1)/\(0<n5->o5=off+(i+1)*5)/\nx=i+1+nw):=⟨hn5,ho5,hnx⟩;have hz1:(nw:Int)<=(n5:Int):=by omega
   have hz2:(n5:Int)<=(c5:Int):=by omega
   have hz3:(0:Int)<=(nw:Int):=by omega
   clear hnw hnx ho5 hn5;gi_wp2;rw[<-hW4];clear hW4 z0 hphl d0 d1 d2 d3 d4;refine⟨trivial,(callsIn_wide.2 HRe.out).mono ?_⟩;rintro e w6 ⟨rfl,hb6⟩;have HI6:Hid (yA w6 wo 181 4 w3 [false,it.strip,xi it.hint.rank,it.hint.txt]/\yA w6 wo 70 5 wo c.five/\Below w3 w3 w6):=⟨HI4.1.below hb6,HI4.2.1.below hb6,HI4.2.2.trans (hb6.mono HI4.2.2.size)⟩;clear hb6 HI4 HRe HSv;have HI4:=HI6;clear HI6;by_cases hcz:c5=nw
   .subst hcz;obtain rfl:n5=c5:=by omega
    gi_wp2;generalize hsv:Value.slice (some ⟨b,o5,none⟩) 0 0=sv;have HSx:Hid (SvI b off M nx sv):=⟨o5,0,0,hsv.symm,qw HSq.out,by omega,by omega,λq=>by omega⟩;clear hsv HSq;generalize w6=wY at HI4⊢;exact zMvF
   .gi_wp2;generalize hsv:Value.slice (some ⟨b,o5+nw*5,none⟩) (n5-nw) (c5-nw)=sv;have HSx:Hid (SvI b off M nx sv):=⟨o5+nw*5,n5-nw,c5-nw,hsv.symm,qw HSq.out,by omega,by omega,λq=>qv HSq.out (HSq.2.1 (by omega))⟩;clear hsv HSq;generalize w6=wY at HI4⊢;exact zMvF
 .rw[hal]at HYs HSh;obtain⟨W4,hW4⟩:=qW (xw w3 #[true,it.strip,xi it.hint.rank,it.hint.txt] 181);have HI4:Hid (yA W4 wo 181 4 w3 [true,it.strip,xi it.hint.rank,it.hint.txt]/\yA W4 wo 70 5 wo c.five/\Below w3 w3 W4):=by
   have k4:=qN hW4
   exact⟨by rw[hW4];exact yAa w3 _ (by omega) rfl,HBx.below k4,k4⟩
  obtain⟨nx,hnx⟩:=qE (i+1);have HNx:Hid (nxtM es hints i it c=nx):=by show _=_;unfold nxtM;simp[hnx,hal]
  have HNl:Hid (i+1<=nx/\nx<=M):=by show _/\_;omega
  have HSx:Hid (SvI b off M nx sv):=by rw[hnx];exact HSv.out
  clear hnx;cases hints
  all_goals
   gi_wp2
   rw[<-hW4]
   clear hW4 z0 hphl d0 d1 d2 d3 d4
   generalize W4=wY at HI4⊢
   exact zMvT):p:=h
theorem xBt (G:MchG) (l:List Ix) (N:Nat) (es:List Ent) (pc pp ph b off cap:Nat) (hints:Bool) (hN0:es.length<=10000) (hO:MaOk G l) (hg:yBe l cnt 0) (hN:N=l.length) (hnk:(G.nk:Int)=cnt) (hrow:∀c∈es,¬c.row=⟨#[]⟩) (hord:es.Pairwise λa b=>yAo (putE a) (putE b)= -1) (lY m:Nat) (hm:1<=m) (J:Nat->List Ctr->Value->World->Prop)
  (hY:∀i c it ks ks' v v' W0 W',J i ks v W0->es[i]?=some c->LkR pfxB l c [] ⟨0,[newI],ks⟩ (it,ks')->McI G N ks' v' W'->Chg (λq=>q=G.g∨q=G.mb∨G.T q∨v.ownBlock=some q) W0 W'->(v'.ownBlock=v.ownBlock∨∃k,v'.ownBlock=some k/\W0.heap.size<=k)->
   YieldAt Fence.wide (m-1) prog lY #[(yB it c).c,it.alive] W' λe W''=>e=.returned true/\J (nxtM es hints i it c) ks' v' W'')
  (hJr:∀i ks v W,J i ks v W->MvS G N es pc pp ph b off cap hints ks v W) (W:World) ks0 (v0:Value) (h0:J 0 ks0 v0 W):
  CallsIn Fence.wide m prog 103 #[.func (.yield lY) #[] #[],ptB pc,ptB pp,ptB ph] W λe W'=>(∃v,e=.returned v)/\∃ks v,J es.length ks v W':=by
 obtain⟨M,hM⟩:=qE es.length;have HM:Hid (M=es.length):=hM;have a7:Hid (J 0 ks0 v0 W):=h0;have HR:Hid (∀i ks v W,J i ks v W->MvS G N es pc pp ph b off cap hints ks v W):=hJr;have b0:=(hJr _ _ _ _ h0).bc;have a2:=(hJr _ _ _ _ h0).sl.len;have a5:cap<=9223372036854775807:=by have:=(hJr _ _ _ _ h0).sl.cap;unfold maxLen at this;omega
 rw[<-hM]at hN0 a2 b0⊢
 have HY:Hid (∀i c it ks ks' v v' W0 W',J i ks v W0->es[i]?=some c->LkR pfxB l c [] ⟨0,[newI],ks⟩ (it,ks')->McI G N ks' v' W'->Chg (λq=>q=G.g∨q=G.mb∨G.T q∨v.ownBlock=some q) W0 W'->(v'.ownBlock=v.ownBlock∨∃k,v'.ownBlock=some k/\W0.heap.size<=k)->
   YieldAt Fence.wide (m-1) prog lY #[(yB it c).c,it.alive] W' λe W''=>e=.returned true/\J (nxtM es hints i it c) ks' v' W''):=hY
 have HOk:Hid (MaOk G l/\yBe l cnt 0/\N=l.length/\(G.nk:Int)=cnt/\(∀c∈es,¬c.row=⟨#[]⟩)/\es.Pairwise λa b=>yAo (putE a) (putE b)= -1):=⟨hO,hg,hN,hnk,hrow,hord⟩;clear hM h0 hJr hY hO hg hN hnk hrow hord;refine callsIn_of_wp func103 rfl trivial ?_ rfl;simp only[ntmps103,size_toArray,length_cons,length_nil,Nat.reduceAdd,Nat.reduceSub,Array.replicate_succ,Array.replicate_zero,push_toArray,append_toArray,nil_append,cons_append];gi_wp2;gi_loopw [5] (λbv wr=>∃(i:Nat) (ks:List Ctr) (v:Value),i<=M/\Hid (SvI b off M i bv/\J i ks v wr)) (λbv _=>match bv with| .slice _ n _=>n|_=>0);case atStart=>exact⟨0,ks0,v0,zero_le _,⟨off,M,cap,rfl,by simp,a2,a5,λ_=>by simp⟩,a7.out⟩
 case round=>
  obtain⟨i,ks,v,ab,HJ⟩:=hrel;obtain⟨o,n,cp,rfl,hn,aa,ac,a1⟩:=HJ.1;by_cases hlt:i<M
  .obtain⟨c,hc⟩:∃c,es[i]?=some c:=qg (qw HM.out);have HC:Hid (es[i]?=some c):=hc;obtain⟨wo,a3⟩:=qW wr;subst a3;obtain⟨r,hr⟩:∃r,n=r+1:=⟨n-1,by omega⟩;subst hr;have ho:o=off+i*5:=a1 (by omega);obtain⟨x0,x1,x2,x3,x4⟩:=(HR.out _ _ _ _ HJ.2).sl.at_ i c hc;rw[<-ho]at x0 x1 x2 x3 x4;have a6:Hid (o=off+i*5):=ho;have HRn:Hid (r+1=M-i):=hn;have a8:(0:Int)<(r:Int)+1:=by omega
   obtain⟨W2,a0⟩:=qW (xw wo #[c.row,c.fam,c.qual,xu c.ts,c.val] 70);have HW2:Hid (MvS G N es pc pp ph b off cap hints ks v W2/\yA W2 wo 70 5 wo c.five/\Below wo wo W2):=by
    have k2:=qN a0
    have hs:=HR.out _ _ _ _ HJ.2;exact⟨⟨hs.mc.on HOk.1 k2,by rw[yDj k2 hs.bc];exact hs.bc,by rw[yDj k2 hs.bp];exact hs.bp,by rw[yDj k2 hs.bh];exact hs.bh,hs.sl.below k2,hs.nb⟩,by rw[a0];exact yAa wo _ qr rfl,k2⟩
   have y0:=(HR.out _ _ _ _ HJ.2).bp;have a9:pp<wo.heap.size:=yHy y0;obtain⟨d,hd⟩:=yIz HOk.2.1
   have HLk:Hid (Calls prog 104 #[xp G.mb,.agg #[c.row,c.fam,c.qual,xu c.ts,c.val],xh] W2 (LooP G ⟨W2,l,0,0,0,cnt,c,[],d,ks,0,0,0,none,N,0,0⟩ v)):=
    yP2 G ⟨W2,l,0,0,0,cnt,c,[],d,ks,0,0,0,none,N,0,0⟩ v 0 HOk.2.1 hd (zero_le _) 0 HOk.2.2.1 rfl HOk.2.2.2.1 HOk.1 HW2.1.mc (HOk.2.2.2.2.1 c (mem_of_getElem? hc)) (λi b hi=>by simp at hi)
   clear hc hd ho hn a1;by_cases hc1:cp=1
   .subst hc1;obtain rfl:r=0:=by omega
    gi_wp2;rw[<-a0];clear a0 x0 x1 x2 x3 x4;generalize hsv:Value.slice (some ⟨b,o,none⟩) 0 0=sv;have HSv:Hid (SvI b off M (i+1) sv):=⟨o,0,0,hsv.symm,qw HRn.out,by omega,by omega,λq=>by omega⟩;clear hsv;as_aux_lemma=>exact zMvL
   .gi_wp2;rw[<-a0];clear a0 x0 x1 x2 x3 x4;generalize hsv:Value.slice (some ⟨b,o+5,none⟩) r (cp-1)=sv;have HSv:Hid (SvI b off M (i+1) sv):=⟨o+5,r,cp-1,hsv.symm,qw HRn.out,by omega,by omega,λq=>qw a6.out⟩;clear hsv;as_aux_lemma=>exact zMvL
  .obtain rfl:n=0:=by omega
   have HF:Hid (∃ks v,J M ks v wr):=by
    have a4:i=M:=by omega
    subst a4;exact⟨ks,v,HJ.2⟩
   gi_wp2;go_end0;exact⟨⟨_,rfl⟩,HF.out⟩
end Go.Proofs.YtnnagkfoiganfaaGreatDoor
