import Derived.Test.YtnnagkfoiganfaaGreatDoorFkAN
import Derived.Test.YtnnagkfoiganfaaGreatDoorFkAP
import Derived.Test.YtnnagkfoiganfaaGreatDoorFkAO
namespace Go.Proofs.YtnnagkfoiganfaaGreatDoor
open Go.ChangeShapes Go.WideShapes Go.ChangeAt Go.RowKit Go.Deep Go.Maps XD XI XU XG XP XK XW XT XF XE XH _root_.List _root_.Nat Go.Shelf XY Go.Proofs.Tryz
open _root_.Array renaming replicate_succ->AH,replicate_zero->AI
open _root_.Go.Fence renaming wide->AB
open _root_.Go.Obj renaming cells->AD
open _root_.Go.World.ownsRow renaming lt->AA
open _root_.List renaming replicate->AC,getElem?_eq_some_iff->AF,mem_iff_getElem?->AG,mem_of_getElem?->AL,append_toArray->AM,size_toArray->AO,push_toArray->AP
open _root_.Nat renaming lt_of_lt_of_le->AE,reduceAdd->AJ,reduceSub->AK,zero_le->AN
set_option linter.unusedVariables false
set_option linter.unusedSimpArgs false
set_option maxRecDepth 100000
set_option maxHeartbeats 64000000
variable {nc nk cc k n O e t' tb B NM q:Nat} {v:Vv} {l:List Ix} {G:MchG} {cnt:Int} {ca:Option Addr} {bs:List Bool} {es:List Ent} {xs:List Vv} {w W0 W:Ww} {o:Obj} {S Y:Nat->Prop} {vf:Nat->Vv} {kf:Nat->List Ctr} {Ts:List Tt} {d:Md}
section
def TqB(Ts:List Tt)(q:Nat):Prop:=∃X∈Ts,X.lo<=q/\q<X.hi
def PrgB(Ts:List Tt)(ds:List Md)(q:Nat):Prop:=TqB Ts q\/∃d∈ds,q=d.g\/q=d.mb
def PrgX(tb:Nat)(Ts:List Tt)(ds:List Md)(q:Nat):Prop:=PrgB Ts ds q\/q<tb
def yOq(W0:Ww)(tb:Nat)(Ts:List Tt)(ds:List Md)(d:Md):MchG:=⟨W0,TqB Ts,PrgX tb Ts ds,TsA tb Ts,d.p,d.lo,d.g,d.nk,d.nk,d.mb⟩
section
variable {ds:List Md}
theorem MdA.off(h:MdA d Ts W):(∀X∈Ts,d.p<X.lo\/X.t<d.p)/\(∀X∈Ts,d.g<X.lo\/X.t<d.g)/\(∀X∈Ts,d.mb<X.lo\/X.t<d.mb):=by have ho:=h.ord;exact⟨λX hX=>by rcases h.new X hX with q|q<;>omega,λX hX=>by rcases h.new X hX with q|q<;>omega,λX hX=>by rcases h.new X hX with q|q<;>omega⟩
theorem MdsA.noT(h:MdsA tb B NM Ts ds W0)(hq:∀X∈Ts,q<X.lo\/X.t<q):¬TqB Ts q:=fun⟨X,hX,z1,z2⟩=>by
 have:=(h.ts.U X hX).1.r2
 rcases hq X hX with z|z<;>omega
theorem xLt(h:MdsA tb B NM Ts ds W0)(hd:d∈ds)(hg:∀(k:Nat)(x:Ix),d.l[k]?=some x->x.op=1->yBq x.leaf/\(cntK x.leaf.f->0<=x.a/\x.a<(d.nk:Int))):MaD (yOq W0 tb Ts ds d) d.l tb d.lo d.N Ts d.L:=by
 have hm:=(h.md d hd).1;have a4:=(h.md d hd).2;have a1:=hm.ord;obtain⟨o1,o2,o3⟩:=hm.off;have a3:=h.ts.tabl;have a2:d.g<W0.heap.size:=hm.ctr.lt.2;refine {ti:=rfl,tq:=rfl,sp:=hm.sp,pS:=λq=>?_,pT:=o1,gT:=o2,gl:=a2,gp:=λq=>?_,gv:=?_,cS:=λt vs hb ht=>⟨λq=>?_,λq=>?_⟩,xl:=λX hX=>(h.ts.U X hX).1.lt,don:=hm.don,good:=hg}
 .rcases q with(q|⟨d',a0,q|q⟩)|q
  .exact h.noT o1 q
  .exact yAc hm.sp (h.md d' a0).1.ctr qj _ rfl (by rw[show d.p=d'.g from q];rfl)
  .exact yAc hm.sp (h.md d' a0).1.mch qj _ rfl (by rw[show d.p=d'.mb from q];rfl)
  .have q2:d.p<tb:=q;omega
 .exact a1.2.2.1 (show d.p=d.g from(show d.g=d.p from q).symm)
 .show¬1=d.g;omega
 .rcases q with(q|⟨d',a0,q|q⟩)|q
  .exact h.noT ht q
  .exact yAc hb (h.md d' a0).1.ctr qj _ rfl (by rw[q];rfl)
  .exact yAc hb (h.md d' a0).1.mch qj _ rfl (by rw[q];rfl)
  .have:=hb.lt.1;have q2:=q;omega
 .exact yAc hb hm.ctr qj _ rfl (by rw[show t=d.g from q];rfl)
theorem yS3(h:MdsA tb B NM Ts ds W0)(hd:d∈ds)(hg:∀(k:Nat)(x:Ix),d.l[k]?=some x->x.op=1->yBq x.leaf/\(cntK x.leaf.f->0<=x.a/\x.a<(d.nk:Int))):MaOk (yOq W0 tb Ts ds d) d.l:=by
 have hD:=xLt h hd hg;have hm:=(h.md d hd).1;have a6:=(h.md d hd).2;have a5:=hm.ord;obtain⟨o1,o2,o3⟩:=hm.off;have a4:=h.ts.tabl;have a0:=(AA hm.sp d.p rfl).2;have a2:=hm.ctr.lt.2;have a1:d.mb<W0.heap.size:=hm.mch.lt.2;refine {stp:=λat_ x hx=>?_,pl:=a0,pS:=hD.pS,ti:=λS' W W' hT hc hS=>?_,leaf:=xIe hD,gS:=Or.inl (Or.inr ⟨d,hd,Or.inl rfl⟩),mS:=Or.inl (Or.inr ⟨d,hd,Or.inr rfl⟩),tS:=λq hq=>Or.inl (Or.inl hq),gl:=a2,ml:=a1,tl:=λq hq=>?_,gm:=λq=>?_,tg:=h.noT o2,tm:=h.noT o3}
 .have ht:=(hm.don at_ x hx).ten;exact⟨yDq hm.sp (ht 0 _ rfl),yDq hm.sp (ht 1 _ rfl),yDq hm.sp (ht 2 _ rfl)⟩
 .have a3:TsA tb Ts W:=hT;refine a3.side hc (λq hq X hX=>?_) (λhq=>?_)
  .rcases hS q hq with z|z|z
   .rw[z];exact o2 X hX
   .rw[z];exact o3 X hX
   .have:=(h.ts.U X hX).1.lt;exact .inr (AE this z)
  .have hv:=h.ts.tab.lt;rcases hS _ hq with z|z|z
   .have z2:1=d.g:=z;omega
   .have z2:1=d.mb:=z;omega
   .have z2:W0.heap.size<=1:=z;omega
 .obtain⟨X,hX,z1,z2⟩:=hq;have h1:=(h.ts.U X hX).1.lt;have h2:=(h.ts.U X hX).1.r2;show q<W0.heap.size;omega
 .have z:d.g=d.mb:=q;omega
theorem xLs(h:MdsA tb B NM Ts ds W0)(hd:d∈ds):McI (yOq W0 tb Ts ds d) d.N (AC d.nk newC) xh W0:=by have hm:=(h.md d hd).1;exact {i:=Chg.refl _ _,ti:=h.ts,ctr:=hm.ctr,X:=length_replicate,cb:=λk hk=>by rw[eq_of_mem_replicate hk];exact xBp,A:=hm.mch,stk:=⟨[],⟨rfl,.inl ⟨rfl,rfl⟩⟩⟩}
theorem yLd(hg:yCc l cnt nc)(hnk:nk=cnt.toNat):∀(k:Nat)(x:Ix),l[k]?=some x->x.op=1->yBq x.leaf/\(cntK x.leaf.f->0<=x.a/\x.a<(nk:Int)):=λk x hx ho=>by
 have h3:=hg.2.2.1
 rcases yCf hg hx with q|q|q|q
 .refine⟨yDd q.2.1 x.leaf (by simp),λhc=>?_⟩
  rcases q.2.2.2 with z|z
  .have:=z.2;omega
  .exact absurd hc z.1
 .have:=q.1;omega
 .have:=q.1;omega
 .have:=q.1;omega
end
end
abbrev ptB(b:Nat):Vv:=(xp b)
abbrev mvW(w:Ww)(a:Option Addr)(n c mb:Nat)(ca:Option Addr)(cn cc:Nat)(h:Bool):Ww:=
 (xw ((w.alloc (AD #[.slice a n c,ptB mb] 96)).alloc (AD #[.slice ca cn cc] 26)) #[h] 4)
theorem yW8(w:Ww)(a:Option Addr)(c mb:Nat)(ca:Option Addr)(cn cc:Nat)(h:Bool):
  Calls prog 47 #[.agg #[.slice a 0 c,ptB mb],.slice ca cn cc,h] w λe w'=>e=.returned (.func (Fn.func 103) #[] #[ptB (w+1),ptB w,ptB (w+1+1)])/\w'=mvW w a 0 c mb ca cn cc h:=by
 go_enter func47,ntmps47;go_wp2;go_ret;exact⟨rfl,rfl⟩
theorem yK1(w:Ww)(a:Option Addr)(n c mb:Nat)(ca:Option Addr)(cn cc:Nat):
  Calls prog 102 #[.agg #[.slice a n c,ptB mb],.slice ca cn cc] w λe w'=>e=.returned (.func (Fn.func 152) #[] #[ptB w,ptB (w+1)])/\w'=(xw (w.alloc (AD #[.slice a n c,ptB mb] 96)) #[.slice ca cn cc] 26):=by
 go_enter func102,ntmps102;go_wp2;go_ret;exact⟨rfl,rfl⟩
theorem yOp(w:Ww)(a:Option Addr)(n c mb:Nat)(hn:(0:Int)<(n:Int))(ca:Option Addr)(cn cc:Nat)(h:Bool):
  Calls prog 47 #[.agg #[.slice a n c,ptB mb],.slice ca cn cc,h] w λe w'=>e=.returned (.func (Fn.func 152) #[] #[ptB (w+1+1+1),ptB (w+1+1+1+1)])/\w'=(xw ((mvW w a n c mb ca cn cc h).alloc (AD #[.slice a n c,ptB mb] 96)) #[.slice ca cn cc] 26):=by
 obtain⟨W,hW⟩:=qW (mvW w a n c mb ca cn cc h);have hz:W.heap.size=w.heap.size+1+1+1:=by rw[hW];simp
 have HB:Hid (Calls prog 102 #[.agg #[.slice a n c,ptB mb],.slice ca cn cc] W λe w'=>e=.returned (.func (Fn.func 152) #[] #[ptB (w+1+1+1),ptB (w+1+1+1+1)])/\w'=(xw (W.alloc (AD #[.slice a n c,ptB mb] 96)) #[.slice ca cn cc] 26)):=by have h9:=yK1 W a n c mb ca cn cc;rw[hz]at h9;exact h9
 go_enter func47,ntmps47;rw[<-hW];unfold mvW at hW;clear hz;go_wp2_with fail;rw[<-hW];refine HB.mono ?_;rintro e w' ⟨rfl,rfl⟩;go_wp2;go_ret;exact⟨rfl,by rw[hW]⟩
theorem yM7(w:Ww)(mb:Nat)(ra:Option Addr)(rn rc:Nat)(ca:Option Addr)(cn cc:Nat):
  Calls prog 155 #[ptB mb,.slice ra rn rc,.slice ca cn cc] w λe w'=>e=.returned (.func (Fn.func 200) #[] #[ptB w,ptB (w+1),ptB (w+1+1)])/\w'=(xw ((w.alloc (AD #[ptB mb] 94)).alloc (AD #[.slice ra rn rc] 26)) #[.slice ca cn cc] 118):=by
 go_enter func155,ntmps155;go_wp2;go_ret;exact⟨rfl,rfl⟩
structure MvS(G:MchG)(N:Nat)(es:List Ent)(pc pp ph b off cap:Nat)(hints:Bool)(ks:List Ctr)(v:Vv)(W:Ww):Prop where
 mc:McI G N ks v W
 bc:(xk W pc 0 (xy b off es.length cap):Prop)
 bp:(xk W pp 1 (xp G.mb):Prop)
 bh:(xk W ph 0 hints:Prop)
 sl:CSl W b off cap es
 nb:∀q,(q=ph\/q=b)->¬q=G.g/\¬q=G.mb/\¬G.T q/\¬v.ownBlock=some q
def SvI(b off M i:Nat)(sv:Vv):Prop:=∃o n cp,sv=(xy b o n cp)/\n=M-i/\n<=cp/\cp<=9223372036854775807/\(0<n->o=off+i*5)
theorem yIm{p:Addr}(h:W.cell? p=some v):p.block<W:=by apply Classical.byContradiction;intro hn;unfold World.cell? at h;rw[Array.getElem?_eq_none (by omega)]at h;simp at h
variable {W':Ww}
theorem yDu{p:Addr}(hb:Below W W W')(h:W.cell? p=some v):W'.cell? p=W.cell? p:=hb.cell (yIm h)
variable {N:Nat} {ks:List Ctr}
theorem McI.on(h:McI G N ks v W)(hO:MaOk G l)(hb:Below W W W'):McI G N ks v W':=by have hc:Chg (λ_=>False) W W':=Chg.h hb;have⟨m,hm⟩:=h.stk;exact⟨h.i.trans (hc.mono (λq z=>z.elim)),hO.ti (λ_=>False) W W' h.ti hc (λq z=>z.elim),h.ctr.k hb,h.X,h.cb,h.A.k hb,⟨m,yAh hm hc (λ_ _ q=>q)⟩⟩
def nxtM(es:List Ent)(hints:Bool)(i:Nat)(it:It)(c:Ent):Nat:=if it.H=false/\hints=true then i+1+((es.drop (i+1)).takeWhile (yAy it.G c)).length else i+1
variable {p:Prop}
theorem zMvF (h:p:=by
 have HSS:Hid (∀X,yA X wo 181 4 w3 [false,it.strip,xi it.G.rank,it.G.txt]->yA X wo 70 5 wo c.five->(λw':Ww=>xk w' w3 0 false/\xk w' w3 1 it.strip/\xk w' w3 2 (xi it.G.rank)/\xk w' w3 3 it.G.txt/\xk w' wo 0 c.j/\xk w' wo 1 c.E/\xk w' wo 2 c.C/\xk w' wo 3 (xu c.ts)/\xk w' wo 4 c.val/\xk w' w3 0 false) X):=λX h k=>
  ⟨h.z (j:=0) rfl,h.z (j:=1) rfl,h.z (j:=2) rfl,h.z (j:=3) rfl,k.z (j:=0) rfl,k.z (j:=1) rfl,k.z (j:=2) rfl,k.z (j:=3) rfl,k.z (j:=4) rfl,h.z (j:=0) rfl⟩
 have HI5:Hid (yA wY.drew wo 181 4 w3 [false,it.strip,xi it.G.rank,it.G.txt]/\yA wY.drew wo 70 5 wo c.five/\Below w3 w3 wY.drew):=by have kd:Below wY wY wY.drew:=(Below.refl _ _).drew;exact⟨HI4.1.k kd,HI4.2.1.k kd,HI4.2.2.trans (kd.mono HI4.2.2.size)⟩
 have hS0:=HSS.out _ HI5.1 HI5.2.1;refine yEy [6,7] (λw':Ww=>xk w' w3 0 false/\xk w' w3 1 it.strip/\xk w' w3 2 (xi it.G.rank)/\xk w' w3 3 it.G.txt/\xk w' wo 0 c.j/\xk w' wo 1 c.E/\xk w' wo 2 c.C/\xk w' wo 3 (xu c.ts)/\xk w' wo 4 c.val/\xk w' w3 0 false) (by kernel_rfl) ?_;exact xKr):p:=h
theorem zMvT (h:p:=by
 have HSS:Hid (∀X,yA X wo 181 4 w3 [true,it.strip,xi it.G.rank,it.G.txt]->yA X wo 70 5 wo c.five->(λw':Ww=>xk w' w3 0 true/\xk w' w3 1 it.strip/\xk w' w3 2 (xi it.G.rank)/\xk w' w3 3 it.G.txt/\xk w' wo 0 c.j/\xk w' wo 1 c.E/\xk w' wo 2 c.C/\xk w' wo 3 (xu c.ts)/\xk w' wo 4 c.val/\xk w' w3 0 true) X):=λX h k=>
  ⟨h.z (j:=0) rfl,h.z (j:=1) rfl,h.z (j:=2) rfl,h.z (j:=3) rfl,k.z (j:=0) rfl,k.z (j:=1) rfl,k.z (j:=2) rfl,k.z (j:=3) rfl,k.z (j:=4) rfl,h.z (j:=0) rfl⟩
 have HI5:Hid (yA wY.drew wo 181 4 w3 [true,it.strip,xi it.G.rank,it.G.txt]/\yA wY.drew wo 70 5 wo c.five/\Below w3 w3 wY.drew):=by have kd:Below wY wY wY.drew:=(Below.refl _ _).drew;exact⟨HI4.1.k kd,HI4.2.1.k kd,HI4.2.2.trans (kd.mono HI4.2.2.size)⟩
 have hS0:=HSS.out _ HI5.1 HI5.2.1;refine yEy [6,7] (λw':Ww=>xk w' w3 0 true/\xk w' w3 1 it.strip/\xk w' w3 2 (xi it.G.rank)/\xk w' w3 3 it.G.txt/\xk w' wo 0 c.j/\xk w' wo 1 c.E/\xk w' wo 2 c.C/\xk w' wo 3 (xu c.ts)/\xk w' wo 4 c.val/\xk w' w3 0 true) (by kernel_rfl) ?_;exact xKr):p:=h
theorem zMvL (h:p:=by
 refine⟨trivial,(callsIn_wide.2 HLk).mono ?_⟩;rintro e w3 ⟨it,ks',v',hlk,rfl,hmc,hch,hvb⟩;have H3:Hid (LkR pfxB l c [] ⟨0,[newI],ks⟩ (it,ks')/\McI G N ks' v' w3/\Chg (λq=>q=G.g\/q=G.mb\/G.T q\/v.ownBlock=some q) W2 w3/\(v'.ownBlock=v.ownBlock\/∃k,v'.ownBlock=some k/\W2<=k)):=⟨hlk,hmc,hch,hvb⟩;have z0:(xk w3 ph 0 hints:Prop):=by have h1:=HW2.1.bh;obtain⟨n1,n2,n3,n4⟩:=HW2.1.nb ph (.inl rfl);rw[hch.z (yIm h1) (λq=>by rcases q with q|q|q|q;exact n1 q;exact n2 q;exact n3 q;exact n4 q)];exact h1
 have hphl:=yIm z0;have hbx:yA w3 wo 70 5 wo c.five:=by
  refine HW2.2.1.i hch (λq=>?_);have hs:=HR.out _ _ _ _ HJ.2;have hz:=hs.mc.i.size;have h1:=HOk.1.gl;have h2:=HOk.1.ml;rcases q with q|q|q|q
  .omega
  .omega
  .have:=HOk.1.tl _ q;omega
  .obtain⟨mm,hmm⟩:=hs.mc.stk;have:=(World.ownsRow.lt hmm _ q).2;omega
 have HBx:Hid (yA w3 wo 70 5 wo c.five):=hbx;obtain⟨d0,d1,d2,d3,d4⟩:=hbx.c5;have hwl:wo.heap.size<w3.heap.size:=hbx.lt.2;obtain⟨x',hx'⟩:=qE (yA0 it c);have HYs:Hid (∀X,Below w3 w3 X->YieldAt Fence.wide (m-1) prog lY #[.agg #[x'.j,x'.E,x'.C,xu x'.ts,x'.val],it.H] X λe W''=>e=.returned true/\J (nxtM es hints i it c) ks' v' W''):=λX hb=>by rw[hx'];refine HY.out i c it ks ks' v v' wo X HJ.2 HC.out H3.1 (H3.2.1.on HOk.1 hb) (((Chg.h HW2.2.2).trans H3.2.2.1).trans (Chg.h hb)) (H3.2.2.2.imp (λq=>q) (fun⟨k,k1,k2⟩=>⟨k,k1,qw HW2.2.2.size⟩))
 have HSh:Hid (∀X,(xf 106 #[.agg #[it.H,it.strip,xi it.G.rank,it.G.txt],.agg #[c.j,c.E,c.C,xu c.ts,c.val]] X (.agg #[x'.j,x'.E,x'.C,xu x'.ts,x'.val]):Prop)):=λX=>by rw[hx'];exact yKh it c X
 clear hlk hmc hch hvb HLk hbx hx';cases hal:it.H
 .rw[hal]at HYs HSh;obtain⟨W4,hW4⟩:=qW (xw w3 #[false,it.strip,xi it.G.rank,it.G.txt] 181);have HI4:Hid (yA W4 wo 181 4 w3 [false,it.strip,xi it.G.rank,it.G.txt]/\yA W4 wo 70 5 wo c.five/\Below w3 w3 W4):=by
   have k4:=qN hW4
   exact⟨by rw[hW4];exact yAa w3 _ (by omega) rfl,HBx.k k4,k4⟩
  cases hints
  .obtain⟨nx,hnx⟩:=qE (i+1);have HNx:Hid (nxtM es false i it c=nx):=by show _=_;unfold nxtM;simp[hnx]
   have HNl:Hid (i+1<=nx/\nx<=M):=by show _/\_;omega
   have HSx:Hid (SvI b off M nx sv):=by rw[hnx];exact HSv.out
   clear hnx;gi_wp2;rw[<-hW4];clear hW4 z0 hphl d0 d1 d2 d3 d4;generalize W4=wY at HI4|-;exact zMvF
  .obtain⟨o5,n5,c5,hsv5,hn5,hnc5,hcm5,ho5⟩:=HSv.out;subst hsv5;obtain⟨nw,hnw⟩:=qE (((es.drop (i+1)).takeWhile (yAy it.G c)).length);have hnl:nw<=n5:=by rw[hnw,hn5];refine Nat.le_trans (takeWhile_sublist _).length_le ?_;rw[length_drop];have:=HM.out;omega
   have HRe:Hid ((xf 105 #[.agg #[xi it.G.rank,it.G.txt],.agg #[c.j,c.E,c.C,xu c.ts,c.val],(xy b o5 n5 c5)] W4 (xi nw):Prop)):=by
    obtain⟨b1,b2,b3,b4⟩:=HW2.1.nb b (.inr rfl);have hsl3:CSl w3 b off cap es:=HW2.1.sl.i H3.2.2.1 (λq=>by rcases q with q|q|q|q;exact b1 q;exact b2 q;exact b3 q;exact b4 q);have hsl4:=hsl3.k HI4.2.2;have hlen:n5=(es.drop (i+1)).length:=by rw[length_drop];have:=HM.out;omega
    have hc4:yBy W4 b o5 (es.drop (i+1)):=by intro j e he;have hj:=qf he;rw[ho5 (by omega)];rw[getElem?_drop]at he;have h9:=hsl4.U (i+1+j) e he;rw[show off+(i+1+j)*5=off+(i+1)*5+j*5 by omega]at h9;exact h9
    have hpw:=HOk.2.2.2.2.2;have hci:∀e∈es.drop (i+1),yAf (putE c) (putE e)= -1:=λe he=>by obtain⟨j,hj⟩:=List.mem_iff_getElem?.1 he;rw[getElem?_drop]at hj;obtain⟨l1,e1⟩:=List.getElem?_eq_some_iff.1 HC.out;obtain⟨l2,e2⟩:=List.getElem?_eq_some_iff.1 hj;have h9:=List.pairwise_iff_getElem.1 hpw i (i+1+j) l1 l2 (by omega);rw[e1,e2]at h9;exact h9
    have h9:=yWu (h:=it.G) (c:=c) (cap:=c5) hc4 hsl4.lt (by omega) (yWt hci (hpw.sublist (drop_sublist _ _)));rw[<-hlen,<-hnw]at h9;exact h9
   obtain⟨nx,hnx⟩:=qE (i+1+nw);have HNx:Hid (nxtM es true i it c=nx):=by show _=_;unfold nxtM;rw[iB ⟨hal,rfl⟩,hnx,hnw]
   have HNl:Hid (i+1<=nx/\nx<=M):=by show _/\_;omega
   have HSq:Hid (n5=M-(i+1)/\(0<n5->o5=off+(i+1)*5)/\nx=i+1+nw):=⟨hn5,ho5,hnx⟩;have hz1:(nw:Int)<=(n5:Int):=by omega
   have hz2:(n5:Int)<=(c5:Int):=by omega
   have hz3:(0:Int)<=(nw:Int):=by omega
   clear hnw hnx ho5 hn5;gi_wp2;rw[<-hW4];clear hW4 z0 hphl d0 d1 d2 d3 d4;refine⟨trivial,(callsIn_wide.2 HRe.out).mono ?_⟩;rintro e w6 ⟨rfl,hb6⟩;have HI6:Hid (yA w6 wo 181 4 w3 [false,it.strip,xi it.G.rank,it.G.txt]/\yA w6 wo 70 5 wo c.five/\Below w3 w3 w6):=⟨HI4.1.k hb6,HI4.2.1.k hb6,HI4.2.2.trans (hb6.mono HI4.2.2.size)⟩;clear hb6 HI4 HRe HSv;have HI4:=HI6;clear HI6;by_cases hcz:c5=nw
   .subst hcz;obtain rfl:n5=c5:=by omega
    gi_wp2;generalize hsv:Value.slice (some ⟨b,o5,none⟩) 0 0=sv;have HSx:Hid (SvI b off M nx sv):=⟨o5,0,0,hsv.symm,qw HSq.out,by omega,by omega,λq=>by omega⟩;clear hsv HSq;generalize w6=wY at HI4|-;exact zMvF
   .gi_wp2;generalize hsv:Value.slice (some ⟨b,o5+nw*5,none⟩) (n5-nw) (c5-nw)=sv;have HSx:Hid (SvI b off M nx sv):=⟨o5+nw*5,n5-nw,c5-nw,hsv.symm,qw HSq.out,by omega,by omega,λq=>qv HSq.out (HSq.2.1 (by omega))⟩;clear hsv HSq;generalize w6=wY at HI4|-;exact zMvF
 .rw[hal]at HYs HSh;obtain⟨W4,hW4⟩:=qW (xw w3 #[true,it.strip,xi it.G.rank,it.G.txt] 181);have HI4:Hid (yA W4 wo 181 4 w3 [true,it.strip,xi it.G.rank,it.G.txt]/\yA W4 wo 70 5 wo c.five/\Below w3 w3 W4):=by
   have k4:=qN hW4
   exact⟨by rw[hW4];exact yAa w3 _ (by omega) rfl,HBx.k k4,k4⟩
  obtain⟨nx,hnx⟩:=qE (i+1);have HNx:Hid (nxtM es hints i it c=nx):=by show _=_;unfold nxtM;simp[hnx,hal]
  have HNl:Hid (i+1<=nx/\nx<=M):=by show _/\_;omega
  have HSx:Hid (SvI b off M nx sv):=by rw[hnx];exact HSv.out
  clear hnx;cases hints
  all_goals
   gi_wp2
   rw[<-hW4]
   clear hW4 z0 hphl d0 d1 d2 d3 d4
   generalize W4=wY at HI4|-
   exact zMvT):p:=h
theorem xD8(G:MchG)(l:List Ix)(N:Nat)(es:List Ent)(pc pp ph b off cap:Nat)(hints:Bool)(hN0:es.length<=10000)(hO:MaOk G l)(hg:yCc l cnt 0)(hN:N=l.length)(hnk:(G.nk:Int)=cnt)(hrow:∀c∈es,¬c.j=⟨#[]⟩)(hord:es.Pairwise λa b=>yAf (putE a) (putE b)= -1)(lY m:Nat)(hm:1<=m)(J:Nat->List Ctr->Vv->Ww->Prop)
  (hY:∀i c it ks ks' v v' W0 W',J i ks v W0->es[i]?=some c->LkR pfxB l c [] ⟨0,[newI],ks⟩ (it,ks')->McI G N ks' v' W'->Chg (λq=>q=G.g\/q=G.mb\/G.T q\/v.ownBlock=some q) W0 W'->(v'.ownBlock=v.ownBlock\/∃k,v'.ownBlock=some k/\W0.heap.size<=k)->
   YieldAt AB (m-1) prog lY #[(yA0 it c).c,it.H] W' λe W''=>e=.returned true/\J (nxtM es hints i it c) ks' v' W'')
  (hJr:∀i ks v W,J i ks v W->MvS G N es pc pp ph b off cap hints ks v W) (W:Ww) ks0 (v0:Vv) (h0:J 0 ks0 v0 W):
  CallsIn AB m prog 103 #[.func (.yield lY) #[] #[],ptB pc,ptB pp,ptB ph] W λe W'=>(∃v,e=.returned v)/\∃ks v,J es.length ks v W':=by
 obtain⟨M,hM⟩:=qE es.length;have HM:Hid (M=es.length):=hM;have a7:Hid (J 0 ks0 v0 W):=h0;have HR:Hid (∀i ks v W,J i ks v W->MvS G N es pc pp ph b off cap hints ks v W):=hJr;have b0:=(hJr _ _ _ _ h0).bc;have a2:=(hJr _ _ _ _ h0).sl.X;have a5:cap<=9223372036854775807:=by have:=(hJr _ _ _ _ h0).sl.cap;unfold maxLen at this;omega
 rw[<-hM]at hN0 a2 b0|-
 have HY:Hid (∀i c it ks ks' v v' W0 W',J i ks v W0->es[i]?=some c->LkR pfxB l c [] ⟨0,[newI],ks⟩ (it,ks')->McI G N ks' v' W'->Chg (λq=>q=G.g\/q=G.mb\/G.T q\/v.ownBlock=some q) W0 W'->(v'.ownBlock=v.ownBlock\/∃k,v'.ownBlock=some k/\W0.heap.size<=k)->
   YieldAt AB (m-1) prog lY #[(yA0 it c).c,it.H] W' λe W''=>e=.returned true/\J (nxtM es hints i it c) ks' v' W''):=hY
 have HOk:Hid (MaOk G l/\yCc l cnt 0/\N=l.length/\(G.nk:Int)=cnt/\(∀c∈es,¬c.j=⟨#[]⟩)/\es.Pairwise λa b=>yAf (putE a) (putE b)= -1):=⟨hO,hg,hN,hnk,hrow,hord⟩;clear hM h0 hJr hY hO hg hN hnk hrow hord;refine callsIn_of_wp func103 rfl trivial ?_ rfl;simp only[ntmps103,AO,length_cons,length_nil,AJ,AK,AH,AI,AP,AM,nil_append,cons_append];gi_wp2;gi_loopw [5] (λbv wr=>∃(i:Nat)(ks:List Ctr)(v:Vv),i<=M/\Hid (SvI b off M i bv/\J i ks v wr)) (λbv _=>match bv with| .slice _ n _=>n|_=>0);case atStart=>exact⟨0,ks0,v0,AN _,⟨off,M,cap,rfl,by simp,a2,a5,λ_=>by simp⟩,a7.out⟩
 case round=>
  obtain⟨i,ks,v,ab,HJ⟩:=hrel;obtain⟨o,n,cp,rfl,hn,aa,ac,a1⟩:=HJ.1;by_cases hlt:i<M
  .obtain⟨c,hc⟩:∃c,es[i]?=some c:=qg (qw HM.out);have HC:Hid (es[i]?=some c):=hc;obtain⟨wo,a3⟩:=qW wr;subst a3;obtain⟨r,hr⟩:∃r,n=r+1:=⟨n-1,by omega⟩;subst hr;have ho:o=off+i*5:=a1 (by omega);obtain⟨x0,x1,x2,x3,x4⟩:=(HR.out _ _ _ _ HJ.2).sl.U i c hc;rw[<-ho]at x0 x1 x2 x3 x4;have a6:Hid (o=off+i*5):=ho;have HRn:Hid (r+1=M-i):=hn;have a8:(0:Int)<(r:Int)+1:=by omega
   obtain⟨W2,a0⟩:=qW (xw wo #[c.j,c.E,c.C,xu c.ts,c.val] 70);have HW2:Hid (MvS G N es pc pp ph b off cap hints ks v W2/\yA W2 wo 70 5 wo c.five/\Below wo wo W2):=by
    have k2:=qN a0
    have hs:=HR.out _ _ _ _ HJ.2;exact⟨⟨hs.mc.on HOk.1 k2,by rw[yDu k2 hs.bc];exact hs.bc,by rw[yDu k2 hs.bp];exact hs.bp,by rw[yDu k2 hs.bh];exact hs.bh,hs.sl.k k2,hs.nb⟩,by rw[a0];exact yAa wo _ qr rfl,k2⟩
   have y0:=(HR.out _ _ _ _ HJ.2).bp;have a9:pp<wo.heap.size:=yIm y0;obtain⟨d,hd⟩:=yO9 HOk.2.1
   have HLk:Hid (Calls prog 104 #[xp G.mb,.agg #[c.j,c.E,c.C,xu c.ts,c.val],xh] W2 (LooP G ⟨W2,l,0,0,0,cnt,c,[],d,ks,0,0,0,none,N,0,0⟩ v)):=
    yQm G ⟨W2,l,0,0,0,cnt,c,[],d,ks,0,0,0,none,N,0,0⟩ v 0 HOk.2.1 hd (AN _) 0 HOk.2.2.1 rfl HOk.2.2.2.1 HOk.1 HW2.1.mc (HOk.2.2.2.2.1 c (AL hc)) (λi b hi=>by simp at hi)
   clear hc hd ho hn a1;by_cases hc1:cp=1
   .subst hc1;obtain rfl:r=0:=by omega
    gi_wp2;rw[<-a0];clear a0 x0 x1 x2 x3 x4;generalize hsv:Value.slice (some ⟨b,o,none⟩) 0 0=sv;have HSv:Hid (SvI b off M (i+1) sv):=⟨o,0,0,hsv.symm,qw HRn.out,by omega,by omega,λq=>by omega⟩;clear hsv;as_aux_lemma=>exact zMvL
   .gi_wp2;rw[<-a0];clear a0 x0 x1 x2 x3 x4;generalize hsv:Value.slice (some ⟨b,o+5,none⟩) r (cp-1)=sv;have HSv:Hid (SvI b off M (i+1) sv):=⟨o+5,r,cp-1,hsv.symm,qw HRn.out,by omega,by omega,λq=>qw a6.out⟩;clear hsv;as_aux_lemma=>exact zMvL
  .obtain rfl:n=0:=by omega
   have HF:Hid (∃ks v,J M ks v wr):=by
    have a4:i=M:=by omega
    subst a4;exact⟨ks,v,HJ.2⟩
   gi_wp2;go_end0;exact⟨⟨_,rfl⟩,HF.out⟩
structure LoS(G:MchG)(N:Nat)(es:List Ent)(bs:List Bool)(pm pr pd b off cap:Nat)(ca:Option Addr)(cc:Nat)(ks:List Ctr)(v:Vv)(W:Ww):Prop where
 mc:McI G N ks v W
 bm:(xk W pm 0 (xp G.mb):Prop)
 br:(xk W pr 0 (xy b off es.length cap):Prop)
 bd:(xk W pd 0 (.slice ca bs.length cc):Prop)
 sl:CSl W b off cap es
 cd:∀(i:Nat)(x:Bool),bs[i]?=some x->∃bc oc,ca=some ⟨bc,oc,none⟩/\xk W bc (oc+i) x/\bc<W/\¬bc=G.g/\¬G.T bc/\¬v.ownBlock=some bc
theorem LoS.on{pm pr pd b off cap:Nat}(h:LoS G N es bs pm pr pd b off cap ca cc ks v W)(hO:MaOk G l)(hb:Below W W W'):LoS G N es bs pm pr pd b off cap ca cc ks v W':=
 ⟨h.mc.on hO hb,by rw[yDu hb h.bm];exact h.bm,by rw[yDu hb h.br];exact h.br,by rw[yDu hb h.bd];exact h.bd,h.sl.k hb,λi x hx=>by
  have⟨bc,oc,h1,h2,h3,h4⟩:=h.cd i x hx
  exact⟨bc,oc,h1,by rw[yDu hb h2];exact h2,AE h3 hb.size,h4⟩⟩
theorem zLoF (h:p:=by
 have HSS:Hid (∀X,yA X wo 181 4 w3 [al,st,xi hr,ht]->yA X wo 70 5 wo c.five->(λw':Ww=>xk w' w3 0 al/\xk w' w3 1 st/\xk w' w3 2 (xi hr)/\xk w' w3 3 ht/\xk w' wo 0 c.j/\xk w' wo 1 c.E/\xk w' wo 2 c.C/\xk w' wo 3 (xu c.ts)/\xk w' wo 4 c.val/\xk w' w3 0 al) X):=λX h k=>
  ⟨h.z (j:=0) rfl,h.z (j:=1) rfl,h.z (j:=2) rfl,h.z (j:=3) rfl,k.z (j:=0) rfl,k.z (j:=1) rfl,k.z (j:=2) rfl,k.z (j:=3) rfl,k.z (j:=4) rfl,h.z (j:=0) rfl⟩
 have HI5:Hid (yA wY.drew wo 181 4 w3 [al,st,xi hr,ht]/\yA wY.drew wo 70 5 wo c.five/\Below w3 w3 wY.drew):=by have kd:Below wY wY wY.drew:=(Below.refl _ _).drew;exact⟨HI4.1.k kd,HI4.2.1.k kd,HI4.2.2.trans (kd.mono HI4.2.2.size)⟩
 have hS0:=HSS.out _ HI5.1 HI5.2.1;refine yEy [6,7] (λw':Ww=>xk w' w3 0 al/\xk w' w3 1 st/\xk w' w3 2 (xi hr)/\xk w' w3 3 ht/\xk w' wo 0 c.j/\xk w' wo 1 c.E/\xk w' wo 2 c.C/\xk w' wo 3 (xu c.ts)/\xk w' wo 4 c.val/\xk w' w3 0 al) (by kernel_rfl) ?_;generalize wY.drew=WD at HI5 hS0|-;refine yL4 0 rfl hS0 ?_;refine yL4 1 rfl hS0 ?_;refine yL4 2 rfl hS0 ?_;refine yL4 4 rfl hS0 ?_;refine yL4 5 rfl hS0 ?_;refine yFd (i:=3) (by kernel_rfl) rfl (λK hK=>?_);go_simp;refine⟨trivial,(callsIn_wide.2 (HSh.out WD)).mono ?_⟩;rintro e w5 ⟨rfl,hb5⟩;have hS5:=HSS.out _ (HI5.1.k hb5) (HI5.2.1.k hb5);obtain⟨fn,tmps,assign,body,hy,hRy⟩:=HYs.out w5 (HI5.2.2.trans (hb5.mono HI5.2.2.size));refine hK.out _ _ (.inr hS5) (jS ?_);clear hK hS0 hb5;refine yFd (i:=6) (by kernel_rfl) rfl (λK hK=>?_);go_simp;refine hRy.mono ?_;rintro e W9 (⟨rfl,hJ9⟩|⟨rfl,hJ9⟩)
 .have HJ9:Hid (J (i+1) ks' v' W9):=hJ9;refine hK.out _ _ (.inl (by decide)) (jS ?_);clear hK hS5 hJ9 hRy hy;refine yFd (i:=7) (by kernel_rfl) rfl (λK hK=>?_);go_simp;refine hK.out _ _ (.inl (by decide)) (jS ?_);clear hK;refine yLu (by kernel_rfl) ?_;gi_wp2;go_roundw;case rel=>exact⟨i+1,ks',v',by omega,by go_num,HJ9.out⟩
  case measure=>simp[intOf];omega
 .have HJ9:Hid (Jx W9):=hJ9;refine hK.out _ _ (.inl (by decide)) (jS ?_);clear hK hS5 hJ9 hRy hy;refine yFd (i:=7) (by kernel_rfl) rfl (λK hK=>?_);go_simp;refine hK.out _ _ (.inl (by decide)) (jS ?_);clear hK;refine yLu (by kernel_rfl) ?_;gi_wp2;refine bodyPost_ret (results_none rfl _ _ _) rfl ?_;exact⟨⟨_,rfl⟩,.inr HJ9.out⟩):p:=h
theorem yVs(G:MchG)(l:List Ix)(N:Nat)(es:List Ent)(bs:List Bool)(nc:Nat)(pm pr pd b off cap:Nat)(ca:Option Addr)(cc:Nat)(hN0:es.length<=10000)(hO:MaOk G l)(hg:yCc l cnt nc)(hnc:nc<=bs.length)(hN:N=l.length)(hnk:(G.nk:Int)=cnt)(hrow:∀c∈es,¬c.j=⟨#[]⟩)(lY m:Nat)(hm:1<=m)(J:Nat->List Ctr->Vv->Ww->Prop)(Jx:Ww->Prop)
  (hY:∀i c it ks ks' v v' W0 W',J i ks v W0->es[i]?=some c->LkR pfxB l c bs ⟨0,[newI],ks⟩ (it,ks')->McI G N ks' v' W'->Chg (λq=>q=G.g\/q=G.mb\/G.T q\/v.ownBlock=some q) W0 W'->(v'.ownBlock=v.ownBlock\/∃k,v'.ownBlock=some k/\W0.heap.size<=k)->
   YieldAt AB (m-1) prog lY #[(yA0 it c).c,it.H] W' λe W''=>(e=.returned true/\J (i+1) ks' v' W'')\/(e=.returned false/\Jx W''))
  (hJr:∀i ks v W,J i ks v W->LoS G N es bs pm pr pd b off cap ca cc ks v W) (W:Ww) ks0 (v0:Vv) (hW:LoS G N es bs pm pr pd b off cap ca cc ks0 v0 W)
  (h0:∀W2,McI G N (AC G.nk newC) v0 W2->Chg (λq=>q=G.g) W W2->J 0 (AC G.nk newC) v0 W2):
  CallsIn AB m prog 200 #[.func (.yield lY) #[] #[],ptB pm,ptB pr,ptB pd] W λe W'=>(∃v,e=.returned v)/\((∃ks v,J es.length ks v W')\/Jx W'):=by
 obtain⟨M,hM⟩:=qE es.length;obtain⟨nb,ag⟩:=qE bs.length;have HM:Hid (M=es.length):=hM;have HR:Hid (∀i ks v W,J i ks v W->LoS G N es bs pm pr pd b off cap ca cc ks v W):=hJr;obtain⟨W2,aj,ak,ae⟩:=xB1 (ty:=0) hW.mc.ctr;have a8:Hid (J 0 (AC G.nk newC) v0 W2):=h0 _ (hW.mc.fresh hO ak ae) ae;rw[hW.mc.X]at aj;have b0:=(HR.out _ _ _ _ a8.out).br;have a0:=hW.bm;have a1:=hW.mc.A.z (j:=1) rfl;have av:=(HR.out _ _ _ _ a8.out).sl.X;have az:cap<=9223372036854775807:=by have:=(HR.out _ _ _ _ a8.out).sl.cap;unfold maxLen at this;omega
 rw[<-hM]at hN0 av b0|-
 have HY:Hid (∀i c it ks ks' v v' W0 W',J i ks v W0->es[i]?=some c->LkR pfxB l c bs ⟨0,[newI],ks⟩ (it,ks')->McI G N ks' v' W'->Chg (λq=>q=G.g\/q=G.mb\/G.T q\/v.ownBlock=some q) W0 W'->(v'.ownBlock=v.ownBlock\/∃k,v'.ownBlock=some k/\W0.heap.size<=k)->
   YieldAt AB (m-1) prog lY #[(yA0 it c).c,it.H] W' λe W''=>(e=.returned true/\J (i+1) ks' v' W'')\/(e=.returned false/\Jx W'')):=hY
 have a2:Hid (MaOk G l/\yCc l cnt nc/\N=l.length/\(G.nk:Int)=cnt/\(∀c∈es,¬c.j=⟨#[]⟩)/\nc<=bs.length/\nb=bs.length):=⟨hO,hg,hN,hnk,hrow,hnc,ag⟩;clear hM h0 hJr hY hO hg hN hnk hrow hnc hW ak ae ag;refine callsIn_of_wp func200 rfl trivial ?_ rfl;simp only[ntmps200,AO,length_cons,length_nil,AJ,AK,AH,AI,AP,AM,nil_append,cons_append];gi_wp2;clear aj a0 a1 b0;gi_loopw [14] (λiv wr=>∃(i:Nat)(ks:List Ctr)(v:Vv),i<=M/\iv=(xi i)/\Hid (J i ks v wr)) (λiv _=>M-(intOf iv).toNat);case atStart=>exact⟨0,_,v0,AN _,rfl,a8.out⟩
 case round=>
  obtain⟨i,ks,v,ay,rfl,HJ⟩:=hrel;by_cases hlt:i<M
  .have zi:(i:Int)<(M:Int):=by omega
   obtain⟨c,hc⟩:∃c,es[i]?=some c:=qg (qw HM.out);have HC:Hid (es[i]?=some c):=hc;obtain⟨wo,an⟩:=qW wr;subst an;obtain⟨x0,x1,x2,x3,x4⟩:=(HR.out _ _ _ _ HJ.out).sl.U i c hc;obtain⟨W2,a7⟩:=qW (xw wo #[c.j,c.E,c.C,xu c.ts,c.val] 70);have a3:Hid (LoS G N es bs pm pr pd b off cap ca cc ks v W2/\yA W2 wo 70 5 wo c.five/\Below wo wo W2):=by
    have k2:=qN a7
    have hs:=HR.out _ _ _ _ HJ.out;exact⟨hs.on a2.1 k2,by rw[a7];exact yAa wo _ qr rfl,k2⟩
   have y0:=(HR.out _ _ _ _ HJ.out).bm;have y1:=(HR.out _ _ _ _ HJ.out).bd;rw[<-a2.2.2.2.2.2.2]at y1;have ao:pm<wo.heap.size:=yIm y0;have aq:pd<wo.heap.size:=yIm y1;obtain⟨d,hd⟩:=yO9 a2.2.1
   have am:Hid (Calls prog 104 #[xp G.mb,.agg #[c.j,c.E,c.C,xu c.ts,c.val],.slice ca nb cc] W2 (LooP G ⟨W2,l,0,0,0,cnt,c,bs,d,ks,0,0,0,ca,N,0,nb⟩ v)):=
    yQm G ⟨W2,l,0,0,0,cnt,c,bs,d,ks,0,0,0,ca,N,0,nb⟩ v nc a2.2.1 hd a2.2.2.2.2.2.1 cc a2.2.2.1 a2.2.2.2.2.2.2 a2.2.2.2.1 a2.1 a3.1.mc (a2.2.2.2.2.1 c (AL hc)) a3.1.cd
   clear hc hd;gi_wp2;rw[<-a7];clear a7 x0 x1 x2 x3 x4 y0 y1 ao aq;refine⟨trivial,(callsIn_wide.2 am.out).mono ?_⟩;rintro e w3 ⟨it,ks',v',hlk,rfl,ah,ad,af⟩;have H3:Hid (LkR pfxB l c bs ⟨0,[newI],ks⟩ (it,ks')/\McI G N ks' v' w3/\Chg (λq=>q=G.g\/q=G.mb\/G.T q\/v.ownBlock=some q) W2 w3/\(v'.ownBlock=v.ownBlock\/∃k,v'.ownBlock=some k/\W2.heap.size<=k)):=⟨hlk,ah,ad,af⟩;have a4:yA w3 wo 70 5 wo c.five:=by
    refine a3.2.1.i ad (λq=>?_);have hs:=HR.out _ _ _ _ HJ.out;have hz:=hs.mc.i.size;have h1:=a2.1.gl;have h2:=a2.1.ml;rcases q with q|q|q|q
    .omega
    .omega
    .have:=a2.1.tl _ q;omega
    .obtain⟨mm,ar⟩:=hs.mc.stk;have:=(AA ar _ q).2;omega
   have aw:Hid (yA w3 wo 70 5 wo c.five):=a4;obtain⟨d0,d1,d2,d3,d4⟩:=a4.c5;have ax:wo.heap.size<w3.heap.size:=a4.lt.2;obtain⟨x',a9⟩:=qE (yA0 it c);have HYs:Hid (∀X,Below w3 w3 X->YieldAt AB (m-1) prog lY #[.agg #[x'.j,x'.E,x'.C,xu x'.ts,x'.val],it.H] X λe W''=>(e=.returned true/\J (i+1) ks' v' W'')\/(e=.returned false/\Jx W'')):=λX hb=>by rw[a9];refine HY.out i c it ks ks' v v' wo X HJ.out HC.out H3.1 (H3.2.1.on a2.1 hb) (((Chg.h a3.2.2).trans H3.2.2.1).trans (Chg.h hb)) (H3.2.2.2.imp (λq=>q) (fun⟨k,k1,k2⟩=>⟨k,k1,qw a3.2.2.size⟩))
   have HSh:Hid (∀X,(xf 106 #[.agg #[it.H,it.strip,xi it.G.rank,it.G.txt],.agg #[c.j,c.E,c.C,xu c.ts,c.val]] X (.agg #[x'.j,x'.E,x'.C,xu x'.ts,x'.val]):Prop)):=λX=>by rw[a9];exact yKh it c X
   clear hlk ah ad af am a4 a9;obtain⟨al,a5⟩:=qE it.H;obtain⟨st,aa⟩:=qE it.strip;obtain⟨hr,ac⟩:=qE it.G.rank;obtain⟨ht,ab⟩:=qE it.G.txt;have ai:it.v=.agg #[al,st,xi hr,ht]:=by rw[a5,aa,ac,ab]
   rw[<-a5,<-aa,<-ac,<-ab]at HSh;rw[<-a5]at HYs;rw[ai];clear a5 aa ac ab ai;obtain⟨W4,a6⟩:=qW (xw w3 #[al,st,xi hr,ht] 181);have HI4:Hid (yA W4 wo 181 4 w3 [al,st,xi hr,ht]/\yA W4 wo 70 5 wo c.five/\Below w3 w3 W4):=by
    have k4:=qN a6
    exact⟨by rw[a6];exact yAa w3 _ (by omega) rfl,aw.k k4,k4⟩
   gi_wp2;rw[<-a6];clear a6 d0 d1 d2 d3 d4;generalize W4=wY at HI4|-;exact zLoF
  .have zi:¬(i:Int)<(M:Int):=by omega
   have HF:Hid (∃ks v,J M ks v wr):=by
    have au:i=M:=by omega
    subst au;exact⟨ks,v,HJ.out⟩
   gi_wp2;go_end0;exact⟨⟨_,rfl⟩,.inl HF.out⟩
section
def ObT(t:Nat)(W:Ww)(q:Nat):Prop:=∃cur,W.heap[q]?=some (.cells cur t)
theorem yAn{size:Nat}(h:w.ownsRow O e size v n xs)(hk:v.ownBlock=some k):ObT e w k:=by
 rcases h.2 with⟨q,_⟩|⟨g',a0,cur,hv,_,hh,_⟩
 .rw[q]at hk;simp[Value.ownBlock]at hk
 .rw[hv]at hk;simp[Value.ownBlock]at hk;subst hk;exact⟨_,hh⟩
variable {t:Nat}
theorem ObT.one(h:ObT t W q)(h':ObT t' W q):t=t':=by
 obtain⟨a,ha⟩:=h;obtain⟨b,hb⟩:=h';rw[ha]at hb;cases hb
 rfl
theorem ObT.not(h:ObT t W q)(ho:W.heap[q]?=some o)(hc:o.isCells=false):False:=by
 obtain⟨a,ha⟩:=h;rw[ha]at ho;cases ho
 simp[Obj.isCells]at hc
structure PgI(W0:Ww)(tb:Nat)(Ts:List Tt)(all:List Md)(kf:Nat->List Ctr)(vf:Nat->Vv)(W:Ww):Prop where
 mc:∀d∈all,McI (yOq W0 tb Ts all d) d.N (kf d.mb) (vf d.mb) W
 ap:∀d∈all,∀d'∈all,¬d.mb=d'.mb->∀k,(vf d.mb).ownBlock=some k->¬(vf d'.mb).ownBlock=some k
def PgD(W0:Ww)(tb:Nat)(Ts:List Tt)(all:List Md)(d:Md)(ks:List Ctr)(v:Vv)(W:Ww):Prop:=∃kf vf,PgI W0 tb Ts all kf vf W/\kf d.mb=ks/\vf d.mb=v
section
variable {all:List Md} {d':Md}
theorem xAi(h:MdsA tb B NM Ts all W0)(hd:d∈all)(hd':d'∈all):d=d'\/d.mb<d'.lo\/d'.mb<d.lo:=by
 obtain⟨i,hi⟩:=AG.1 hd;obtain⟨j,hj⟩:=AG.1 hd';obtain⟨li,ei⟩:=AF.1 hi;obtain⟨lj,ej⟩:=AF.1 hj;have hp:=List.pairwise_iff_getElem.1 h.apart;rcases Nat.lt_trichotomy i j with q|q|q
 .have:=hp i j li lj q;rw[ei,ej]at this;exact .inr (.inl this)
 .subst q;rw[ei]at ej;exact .inl ej
 .have:=hp j i lj li q;rw[ei,ej]at this;exact .inr (.inr this)
theorem xH9(h:MdsA tb B NM Ts all W0)(hd:d∈all)(hd':d'∈all)(hne:¬d.mb=d'.mb):d.mb<d'.lo\/d'.mb<d.lo:=(xAi h hd hd').resolve_left λq=>hne (by rw[q])
theorem xAj(h:MdsA tb B NM Ts all W0)(hd:d∈all)(hd':d'∈all)(q:d'.mb=d.mb):d'=d:=by
 have o1:=(h.md d hd).1.ord;have o2:=(h.md d' hd').1.ord;rcases xAi h hd' hd with z|z|z;exact z;omega;omega
theorem xHs(h:MdsA tb B NM Ts all W0):PgI W0 tb Ts all (λmb=>match all.find? (λd=>d.mb=mb)with|some d=>AC d.nk newC|none=> []) (λ_=>xh) W0:=by
 refine⟨λd hd=>?_,λd _ d' _ _ k hk=>by simp[Value.ownBlock]at hk⟩;have h9:=xLs h hd;cases hf:all.find? (λx=>x.mb=d.mb)with
 |none=>have:=List.find?_eq_none.1 hf d hd;simp at this
 |some d'=>
  have h1:d'.mb=d.mb:=by simpa using find?_some hf
  have h2:=mem_of_find?_eq_some hf;have:d'=d:=xAj h hd h2 h1
  subst this;simpa using h9
theorem PgI.step(h:MdsA tb B NM Ts all W0){kf:Nat->List Ctr}{vf:Nat->Vv}(hI:PgI W0 tb Ts all kf vf W)(hd:d∈all){ks':List Ctr}{v':Vv}(hm:McI (yOq W0 tb Ts all d) d.N ks' v' W')
  (hc:Chg (λq=>q=d.g\/q=d.mb\/TqB Ts q\/(vf d.mb).ownBlock=some q) W W') (hv:v'.ownBlock=(vf d.mb).ownBlock\/∃k,v'.ownBlock=some k/\W.heap.size<=k):PgI W0 tb Ts all (λq=>if q=d.mb then ks' else kf q) (λq=>if q=d.mb then v' else vf q) W':=by
 have a0:∀d'∈all,∀k,(vf d'.mb).ownBlock=some k->W0.heap.size<=k/\k<W.heap.size:=λd' hd' k hk=>by obtain⟨m,a3⟩:=(hI.mc d' hd').stk;exact AA a3 k hk
 refine⟨λd' hd'=>?_,λd1 h1 d2 h2 a1 k hk=>?_⟩
 .by_cases q:d'.mb=d.mb
  .have a5:d'=d:=xAj h hd hd' q
   subst a5;simpa using hm
  .simp only[iA q];have hM:=hI.mc d' hd';have m1:=(h.md d hd).1;have m2:=(h.md d' hd').1;obtain⟨o1,o2,o3⟩:=m2.off;have r1:=m1.ord;have r2:=m2.ord;have gl:=m2.ctr.lt.2;have ml:=m2.mch.lt.2;have a8:d.g<W0.heap.size:=m1.ctr.lt.2;have a6:d.mb<W0.heap.size:=m1.mch.lt.2;have a7:=xH9 h hd hd' (λz=>q z.symm);refine⟨hm.i,hm.ti,hM.ctr.i hc (λz=>?_),hM.X,hM.cb,hM.A.i hc (λz=>?_),?_⟩
   .have z':d'.g=d.g\/d'.g=d.mb\/TqB Ts d'.g\/(vf d.mb).ownBlock=some d'.g:=z;rcases z' with z|z|z|z
    .omega
    .omega
    .exact h.noT o2 z
    .have:=(a0 d hd _ z).1;omega
   .have z':d'.mb=d.g\/d'.mb=d.mb\/TqB Ts d'.mb\/(vf d.mb).ownBlock=some d'.mb:=z;rcases z' with z|z|z|z
    .omega
    .omega
    .exact h.noT o3 z
    .have:=(a0 d hd _ z).1;omega
   .obtain⟨m,a2⟩:=hM.stk;refine⟨m,yAh a2 hc (λk hk z=>?_)⟩;have:=(a0 d' hd' k hk).1;rcases z with z|z|z|z
    .omega
    .omega
    .obtain⟨X,hX,z1,z2⟩:=z;have:=(h.ts.U X hX).1.lt;have:=(h.ts.U X hX).1.r2;omega
    .exact hI.ap d hd d' hd' (λe=>q e.symm) k z hk
 .by_cases q1:d1.mb=d.mb
  .have q2:¬d2.mb=d.mb:=λe=>a1 (q1.trans e.symm);simp only[iB q1]at hk;simp only[iA q2];intro hz;rcases hv with e|⟨k',e,a4⟩
   .rw[e]at hk;exact hI.ap d hd d2 h2 (λe=>q2 e.symm) k hk hz
   .rw[e]at hk;have:=(a0 d2 h2 k hz).2;cases hk
    omega
  .simp only[iA q1]at hk;by_cases q2:d2.mb=d.mb
   .simp only[iB q2];intro hz;rcases hv with e|⟨k',e,a4⟩
    .rw[e]at hz;exact hI.ap d1 h1 d hd q1 k hk hz
    .rw[e]at hz;have:=(a0 d1 h1 k hk).2;cases hz
     omega
   .simp only[iA q2];exact hI.ap d1 h1 d2 h2 a1 k hk
theorem PgI.turn(h:MdsA tb B NM Ts all W0)(hI:PgI W0 tb Ts all kf vf W)(hc:Chg S W W')(hS:∀q,S q->(q<tb/\¬q=1)\/(W0.heap.size<=q/\¬ObT 181 W q)):PgI W0 tb Ts all kf vf W':=by
 refine⟨λd hd=>?_,hI.ap⟩;have hM:=hI.mc d hd;have m1:=(h.md d hd).1;have a6:=(h.md d hd).2;have r1:=m1.ord;have gl:=m1.ctr.lt.2;have ml:=m1.mch.lt.2;have a4:=h.ts.tabl;have a5:=h.ts.tab.lt;have hT:TsA tb Ts W:=hM.ti;obtain⟨m,a0⟩:=hM.stk;have a3:∀q,tb<=q->q<W0.heap.size->¬S q:=λq h1 h2 z=>by
  rcases hS q z with k|k
  .omega
  .omega
 exact {i:=hM.i.absorb hc (λq z=>by
      rcases hS q z with k|k
      .exact .inl (Or.inr k.1)
      .exact .inr k.1)
        ti:=hT.side hc (λq z X hX=>by
         have a1:=(h.ts.U X hX).1.lt
         have a2:=(h.ts.U X hX).2
         rcases hS q z with k|k
         .exact .inl qo
         .exact .inr qo) (λz=>by
         rcases hS _ z with k|k
         .exact k.2 rfl
         .have:=k.1;omega)
        ctr:=hM.ctr.i hc (a3 _ (by show tb<=d.g;omega) gl)
        X:=hM.X,cb:=hM.cb
        A:=hM.A.i hc (a3 _ (by show tb<=d.mb;omega) ml)
        stk:=⟨m,yAh a0 hc (λk hk z=>by
         have:=(AA a0 k hk).1
         rcases hS k z with q|q
         .have h9:W0.heap.size<=k:=this
          have:=a4
          omega
         .exact q.2 (yAn a0 hk))⟩}
theorem PgD.mc(hd:d∈all)(h:PgD W0 tb Ts all d ks v W):McI (yOq W0 tb Ts all d) d.N ks v W:=by obtain⟨kf,vf,h1,rfl,rfl⟩:=h;exact h1.mc d hd
theorem PgD.step(h:MdsA tb B NM Ts all W0)(hd:d∈all){ks':List Ctr}{v v':Vv}(hI:PgD W0 tb Ts all d ks v W)(hm:McI (yOq W0 tb Ts all d) d.N ks' v' W')
  (hc:Chg (λq=>q=d.g\/q=d.mb\/TqB Ts q\/v.ownBlock=some q) W W') (hv:v'.ownBlock=v.ownBlock\/∃k,v'.ownBlock=some k/\W.heap.size<=k):PgD W0 tb Ts all d ks' v' W':=by
 obtain⟨kf,vf,h1,rfl,rfl⟩:=hI;exact⟨_,_,h1.step h hd hm hc hv,by simp,by simp⟩
theorem PgD.turn(h:MdsA tb B NM Ts all W0)(hI:PgD W0 tb Ts all d ks v W)(hc:Chg S W W')(hS:∀q,S q->(q<tb/\¬q=1)\/(W0.heap.size<=q/\¬ObT 181 W q)):PgD W0 tb Ts all d ks v W':=by obtain⟨kf,vf,h1,h2,h3⟩:=hI;exact⟨kf,vf,h1.turn h hc hS,h2,h3⟩
def QuB(W0:Ww)(Ts:List Tt)(all:List Md)(W:Ww)(q:Nat):Prop:=PrgB Ts all q\/(W0.heap.size<=q/\ObT 181 W q)
theorem McI.qu(hd:d∈all)(h:McI (yOq W0 tb Ts all d) N ks v W):∀q,(q=d.g\/q=d.mb\/TqB Ts q\/v.ownBlock=some q)->QuB W0 Ts all W q:=λq hq=>by
 rcases hq with z|z|z|z
 .exact .inl (.inr ⟨d,hd,.inl z⟩)
 .exact .inl (.inr ⟨d,hd,.inr z⟩)
 .exact .inl (.inl z)
 .obtain⟨m,hm⟩:=h.stk
  exact .inr ⟨(AA hm q z).1,yAn hm z⟩
theorem xDl{A B C:Ww}(h:Chg (λq=>Y q\/QuB W0 Ts all A q) A B)(k:Chg (λq=>Y q\/QuB W0 Ts all B q) B C):Chg (λq=>Y q\/QuB W0 Ts all A q) A C:=
 ⟨k.os.trans h.os,k.tape.trans h.tape,k.output.trans h.output,Nat.le_trans h.size k.size,λi hi hn=>by
  have h1:=h.block i hi hn
  refine(k.block i (AE hi h.size) (λz=>hn ?_)).trans h1
  rcases z with z|z|⟨z0,cur,z⟩
  .exact .inl z
  .exact .inr (.inl z)
  .rw[h1]at z;exact .inr (.inr ⟨z0,cur,z⟩)⟩
theorem PrgB.lt(h:MdsA tb B NM Ts all W0)(hq:PrgB Ts all q):tb<=q/\q<W0.heap.size:=by
 rcases hq with⟨X,hX,z1,z2⟩|⟨d,hd,z|z⟩
 .have:=(h.ts.U X hX).2;have:=(h.ts.U X hX).1.lt;have:=(h.ts.U X hX).1.r2;omega
 .have:=(h.md d hd).2;have:=(h.md d hd).1.ord;have:d.g<W0.heap.size:=(h.md d hd).1.ctr.lt.2;omega
 .have:=(h.md d hd).2;have:=(h.md d hd).1.ord;have:d.mb<W0.heap.size:=(h.md d hd).1.mch.lt.2;omega
theorem QuB.noT(h:MdsA tb B NM Ts all W0)(hq:W0.heap.size<=q)(ht:ObT t W q)(hne:¬181=t):¬QuB W0 Ts all W q:=λz=>by
 rcases z with z|z
 .have:=(PrgB.lt h z).2;omega
 .exact hne (z.2.one ht)
theorem QuB.noO(h:MdsA tb B NM Ts all W0)(hq:W0.heap.size<=q)(ho:W.heap[q]?=some o)(hc:o.isCells=false):¬QuB W0 Ts all W q:=λz=>by
 rcases z with z|z
 .have:=(PrgB.lt h z).2;omega
 .exact z.2.not ho hc
theorem QuB.old(h:MdsA tb B NM Ts all W0)(hq:q<tb)(hw:tb<=W0.heap.size):¬QuB W0 Ts all W q:=λz=>by
 rcases z with z|z
 .have:=(PrgB.lt h z).1;omega
 .have:=z.1;omega
theorem yAz(W:Ww)(l:Nat)(o:Obj):Chg (λq=>q=l) W (W.putObj l o):=Chg.M (grownBy_putObj' W l o) (λk q=>by cases q;rfl)
end
end
end Go.Proofs.YtnnagkfoiganfaaGreatDoor
