import Derived.Test.YtnnagkfoiganfaaGreatDoorHkAN
import Derived.Test.YtnnagkfoiganfaaGreatDoorHkAP
import Derived.Test.YtnnagkfoiganfaaGreatDoorHkAO
namespace Go.Proofs.YtnnagkfoiganfaaGreatDoor
open Go.ChangeShapes Go.WideShapes Go.ChangeAt Go.RowKit Go.Deep Go.Maps XD XI XU XG XP XK XW XT XF XE XH _root_.List _root_.Nat Go.Shelf XY Go.Proofs.Tryz
open _root_.Array renaming getElem?_eq_some_iff->AA,replicate_succ->AO,replicate_zero->AP
open _root_.Go renaming callsIn_wide->AK,YieldAt->AY,callsIn_of_wp_marks->Ai,wpIn_mono->Ap,LoopState->Ar,CallsIn->Au,Operand->Av,run_takeDeferred->Ay,callsIn_of_wp->A0,results_none->A8
open _root_.Go.Code renaming rangeFunc->Aa
open _root_.Go.Fence renaming wide->AE
open _root_.Go.Fn renaming func->AT
open _root_.Go.Obj renaming cells->AC
open _root_.Go.Value renaming slice->AF,ownBlock->An
open _root_.Go.World renaming alloc_heap_new->AG,putObj_heap_same->AQ,putObj_heap_other->AW,size_alloc->Aj
open _root_.Go.World.ownsRow renaming lt->AH,frozenAt->Ag
open _root_.List renaming replicate->AB,append_toArray->AI,mem_append->AL,cons_append->AM,nil_append->AN,mem_iff_getElem?->AR,mem_singleton->AU,mem_of_getElem?->AZ,size_toArray->Ac,push_toArray->Ad,length_cons->Ae,getElem?_map->Af,length_append->Ak,length_nil->Al,getElem?_eq_some_iff->Ao,length_drop->As,length_replicate->Ax,drop_sublist->A6,take_sublist->A7
open _root_.Nat renaming le_trans->AD,lt_of_lt_of_le->AJ,reduceAdd->AS,reduceSub->AV,le_refl->Ab,zero_add->Ah,zero_le->Aq,le_of_lt->Aw,mul_one->Az
open _root_.Option renaming map_some->AX
set_option linter.unusedVariables false
set_option linter.unusedSimpArgs false
set_option maxRecDepth 100000
set_option maxHeartbeats 64000000
variable {nc nk pm e t' O g q t i B k' kb j cb pR lD ph n bc ul uc tb NM gc rv:Nat} {v v0 cv mv:Vv} {l M:List Ix} {ca ua:Option Addr} {xs vs:List Vv} {S:Nat->Prop} {vf:Nat->Vv} {kf:Nat->List Ctr} {A wr W2 W3 X2 X3 X' w' w0 W0 W W' w:Ww} {o rec' rec:Obj} {R R':Ending->Ww->Prop} {fn:Func} {bsd' bsd bs:List Bool} {Ds:List Nat} {d:Md} {args tmps:Array Vv} {P:Program} {out0:List Ent} {r0:Loop} {Q:Exit->Act->Ww->Prop} {a:Act} {rest:List Oper} {ops:Array Oper} {assign body:Code} {ps:Array Tmp} {ks0:List Ctr} {hints:Bool} {F:Fence} {x m:Bk} {X:List (List Ix)} {Ts:List Tt} {cnt:Int}
section
def TqB(Ts:List Tt)(q:Nat):Prop:=∃X∈Ts,X.lo<=q/\q<X.hi
def PrgB(Ts:List Tt)(ds:List Md)(q:Nat):Prop:=TqB Ts q\/∃d∈ds,q=d.g\/q=d.mb
def PrgX(tb:Nat)(Ts:List Tt)(ds:List Md)(q:Nat):Prop:=PrgB Ts ds q\/q<tb
def yM8(W0:Ww)(tb:Nat)(Ts:List Tt)(ds:List Md)(d:Md):MchG:=⟨W0,TqB Ts,PrgX tb Ts ds,TsA tb Ts,d.p,d.lo,d.g,d.nk,d.nk,d.mb⟩
section
variable {ds:List Md}
theorem MdA.off(h:MdA d Ts W):(∀X∈Ts,d.p<X.lo\/X.t<d.p)/\(∀X∈Ts,d.g<X.lo\/X.t<d.g)/\(∀X∈Ts,d.mb<X.lo\/X.t<d.mb):=by have ho:=h.ord;exact⟨λX hX=>by rcases h.new X hX with q|q<;>omega,λX hX=>by rcases h.new X hX with q|q<;>omega,λX hX=>by rcases h.new X hX with q|q<;>omega⟩
theorem MdsA.noT(h:MdsA tb B NM Ts ds W0)(hq:∀X∈Ts,q<X.lo\/X.t<q):¬TqB Ts q:=fun⟨X,hX,z1,z2⟩=>by
 have:=(h.ts.U X hX).1.r2
 rcases hq X hX with z|z<;>omega
theorem xHn(h:MdsA tb B NM Ts ds W0)(hd:d∈ds)(hg:∀(k:Nat)(x:Ix),d.l[k]?=some x->x.op=1->yCz x.leaf/\(cntK x.leaf.f->0<=x.a/\x.a<(d.nk:Int))):MaD (yM8 W0 tb Ts ds d) d.l tb d.lo d.N Ts d.L:=by
 have hm:=(h.md d hd).1;have a4:=(h.md d hd).2;have a1:=hm.ord;obtain⟨o1,o2,o3⟩:=hm.off;have a3:=h.ts.tabl;have a2:d.g<W0.heap.size:=hm.ctr.lt.2;refine {ti:=rfl,tq:=rfl,sp:=hm.sp,pS:=λq=>?_,pT:=o1,gT:=o2,gl:=a2,gp:=λq=>?_,gv:=?_,cS:=λt vs hb ht=>⟨λq=>?_,λq=>?_⟩,xl:=λX hX=>(h.ts.U X hX).1.lt,don:=hm.don,good:=hg}
 .rcases q with(q|⟨d',a0,q|q⟩)|q
  .exact h.noT o1 q
  .exact yAb hm.sp (h.md d' a0).1.ctr qj _ rfl (by rw[show d.p=d'.g from q];rfl)
  .exact yAb hm.sp (h.md d' a0).1.mch qj _ rfl (by rw[show d.p=d'.mb from q];rfl)
  .have q2:d.p<tb:=q;omega
 .exact a1.2.2.1 (show d.p=d.g from(show d.g=d.p from q).symm)
 .show¬1=d.g;omega
 .rcases q with(q|⟨d',a0,q|q⟩)|q
  .exact h.noT ht q
  .exact yAb hb (h.md d' a0).1.ctr qj _ rfl (by rw[q];rfl)
  .exact yAb hb (h.md d' a0).1.mch qj _ rfl (by rw[q];rfl)
  .have:=hb.lt.1;have q2:=q;omega
 .exact yAb hb hm.ctr qj _ rfl (by rw[show t=d.g from q];rfl)
theorem yQ6(h:MdsA tb B NM Ts ds W0)(hd:d∈ds)(hg:∀(k:Nat)(x:Ix),d.l[k]?=some x->x.op=1->yCz x.leaf/\(cntK x.leaf.f->0<=x.a/\x.a<(d.nk:Int))):MaOk (yM8 W0 tb Ts ds d) d.l:=by
 have hD:=xHn h hd hg;have hm:=(h.md d hd).1;have a6:=(h.md d hd).2;have a5:=hm.ord;obtain⟨o1,o2,o3⟩:=hm.off;have a4:=h.ts.tabl;have a0:=(AH hm.sp d.p rfl).2;have a2:=hm.ctr.lt.2;have a1:d.mb<W0.heap.size:=hm.mch.lt.2;refine {stp:=λat_ x hx=>?_,pl:=a0,pS:=hD.pS,ti:=λS' W W' hT hc hS=>?_,leaf:=xEf hD,gS:=Or.inl (Or.inr ⟨d,hd,Or.inl rfl⟩),mS:=Or.inl (Or.inr ⟨d,hd,Or.inr rfl⟩),tS:=λq hq=>Or.inl (Or.inl hq),gl:=a2,ml:=a1,tl:=λq hq=>?_,gm:=λq=>?_,tg:=h.noT o2,tm:=h.noT o3}
 .have ht:=(hm.don at_ x hx).ten;exact⟨yDh hm.sp (ht 0 _ rfl),yDh hm.sp (ht 1 _ rfl),yDh hm.sp (ht 2 _ rfl)⟩
 .have a3:TsA tb Ts W:=hT;refine a3.side hc (λq hq X hX=>?_) (λhq=>?_)
  .rcases hS q hq with z|z|z
   .rw[z];exact o2 X hX
   .rw[z];exact o3 X hX
   .have:=(h.ts.U X hX).1.lt;exact .inr (AJ this z)
  .have hv:=h.ts.tab.lt;rcases hS _ hq with z|z|z
   .have z2:1=d.g:=z;omega
   .have z2:1=d.mb:=z;omega
   .have z2:W0.heap.size<=1:=z;omega
 .obtain⟨X,hX,z1,z2⟩:=hq;have h1:=(h.ts.U X hX).1.lt;have h2:=(h.ts.U X hX).1.r2;show q<W0.heap.size;omega
 .have z:d.g=d.mb:=q;omega
theorem xHm(h:MdsA tb B NM Ts ds W0)(hd:d∈ds):McI (yM8 W0 tb Ts ds d) d.N (AB d.nk newC) xh W0:=by have hm:=(h.md d hd).1;exact {i:=Chg.refl _ _,ti:=h.ts,ctr:=hm.ctr,X:=Ax,cb:=λk hk=>by rw[eq_of_mem_replicate hk];exact yYq,A:=hm.mch,stk:=⟨[],⟨rfl,.inl ⟨rfl,rfl⟩⟩⟩}
theorem yJ2(hg:yB1 l cnt nc)(hnk:nk=cnt.toNat):∀(k:Nat)(x:Ix),l[k]?=some x->x.op=1->yCz x.leaf/\(cntK x.leaf.f->0<=x.a/\x.a<(nk:Int)):=λk x hx ho=>by
 have h3:=hg.2.2.1
 rcases yB5 hg hx with q|q|q|q
 .refine⟨yDk q.2.1 x.leaf (by simp),λhc=>?_⟩
  rcases q.2.2.2 with z|z
  .have:=z.2;omega
  .exact absurd hc z.1
 .have:=q.1;omega
 .have:=q.1;omega
 .have:=q.1;omega
end
end
abbrev ptB(b:Nat):Vv:=(xp b)
abbrev mvW(w:Ww)(a:Option Addr)(n c mb:Nat)(ca:Option Addr)(cn cc:Nat)(h:Bool):Ww:=
 (xw ((w.alloc (AC #[.slice a n c,ptB mb] 96)).alloc (AC #[.slice ca cn cc] 26)) #[h] 4)
theorem yUy(w:Ww)(a:Option Addr)(c mb:Nat)(ca:Option Addr)(cn cc:Nat)(h:Bool):
  Calls prog 47 #[.agg #[.slice a 0 c,ptB mb],.slice ca cn cc,h] w λe w'=>e=.returned (.func (AT 103) #[] #[ptB (w+1),ptB w,ptB (w+1+1)])/\w'=mvW w a 0 c mb ca cn cc h:=by
 go_enter func47,ntmps47;go_wp2;go_ret;exact⟨rfl,rfl⟩
theorem yJt(w:Ww)(a:Option Addr)(n c mb:Nat)(ca:Option Addr)(cn cc:Nat):
  Calls prog 102 #[.agg #[.slice a n c,ptB mb],.slice ca cn cc] w λe w'=>e=.returned (.func (AT 152) #[] #[ptB w,ptB (w+1)])/\w'=(xw (w.alloc (AC #[.slice a n c,ptB mb] 96)) #[.slice ca cn cc] 26):=by
 go_enter func102,ntmps102;go_wp2;go_ret;exact⟨rfl,rfl⟩
theorem yM7(w:Ww)(a:Option Addr)(n c mb:Nat)(hn:(0:Int)<(n:Int))(ca:Option Addr)(cn cc:Nat)(h:Bool):
  Calls prog 47 #[.agg #[.slice a n c,ptB mb],.slice ca cn cc,h] w λe w'=>e=.returned (.func (AT 152) #[] #[ptB (w+1+1+1),ptB (w+1+1+1+1)])/\w'=(xw ((mvW w a n c mb ca cn cc h).alloc (AC #[.slice a n c,ptB mb] 96)) #[.slice ca cn cc] 26):=by
 obtain⟨W,hW⟩:=qW (mvW w a n c mb ca cn cc h);have hz:W.heap.size=w.heap.size+1+1+1:=by rw[hW];simp
 have HB:Hid (Calls prog 102 #[.agg #[.slice a n c,ptB mb],.slice ca cn cc] W λe w'=>e=.returned (.func (AT 152) #[] #[ptB (w+1+1+1),ptB (w+1+1+1+1)])/\w'=(xw (W.alloc (AC #[.slice a n c,ptB mb] 96)) #[.slice ca cn cc] 26)):=by have h9:=yJt W a n c mb ca cn cc;rw[hz]at h9;exact h9
 go_enter func47,ntmps47;rw[<-hW];unfold mvW at hW;clear hz;go_wp2_with fail;rw[<-hW];refine HB.mono ?_;rintro e w' ⟨rfl,rfl⟩;go_wp2;go_ret;exact⟨rfl,by rw[hW]⟩
theorem yLn(w:Ww)(mb:Nat)(ra:Option Addr)(rn rc:Nat)(ca:Option Addr)(cn cc:Nat):
  Calls prog 155 #[ptB mb,.slice ra rn rc,.slice ca cn cc] w λe w'=>e=.returned (.func (AT 200) #[] #[ptB w,ptB (w+1),ptB (w+1+1)])/\w'=(xw ((w.alloc (AC #[ptB mb] 94)).alloc (AC #[.slice ra rn rc] 26)) #[.slice ca cn cc] 118):=by
 go_enter func155,ntmps155;go_wp2;go_ret;exact⟨rfl,rfl⟩
structure MvS(G:MchG)(N:Nat)(es:List Ent)(pc pp ph b off cap:Nat)(hints:Bool)(ks:List Ctr)(v:Vv)(W:Ww):Prop where
 mc:McI G N ks v W
 bc:(xk W pc 0 (xy b off es.length cap):Prop)
 bp:(xk W pp 1 (xp G.mb):Prop)
 bh:(xk W ph 0 hints:Prop)
 sl:CSl W b off cap es
 nb:∀q,(q=ph\/q=b)->¬q=G.g/\¬q=G.mb/\¬G.T q/\¬v.ownBlock=some q
def SvI(b off M i:Nat)(sv:Vv):Prop:=∃o n cp,sv=(xy b o n cp)/\n=M-i/\n<=cp/\cp<=9223372036854775807/\(0<n->o=off+i*5)
theorem yH5{p:Addr}(h:W.cell? p=some v):p.block<W:=by apply Classical.byContradiction;intro hn;unfold World.cell? at h;rw[Array.getElem?_eq_none (by omega)]at h;simp at h
theorem yDn{p:Addr}(hb:Below W W W')(h:W.cell? p=some v):W'.cell? p=W.cell? p:=hb.cell (yH5 h)
variable {N:Nat} {ks:List Ctr}
theorem McI.on{G:MchG}(h:McI G N ks v W)(hO:MaOk G l)(hb:Below W W W'):McI G N ks v W':=by have hc:Chg (λ_=>False) W W':=Chg.h hb;have⟨m,hm⟩:=h.stk;exact⟨h.i.trans (hc.mono (λq z=>z.elim)),hO.ti (λ_=>False) W W' h.ti hc (λq z=>z.elim),h.ctr.k hb,h.X,h.cb,h.A.k hb,⟨m,yAg hm hc (λ_ _ q=>q)⟩⟩
def nxtM(es:List Ent)(hints:Bool)(i:Nat)(it:It)(c:Ent):Nat:=if it.H=false/\hints=true then i+1+((es.drop (i+1)).takeWhile (yAz it.G c)).length else i+1
variable {p:Prop}
theorem zMvF (h:p:=by
 have HSS:Hid (∀X,yA X wo 181 4 w3 [false,it.strip,xi it.G.rank,it.G.txt]->yA X wo 70 5 wo c.five->(λw':Ww=>xk w' w3 0 false/\xk w' w3 1 it.strip/\xk w' w3 2 (xi it.G.rank)/\xk w' w3 3 it.G.txt/\xk w' wo 0 c.j/\xk w' wo 1 c.E/\xk w' wo 2 c.C/\xk w' wo 3 (xu c.ts)/\xk w' wo 4 c.val/\xk w' w3 0 false) X):=λX h k=>
  ⟨h.z (j:=0) rfl,h.z (j:=1) rfl,h.z (j:=2) rfl,h.z (j:=3) rfl,k.z (j:=0) rfl,k.z (j:=1) rfl,k.z (j:=2) rfl,k.z (j:=3) rfl,k.z (j:=4) rfl,h.z (j:=0) rfl⟩
 have HI5:Hid (yA wY.drew wo 181 4 w3 [false,it.strip,xi it.G.rank,it.G.txt]/\yA wY.drew wo 70 5 wo c.five/\Below w3 w3 wY.drew):=by have kd:Below wY wY wY.drew:=(Below.refl _ _).drew;exact⟨HI4.1.k kd,HI4.2.1.k kd,HI4.2.2.trans (kd.mono HI4.2.2.size)⟩
 have hS0:=HSS.out _ HI5.1 HI5.2.1;refine yEk [6,7] (λw':Ww=>xk w' w3 0 false/\xk w' w3 1 it.strip/\xk w' w3 2 (xi it.G.rank)/\xk w' w3 3 it.G.txt/\xk w' wo 0 c.j/\xk w' wo 1 c.E/\xk w' wo 2 c.C/\xk w' wo 3 (xu c.ts)/\xk w' wo 4 c.val/\xk w' w3 0 false) (by kernel_rfl) ?_;exact xGn):p:=h
theorem zMvT (h:p:=by
 have HSS:Hid (∀X,yA X wo 181 4 w3 [true,it.strip,xi it.G.rank,it.G.txt]->yA X wo 70 5 wo c.five->(λw':Ww=>xk w' w3 0 true/\xk w' w3 1 it.strip/\xk w' w3 2 (xi it.G.rank)/\xk w' w3 3 it.G.txt/\xk w' wo 0 c.j/\xk w' wo 1 c.E/\xk w' wo 2 c.C/\xk w' wo 3 (xu c.ts)/\xk w' wo 4 c.val/\xk w' w3 0 true) X):=λX h k=>
  ⟨h.z (j:=0) rfl,h.z (j:=1) rfl,h.z (j:=2) rfl,h.z (j:=3) rfl,k.z (j:=0) rfl,k.z (j:=1) rfl,k.z (j:=2) rfl,k.z (j:=3) rfl,k.z (j:=4) rfl,h.z (j:=0) rfl⟩
 have HI5:Hid (yA wY.drew wo 181 4 w3 [true,it.strip,xi it.G.rank,it.G.txt]/\yA wY.drew wo 70 5 wo c.five/\Below w3 w3 wY.drew):=by have kd:Below wY wY wY.drew:=(Below.refl _ _).drew;exact⟨HI4.1.k kd,HI4.2.1.k kd,HI4.2.2.trans (kd.mono HI4.2.2.size)⟩
 have hS0:=HSS.out _ HI5.1 HI5.2.1;refine yEk [6,7] (λw':Ww=>xk w' w3 0 true/\xk w' w3 1 it.strip/\xk w' w3 2 (xi it.G.rank)/\xk w' w3 3 it.G.txt/\xk w' wo 0 c.j/\xk w' wo 1 c.E/\xk w' wo 2 c.C/\xk w' wo 3 (xu c.ts)/\xk w' wo 4 c.val/\xk w' w3 0 true) (by kernel_rfl) ?_;exact xGn):p:=h
theorem zMvL (h:p:=by
 refine⟨trivial,(callsIn_wide.2 HLk).mono ?_⟩;rintro e w3 ⟨it,ks',v',hlk,rfl,hmc,hch,hvb⟩;have H3:Hid (LkR pfxB l c [] ⟨0,[newI],ks⟩ (it,ks')/\McI G N ks' v' w3/\Chg (λq=>q=G.g\/q=G.mb\/G.T q\/v.ownBlock=some q) W2 w3/\(v'.ownBlock=v.ownBlock\/∃k,v'.ownBlock=some k/\W2<=k)):=⟨hlk,hmc,hch,hvb⟩;have z0:(xk w3 ph 0 hints:Prop):=by have h1:=HW2.1.bh;obtain⟨n1,n2,n3,n4⟩:=HW2.1.nb ph (.inl rfl);rw[hch.z (yH5 h1) (λq=>by rcases q with q|q|q|q;exact n1 q;exact n2 q;exact n3 q;exact n4 q)];exact h1
 have hphl:=yH5 z0;have hbx:yA w3 wo 70 5 wo c.five:=by
  refine HW2.2.1.i hch (λq=>?_);have hs:=HR.out _ _ _ _ HJ.2;have hz:=hs.mc.i.size;have h1:=HOk.1.gl;have h2:=HOk.1.ml;rcases q with q|q|q|q
  .omega
  .omega
  .have:=HOk.1.tl _ q;omega
  .obtain⟨mm,hmm⟩:=hs.mc.stk;have:=(World.ownsRow.lt hmm _ q).2;omega
 have HBx:Hid (yA w3 wo 70 5 wo c.five):=hbx;obtain⟨d0,d1,d2,d3,d4⟩:=hbx.c5;have hwl:wo.heap.size<w3.heap.size:=hbx.lt.2;obtain⟨x',hx'⟩:=qE (yBl it c);have HYs:Hid (∀X,Below w3 w3 X->YieldAt Fence.wide (m-1) prog lY #[.agg #[x'.j,x'.E,x'.C,xu x'.ts,x'.val],it.H] X λe W''=>e=.returned true/\J (nxtM es hints i it c) ks' v' W''):=λX hb=>by rw[hx'];refine HY.out i c it ks ks' v v' wo X HJ.2 HC.out H3.1 (H3.2.1.on HOk.1 hb) (((Chg.h HW2.2.2).trans H3.2.2.1).trans (Chg.h hb)) (H3.2.2.2.imp (λq=>q) (fun⟨k,k1,k2⟩=>⟨k,k1,qw HW2.2.2.size⟩))
 have HSh:Hid (∀X,(xf 106 #[.agg #[it.H,it.strip,xi it.G.rank,it.G.txt],.agg #[c.j,c.E,c.C,xu c.ts,c.val]] X (.agg #[x'.j,x'.E,x'.C,xu x'.ts,x'.val]):Prop)):=λX=>by rw[hx'];exact yJj it c X
 clear hlk hmc hch hvb HLk hbx hx';cases hal:it.H
 .rw[hal]at HYs HSh;obtain⟨W4,hW4⟩:=qW (xw w3 #[false,it.strip,xi it.G.rank,it.G.txt] 181);have HI4:Hid (yA W4 wo 181 4 w3 [false,it.strip,xi it.G.rank,it.G.txt]/\yA W4 wo 70 5 wo c.five/\Below w3 w3 W4):=by
   have k4:=qN hW4
   exact⟨by rw[hW4];exact yAa w3 _ (by omega) rfl,HBx.k k4,k4⟩
  cases hints
  .obtain⟨nx,hnx⟩:=qE (i+1);have HNx:Hid (nxtM es false i it c=nx):=by show _=_;unfold nxtM;simp[hnx]
   have HNl:Hid (i+1<=nx/\nx<=M):=by show _/\_;omega
   have HSx:Hid (SvI b off M nx sv):=by rw[hnx];exact HSv.out
   clear hnx;gi_wp2;rw[<-hW4];clear hW4 z0 hphl d0 d1 d2 d3 d4;generalize W4=wY at HI4|-;exact zMvF
  .obtain⟨o5,n5,c5,hsv5,hn5,hnc5,hcm5,ho5⟩:=HSv.out;subst hsv5;obtain⟨nw,hnw⟩:=qE (((es.drop (i+1)).takeWhile (yAz it.G c)).length);have hnl:nw<=n5:=by rw[hnw,hn5];refine Nat.le_trans (takeWhile_sublist _).length_le ?_;rw[length_drop];have:=HM.out;omega
   have HRe:Hid ((xf 105 #[.agg #[xi it.G.rank,it.G.txt],.agg #[c.j,c.E,c.C,xu c.ts,c.val],(xy b o5 n5 c5)] W4 (xi nw):Prop)):=by
    obtain⟨b1,b2,b3,b4⟩:=HW2.1.nb b (.inr rfl);have hsl3:CSl w3 b off cap es:=HW2.1.sl.i H3.2.2.1 (λq=>by rcases q with q|q|q|q;exact b1 q;exact b2 q;exact b3 q;exact b4 q);have hsl4:=hsl3.k HI4.2.2;have hlen:n5=(es.drop (i+1)).length:=by rw[length_drop];have:=HM.out;omega
    have hc4:yA6 W4 b o5 (es.drop (i+1)):=by intro j e he;have hj:=qf he;rw[ho5 (by omega)];rw[getElem?_drop]at he;have h9:=hsl4.U (i+1+j) e he;rw[show off+(i+1+j)*5=off+(i+1)*5+j*5 by omega]at h9;exact h9
    have hpw:=HOk.2.2.2.2.2;have hci:∀e∈es.drop (i+1),yAr (putE c) (putE e)= -1:=λe he=>by obtain⟨j,hj⟩:=List.mem_iff_getElem?.1 he;rw[getElem?_drop]at hj;obtain⟨l1,e1⟩:=List.getElem?_eq_some_iff.1 HC.out;obtain⟨l2,e2⟩:=List.getElem?_eq_some_iff.1 hj;have h9:=List.pairwise_iff_getElem.1 hpw i (i+1+j) l1 l2 (by omega);rw[e1,e2]at h9;exact h9
    have h9:=yUj (h:=it.G) (c:=c) (cap:=c5) hc4 hsl4.lt (by omega) (yUi hci (hpw.sublist (drop_sublist _ _)));rw[<-hlen,<-hnw]at h9;exact h9
   obtain⟨nx,hnx⟩:=qE (i+1+nw);have HNx:Hid (nxtM es true i it c=nx):=by show _=_;unfold nxtM;rw[iB ⟨hal,rfl⟩,hnx,hnw]
   have HNl:Hid (i+1<=nx/\nx<=M):=by show _/\_;omega
   have HSq:Hid (n5=M-(i+1)/\(0<n5->o5=off+(i+1)*5)/\nx=i+1+nw):=⟨hn5,ho5,hnx⟩;have hz1:(nw:Int)<=(n5:Int):=by omega
   have hz2:(n5:Int)<=(c5:Int):=by omega
   have hz3:(0:Int)<=(nw:Int):=by omega
   clear hnw hnx ho5 hn5;gi_wp2;rw[<-hW4];clear hW4 z0 hphl d0 d1 d2 d3 d4;refine⟨trivial,(callsIn_wide.2 HRe.out).mono ?_⟩;rintro e w6 ⟨rfl,hb6⟩;have HI6:Hid (yA w6 wo 181 4 w3 [false,it.strip,xi it.G.rank,it.G.txt]/\yA w6 wo 70 5 wo c.five/\Below w3 w3 w6):=⟨HI4.1.k hb6,HI4.2.1.k hb6,HI4.2.2.trans (hb6.mono HI4.2.2.size)⟩;clear hb6 HI4 HRe HSv;have HI4:=HI6;clear HI6;by_cases hcz:c5=nw
   .subst hcz;obtain rfl:n5=c5:=by omega
    gi_wp2;generalize hsv:Value.slice (some ⟨b,o5,none⟩) 0 0=sv;have HSx:Hid (SvI b off M nx sv):=⟨o5,0,0,hsv.symm,qw HSq.out,by omega,by omega,λq=>by omega⟩;clear hsv HSq;generalize w6=wY at HI4|-;exact zMvF
   .gi_wp2;generalize hsv:Value.slice (some ⟨b,o5+nw*5,none⟩) (n5-nw) (c5-nw)=sv;have HSx:Hid (SvI b off M nx sv):=⟨o5+nw*5,n5-nw,c5-nw,hsv.symm,qw HSq.out,by omega,by omega,λq=>qv HSq.out (HSq.2.1 (by omega))⟩;clear hsv HSq;generalize w6=wY at HI4|-;exact zMvF
 .rw[hal]at HYs HSh;obtain⟨W4,hW4⟩:=qW (xw w3 #[true,it.strip,xi it.G.rank,it.G.txt] 181);have HI4:Hid (yA W4 wo 181 4 w3 [true,it.strip,xi it.G.rank,it.G.txt]/\yA W4 wo 70 5 wo c.five/\Below w3 w3 W4):=by
   have k4:=qN hW4
   exact⟨by rw[hW4];exact yAa w3 _ (by omega) rfl,HBx.k k4,k4⟩
  obtain⟨nx,hnx⟩:=qE (i+1);have HNx:Hid (nxtM es hints i it c=nx):=by show _=_;unfold nxtM;simp[hnx,hal]
  have HNl:Hid (i+1<=nx/\nx<=M):=by show _/\_;omega
  have HSx:Hid (SvI b off M nx sv):=by rw[hnx];exact HSv.out
  clear hnx;cases hints
  all_goals
   gi_wp2
   rw[<-hW4]
   clear hW4 z0 hphl d0 d1 d2 d3 d4
   generalize W4=wY at HI4|-
   exact zMvT):p:=h
theorem xAw(G:MchG)(l:List Ix)(N:Nat)(es:List Ent)(pc pp ph b off cap:Nat)(hints:Bool)(hN0:es.length<=10000)(hO:MaOk G l)(hg:yB1 l cnt 0)(hN:N=l.length)(hnk:(G.nk:Int)=cnt)(hrow:∀c∈es,¬c.j=⟨#[]⟩)(hord:es.Pairwise λa b=>yAr (putE a) (putE b)= -1)(lY m:Nat)(hm:1<=m)(J:Nat->List Ctr->Vv->Ww->Prop)
  (hY:∀i c it ks ks' v v' W0 W',J i ks v W0->es[i]?=some c->LkR pfxB l c [] ⟨0,[newI],ks⟩ (it,ks')->McI G N ks' v' W'->Chg (λq=>q=G.g\/q=G.mb\/G.T q\/v.ownBlock=some q) W0 W'->(v'.ownBlock=v.ownBlock\/∃k,v'.ownBlock=some k/\W0.heap.size<=k)->
   AY AE (m-1) prog lY #[(yBl it c).c,it.H] W' λe W''=>e=.returned true/\J (nxtM es hints i it c) ks' v' W'')
  (hJr:∀i ks v W,J i ks v W->MvS G N es pc pp ph b off cap hints ks v W) (W:Ww) ks0 (v0:Vv) (h0:J 0 ks0 v0 W):
  Au AE m prog 103 #[.func (.yield lY) #[] #[],ptB pc,ptB pp,ptB ph] W λe W'=>(∃v,e=.returned v)/\∃ks v,J es.length ks v W':=by
 obtain⟨M,hM⟩:=qE es.length;have HM:Hid (M=es.length):=hM;have a7:Hid (J 0 ks0 v0 W):=h0;have HR:Hid (∀i ks v W,J i ks v W->MvS G N es pc pp ph b off cap hints ks v W):=hJr;have b0:=(hJr _ _ _ _ h0).bc;have a2:=(hJr _ _ _ _ h0).sl.X;have a5:cap<=9223372036854775807:=by have:=(hJr _ _ _ _ h0).sl.cap;unfold maxLen at this;omega
 rw[<-hM]at hN0 a2 b0|-
 have HY:Hid (∀i c it ks ks' v v' W0 W',J i ks v W0->es[i]?=some c->LkR pfxB l c [] ⟨0,[newI],ks⟩ (it,ks')->McI G N ks' v' W'->Chg (λq=>q=G.g\/q=G.mb\/G.T q\/v.ownBlock=some q) W0 W'->(v'.ownBlock=v.ownBlock\/∃k,v'.ownBlock=some k/\W0.heap.size<=k)->
   AY AE (m-1) prog lY #[(yBl it c).c,it.H] W' λe W''=>e=.returned true/\J (nxtM es hints i it c) ks' v' W''):=hY
 have HOk:Hid (MaOk G l/\yB1 l cnt 0/\N=l.length/\(G.nk:Int)=cnt/\(∀c∈es,¬c.j=⟨#[]⟩)/\es.Pairwise λa b=>yAr (putE a) (putE b)= -1):=⟨hO,hg,hN,hnk,hrow,hord⟩;clear hM h0 hJr hY hO hg hN hnk hrow hord;refine A0 func103 rfl trivial ?_ rfl;simp only[ntmps103,Ac,Ae,Al,AS,AV,AO,AP,Ad,AI,AN,AM];gi_wp2;gi_loopw [5] (λbv wr=>∃(i:Nat)(ks:List Ctr)(v:Vv),i<=M/\Hid (SvI b off M i bv/\J i ks v wr)) (λbv _=>match bv with| .slice _ n _=>n|_=>0);case atStart=>exact⟨0,ks0,v0,Aq _,⟨off,M,cap,rfl,by simp,a2,a5,λ_=>by simp⟩,a7.out⟩
 case round=>
  obtain⟨i,ks,v,ab,HJ⟩:=hrel;obtain⟨o,n,cp,rfl,hn,aa,ac,a1⟩:=HJ.1;by_cases hlt:i<M
  .obtain⟨c,hc⟩:∃c,es[i]?=some c:=qg (qw HM.out);have HC:Hid (es[i]?=some c):=hc;obtain⟨wo,a3⟩:=qW wr;subst a3;obtain⟨r,hr⟩:∃r,n=r+1:=⟨n-1,by omega⟩;subst hr;have ho:o=off+i*5:=a1 (by omega);obtain⟨x0,x1,x2,x3,x4⟩:=(HR.out _ _ _ _ HJ.2).sl.U i c hc;rw[<-ho]at x0 x1 x2 x3 x4;have a6:Hid (o=off+i*5):=ho;have HRn:Hid (r+1=M-i):=hn;have a8:(0:Int)<(r:Int)+1:=by omega
   obtain⟨W2,a0⟩:=qW (xw wo #[c.j,c.E,c.C,xu c.ts,c.val] 70);have HW2:Hid (MvS G N es pc pp ph b off cap hints ks v W2/\yA W2 wo 70 5 wo c.five/\Below wo wo W2):=by
    have k2:=qN a0
    have hs:=HR.out _ _ _ _ HJ.2;exact⟨⟨hs.mc.on HOk.1 k2,by rw[yDn k2 hs.bc];exact hs.bc,by rw[yDn k2 hs.bp];exact hs.bp,by rw[yDn k2 hs.bh];exact hs.bh,hs.sl.k k2,hs.nb⟩,by rw[a0];exact yAa wo _ qr rfl,k2⟩
   have y0:=(HR.out _ _ _ _ HJ.2).bp;have a9:pp<wo.heap.size:=yH5 y0;obtain⟨d,hd⟩:=yNo HOk.2.1
   have HLk:Hid (Calls prog 104 #[xp G.mb,.agg #[c.j,c.E,c.C,xu c.ts,c.val],xh] W2 (LooP G ⟨W2,l,0,0,0,cnt,c,[],d,ks,0,0,0,none,N,0,0⟩ v)):=
    yOy G ⟨W2,l,0,0,0,cnt,c,[],d,ks,0,0,0,none,N,0,0⟩ v 0 HOk.2.1 hd (Aq _) 0 HOk.2.2.1 rfl HOk.2.2.2.1 HOk.1 HW2.1.mc (HOk.2.2.2.2.1 c (AZ hc)) (λi b hi=>by simp at hi)
   clear hc hd ho hn a1;by_cases hc1:cp=1
   .subst hc1;obtain rfl:r=0:=by omega
    gi_wp2;rw[<-a0];clear a0 x0 x1 x2 x3 x4;generalize hsv:AF (some ⟨b,o,none⟩) 0 0=sv;have HSv:Hid (SvI b off M (i+1) sv):=⟨o,0,0,hsv.symm,qw HRn.out,by omega,by omega,λq=>by omega⟩;clear hsv;as_aux_lemma=>exact zMvL
   .gi_wp2;rw[<-a0];clear a0 x0 x1 x2 x3 x4;generalize hsv:AF (some ⟨b,o+5,none⟩) r (cp-1)=sv;have HSv:Hid (SvI b off M (i+1) sv):=⟨o+5,r,cp-1,hsv.symm,qw HRn.out,by omega,by omega,λq=>qw a6.out⟩;clear hsv;as_aux_lemma=>exact zMvL
  .obtain rfl:n=0:=by omega
   have HF:Hid (∃ks v,J M ks v wr):=by
    have a4:i=M:=by omega
    subst a4;exact⟨ks,v,HJ.2⟩
   gi_wp2;go_end0;exact⟨⟨_,rfl⟩,HF.out⟩
structure LoS(G:MchG)(N:Nat)(es:List Ent)(bs:List Bool)(pm pr pd b off cap:Nat)(ca:Option Addr)(cc:Nat)(ks:List Ctr)(v:Vv)(W:Ww):Prop where
 mc:McI G N ks v W
 bm:(xk W pm 0 (xp G.mb):Prop)
 br:(xk W pr 0 (xy b off es.length cap):Prop)
 bd:(xk W pd 0 (.slice ca bs.length cc):Prop)
 sl:CSl W b off cap es
 cd:∀(i:Nat)(x:Bool),bs[i]?=some x->∃bc oc,ca=some ⟨bc,oc,none⟩/\xk W bc (oc+i) x/\bc<W/\¬bc=G.g/\¬G.T bc/\¬v.ownBlock=some bc
variable {es:List Ent} {b cap cc:Nat}
theorem LoS.on{G:MchG}{pr pd off:Nat}(h:LoS G N es bs pm pr pd b off cap ca cc ks v W)(hO:MaOk G l)(hb:Below W W W'):LoS G N es bs pm pr pd b off cap ca cc ks v W':=
 ⟨h.mc.on hO hb,by rw[yDn hb h.bm];exact h.bm,by rw[yDn hb h.br];exact h.br,by rw[yDn hb h.bd];exact h.bd,h.sl.k hb,λi x hx=>by
  have⟨bc,oc,h1,h2,h3,h4⟩:=h.cd i x hx
  exact⟨bc,oc,h1,by rw[yDn hb h2];exact h2,AJ h3 hb.size,h4⟩⟩
theorem zLoF (h:p:=by
 have HSS:Hid (∀X,yA X wo 181 4 w3 [al,st,xi hr,ht]->yA X wo 70 5 wo c.five->(λw':Ww=>xk w' w3 0 al/\xk w' w3 1 st/\xk w' w3 2 (xi hr)/\xk w' w3 3 ht/\xk w' wo 0 c.j/\xk w' wo 1 c.E/\xk w' wo 2 c.C/\xk w' wo 3 (xu c.ts)/\xk w' wo 4 c.val/\xk w' w3 0 al) X):=λX h k=>
  ⟨h.z (j:=0) rfl,h.z (j:=1) rfl,h.z (j:=2) rfl,h.z (j:=3) rfl,k.z (j:=0) rfl,k.z (j:=1) rfl,k.z (j:=2) rfl,k.z (j:=3) rfl,k.z (j:=4) rfl,h.z (j:=0) rfl⟩
 have HI5:Hid (yA wY.drew wo 181 4 w3 [al,st,xi hr,ht]/\yA wY.drew wo 70 5 wo c.five/\Below w3 w3 wY.drew):=by have kd:Below wY wY wY.drew:=(Below.refl _ _).drew;exact⟨HI4.1.k kd,HI4.2.1.k kd,HI4.2.2.trans (kd.mono HI4.2.2.size)⟩
 have hS0:=HSS.out _ HI5.1 HI5.2.1;refine yEk [6,7] (λw':Ww=>xk w' w3 0 al/\xk w' w3 1 st/\xk w' w3 2 (xi hr)/\xk w' w3 3 ht/\xk w' wo 0 c.j/\xk w' wo 1 c.E/\xk w' wo 2 c.C/\xk w' wo 3 (xu c.ts)/\xk w' wo 4 c.val/\xk w' w3 0 al) (by kernel_rfl) ?_;generalize wY.drew=WD at HI5 hS0|-;refine yKr 0 rfl hS0 ?_;refine yKr 1 rfl hS0 ?_;refine yKr 2 rfl hS0 ?_;refine yKr 4 rfl hS0 ?_;refine yKr 5 rfl hS0 ?_;refine yE0 (i:=3) (by kernel_rfl) rfl (λK hK=>?_);go_simp;refine⟨trivial,(callsIn_wide.2 (HSh.out WD)).mono ?_⟩;rintro e w5 ⟨rfl,hb5⟩;have hS5:=HSS.out _ (HI5.1.k hb5) (HI5.2.1.k hb5);obtain⟨fn,tmps,assign,body,hy,hRy⟩:=HYs.out w5 (HI5.2.2.trans (hb5.mono HI5.2.2.size));refine hK.out _ _ (.inr hS5) (jS ?_);clear hK hS0 hb5;refine yE0 (i:=6) (by kernel_rfl) rfl (λK hK=>?_);go_simp;refine hRy.mono ?_;rintro e W9 (⟨rfl,hJ9⟩|⟨rfl,hJ9⟩)
 .have HJ9:Hid (J (i+1) ks' v' W9):=hJ9;refine hK.out _ _ (.inl (by decide)) (jS ?_);clear hK hS5 hJ9 hRy hy;refine yE0 (i:=7) (by kernel_rfl) rfl (λK hK=>?_);go_simp;refine hK.out _ _ (.inl (by decide)) (jS ?_);clear hK;refine yKh (by kernel_rfl) ?_;gi_wp2;go_roundw;case rel=>exact⟨i+1,ks',v',by omega,by go_num,HJ9.out⟩
  case measure=>simp[intOf];omega
 .have HJ9:Hid (Jx W9):=hJ9;refine hK.out _ _ (.inl (by decide)) (jS ?_);clear hK hS5 hJ9 hRy hy;refine yE0 (i:=7) (by kernel_rfl) rfl (λK hK=>?_);go_simp;refine hK.out _ _ (.inl (by decide)) (jS ?_);clear hK;refine yKh (by kernel_rfl) ?_;gi_wp2;refine bodyPost_ret (results_none rfl _ _ _) rfl ?_;exact⟨⟨_,rfl⟩,.inr HJ9.out⟩):p:=h
theorem yTl(G:MchG)(l:List Ix)(N:Nat)(es:List Ent)(bs:List Bool)(nc:Nat)(pm pr pd b off cap:Nat)(ca:Option Addr)(cc:Nat)(hN0:es.length<=10000)(hO:MaOk G l)(hg:yB1 l cnt nc)(hnc:nc<=bs.length)(hN:N=l.length)(hnk:(G.nk:Int)=cnt)(hrow:∀c∈es,¬c.j=⟨#[]⟩)(lY m:Nat)(hm:1<=m)(J:Nat->List Ctr->Vv->Ww->Prop)(Jx:Ww->Prop)
  (hY:∀i c it ks ks' v v' W0 W',J i ks v W0->es[i]?=some c->LkR pfxB l c bs ⟨0,[newI],ks⟩ (it,ks')->McI G N ks' v' W'->Chg (λq=>q=G.g\/q=G.mb\/G.T q\/v.ownBlock=some q) W0 W'->(v'.ownBlock=v.ownBlock\/∃k,v'.ownBlock=some k/\W0.heap.size<=k)->
   AY AE (m-1) prog lY #[(yBl it c).c,it.H] W' λe W''=>(e=.returned true/\J (i+1) ks' v' W'')\/(e=.returned false/\Jx W''))
  (hJr:∀i ks v W,J i ks v W->LoS G N es bs pm pr pd b off cap ca cc ks v W) (W:Ww) ks0 (v0:Vv) (hW:LoS G N es bs pm pr pd b off cap ca cc ks0 v0 W)
  (h0:∀W2,McI G N (AB G.nk newC) v0 W2->Chg (λq=>q=G.g) W W2->J 0 (AB G.nk newC) v0 W2):
  Au AE m prog 200 #[.func (.yield lY) #[] #[],ptB pm,ptB pr,ptB pd] W λe W'=>(∃v,e=.returned v)/\((∃ks v,J es.length ks v W')\/Jx W'):=by
 obtain⟨M,hM⟩:=qE es.length;obtain⟨nb,ag⟩:=qE bs.length;have HM:Hid (M=es.length):=hM;have HR:Hid (∀i ks v W,J i ks v W->LoS G N es bs pm pr pd b off cap ca cc ks v W):=hJr;obtain⟨W2,aj,ak,ae⟩:=yY4 (ty:=0) hW.mc.ctr;have a8:Hid (J 0 (AB G.nk newC) v0 W2):=h0 _ (hW.mc.fresh hO ak ae) ae;rw[hW.mc.X]at aj;have b0:=(HR.out _ _ _ _ a8.out).br;have a0:=hW.bm;have a1:=hW.mc.A.z (j:=1) rfl;have av:=(HR.out _ _ _ _ a8.out).sl.X;have az:cap<=9223372036854775807:=by have:=(HR.out _ _ _ _ a8.out).sl.cap;unfold maxLen at this;omega
 rw[<-hM]at hN0 av b0|-
 have HY:Hid (∀i c it ks ks' v v' W0 W',J i ks v W0->es[i]?=some c->LkR pfxB l c bs ⟨0,[newI],ks⟩ (it,ks')->McI G N ks' v' W'->Chg (λq=>q=G.g\/q=G.mb\/G.T q\/v.ownBlock=some q) W0 W'->(v'.ownBlock=v.ownBlock\/∃k,v'.ownBlock=some k/\W0.heap.size<=k)->
   AY AE (m-1) prog lY #[(yBl it c).c,it.H] W' λe W''=>(e=.returned true/\J (i+1) ks' v' W'')\/(e=.returned false/\Jx W'')):=hY
 have a2:Hid (MaOk G l/\yB1 l cnt nc/\N=l.length/\(G.nk:Int)=cnt/\(∀c∈es,¬c.j=⟨#[]⟩)/\nc<=bs.length/\nb=bs.length):=⟨hO,hg,hN,hnk,hrow,hnc,ag⟩;clear hM h0 hJr hY hO hg hN hnk hrow hnc hW ak ae ag;refine A0 func200 rfl trivial ?_ rfl;simp only[ntmps200,Ac,Ae,Al,AS,AV,AO,AP,Ad,AI,AN,AM];gi_wp2;clear aj a0 a1 b0;gi_loopw [14] (λiv wr=>∃(i:Nat)(ks:List Ctr)(v:Vv),i<=M/\iv=(xi i)/\Hid (J i ks v wr)) (λiv _=>M-(intOf iv).toNat);case atStart=>exact⟨0,_,v0,Aq _,rfl,a8.out⟩
 case round=>
  obtain⟨i,ks,v,ay,rfl,HJ⟩:=hrel;by_cases hlt:i<M
  .have zi:(i:Int)<(M:Int):=by omega
   obtain⟨c,hc⟩:∃c,es[i]?=some c:=qg (qw HM.out);have HC:Hid (es[i]?=some c):=hc;obtain⟨wo,an⟩:=qW wr;subst an;obtain⟨x0,x1,x2,x3,x4⟩:=(HR.out _ _ _ _ HJ.out).sl.U i c hc;obtain⟨W2,a7⟩:=qW (xw wo #[c.j,c.E,c.C,xu c.ts,c.val] 70);have a3:Hid (LoS G N es bs pm pr pd b off cap ca cc ks v W2/\yA W2 wo 70 5 wo c.five/\Below wo wo W2):=by
    have k2:=qN a7
    have hs:=HR.out _ _ _ _ HJ.out;exact⟨hs.on a2.1 k2,by rw[a7];exact yAa wo _ qr rfl,k2⟩
   have y0:=(HR.out _ _ _ _ HJ.out).bm;have y1:=(HR.out _ _ _ _ HJ.out).bd;rw[<-a2.2.2.2.2.2.2]at y1;have ao:pm<wo.heap.size:=yH5 y0;have aq:pd<wo.heap.size:=yH5 y1;obtain⟨d,hd⟩:=yNo a2.2.1
   have am:Hid (Calls prog 104 #[xp G.mb,.agg #[c.j,c.E,c.C,xu c.ts,c.val],.slice ca nb cc] W2 (LooP G ⟨W2,l,0,0,0,cnt,c,bs,d,ks,0,0,0,ca,N,0,nb⟩ v)):=
    yOy G ⟨W2,l,0,0,0,cnt,c,bs,d,ks,0,0,0,ca,N,0,nb⟩ v nc a2.2.1 hd a2.2.2.2.2.2.1 cc a2.2.2.1 a2.2.2.2.2.2.2 a2.2.2.2.1 a2.1 a3.1.mc (a2.2.2.2.2.1 c (AZ hc)) a3.1.cd
   clear hc hd;gi_wp2;rw[<-a7];clear a7 x0 x1 x2 x3 x4 y0 y1 ao aq;refine⟨trivial,(AK.2 am.out).mono ?_⟩;rintro e w3 ⟨it,ks',v',hlk,rfl,ah,ad,af⟩;have H3:Hid (LkR pfxB l c bs ⟨0,[newI],ks⟩ (it,ks')/\McI G N ks' v' w3/\Chg (λq=>q=G.g\/q=G.mb\/G.T q\/v.ownBlock=some q) W2 w3/\(v'.ownBlock=v.ownBlock\/∃k,v'.ownBlock=some k/\W2.heap.size<=k)):=⟨hlk,ah,ad,af⟩;have a4:yA w3 wo 70 5 wo c.five:=by
    refine a3.2.1.i ad (λq=>?_);have hs:=HR.out _ _ _ _ HJ.out;have hz:=hs.mc.i.size;have h1:=a2.1.gl;have h2:=a2.1.ml;rcases q with q|q|q|q
    .omega
    .omega
    .have:=a2.1.tl _ q;omega
    .obtain⟨mm,ar⟩:=hs.mc.stk;have:=(AH ar _ q).2;omega
   have aw:Hid (yA w3 wo 70 5 wo c.five):=a4;obtain⟨d0,d1,d2,d3,d4⟩:=a4.c5;have ax:wo.heap.size<w3.heap.size:=a4.lt.2;obtain⟨x',a9⟩:=qE (yBl it c);have HYs:Hid (∀X,Below w3 w3 X->AY AE (m-1) prog lY #[.agg #[x'.j,x'.E,x'.C,xu x'.ts,x'.val],it.H] X λe W''=>(e=.returned true/\J (i+1) ks' v' W'')\/(e=.returned false/\Jx W'')):=λX hb=>by rw[a9];refine HY.out i c it ks ks' v v' wo X HJ.out HC.out H3.1 (H3.2.1.on a2.1 hb) (((Chg.h a3.2.2).trans H3.2.2.1).trans (Chg.h hb)) (H3.2.2.2.imp (λq=>q) (fun⟨k,k1,k2⟩=>⟨k,k1,qw a3.2.2.size⟩))
   have HSh:Hid (∀X,(xf 106 #[.agg #[it.H,it.strip,xi it.G.rank,it.G.txt],.agg #[c.j,c.E,c.C,xu c.ts,c.val]] X (.agg #[x'.j,x'.E,x'.C,xu x'.ts,x'.val]):Prop)):=λX=>by rw[a9];exact yJj it c X
   clear hlk ah ad af am a4 a9;obtain⟨al,a5⟩:=qE it.H;obtain⟨st,aa⟩:=qE it.strip;obtain⟨hr,ac⟩:=qE it.G.rank;obtain⟨ht,ab⟩:=qE it.G.txt;have ai:it.v=.agg #[al,st,xi hr,ht]:=by rw[a5,aa,ac,ab]
   rw[<-a5,<-aa,<-ac,<-ab]at HSh;rw[<-a5]at HYs;rw[ai];clear a5 aa ac ab ai;obtain⟨W4,a6⟩:=qW (xw w3 #[al,st,xi hr,ht] 181);have HI4:Hid (yA W4 wo 181 4 w3 [al,st,xi hr,ht]/\yA W4 wo 70 5 wo c.five/\Below w3 w3 W4):=by
    have k4:=qN a6
    exact⟨by rw[a6];exact yAa w3 _ (by omega) rfl,aw.k k4,k4⟩
   gi_wp2;rw[<-a6];clear a6 d0 d1 d2 d3 d4;generalize W4=wY at HI4|-;exact zLoF
  .have zi:¬(i:Int)<(M:Int):=by omega
   have HF:Hid (∃ks v,J M ks v wr):=by
    have au:i=M:=by omega
    subst au;exact⟨ks,v,HJ.out⟩
   gi_wp2;go_end0;exact⟨⟨_,rfl⟩,.inl HF.out⟩
section
def ObT(t:Nat)(W:Ww)(q:Nat):Prop:=∃cur,W.heap[q]?=some (.cells cur t)
theorem yAk{size:Nat}(h:w.ownsRow O e size v n xs){k:Nat}(hk:v.ownBlock=some k):ObT e w k:=by
 rcases h.2 with⟨q,_⟩|⟨g',a0,cur,hv,_,hh,_⟩
 .rw[q]at hk;simp[An]at hk
 .rw[hv]at hk;simp[An]at hk;subst hk;exact⟨_,hh⟩
theorem ObT.one(h:ObT t W q)(h':ObT t' W q):t=t':=by
 obtain⟨a,ha⟩:=h;obtain⟨b,hb⟩:=h';rw[ha]at hb;cases hb
 rfl
theorem ObT.not(h:ObT t W q)(ho:W.heap[q]?=some o)(hc:o.isCells=false):False:=by
 obtain⟨a,ha⟩:=h;rw[ha]at ho;cases ho
 simp[Obj.isCells]at hc
structure PgI(W0:Ww)(tb:Nat)(Ts:List Tt)(all:List Md)(kf:Nat->List Ctr)(vf:Nat->Vv)(W:Ww):Prop where
 mc:∀d∈all,McI (yM8 W0 tb Ts all d) d.N (kf d.mb) (vf d.mb) W
 ap:∀d∈all,∀d'∈all,¬d.mb=d'.mb->∀k,(vf d.mb).ownBlock=some k->¬(vf d'.mb).ownBlock=some k
def PgD(W0:Ww)(tb:Nat)(Ts:List Tt)(all:List Md)(d:Md)(ks:List Ctr)(v:Vv)(W:Ww):Prop:=∃kf vf,PgI W0 tb Ts all kf vf W/\kf d.mb=ks/\vf d.mb=v
section
variable {all:List Md} {d':Md}
theorem yXn(h:MdsA tb B NM Ts all W0)(hd:d∈all)(hd':d'∈all):d=d'\/d.mb<d'.lo\/d'.mb<d.lo:=by
 obtain⟨i,hi⟩:=AR.1 hd;obtain⟨j,hj⟩:=AR.1 hd';obtain⟨li,ei⟩:=Ao.1 hi;obtain⟨lj,ej⟩:=Ao.1 hj;have hp:=List.pairwise_iff_getElem.1 h.apart;rcases Nat.lt_trichotomy i j with q|q|q
 .have:=hp i j li lj q;rw[ei,ej]at this;exact .inr (.inl this)
 .subst q;rw[ei]at ej;exact .inl ej
 .have:=hp j i lj li q;rw[ei,ej]at this;exact .inr (.inr this)
theorem xE(h:MdsA tb B NM Ts all W0)(hd:d∈all)(hd':d'∈all)(hne:¬d.mb=d'.mb):d.mb<d'.lo\/d'.mb<d.lo:=(yXn h hd hd').resolve_left λq=>hne (by rw[q])
theorem yXo(h:MdsA tb B NM Ts all W0)(hd:d∈all)(hd':d'∈all)(q:d'.mb=d.mb):d'=d:=by
 have o1:=(h.md d hd).1.ord;have o2:=(h.md d' hd').1.ord;rcases yXn h hd' hd with z|z|z;exact z;omega;omega
theorem xDu(h:MdsA tb B NM Ts all W0):PgI W0 tb Ts all (λmb=>match all.find? (λd=>d.mb=mb)with|some d=>AB d.nk newC|none=> []) (λ_=>xh) W0:=by
 refine⟨λd hd=>?_,λd _ d' _ _ k hk=>by simp[An]at hk⟩;have h9:=xHm h hd;cases hf:all.find? (λx=>x.mb=d.mb)with
 |none=>have:=List.find?_eq_none.1 hf d hd;simp at this
 |some d'=>
  have h1:d'.mb=d.mb:=by simpa using find?_some hf
  have h2:=mem_of_find?_eq_some hf;have:d'=d:=yXo h hd h2 h1
  subst this;simpa using h9
theorem PgI.step(h:MdsA tb B NM Ts all W0){kf:Nat->List Ctr}{vf:Nat->Vv}(hI:PgI W0 tb Ts all kf vf W)(hd:d∈all){ks':List Ctr}{v':Vv}(hm:McI (yM8 W0 tb Ts all d) d.N ks' v' W')
  (hc:Chg (λq=>q=d.g\/q=d.mb\/TqB Ts q\/(vf d.mb).ownBlock=some q) W W') (hv:v'.ownBlock=(vf d.mb).ownBlock\/∃k,v'.ownBlock=some k/\W.heap.size<=k):PgI W0 tb Ts all (λq=>if q=d.mb then ks' else kf q) (λq=>if q=d.mb then v' else vf q) W':=by
 have a0:∀d'∈all,∀k,(vf d'.mb).ownBlock=some k->W0.heap.size<=k/\k<W.heap.size:=λd' hd' k hk=>by obtain⟨m,a3⟩:=(hI.mc d' hd').stk;exact AH a3 k hk
 refine⟨λd' hd'=>?_,λd1 h1 d2 h2 a1 k hk=>?_⟩
 .by_cases q:d'.mb=d.mb
  .have a5:d'=d:=yXo h hd hd' q
   subst a5;simpa using hm
  .simp only[iA q];have hM:=hI.mc d' hd';have m1:=(h.md d hd).1;have m2:=(h.md d' hd').1;obtain⟨o1,o2,o3⟩:=m2.off;have r1:=m1.ord;have r2:=m2.ord;have gl:=m2.ctr.lt.2;have ml:=m2.mch.lt.2;have a8:d.g<W0.heap.size:=m1.ctr.lt.2;have a6:d.mb<W0.heap.size:=m1.mch.lt.2;have a7:=xE h hd hd' (λz=>q z.symm);refine⟨hm.i,hm.ti,hM.ctr.i hc (λz=>?_),hM.X,hM.cb,hM.A.i hc (λz=>?_),?_⟩
   .have z':d'.g=d.g\/d'.g=d.mb\/TqB Ts d'.g\/(vf d.mb).ownBlock=some d'.g:=z;rcases z' with z|z|z|z
    .omega
    .omega
    .exact h.noT o2 z
    .have:=(a0 d hd _ z).1;omega
   .have z':d'.mb=d.g\/d'.mb=d.mb\/TqB Ts d'.mb\/(vf d.mb).ownBlock=some d'.mb:=z;rcases z' with z|z|z|z
    .omega
    .omega
    .exact h.noT o3 z
    .have:=(a0 d hd _ z).1;omega
   .obtain⟨m,a2⟩:=hM.stk;refine⟨m,yAg a2 hc (λk hk z=>?_)⟩;have:=(a0 d' hd' k hk).1;rcases z with z|z|z|z
    .omega
    .omega
    .obtain⟨X,hX,z1,z2⟩:=z;have:=(h.ts.U X hX).1.lt;have:=(h.ts.U X hX).1.r2;omega
    .exact hI.ap d hd d' hd' (λe=>q e.symm) k z hk
 .by_cases q1:d1.mb=d.mb
  .have q2:¬d2.mb=d.mb:=λe=>a1 (q1.trans e.symm);simp only[iB q1]at hk;simp only[iA q2];intro hz;rcases hv with e|⟨k',e,a4⟩
   .rw[e]at hk;exact hI.ap d hd d2 h2 (λe=>q2 e.symm) k hk hz
   .rw[e]at hk;have:=(a0 d2 h2 k hz).2;cases hk
    omega
  .simp only[iA q1]at hk;by_cases q2:d2.mb=d.mb
   .simp only[iB q2];intro hz;rcases hv with e|⟨k',e,a4⟩
    .rw[e]at hz;exact hI.ap d1 h1 d hd q1 k hk hz
    .rw[e]at hz;have:=(a0 d1 h1 k hk).2;cases hz
     omega
   .simp only[iA q2];exact hI.ap d1 h1 d2 h2 a1 k hk
theorem PgI.turn(h:MdsA tb B NM Ts all W0)(hI:PgI W0 tb Ts all kf vf W)(hc:Chg S W W')(hS:∀q,S q->(q<tb/\¬q=1)\/(W0.heap.size<=q/\¬ObT 181 W q)):PgI W0 tb Ts all kf vf W':=by
 refine⟨λd hd=>?_,hI.ap⟩;have hM:=hI.mc d hd;have m1:=(h.md d hd).1;have a6:=(h.md d hd).2;have r1:=m1.ord;have gl:=m1.ctr.lt.2;have ml:=m1.mch.lt.2;have a4:=h.ts.tabl;have a5:=h.ts.tab.lt;have hT:TsA tb Ts W:=hM.ti;obtain⟨m,a0⟩:=hM.stk;have a3:∀q,tb<=q->q<W0.heap.size->¬S q:=λq h1 h2 z=>by
  rcases hS q z with k|k
  .omega
  .omega
 exact {i:=hM.i.absorb hc (λq z=>by
      rcases hS q z with k|k
      .exact .inl (Or.inr k.1)
      .exact .inr k.1)
        ti:=hT.side hc (λq z X hX=>by
         have a1:=(h.ts.U X hX).1.lt
         have a2:=(h.ts.U X hX).2
         rcases hS q z with k|k
         .exact .inl qo
         .exact .inr qo) (λz=>by
         rcases hS _ z with k|k
         .exact k.2 rfl
         .have:=k.1;omega)
        ctr:=hM.ctr.i hc (a3 _ (by show tb<=d.g;omega) gl)
        X:=hM.X,cb:=hM.cb
        A:=hM.A.i hc (a3 _ (by show tb<=d.mb;omega) ml)
        stk:=⟨m,yAg a0 hc (λk hk z=>by
         have:=(AH a0 k hk).1
         rcases hS k z with q|q
         .have h9:W0.heap.size<=k:=this
          have:=a4
          omega
         .exact q.2 (yAk a0 hk))⟩}
theorem PgD.mc(hd:d∈all)(h:PgD W0 tb Ts all d ks v W):McI (yM8 W0 tb Ts all d) d.N ks v W:=by obtain⟨kf,vf,h1,rfl,rfl⟩:=h;exact h1.mc d hd
theorem PgD.step(h:MdsA tb B NM Ts all W0)(hd:d∈all){ks':List Ctr}{v v':Vv}(hI:PgD W0 tb Ts all d ks v W)(hm:McI (yM8 W0 tb Ts all d) d.N ks' v' W')
  (hc:Chg (λq=>q=d.g\/q=d.mb\/TqB Ts q\/v.ownBlock=some q) W W') (hv:v'.ownBlock=v.ownBlock\/∃k,v'.ownBlock=some k/\W.heap.size<=k):PgD W0 tb Ts all d ks' v' W':=by
 obtain⟨kf,vf,h1,rfl,rfl⟩:=hI;exact⟨_,_,h1.step h hd hm hc hv,by simp,by simp⟩
theorem PgD.turn(h:MdsA tb B NM Ts all W0)(hI:PgD W0 tb Ts all d ks v W)(hc:Chg S W W')(hS:∀q,S q->(q<tb/\¬q=1)\/(W0.heap.size<=q/\¬ObT 181 W q)):PgD W0 tb Ts all d ks v W':=by obtain⟨kf,vf,h1,h2,h3⟩:=hI;exact⟨kf,vf,h1.turn h hc hS,h2,h3⟩
def QuB(W0:Ww)(Ts:List Tt)(all:List Md)(W:Ww)(q:Nat):Prop:=PrgB Ts all q\/(W0.heap.size<=q/\ObT 181 W q)
theorem McI.qu(hd:d∈all)(h:McI (yM8 W0 tb Ts all d) N ks v W):∀q,(q=d.g\/q=d.mb\/TqB Ts q\/v.ownBlock=some q)->QuB W0 Ts all W q:=λq hq=>by
 rcases hq with z|z|z|z
 .exact .inl (.inr ⟨d,hd,.inl z⟩)
 .exact .inl (.inr ⟨d,hd,.inr z⟩)
 .exact .inl (.inl z)
 .obtain⟨m,hm⟩:=h.stk
  exact .inr ⟨(AH hm q z).1,yAk hm z⟩
theorem xAi{Y:Nat->Prop}{B C:Ww}(h:Chg (λq=>Y q\/QuB W0 Ts all A q) A B)(k:Chg (λq=>Y q\/QuB W0 Ts all B q) B C):Chg (λq=>Y q\/QuB W0 Ts all A q) A C:=
 ⟨k.os.trans h.os,k.tape.trans h.tape,k.output.trans h.output,AD h.size k.size,λi hi hn=>by
  have h1:=h.block i hi hn
  refine(k.block i (AJ hi h.size) (λz=>hn ?_)).trans h1
  rcases z with z|z|⟨z0,cur,z⟩
  .exact .inl z
  .exact .inr (.inl z)
  .rw[h1]at z;exact .inr (.inr ⟨z0,cur,z⟩)⟩
theorem PrgB.lt(h:MdsA tb B NM Ts all W0)(hq:PrgB Ts all q):tb<=q/\q<W0.heap.size:=by
 rcases hq with⟨X,hX,z1,z2⟩|⟨d,hd,z|z⟩
 .have:=(h.ts.U X hX).2;have:=(h.ts.U X hX).1.lt;have:=(h.ts.U X hX).1.r2;omega
 .have:=(h.md d hd).2;have:=(h.md d hd).1.ord;have:d.g<W0.heap.size:=(h.md d hd).1.ctr.lt.2;omega
 .have:=(h.md d hd).2;have:=(h.md d hd).1.ord;have:d.mb<W0.heap.size:=(h.md d hd).1.mch.lt.2;omega
theorem QuB.noT(h:MdsA tb B NM Ts all W0)(hq:W0.heap.size<=q)(ht:ObT t W q)(hne:¬181=t):¬QuB W0 Ts all W q:=λz=>by
 rcases z with z|z
 .have:=(PrgB.lt h z).2;omega
 .exact hne (z.2.one ht)
theorem QuB.noO(h:MdsA tb B NM Ts all W0)(hq:W0.heap.size<=q)(ho:W.heap[q]?=some o)(hc:o.isCells=false):¬QuB W0 Ts all W q:=λz=>by
 rcases z with z|z
 .have:=(PrgB.lt h z).2;omega
 .exact z.2.not ho hc
theorem QuB.old(h:MdsA tb B NM Ts all W0)(hq:q<tb)(hw:tb<=W0.heap.size):¬QuB W0 Ts all W q:=λz=>by
 rcases z with z|z
 .have:=(PrgB.lt h z).1;omega
 .have:=z.1;omega
theorem yAu(W:Ww)(l:Nat)(o:Obj):Chg (λq=>q=l) W (W.putObj l o):=Chg.M (grownBy_putObj' W l o) (λk q=>by cases q;rfl)
end
end
section
abbrev vwD(d:Md):Int×List Ix:=((d.nk:Int),d.l)
structure PrG where
 W0:Ww
 tb:Nat
 B:Nat
 NM:Nat
 Ts:List Tt
 all:List Md
 ds:List Md
 a:Option Addr
 n:Nat
 c:Nat
 O:Nat
structure PrO(G:PrG):Prop where
 mds:MdsA G.tb G.B G.NM G.Ts G.all G.W0
 sub:∀d∈G.ds,d∈G.all
 good:∀(k:Nat)(d:Md),G.ds[k]?=some d->yB1 d.l (d.nk:Int) k
 n:G.n=G.ds.length
 n2:G.n<=200
 tbl:G.tb<=G.W0.heap.size
 rt:∀q,(AF G.a G.n G.c).ownBlock=some q->∀X∈G.Ts,X.t<q\/q<X.lo
abbrev PrG.pg(G:PrG)(W:Ww):Prop:=∃kf vf,PgI G.W0 G.tb G.Ts G.all kf vf W
abbrev PrG.pd(G:PrG)(d:Md)(ks:List Ctr)(v:Vv)(W:Ww):Prop:=PgD G.W0 G.tb G.Ts G.all d ks v W
abbrev PrG.qu(G:PrG)(W:Ww)(q:Nat):Prop:=QuB G.W0 G.Ts G.all W q
abbrev PrG.rm(G:PrG)(W:Ww):Prop:=RowM W G.O (.slice G.a G.n G.c) G.ds
abbrev PrG.mch(G:PrG)(d:Md):MchG:=yM8 G.W0 G.tb G.Ts G.all d
section
variable {G:PrG}
theorem PrO.noT(hG:PrO G)(hq:G.W0.heap.size<=q)(ht:ObT t W q)(hne:¬181=t):¬G.qu W q:=QuB.noT hG.mds hq ht hne
theorem PrO.noB(hG:PrO G){sz:Nat}(h:yA W O t sz g vs)(hq:G.W0.heap.size<=g)(hne:¬181=t):¬G.qu W g:=hG.noT hq (yAk h rfl) hne
theorem PrO.noO(hG:PrO G)(hq:G.W0.heap.size<=q)(ho:W.heap[q]?=some o)(hc:o.isCells=false):¬G.qu W q:=QuB.noO hG.mds hq ho hc
theorem PrO.old(hG:PrO G)(hq:q<G.tb):¬G.qu W q:=QuB.old hG.mds hq hG.tbl
theorem PrO.rmQ(hG:PrO G)(hp:G.pg W)(hm:G.rm W):∀k,(AF G.a G.n G.c).ownBlock=some k->¬G.qu W k:=λk hk z=>by
 obtain⟨kf,vf,hI⟩:=hp
 rcases z with(z|⟨d,hd,z|z⟩)|z
 .exact hG.mds.noT (λX hX=>(hG.rt k hk X hX).symm) z
 .exact yAb hm (hI.mc d hd).ctr qj k hk (by rw[z];rfl)
 .exact yAb hm (hI.mc d hd).A qj k hk (by rw[z];rfl)
 .exact absurd (z.2.one (yAk hm hk)) qj
theorem PrO.rmOn(hG:PrO G)(hp:G.pg W)(hm:G.rm W)(hc:Chg (G.qu W) W W'):G.rm W':=yAg hm hc (hG.rmQ hp hm)
theorem PrO.rmTy(hm:G.rm W){k:Nat}(hk:(AF G.a G.n G.c).ownBlock=some k)(ht:ObT t W k):94=t:=(yAk hm hk).one ht
theorem PrO.mcq(hG:PrO G)(hd:d∈G.all){B:Ww}(h:McI (G.mch d) d.N ks v A)(hc:Chg (λq=>q=d.g\/q=d.mb\/TqB G.Ts q\/v.ownBlock=some q) A B):Chg (G.qu A) A B:=hc.mono (λq z=>McI.qu hd h q z)
variable {l:Nat}
theorem PrO.turn(hG:PrO G)(hp:G.pg W)(hc:Chg (λq=>q=l) W W')(hl:G.W0.heap.size<=l)(hn:¬ObT 181 W l):G.pg W':=by obtain⟨kf,vf,hI⟩:=hp;exact⟨kf,vf,hI.turn hG.mds hc (λq z=>.inr (by subst z;exact⟨hl,hn⟩))⟩
end
theorem yBc(ho:W.heap[q]?=some o)(hc:o.isCells=false):¬ObT t W q:=λz=>z.not ho hc
theorem yGc(h:ObT t' W q)(hne:¬t=t'):¬ObT t W q:=λz=>hne (z.one h)
theorem yF7.put(h:yF7 w O g cap bs)(hi:i<bs.length)(x:Bool):yF7 (xt w g i x) O g cap (bs.set i x):=by have h9:=h.setAll yNv (e:=x) hi;rw[Az]at h9;exact h9
def MkO(B:Nat)(Ds:List Nat)(W:Ww):Prop:=Ds.Nodup/\∀D∈Ds,B<=D/\W.heap[D]?=some (.deferred (some []))
abbrev mkD(D:Nat):Deferred:={target:=.collected D,args:=#[]}
theorem MkO.on(h:MkO B Ds W)(hc:Chg S W W')(hS:∀D∈Ds,¬S D):MkO B Ds W':=⟨h.1,λD hD=>⟨(h.2 D hD).1,by rw[hc.block D (AA.1 (h.2 D hD).2).1 (hS D hD)];exact(h.2 D hD).2⟩⟩
theorem yIc(hr:∀W,(results fn tmps).run prog W=.ok v W):
  ∀(Ds:List Nat)(W:Ww)(B:Nat),MkO B Ds W->(∀W',Chg (λq=>q∈Ds) W W'->R (.returned v) W')->LeavesInM F n prog fn tmps R (Ds.map mkD) .returning W:=by
 intro Ds;induction Ds with
 |nil=>exact λW B hm h=>⟨v,hr W,h W (Chg.refl _ _)⟩
 |cons D Ds ih=>
  intro W B hm h;refine⟨by simp,.inl ⟨D,W.putObj D (.deferred none),rfl,Ay (hm.2 D (by simp)).2,ih _ B ?_ ?_⟩⟩
  .have a0:=List.nodup_cons.1 hm.1;refine MkO.on (S:=λq=>q=D) ⟨a0.2,λD' hD'=>hm.2 D' (by simp[hD'])⟩ (yAu _ _ _) (λD' hD' q=>by subst q;exact a0.1 hD')
  .intro W' hc;exact h W' (((yAu W D _).mono (λq z=>by simp[z])).trans (hc.mono (λq z=>by simp[z])))
structure DcG extends PrG where
 w:Ww
 es:List Ent
 b:Nat
 off:Nat
 cap:Nat
 mb:Nat
 gc:Nat
 bb:Nat
 bs0:List Bool
structure DcO(D:DcG):Prop where
 pr:PrO D.toPrG
 es:D.es.length<=10000
 j:∀c∈D.es,¬c.j=⟨#[]⟩
 b:D.b<D.tb
 gcl:D.W0.heap.size<=D.bb
 bs:D.bs0.length=D.n
 le:D.W0.heap.size<=D.w.heap.size
structure DcJ(D:DcG)(k:Nat)(bsd:List Bool)(Ds:List Nat)(wr:Ww):Prop where
 pgm:yA wr D.w 96 2 D.w [.slice D.a D.n D.c,ptB D.mb]
 cbx:yA wr D.w 118 1 (D.w+1) [xg D.gc D.n D.n]
 pg:D.pg wr
 rm:D.rm wr
 sl:CSl wr D.b D.off D.cap D.es
 bl:yF7 wr D.bb D.gc D.n (bsd++D.bs0.drop k)
 gcw:D.gc<D.w.heap.size
 X:bsd.length=k
 i:Chg (λq=>q=D.gc\/D.qu D.w q) D.w wr
 mks:MkO D.w Ds wr
 kn:k<=D.n
section
variable {D:DcG} {k:Nat}
theorem DcJ.gcq(hD:DcO D)(h:DcJ D k bsd Ds wr):¬D.qu wr D.gc:=hD.pr.noT (AD hD.gcl h.bl.lt.1) (yAk h.bl rfl) qj
theorem DcJ.quiet(hD:DcO D)(h:DcJ D k bsd Ds wr)(hc:Chg (D.qu wr) wr W)(hp:D.pg W):DcJ D k bsd Ds W:=by
 have a0:=hD.le
 exact {h with
  pgm:=h.pgm.i hc (hD.pr.noB h.pgm a0 qj)
  cbx:=h.cbx.i hc (hD.pr.noB h.cbx qo qj)
  pg:=hp
  rm:=hD.pr.rmOn h.pg h.rm hc
  sl:=h.sl.i hc (hD.pr.old hD.b)
  bl:=h.bl.i hc (h.gcq hD)
  i:=xAi h.i (hc.mono (λq z=>.inr z))
  mks:=h.mks.on hc (λE hE=>hD.pr.noO (qw ((h.mks.2 E hE).1)) (h.mks.2 E hE).2 rfl)}
theorem DcJ.on(hD:DcO D)(h:DcJ D k bsd Ds wr)(hb:Below wr wr W):DcJ D k bsd Ds W:=by obtain⟨kf,vf,hI⟩:=h.pg;exact h.quiet hD (Chg.h hb) ⟨kf,vf,hI.turn hD.pr.mds (Chg.h hb (S:=λ_=>False)) (λq z=>z.elim)⟩
theorem DcJ.put(hD:DcO D)(h:DcJ D k bsd Ds wr){x:Bool}(hi:i<D.n)(hb:(bsd++D.bs0.drop k).set i x=bsd'++D.bs0.drop k')(hk:bsd'.length=k')(hkn:k'<=D.n):DcJ D k' bsd' Ds (xt wr D.gc i x):=by
 have hc:=Chg.D (S:=λq=>q=D.gc) wr D.gc i x rfl;have ht:=yAk h.bl rfl;have a1:=AD hD.gcl h.bl.lt.1;have a0:(bsd++D.bs0.drop k).length=D.n:=by rw[Ak,As,hD.bs,h.X];have:=h.kn;omega
 exact {h with
  pgm:=h.pgm.i hc (λq=>absurd (yAk h.pgm rfl) (yGc (by rw[q];exact ht) qj))
  cbx:=h.cbx.i hc (λq=>absurd (yAk h.cbx rfl) (yGc (by rw[q];exact ht) qj))
  pg:=hD.pr.turn h.pg hc a1 (yGc ht qj)
  rm:=yAg h.rm hc (λj hj q=>absurd (PrO.rmTy (t:=4) h.rm hj (by rw[q];exact ht)) qj)
  sl:=h.sl.i hc (λq=>qv hD.b hD.pr.tbl)
  bl:=by rw[<-hb];exact h.bl.put (by rw[a0];exact hi) x
  X:=hk
  kn:=hkn
  i:=h.i.trans (hc.mono (λq z=>.inl z))
  mks:=h.mks.on hc (λE hE q=>ht.not (by rw[<-q];exact(h.mks.2 E hE).2) rfl)}
end
end
section
variable {l:Nat}
theorem DcJ.obj{D:DcG}{k:Nat}(hD:DcO D)(h:DcJ D k bsd Ds wr)(hl:D.w<=l)(ho:wr.heap[l]?=some o)(hc:o.isCells=false)(hn:∀E∈Ds,¬E=l)(o':Obj):DcJ D k bsd Ds (wr.putObj l o'):=by
 have a0:=yAu wr l o';have a2:=hD.le;have a1:∀t,¬ObT t wr l:=λt=>yBc ho hc
 exact {h with
  pgm:=h.pgm.i a0 (λq=>a1 _ (by rw[<-q];exact yAk h.pgm rfl))
  cbx:=h.cbx.i a0 (λq=>a1 _ (by rw[<-q];exact yAk h.cbx rfl))
  pg:=hD.pr.turn h.pg a0 qo (a1 _)
  rm:=yAg h.rm a0 (λj hj q=>a1 _ (by rw[<-q];exact yAk h.rm hj))
  sl:=h.sl.i a0 (λq=>by have:=hD.b;have:=hD.pr.tbl;omega)
  bl:=h.bl.i a0 (λq=>a1 _ (by rw[<-q];exact yAk h.bl rfl))
  i:=h.i.absorb a0 (λq z=>.inr (z▸hl))
  mks:=h.mks.on a0 (λE hE q=>hn E hE q)}
structure DrI(D:DcG)(k:Nat)(bsd:List Bool)(x:Bool)(Ds:List Nat)(mb pm kb l:Nat)(rec:Obj)(X:Ww):Prop where
 dc:DcJ D (k+1) (bsd++ [x]) Ds X
 bm:yA X D.w 94 1 pm [ptB mb]
 br:yA X D.w 26 1 (pm+1) [(xy D.b D.off D.es.length D.cap)]
 bd:yA X D.w 118 1 (pm+1+1) [xg D.gc D.n D.n]
 bk:yA X D.w 3 1 kb [xi k]
 rc:X.heap[l+1]?=some rec
 rb:rec.isCells=false
 mrk:X.heap[l]?=some (.deferred (some []))
 ll:D.w<=l
 nd:∀E∈Ds,E<l
section
variable {D:DcG} {k:Nat} {x:Bool} {mb l:Nat} {X Y:Ww}
theorem DrI.quiet(hD:DcO D)(h:DrI D k bsd x Ds mb pm kb l rec X)(hc:Chg (D.qu X) X Y)(hp:D.pg Y):DrI D k bsd x Ds mb pm kb l rec Y:=by
 have a0:=hD.le;have a1:=h.ll
 exact {h with
  dc:=h.dc.quiet hD hc hp
  bm:=h.bm.i hc (hD.pr.noB h.bm (AD a0 h.bm.lt.1) qj)
  br:=h.br.i hc (hD.pr.noB h.br (AD a0 h.br.lt.1) qj)
  bd:=h.bd.i hc (hD.pr.noB h.bd (AD a0 h.bd.lt.1) qj)
  bk:=h.bk.i hc (hD.pr.noB h.bk (AD a0 h.bk.lt.1) qj)
  rc:=by rw[hc.block _ (AA.1 h.rc).1 (hD.pr.noO qo h.rc h.rb)];exact h.rc
  mrk:=by rw[hc.block _ (AA.1 h.mrk).1 (hD.pr.noO qo h.mrk rfl)];exact h.mrk}
theorem DrI.put(hD:DcO D)(h:DrI D k bsd x Ds mb pm kb l rec X)(hb:rec'.isCells=false):DrI D k bsd x Ds mb pm kb l rec' (X.putObj (l+1) rec'):=by
 have a1:=yAu X (l+1) rec';have a0:∀t,¬ObT t X (l+1):=λt=>yBc h.rc h.rb;have a2:=h.ll
 exact {h with
  dc:=h.dc.obj hD qo h.rc h.rb (λE hE q=>by have:=h.nd E hE;omega) rec'
  bm:=h.bm.i a1 (λq=>a0 _ (by rw[<-q];exact yAk h.bm rfl))
  br:=h.br.i a1 (λq=>a0 _ (by rw[<-q];exact yAk h.br rfl))
  bd:=h.bd.i a1 (λq=>a0 _ (by rw[<-q];exact yAk h.bd rfl))
  bk:=h.bk.i a1 (λq=>a0 _ (by rw[<-q];exact yAk h.bk rfl))
  rc:=AQ (AA.1 h.rc).1
  rb:=hb
  mrk:=(AW qo).trans h.mrk}
theorem DrI.cond(hD:DcO D)(h:DrI D k bsd x Ds mb pm kb l rec X)(y:Bool):DrI D k bsd y Ds mb pm kb l rec (xt X D.gc k y):=by
 have a0:=Chg.D (S:=λq=>q=D.gc) X D.gc k y rfl;have ht:=yAk h.dc.bl rfl;have a1:bsd.length=k:=by have:=h.dc.X;simp at this;exact this
 have a2:=h.dc.kn
 exact {h with
  dc:=h.dc.put hD (i:=k) qo (by simp[set_append,a1]) (by simp[a1]) a2
  bm:=h.bm.i a0 (λq=>absurd (yAk h.bm rfl) (yGc (q▸ht) qj))
  br:=h.br.i a0 (λq=>absurd (yAk h.br rfl) (yGc (q▸ht) qj))
  bd:=h.bd.i a0 (λq=>absurd (yAk h.bd rfl) (yGc (q▸ht) qj))
  bk:=h.bk.i a0 (λq=>absurd (yAk h.bk rfl) (yGc (q▸ht) qj))
  rc:=by rw[a0.block _ (AA.1 h.rc).1 (λq=>ht.not (by rw[<-q];exact h.rc) h.rb)];exact h.rc
  mrk:=by rw[a0.block _ (AA.1 h.mrk).1 (λq=>ht.not (by rw[<-q];exact h.mrk) rfl)];exact h.mrk}
theorem DrI.los(hD:DcO D)(h:DrI D k bsd x Ds mb pm kb l rec X)(hd:d∈D.all)(hm:d.mb=mb)(hp:D.pd d ks v X):
  LoS (D.mch d) d.N D.es ((bsd++ [x])++D.bs0.drop (k+1)) pm (pm+1) (pm+1+1) D.b D.off D.cap (some ⟨D.gc,0,none⟩) D.n ks v X:=by
 have a0:=hp.mc hd;have a1:((bsd++ [x])++D.bs0.drop (k+1)).length=D.n:=by have h1:=h.dc.X;have h2:=h.dc.kn;rw[Ak,As,hD.bs,h1];omega
 refine⟨a0,?_,h.br.z (j:=0) rfl,by rw[a1];exact h.bd.z (j:=0) rfl,h.dc.sl,λi y hy=>?_⟩
 .have:=h.bm.z (j:=0) rfl;rw[<-hm]at this;exact this
 .have hq:=h.dc.gcq hD;have hz:=McI.qu hd a0 D.gc;refine⟨D.gc,0,rfl,h.dc.bl.get hy,h.dc.bl.lt.2,λq=>hq (hz (.inl q)),λq=>hq (hz (.inr (.inr (.inl q)))),λq=>hq (hz (.inr (.inr (.inr q))))⟩
end
theorem yYp(D:DcG)(hD:DcO D){k:Nat}(H:DcJ D (k+1) (bsd++ [false]) Ds W2)(hd:D.ds[k]?=some d)(hkb:yA W2 D.w 3 1 kb [xi k])
  (hW3:W3=(xw ((W2.alloc (AC #[ptB d.mb] 94)).alloc (AC #[(xy D.b D.off D.es.length D.cap)] 26)) #[xg D.gc D.n D.n] 118))
  {g:Av} {ps:Array Tmp} {assign body:Code} {Q:Exit->Act->Ww->Prop} {a:Act} (hg:a.eval g=.func (.func 200) #[] #[ptB W2,ptB (W2+1),ptB (W2+1+1)]) (hps:ps.size=2) (a₁:Vv->Vv->Act)
  (hassign:∀(l:Nat)(v1 v2:Vv)(W:Ww)(K:Act->Ww->Prop),K (a₁ v1 v2) W->assign.wpIn (Fence.wide.inRound l) 7 prog (Exit.then K (λ_ _ _=>False)) {tmps:=(ps.zip #[v1,v2]).foldl (λt (p,v)=>t.setIfInBounds p v) a.tmps,defers:= []} W)
  (hbody0:∀(l:Nat)(v1:Vv)(W:Ww),body.wpIn (Fence.wide.inRound l) 7 prog (λe _ W'=>e=.normal/\W'=W) (a₁ v1 false) W)
  (hbody1:∀(l:Nat)(v1:Vv)(W:Ww),(xk W (D.w+1) 0 (xg D.gc D.n D.n):Prop)->(xk W kb 0 (xi k):Prop)->(xk W D.gc k (.bool false):Prop)->W.frozen? (xd D.gc k)=false->
   body.wpIn (Fence.wide.inRound l) 7 prog (λe _ W'=>e=.exit 2/\W'=(xt W D.gc k true)) (a₁ v1 true) W)
  (hQ:∀(e:Exit)(y:Bool)(W:Ww),(e=.normal\/e=.exit 2)->DcJ D (k+1) (bsd++ [y]) (W3.heap.size::Ds) W->Q e {a with defers:=mkD W3.heap.size::a.defers} W):
  (Aa g ps assign body).wpIn AE 9 prog Q a W3:=by
 have a1:=hD.pr.sub d (AZ hd);have a5:=hD.pr.good k d hd;have aG:=(hD.pr.mds.md d a1).1;have aK:bsd.length=k:=by have:=H.X;simp at this;exact this
 have aR:=H.kn;have aQ:=hD.le;have aO:=yQ6 hD.pr.mds a1 (yJ2 a5 (by simp));have k3:Below W2 W2 W3:=by rw[hW3];exact((qB).alloc (by simp) _).alloc (by simp;omega) _
 have aP:W3.heap.size=W2+1+1+1:=by rw[hW3];simp
 have aA:=H.i.size;have⟨A1,ab⟩:=qE (W2.alloc (AC #[ptB d.mb] 94));have⟨A2,a7⟩:=qE (A1.alloc (AC #[(xy D.b D.off D.es.length D.cap)] 26));have e1:=qS ab
 have e2:A2.heap.size=W2+1+1:=by rw[a7];simp[e1]
 rw[<-ab,<-a7]at hW3;have q1:=qN a7
 have q2:=qN hW3
 have bm:yA W3 D.w 94 1 W2 [ptB d.mb]:=by
  have:yA A1 D.w 94 1 W2 [ptB d.mb]:=ab▸(yAa W2 _ aA rfl)
  exact(this.k q1).k q2
 have br:yA W3 D.w 26 1 (W2+1) [(xy D.b D.off D.es.length D.cap)]:=by
  have:yA A2 D.w 26 1 (W2+1) [(xy D.b D.off D.es.length D.cap)]:=by rw[<-e1,a7];exact yAa A1 _ qo rfl
  exact this.k q2
 have bd:yA W3 D.w 118 1 (W2+1+1) [xg D.gc D.n D.n]:=by rw[<-e2,hW3];exact yAa A2 _ qo rfl
 have ax:=hkb.k k3;have H3:=H.on hD k3;have aE:∀E∈Ds,E<W3:=λE hE=>(AA.1 (H3.mks.2 E hE).2).1;clear hW3 ab a7 q1 q2 e1 e2 H hkb k3;refine yGi hg (λargs w=>by simp[go_sem]) qj ?_;intro fn W1 aa;obtain⟨rec,a0⟩:∃rec:Ar->Option Code->Obj,rec=rcL fn a.tmps ps assign body W3.heap.size:=⟨_,rfl⟩;have a8:∀s p,(rec s p).isCells=false:=λs p=>by rw[a0];rfl
 have k1:Below W3 W3 W1:=aa▸((qB).alloc (by simp) _)
 have ag:DrI D k bsd false Ds d.mb W2 kb W3 (rec .ready none) W1:=by
  refine⟨H3.on hD k1,bm.k k1,br.k k1,bd.k k1,ax.k k1,?_,a8 _ _,?_,H3.i.size,aE⟩
  .rw[aa,a0];have:=AG (W3.alloc (.deferred (some []))) (rcL fn a.tmps ps assign body W3 .ready none);rwa [Aj]at this
  .rw[aa];exact(Below.heap_alloc _ _ _ (by simp)).trans (AG W3 _)
 clear bm br bd ax H3 aa k1;have⟨kf,vf,aN⟩:=ag.dc.pg;have af:D.pd d (kf d.mb) (vf d.mb) W1:=⟨kf,vf,aN,rfl,rfl⟩;have⟨a4,a9⟩:=qE ((bsd++ [false])++D.bs0.drop (k+1));have aF:k<=a4.length:=by rw[a9];simp;omega
 have hN:=aG.X
 have aH:=yTl (D.mch d) d.l d.N D.es a4 k W2 (W2+1) (W2+1+1) D.b D.off D.cap (some ⟨D.gc,0,none⟩) D.n hD.es aO a5 aF hN rfl hD.j (W3+1) 8 qj
  (λi ks v X=>DrI D k bsd false Ds d.mb W2 kb W3 (rec .ready none) X/\D.pd d ks v X)
  (λX=>DrI D k bsd true Ds d.mb W2 kb W3 (rec .done (some (.exit 2))) X)
  ?hY (λi ks v X h=>by rw[a9];exact h.1.los hD a1 rfl h.2) W1 (kf d.mb) (vf d.mb) (a9▸ag.los hD a1 rfl af) ?h0
 case h0=>intro W4 aI aM;have aw:Chg (λq=>q=d.g\/q=d.mb\/TqB D.Ts q\/(vf d.mb).ownBlock=some q) W1 W4:=aM.mono (λq z=>.inl z);have ao:=af.step hD.pr.mds a1 aI aw (.inl rfl);have aC:=hD.pr.mcq a1 (af.mc a1) aw;exact⟨ag.quiet hD aC (by have⟨a,b,c,_⟩:=ao;exact⟨a,b,c⟩),ao⟩
 case hY=>
  rintro i c it ks ah v v' X0 X ⟨az,ac⟩ hc aJ aq ae ai;have an:=ac.step hD.pr.mds a1 aq ae ai;have al:=hD.pr.mcq a1 (ac.mc a1) ae;have a6:=az.quiet hD al (by have⟨a,b,c,_⟩:=an;exact⟨a,b,c⟩);clear az ac aq ae ai al;have ad:=a6.rc;rw[a0]at ad;refine yEj ad (by rw[hps];rfl) ?_;refine hassign _ _ _ _ _ ⟨ad,?_⟩;have a2:DrI D k bsd false Ds d.mb W2 kb W3 (rec .busy none) (X.putObj (W3+1) (rec .busy none)):=a6.put hD (a8 _ _);have ar:D.W0.heap.size<=W3+1:=by have:=a6.ll;omega
  have am:D.pd d ah v' (X.putObj (W3+1) (rec .busy none)):=an.turn hD.pr.mds (yAu _ _ _) (λq z=>.inr ⟨by rw[z];exact ar,by rw[z];exact yBc a6.rc a6.rb⟩);rw[a0]at a2 am;cases hal:it.H with
  |false=>
   apply Ap (hbody0 _ _ _);rintro e a3 X3 ⟨rfl,rfl⟩;refine⟨a2.rc,.inl ⟨rfl,?_,?_⟩⟩
   .rw[a0];exact a2.put hD rfl
   .exact am.turn hD.pr.mds (yAu _ _ _) (λq z=>.inr ⟨by rw[z];exact ar,by rw[z];exact yBc a2.rc a2.rb⟩)
  |true=>
   have aL:(bsd++ [false]++D.bs0.drop (k+1))[k]?=some false:=by rw[append_assoc,getElem?_append_right qo,aK];simp
   have av:=a2.dc.bl.get aL;rw[Ah]at av;apply Ap (hbody1 _ _ _ (a2.dc.cbx.z (j:=0) rfl) (a2.bk.z (j:=0) rfl) av (Ag a2.dc.bl k));rintro e a3 X3 ⟨rfl,rfl⟩;have ay:=a2.cond hD true;exact⟨ay.rc,.inr ⟨rfl,by rw[a0];exact ay.put hD rfl⟩⟩
 simp only[AI,AM,AN];apply aH.mono;rintro e X ⟨he,⟨ks,v,hI,hp⟩|hI⟩
 .refine⟨he,.inl ⟨by have:=hI.rc;rwa [a0]at this,?_⟩⟩;have hI2:=hI.put hD (a8 .exhausted none);rw[a0]at hI2;refine hQ .normal false _ (.inl rfl) ?_;exact xF7
 .refine⟨he,.inr ⟨.exit 2,by have:=hI.rc;rwa [a0]at this,?_⟩⟩;have hI2:=hI.put hD (a8 .exhausted (some (.exit 2)));rw[a0]at hI2;refine wpIn_exit (hQ (.exit 2) true _ (.inr rfl) ?_);exact xF7
end
section
attribute [local go_sem] Oper.semAt_some
def DciP(D:DcG)(e:Ending)(W:Ww):Prop:=(∃v,e=.returned v)/\∃bs:List Bool,bs.length=D.n/\D.pg W/\yF7 W D.bb D.gc D.n bs/\Chg (λq=>q=D.gc\/D.qu D.w q) D.w W
theorem yRz(D:DcG)(hD:DcO D)(hp:D.pg D.w)(hm:D.rm D.w)(hsl:CSl D.w D.b D.off D.cap D.es)(hbl:yF7 D.w D.bb D.gc D.n D.bs0)(M:Nat)(hM:M=D.es.length):
  Calls prog 154 #[.agg #[.slice D.a D.n D.c,ptB D.mb],(xy D.b D.off M D.cap),xg D.gc D.n D.n] D.w (DciP D):=by
 obtain⟨w,hw⟩:=qE D.w;obtain⟨n,hn⟩:=qE D.n;obtain⟨gc,a1⟩:=qE D.gc;obtain⟨W0,a0⟩:=qW (xw (w.alloc (AC #[.slice D.a n D.c,ptB D.mb] 96)) #[xg gc n n] 118);have a7:Hid (DcJ D 0 [] [] W0):=by
  obtain⟨A1,a3⟩:=qW (xw w #[.slice D.a n D.c,ptB D.mb] 96);rw[<-a3]at a0;have e1:=qS a3
  have q0:=qN a3
  have q1:=qN a0
  have kb:Below w w W0:=q0.trans (q1.mono qo);have b1:yA A1 w 96 2 w [.slice D.a n D.c,ptB D.mb]:=by rw[a3];exact yAa w _ qr rfl
  have b2:yA W0 w 118 1 (w+1) [xg gc n n]:=by rw[<-e1,a0];exact yAa A1 _ qo rfl
  have b3:=b1.k q1;rw[hw,hn]at b3;rw[hw,hn,a1]at b2;rw[hw]at kb;obtain⟨kf,vf,hI⟩:=hp;exact {pgm:=b3,cbx:=b2,pg:=⟨kf,vf,hI.turn hD.pr.mds (Chg.h kb (S:=λ_=>False)) (λq z=>z.elim)⟩,rm:=yAg hm (Chg.h kb (S:=λ_=>False)) (λ_ _ z=>z),sl:=hsl.k kb,bl:=by rw[drop_zero,AN];exact hbl.k kb,gcw:=hbl.lt.2,X:=rfl,i:=Chg.h kb,mks:=⟨nodup_nil,λE hE=>by simp at hE⟩,kn:=Aq _}
 have ar:n<=200:=by rw[hn];exact hD.pr.n2
 have HD:Hid (DcO D/\w=D.w/\n=D.n/\gc=D.gc/\M=D.es.length):=⟨hD,hw,hn,a1,hM⟩;have c0:=a7.pgm.z (j:=0) rfl;rw[<-hn,<-hw]at c0;rw[<-hw,<-hn,<-a1];refine(AK (n:=9)).1 ?_;clear hD hp hm hsl hbl hw hn a1 hM;refine Ai func154 rfl trivial ?_ rfl;simp only[ntmps154,Ac,Ae,Al,AS,AV,AO,AP,Ad,AI,AN,AM];gi_wp2;rw[<-a0];clear a0;gi_wp2;clear c0;refine wpIn_loop (λa' wr=>∃(k:Nat)(bsd:List Bool)(Ds:List Nat)(u6 u7 ai ah ag af ae ad ac ab aa a9 a8 a4:Vv),k<=n/\Hid (DcJ D k bsd Ds wr)/\a'={tmps:=#[.agg #[.slice D.a n D.c,ptB D.mb],(xy D.b D.off M D.cap),(xg gc n n),.pointer (some ⟨w,0,none⟩),undef,.pointer (some ⟨w+1,0,none⟩),u6,u7,undef,undef,.pointer (some ⟨w,0,none⟩),.slice D.a n D.c,.int .i64 (n:Int),.int .i64 (k:Int),ai,ah,ag,af,ae,ad,ac,ab,aa,a9,a8,undef,undef,undef,undef,undef,undef,a4],defers:=Ds.map mkD}) (λa' _=>n-(intOf (a'.tmps.getD 13 undef)).toNat) ?_ ?_
 .exact⟨0,[],[],undef,undef,undef,undef,undef,undef,undef,undef,undef,undef,undef,undef,undef,undef,Aq _,a7,rfl⟩
 rintro a' wr ⟨k,bsd,Ds,u6,u7,ai,ah,ag,af,ae,ad,ac,ab,aa,a9,a8,a4,aw,HJ,rfl⟩;by_cases hlt:k<n
 .have zk:(k:Int)<(n:Int):=qo
  obtain⟨d,hd⟩:∃d,D.ds[k]?=some d:=qg (qv HD.1.pr.n HD.2.2.1);have ak:=qH1 hd;have a5:=HJ.rm;obtain⟨ga,an,x0⟩:∃ga,D.a=some ⟨ga,0,none⟩/\xk wr ga k (ptB d.mb):=by
   rcases a5.2 with⟨q,_⟩|⟨g',ax,cur,hv,_⟩
   .have:=HD.2.2.1;simp only[Value.slice.injEq]at q;omega
   .simp only[Value.slice.injEq]at hv;refine⟨g',hv.1,?_⟩;have h9:D.rm wr:=a5;have h8:OwnG mpF 1 94 wr D.O g' D.c D.ds:=by have h7:D.n=D.ds.length:=HD.1.pr.n;have h6:wr.ownsRow D.O 94 1 (.slice D.a D.n D.c) D.ds.length (D.ds.flatMap mpF):=h9;rw[hv.1,h7]at h6;exact h6
    have:=h8.z xCa hd 0 (by decide);rw[Az,Nat.add_zero]at this;exact this
  clear a5;have x1:=HJ.cbx.z (j:=0) rfl;rw[<-HD.2.1,<-HD.2.2.2.1,<-HD.2.2.1]at x1;have al:(bsd++D.bs0.drop k).length=n:=by have h1:=HJ.X;have h2:=HD.1.bs;have h3:=HD.2.2.1;rw[Ak,As];omega
  obtain⟨ox,x2⟩:∃ox,(xk wr gc k ox:Prop):=by have h9:=HJ.bl.get (getElem?_eq_getElem (show k<(bsd++D.bs0.drop k).length by omega));rw[Ah,<-HD.2.2.2.1]at h9;exact⟨_,h9⟩
  have f2:wr.frozen? (xd gc k)=false:=by rw[HD.2.2.2.1];exact Ag HJ.bl k
  have am:gc<wr.heap.size:=by rw[HD.2.2.2.1];exact HJ.bl.lt.2
  have ao:w.heap.size+1<wr.heap.size:=by rw[HD.2.1];exact HJ.cbx.lt.2
  have HP:Hid (DcJ D (k+1) (bsd++ [false]) Ds (xt wr gc k false)):=by have h3:=HD.2.2.1;have h1:=HJ.X;have h4:=HD.1.bs;rw[HD.2.2.2.1];refine HJ.put HD.1 (i:=k) (by omega) ?_ (by simp[h1]) (by omega);rw[set_append,iA (by omega),h1,Nat.sub_self,drop_eq_getElem_cons (by omega),set_cons_zero];simp
  have y1:=HP.cbx.z (j:=0) rfl;rw[<-HD.2.1,<-HD.2.2.2.1,<-HD.2.2.1]at y1;obtain⟨W2,a2⟩:=qW (xw (wr.setCell (xd gc k) false) #[xi k] 3);have aj:Hid (DcJ D (k+1) (bsd++ [false]) Ds W2/\yA W2 D.w 3 1 wr [xi k]):=by
   have kb:Below (wr.setCell (xd gc k) false).heap.size (xt wr gc k false) W2:=by rw[a2];exact qB
   refine⟨HP.on HD.1 kb,?_⟩;have h9:=yAa (xt wr gc k false) (O:=D.w.heap.size) (t:=3) (sz:=1) #[xi k] HP.i.size rfl;rw[<-a2]at h9;have hz:(wr.setCell (xd gc k) false).heap.size=wr.heap.size:=by simp
   rw[hz]at h9;exact h9
  clear hd al;rw[an];gi_wp2;rw[<-a2];obtain⟨W3,a6⟩:=qW (xw ((W2.alloc (AC #[ptB d.mb] 94)).alloc (AC #[(xy D.b D.off M D.cap)] 26)) #[xg gc n n] 118);refine⟨trivial,(AK.2 (yLn W2 d.mb (some ⟨D.b,D.off,none⟩) M D.cap (some ⟨gc,0,none⟩) n n)).mono ?_⟩;rintro e w3 ⟨rfl,rfl⟩;rw[<-a6];have aq:Hid (W3=(xw ((W2.alloc (AC #[ptB d.mb] 94)).alloc (AC #[(xy D.b D.off D.es.length D.cap)] 26)) #[xg D.gc D.n D.n] 118)):=by rw[<-HD.2.2.2.1,<-HD.2.2.1,<-HD.2.2.2.2];exact a6
  clear a6 a2 y1 x0 x1 x2 f2 am ao HP a7;gi_wp2;refine yYp D HD.1 aj.1 ak.out aj.2 aq.out rfl rfl (λv1 v2=>{tmps:=#[.agg #[xg ga n D.c,ptB D.mb],(xy D.b D.off M D.cap),(xg gc n n),.pointer (some ⟨w,0,none⟩),undef,.pointer (some ⟨w+1,0,none⟩),.pointer (some ⟨wr,0,none⟩),ptB d.mb,undef,v2,.pointer (some ⟨w,0,none⟩),(xg ga n D.c),.int .i64 (n:Int),.int .i64 (k:Int),.bool true,.int .i64 (k:Int),.pointer (some ⟨ga,k,none⟩),ptB d.mb,(xg gc n n),.int .i64 (k:Int),.pointer (some ⟨gc,k,none⟩),ptB d.mb,(xy D.b D.off M D.cap),(xg gc n n),.func (AT 200) #[] #[ptB W2,ptB (W2+1),ptB (W2+1+1)],v1,v2,undef,undef,undef,undef,a4],defers:= []}) ?hassign ?hbody0 ?hbody1 ?hQ;case hassign=>
   intro l v1 v2 W K hK;gi_wp2;exact hK
  case hbody0=>intro l v1 W;gi_wp2
  case hbody1=>intro l v1 W z0 z1 z2 z3;rw[<-HD.2.2.2.1]at z0 z2 z3|-;rw[<-HD.2.1,<-HD.2.2.1]at z0;gi_wp2
  case hQ=>
   intro e y W he hJ;have HN:=qH1 hJ;clear hJ;have hkk:((k+1:Nat):Int)=(k:Int)+1:=by omega
   rcases he with rfl|rfl
   .exact xBy
   .exact xBy
 .have zk:¬(k:Int)<(n:Int):=by omega
  have HE:Hid (∀W',Chg (λq=>q∈Ds) wr W'->DciP D (.returned (.tuple #[])) W'):=λW' hc=>by
   have hJ:=HJ.out;have hD:=HD.1;have au:=hD.le;have av:D.n<=k:=qw HD.2.2.1
   have hdr:bsd++D.bs0.drop k=bsd:=by rw[drop_eq_nil_of_le (qw hD.bs),append_nil]
   have hbl:=hJ.bl;rw[hdr]at hbl;obtain⟨kf,vf,hI⟩:=hJ.pg;refine⟨⟨_,rfl⟩,bsd,by have:=hJ.X;have:=hJ.kn;omega,⟨kf,vf,hI.turn hD.pr.mds hc (λq z=>.inr ⟨qw ((hJ.mks.2 q z).1),yBc (hJ.mks.2 q z).2 rfl⟩)⟩,hbl.i hc (λz=>(yAk hbl rfl).not (hJ.mks.2 _ z).2 rfl),hJ.i.absorb hc (λq z=>.inr (hJ.mks.2 q z).1)⟩
  gi_wp2;exact yIc (λW=>A8 rfl _ _ _) Ds wr D.w HJ.mks HE.out
end
section
structure RbG extends PrG where
 Wb:Ww
 dm:Md
 es:List Ent
 b:Nat
 off:Nat
 cap:Nat
 pp:Nat
 pc:Nat
 rb:Nat
 lY:Nat
def RbG.Y(R:RbG)(W:Ww)(q:Nat):Prop:=q=R.rb\/q=R.lY\/(R.Wb.heap.size<=q/\ObT 70 W q)
def RbG.I(R:RbG)(W:Ww)(q:Nat):Prop:=R.qu W q\/(R.Wb.heap.size<=q/\¬ObT 70 W q)
structure RbO(R:RbG):Prop where
 pr:PrO R.toPrG
 dm:R.dm∈R.all
 gm:yB1 R.dm.l (R.dm.nk:Int) R.n
 es:R.es.length<=10000
 j:∀c∈R.es,¬c.j=⟨#[]⟩
 b:R.b<R.tb
 le:R.W0.heap.size<=R.Wb.heap.size
 rb:R.rb<R.Wb.heap.size
 lY:R.lY<R.Wb.heap.size
 pp:¬R.pp=R.rb/\¬R.pp=R.lY
 pc:¬R.pc=R.rb/\¬R.pc=R.lY
 bn:¬R.b=R.rb/\¬R.b=R.lY
 rr:∀q,(AF R.a R.n R.c).ownBlock=some q->¬q=R.rb/\¬q=R.lY/\q<R.Wb.heap.size
structure RbS(R:RbG)(gc cb pR:Nat)(bs:List Bool)(l:Nat)(rec:Obj)(X:Ww):Prop where
 pg:R.pg X
 rm:R.rm X
 sl:CSl X R.b R.off R.cap R.es
 bp:yA X R.W0 96 2 R.pp [.slice R.a R.n R.c,ptB R.dm.mb]
 bc:yA X R.W0 26 1 R.pc [(xy R.b R.off R.es.length R.cap)]
 bY:yA X R.Wb 177 1 R.Wb [.func (.yield R.lY) #[] #[]]
 bb:yA X R.Wb 118 1 cb [xg gc R.n R.n]
 bR:yA X R.Wb 26 1 pR [(xy R.b R.off R.es.length R.cap)]
 bl:yF7 X R.Wb gc R.n bs
 bn:bs.length=R.n
 rc:X.heap[l+1]?=some rec
 rk:rec.isCells=false
 mrk:X.heap[l]?=some (.deferred (some []))
 ll:R.Wb.heap.size<=l
section
variable {R:RbG} {bs':List Bool} {l:Nat} {X:Ww}
theorem RbS.move'(hR:RbO R)(h:RbS R gc cb pR bs l rec X)(hc:Chg S X X')(hp:R.pg X')(hbl:yF7 X' R.Wb gc R.n bs')(hbn:bs'.length=R.n)
  (hS:∀q,S q->R.qu X q\/R.Y X q\/(R.Wb.heap.size<=q/\(∃o,X.heap[q]?=some o/\o.isCells=false)/\¬q=l/\¬q=l+1)\/q=gc):RbS R gc cb pR bs' l rec X':=by
 have a4:=hR.le;have a6:=hR.rb;have a8:=hR.lY;have a7:=h.ll;have a2:=yAk h.bl rfl;have a3:=h.bl.lt;have a0:∀(g t:Nat),ObT t X g->¬181=t->¬70=t->¬4=t->R.W0.heap.size<=g->¬g=R.rb->¬g=R.lY->¬S g:=λg t ht h1 h2 h3 h4 h5 h6 z=>by
  rcases hS g z with q|(q|q|q)|⟨_,⟨o,q1,q2⟩,_⟩|q
  .exact hR.pr.noT h4 ht h1 q
  .exact h5 q
  .exact h6 q
  .exact h2 (q.2.one ht)
  .exact ht.not q1 q2
  .rw[q]at ht;exact h3 (a2.one ht)
 have a1:∀(g:Nat)(o:Obj),X.heap[g]?=some o->o.isCells=false->(g=l\/g=l+1)->¬S g:=λg o ho hi hg z=>by
  rcases hS g z with q|(q|q|q)|⟨_,_,q⟩|q
  .exact hR.pr.noO qo ho hi q
  .omega
  .omega
  .exact q.2.not ho hi
  .omega
  .rw[q]at ho;exact a2.not ho hi
 exact {h with
  pg:=hp
  rm:=yAg h.rm hc (λk hk z=>by
   have ht:=yAk h.rm hk
   obtain⟨r1,r2,r3⟩:=hR.rr k hk
   rcases hS k z with q|(q|q|q)|⟨q,_⟩|q
   .exact hR.pr.rmQ h.pg h.rm k hk q
   .exact r1 q
   .exact r2 q
   .omega
   .omega
   .have:=a3.1;omega)
  sl:=h.sl.i hc (λz=>by
   have hb:=hR.b
   have a5:=hR.pr.tbl
   have hn:=hR.bn
   rcases hS _ z with q|(q|q|q)|⟨q,_⟩|q
   .exact hR.pr.old hb q
   .exact hn.1 q
   .exact hn.2 q
   .have:=q.1;omega
   .omega
   .have:=a3.1;omega)
  bp:=h.bp.i hc (a0 _ _ (yAk h.bp rfl) qj qj qj h.bp.lt.1 hR.pp.1 hR.pp.2)
  bc:=h.bc.i hc (a0 _ _ (yAk h.bc rfl) qj qj qj h.bc.lt.1 hR.pc.1 hR.pc.2)
  bY:=h.bY.i hc (a0 _ _ (yAk h.bY rfl) qj qj qj a4 qo qo)
  bb:=h.bb.i hc (a0 _ _ (yAk h.bb rfl) qj qj qj (qw h.bb.lt.1) (qw h.bb.lt.1) (qw h.bb.lt.1))
  bR:=h.bR.i hc (a0 _ _ (yAk h.bR rfl) qj qj qj (qw h.bR.lt.1) (qw h.bR.lt.1) (qw h.bR.lt.1))
  bl:=hbl
  bn:=hbn
  rc:=by rw[hc.block _ (AA.1 h.rc).1 (a1 _ _ h.rc h.rk (.inr rfl))];exact h.rc
  mrk:=by rw[hc.block _ (AA.1 h.mrk).1 (a1 _ _ h.mrk rfl (.inl rfl))];exact h.mrk}
theorem RbS.K(hR:RbO R)(h:RbS R gc cb pR bs l rec X)(hc:Chg S X X')(hp:R.pg X')
  (hS:∀q,S q->R.qu X q\/R.Y X q\/(R.Wb.heap.size<=q/\(∃o,X.heap[q]?=some o/\o.isCells=false)/\¬q=l/\¬q=l+1)):RbS R gc cb pR bs l rec X':=by
 have a0:ObT 4 X gc:=yAk h.bl rfl;have a4:=h.bl.lt;refine h.move' hR hc hp (h.bl.i hc (λz=>?_)) h.bn (λq z=>(hS q z).elim .inl (λk=>k.elim (λk=>.inr (.inl k)) (λk=>.inr (.inr (.inl k)))));have a2:=hR.le;have a1:=hR.rb;have a3:=hR.lY;rcases hS _ z with q|(q|q|q)|⟨_,⟨o,q1,q2⟩,_⟩
 .exact hR.pr.noT (by omega) a0 qj q
 .omega
 .omega
 .exact absurd (q.2.one a0) qj
 .exact a0.not q1 q2
theorem RbS.on(hR:RbO R)(h:RbS R gc cb pR bs l rec X)(hb:Below X X X'):RbS R gc cb pR bs l rec X':=by obtain⟨kf,vf,hI⟩:=h.pg;exact xB2
theorem RbS.put(hR:RbO R)(h:RbS R gc cb pR bs l rec X)(hb:rec'.isCells=false):RbS R gc cb pR bs l rec' (X.putObj (l+1) rec'):=by
 have a0:=yAu X (l+1) rec';have a1:∀t,¬ObT t X (l+1):=λt=>yBc h.rc h.rk;have a2:=h.ll;have a3:=hR.le
 exact {h with
  pg:=hR.pr.turn h.pg a0 qo (a1 _)
  rm:=yAg h.rm a0 (λj hj q=>a1 _ (by rw[<-q];exact yAk h.rm hj))
  sl:=h.sl.i a0 (λq=>qv hR.b hR.pr.tbl)
  bp:=h.bp.i a0 (λq=>a1 _ (by rw[<-q];exact yAk h.bp rfl))
  bc:=h.bc.i a0 (λq=>a1 _ (by rw[<-q];exact yAk h.bc rfl))
  bY:=h.bY.i a0 (λq=>a1 _ (by rw[<-q];exact yAk h.bY rfl))
  bb:=h.bb.i a0 (λq=>a1 _ (by rw[<-q];exact yAk h.bb rfl))
  bR:=h.bR.i a0 (λq=>a1 _ (by rw[<-q];exact yAk h.bR rfl))
  bl:=h.bl.i a0 (λq=>a1 _ (by rw[<-q];exact yAk h.bl rfl))
  rc:=AQ (AA.1 h.rc).1
  rk:=hb
  mrk:=(AW qo).trans h.mrk}
end
end
section
variable {l:Nat}
theorem yH7(h:AY F n P l args W R)(hR:∀e W',R e W'->R' e W'):AY F n P l args W R':=by have⟨fn,tmps,assign,body,hy,hr⟩:=h;exact⟨fn,tmps,assign,body,hy,hr.mono hR⟩
structure RbT(R:RbG)(gc cb pR:Nat)(bs:List Bool)(l:Nat)(rec:Obj)(pm i j lI:Nat)(recI:Obj)(X:Ww):Prop where
 rs:RbS R gc cb pR bs l rec X
 bm:yA X R.Wb 94 1 pm [ptB R.dm.mb]
 br:yA X R.Wb 26 1 (pm+1) [segV R.b R.off R.cap (i,j)]
 bd:yA X R.Wb 118 1 (pm+1+1) [xg gc R.n R.n]
 rI:X.heap[lI]?=some recI
 rkI:recI.isCells=false
 lI:l+1<lI
section
variable {R:RbG} {l:Nat} {lI:Nat} {recI:Obj} {X:Ww}
theorem RbT.K(hR:RbO R)(h:RbT R gc cb pR bs l rec pm i j lI recI X)(hc:Chg S X X')(hp:R.pg X')(hS:∀q,S q->R.qu X q\/R.Y X q):RbT R gc cb pR bs l rec pm i j lI recI X':=by
 have a4:=hR.le;have a1:=hR.rb;have a5:=hR.lY;have a2:=h.rs.ll;have a3:=h.lI;have a0:∀(g t:Nat),ObT t X g->¬181=t->¬70=t->R.Wb<=g->¬S g:=λg t ht h1 h2 h4 z=>by
  rcases hS g z with q|(q|q|q)
  .exact hR.pr.noT qo ht h1 q
  .omega
  .omega
  .exact h2 (q.2.one ht)
 exact {h with
  rs:=h.rs.K hR hc hp (λq z=>(hS q z).imp (λk=>k) .inl)
  bm:=h.bm.i hc (a0 _ _ (yAk h.bm rfl) qj qj h.bm.lt.1)
  br:=h.br.i hc (a0 _ _ (yAk h.br rfl) qj qj h.br.lt.1)
  bd:=h.bd.i hc (a0 _ _ (yAk h.bd rfl) qj qj h.bd.lt.1)
  rI:=by
   rw[hc.block _ (AA.1 h.rI).1 (λz=>?_)]
   .exact h.rI
   .rcases hS _ z with q|(q|q|q)
    .exact hR.pr.noO qo h.rI h.rkI q
    .omega
    .omega
    .exact q.2.not h.rI h.rkI}
theorem RbT.on(hR:RbO R)(h:RbT R gc cb pR bs l rec pm i j lI recI X)(hb:Below X X X'):RbT R gc cb pR bs l rec pm i j lI recI X':=by have⟨kf,vf,hI⟩:=h.rs.pg;exact xB2
theorem RbT.put(hR:RbO R)(h:RbT R gc cb pR bs l rec pm i j lI recI X)(hb:rec'.isCells=false):RbT R gc cb pR bs l rec pm i j lI rec' (X.putObj lI rec'):=by
 have a0:=yAu X lI rec';have a1:∀t,¬ObT t X lI:=λt=>yBc h.rI h.rkI;have a2:=h.rs.ll;have a3:=h.lI;have a4:=hR.le
 exact {h with
  rs:=h.rs.K hR a0 (hR.pr.turn h.rs.pg a0 qo (a1 _)) (λq z=>.inr (.inr ⟨by rw[z];omega,by rw[z];exact⟨_,h.rI,h.rkI⟩,qo,qo⟩))
  bm:=h.bm.i a0 (λq=>a1 _ (by rw[<-q];exact yAk h.bm rfl))
  br:=h.br.i a0 (λq=>a1 _ (by rw[<-q];exact yAk h.br rfl))
  bd:=h.bd.i a0 (λq=>a1 _ (by rw[<-q];exact yAk h.bd rfl))
  rI:=AQ (AA.1 h.rI).1
  rkI:=hb}
theorem RbT.los(hR:RbO R)(h:RbT R gc cb pR bs l rec pm i j lI recI X)(hj:j<=R.es.length)(hij:i<=j)(hp:R.pd R.dm ks v X):
  LoS (R.mch R.dm) R.dm.N (segE R.es (i,j)) bs pm (pm+1) (pm+1+1) R.b (R.off+i*5) (R.cap-i) (some ⟨gc,0,none⟩) R.n ks v X:=by
 have a0:=hp.mc hR.dm;have a1:=hR.le;have hq:¬R.qu X gc:=hR.pr.noT (by have:=h.rs.bl.lt.1;omega) (yAk h.rs.bl rfl) qj;have hz:=McI.qu hR.dm a0 gc;refine⟨a0,h.bm.z (j:=0) rfl,?_,by rw[h.rs.bn];exact h.bd.z (j:=0) rfl,h.rs.sl.seg hij hj,λk y hy=>?_⟩
 .have:=h.br.z (j:=0) rfl;rw[yEn hj];exact this
 .exact⟨gc,0,rfl,h.rs.bl.get hy,h.rs.bl.lt.2,λq=>hq (hz (.inl q)),λq=>hq (hz (.inr (.inr (.inl q)))),λq=>hq (hz (.inr (.inr (.inr q))))⟩
end
structure RbK(R:RbG)(f:Nat)(K:List Ent->Nat->Ww->Prop):Prop where
 on:∀out ops W W',K out ops W->Chg (R.I W) W W'->K out ops W'
 Z:∀out ops W,K out ops W->∀q,q=R.rb\/q=R.lY->(q<R.tb/\¬q=1)\/(R.W0<=q/\¬ObT 181 W q)
 yld:∀out ops (x:Ent) (told:Bool) W,K out ops W->ops<R.es.length->AY AE f prog R.lY #[x.c,told] W λe W'=>e=.returned true/\K (if told=true then out++ [x]else out) (ops+1) W'/\Chg (R.Y W) W W'
theorem xAh(R:RbG)(hR:RbO R)(K:List Ent->Nat->Ww->Prop)(hK:RbK R 14 K)(H:RbS R gc cb pR bs l (.loop r0) X2)(hij:yIw R.es i j)(hk:K out0 i X2)
  (hX3:X3=(xw ((X2.alloc (AC #[ptB R.dm.mb] 94)).alloc (AC #[segV R.b R.off R.cap (i,j)] 26)) #[xg gc R.n R.n] 118))
  {g:Av} {ps:Array Tmp} {assign body:Code} {Q:Exit->Act->Ww->Prop} {a:Act} (hg:a.eval g=.func (.func 200) #[] #[ptB X2,ptB (X2+1),ptB (X2+1+1)]) (hps:ps.size=2) (a₁:Ent->Nat->Bool->Act)
  (hassign:∀(l:Nat)(x:Ent)(told:Bool)(W:Ww)(K':Act->Ww->Prop),K' (a₁ x W told) (xw W #[x.j,x.E,x.C,xu x.ts,x.val] 70)->assign.wpIn (Fence.wide.inRound l) 15 prog (Exit.then K' (λ_ _ _=>False)) {tmps:=(ps.zip #[x.c,told]).foldl (λt (p,v)=>t.setIfInBounds p v) a.tmps,defers:= []} W)
  (hbody:∀(l:Nat)(x:Ent)(told:Bool)(p:Nat)(W:Ww)(Kp:Ww->Prop),yA W R.Wb 70 5 p x.five->(xk W R.Wb 0 (.func (.yield R.lY) #[] #[]):Prop)->
   (∀W',Below W W W'->AY AE 14 prog R.lY #[x.c,told] W' λe W''=>e=.returned true/\Kp W'')->body.wpIn (Fence.wide.inRound l) 15 prog (λe _ W''=>e=.normal/\Kp W'') (a₁ x p told) W)
  (hQ:∀(o:List Ent)(W:Ww),RbS R gc cb pR bs l (.loop r0) W->K (out0++o) j W->Q .normal a W):
  (Aa g ps assign body).wpIn (Fence.wide.inRound (l+1)) 17 prog Q a X3:=by
 have aY:=hR.le;have aX:=H.ll;have aj:=hij.le;have aF:=Aw hij.lt;have aM:=(hR.pr.mds.md R.dm hR.dm).1;have aV:=yQ6 hR.pr.mds hR.dm (yJ2 hR.gm (by simp));have hl2:=(AA.1 H.rc).1;have⟨A1,a7⟩:=qE (X2.alloc (AC #[ptB R.dm.mb] 94));have⟨A2,a6⟩:=qE (A1.alloc (AC #[segV R.b R.off R.cap (i,j)] 26));have e1:=qS a7
 have e2:A2.heap.size=X2+1+1:=by rw[a6];simp[e1]
 rw[<-a7,<-a6]at hX3;have e3:X3.heap.size=X2+1+1+1:=by rw[hX3];simp[e2]
 have q0:=qN a7
 have q1:=qN a6
 have q2:=qN hX3
 have bm:yA X3 R.Wb 94 1 X2 [ptB R.dm.mb]:=by
  have:yA A1 R.Wb 94 1 X2 [ptB R.dm.mb]:=a7▸(yAa X2 _ qo rfl)
  exact(this.k q1).k q2
 have br:yA X3 R.Wb 26 1 (X2+1) [segV R.b R.off R.cap (i,j)]:=by
  have:yA A2 R.Wb 26 1 (X2+1) [segV R.b R.off R.cap (i,j)]:=by rw[<-e1,a6];exact yAa A1 _ qo rfl
  exact this.k q2
 have bd:yA X3 R.Wb 118 1 (X2+1+1) [xg gc R.n R.n]:=by rw[<-e2,hX3];exact yAa A2 _ qo rfl
 have H3:=((H.on hR q0).on hR q1).on hR q2;have aD:=hK.on _ _ _ _ (hK.on _ _ _ _ (hK.on _ _ _ _ hk (Chg.h q0)) (Chg.h q1)) (Chg.h q2);clear hX3 a7 a6 q0 q1 q2 e1 e2 H hk;refine yQv H3.rc hg (λargs w=>by simp[go_sem]) qj ?_;intro fn W1 al;obtain⟨rec,a4⟩:∃rec:Ar->Option Code->Obj,rec=rcL fn a.tmps ps assign body r0.defers:=⟨_,rfl⟩;have a8:∀s p,(rec s p).isCells=false:=λs p=>by rw[a4];rfl
 have k1:=qN al
 have ab:RbT R gc cb pR bs l (.loop r0) X2 i j X3 (rec .ready none) W1:=by refine⟨H3.on hR k1,bm.k k1,br.k k1,bd.k k1,?_,a8 _ _,qo⟩;rw[al,a4];exact AG X3 _
 have aR:=hK.on _ _ _ _ aD (Chg.h k1);clear bm br bd H3 al k1 aD;have⟨kf,vf,aU⟩:=ab.rs.pg;have am:R.pd R.dm (kf R.dm.mb) (vf R.dm.mb) W1:=⟨kf,vf,aU,rfl,rfl⟩;have aP:(segE R.es (i,j)).length=j-i:=yEn aj;have hN:=aM.X;have aI:(segE R.es (i,j)).length<=10000:=by have:=hR.es;omega
 have aJ:∀c∈segE R.es (i,j),¬c.j=⟨#[]⟩:=λc hc=>hR.j c (((A6 _ _).trans (A7 _ _)).mem hc)
 have aN:=yTl (R.mch R.dm) R.dm.l R.dm.N (segE R.es (i,j)) bs R.n X2 (X2+1) (X2+1+1) R.b (R.off+i*5) (R.cap-i) (some ⟨gc,0,none⟩) R.n aI aV hR.gm (by rw[ab.rs.bn];exact Ab _) hN rfl aJ X3 16 qj
  (λi' ks v X=>RbT R gc cb pR bs l (.loop r0) X2 i j X3 (rec .ready none) X/\R.pd R.dm ks v X/\∃o,K (out0++o) (i+i') X)
  (λX=>False)
  ?hY (λi' ks v X h=>h.1.los hR aj aF h.2.1) W1 (kf R.dm.mb) (vf R.dm.mb) (ab.los hR aj aF am) ?h0
 case h0=>intro W4 aO aS;have aG:Chg (λq=>q=R.dm.g\/q=R.dm.mb\/TqB R.Ts q\/(vf R.dm.mb).ownBlock=some q) W1 W4:=aS.mono (λq z=>.inl z);have ax:R.pd R.dm (AB R.dm.nk newC) (vf R.dm.mb) W4:=am.step hR.pr.mds hR.dm aO aG (.inl rfl);have au:Chg (R.qu W1) W1 W4:=hR.pr.mcq hR.dm (am.mc hR.dm) aG;exact⟨ab.K hR au (by have⟨a,b,c,_⟩:=ax;exact⟨a,b,c⟩) (λq z=>.inl z),ax,[],by rw[append_nil];exact hK.on _ _ _ _ aR (au.mono (λq z=>.inl z))⟩
 case hY=>
  rintro i' c it ks a5 v v' X0 X ⟨aH,ae,o0,aE⟩ hc aQ ay ak ao;have ad:R.pd R.dm a5 v' X:=ae.step hR.pr.mds hR.dm ay ak ao;have ac:Chg (R.qu X0) X0 X:=hR.pr.mcq hR.dm (ae.mc hR.dm) ak;have aa:=aH.K hR ac (by have⟨a,b,c,_⟩:=ad;exact⟨a,b,c⟩) (λq z=>.inl z);have aB:K (out0++o0) (i+i') X:=hK.on _ _ _ _ aE (ac.mono (λq z=>.inl z));have aL:i+i'<R.es.length:=by have:=qf hc;omega
  clear aH ae aE ay ak ao ac;have af:=aa.rI;rw[a4]at af;refine yEj af (by rw[hps];rfl) ?_;have⟨x,hx⟩:=qE (yBl it c);rw[<-hx];apply hassign _ x it.H _ _;have⟨A,hA⟩:=qE (X.alloc (AC #[x.j,x.E,x.C,xu x.ts,x.val] 70));have kA:=qN hA
  have aT:R.Wb.heap.size<=X:=by have:=aa.bm.lt;omega
  have bA:yA A R.Wb 70 5 X x.five:=hA▸(yAa X _ aT rfl)
  have a1:=aa.on hR kA;have aw:R.pd R.dm a5 v' A:=ad.turn hR.pr.mds (Chg.h kA (S:=λ_=>False)) (λq z=>z.elim);have aC:K (out0++o0) (i+i') A:=hK.on _ _ _ _ aB (Chg.h kA);rw[<-hA];clear hA aa ad aB;have ag:=a1.rI;rw[a4]at ag;refine⟨ag,?_⟩;have az:R.W0.heap.size<=X3:=by omega
  have a0:=yAu A X3 (rec .busy none);have an:RbT R gc cb pR bs l (.loop r0) X2 i j X3 (rec .busy none) (A.putObj X3 (rec .busy none)):=a1.put hR (a8 _ _);have av:R.pd R.dm a5 v' (A.putObj X3 (rec .busy none)):=aw.turn hR.pr.mds a0 (λq z=>.inr ⟨by rw[z];exact az,by rw[z];exact yBc a1.rI a1.rkI⟩);have aA:K (out0++o0) (i+i') (A.putObj X3 (rec .busy none)):=hK.on _ _ _ _ aC (a0.mono (λq z=>.inr ⟨by rw[z];omega,by rw[z];exact yBc a1.rI a1.rkI⟩));have bB:yA (A.putObj X3 (rec .busy none)) R.Wb 70 5 X x.five:=bA.i a0 (λq=>(yAk bA rfl).not (q▸a1.rI) a1.rkI);rw[<-a4];generalize A.putObj X3 (rec .busy none)=B at an av aA bB|-;clear a1 aw aC bA a0 ag af kA;refine Ap (hbody _ x it.H X B (λX''=>RbT R gc cb pR bs l (.loop r0) X2 i j X3 (rec .busy none) X''/\R.pd R.dm a5 v' X''/\K (if it.H=true then out0++o0++ [x]else out0++o0) (i+i'+1) X'') bB (an.rs.bY.z (j:=0) rfl) ?_) ?_
  .intro W' hb;have aW:=an.on hR hb;have ah:=hK.on _ _ _ _ aA (Chg.h hb);have aK:R.pd R.dm a5 v' W':=av.turn hR.pr.mds (Chg.h hb (S:=λ_=>False)) (λq z=>z.elim);apply yH7 (hK.yld _ _ x it.H W' ah aL);rintro e W'' ⟨he,ai,hc2⟩;have a9:R.pd R.dm a5 v' W'':=aK.turn hR.pr.mds hc2 (λq z=>by
    rcases z with z|z|z
    .exact hK.Z _ _ _ ah q (.inl z)
    .exact hK.Z _ _ _ ah q (.inr z)
    .exact .inr ⟨by have:=z.1;omega,yGc z.2 (by decide)⟩)
   exact⟨he,aW.K hR hc2 (by have⟨a,b,c,_⟩:=a9;exact⟨a,b,c⟩) (λq z=>.inr z),a9,ai⟩
  .rintro e a3 W'' ⟨rfl,a2,a9,ai⟩;refine⟨a2.rI,?_⟩;have a0:=yAu W'' X3 (rec .ready none);refine .inl ⟨rfl,a2.put hR (a8 _ _),a9.turn hR.pr.mds a0 (λq z=>.inr ⟨by rw[z];exact az,by rw[z];exact yBc a2.rI a2.rkI⟩),if it.H=true then o0++ [x]else o0,?_⟩;have:=hK.on _ _ _ _ ai (a0.mono (λq z=>.inr ⟨by rw[z];omega,by rw[z];exact yBc a2.rI a2.rkI⟩));rw[<-Nat.add_assoc];cases hal:it.H
   .rw[hal]at this;simpa using this
   .rw[hal]at this;simpa using this
 simp only[AI,AM,AN];apply aN.mono;rintro e X ⟨he,⟨ks,v,hI,hp,o,hk⟩|h⟩
 .refine⟨he,.inl ⟨by have:=hI.rI;rwa [a4]at this,?_⟩⟩;have a2:=hI.put hR (a8 .exhausted none);have a0:=yAu X X3 (rec .exhausted none);rw[<-a4];rw[aP,show i+(j-i)=j by omega]at hk;exact hQ o _ a2.rs (hK.on _ _ _ _ hk (a0.mono (λq z=>.inr ⟨by rw[z];omega,by rw[z];exact yBc hI.rI hI.rkI⟩)))
 .exact h.elim
end
theorem RbS.dec{R:RbG}{l:Nat}{X:Ww}(hR:RbO R)(h:RbS R gc cb pR bs l rec X)(hij:yIw R.es i j):
  Calls prog 154 #[.agg #[.slice R.a R.n R.c,ptB R.dm.mb],segV R.b R.off R.cap (i,j),xg gc R.n R.n] X λe X'=>(∃v,e=.returned v)/\∃bs',RbS R gc cb pR bs' l rec X'/\Chg (R.I X) X X':=by
 have a0:=hij.le;have a3:=Aw hij.lt;have a8:=hR.le;have a7:=h.ll;have a2:(segE R.es (i,j)).length=j-i:=yEn a0;have a9:l<X.heap.size:=(AA.1 h.mrk).1
 have hD:DcO {toPrG:=R.toPrG,w:=X,es:=segE R.es (i,j),b:=R.b,off:=R.off+i*5,cap:=R.cap-i,mb:=R.dm.mb,gc:=gc,bb:=R.Wb.heap.size,bs0:=bs}:=
  {pr:=hR.pr,es:=by have:=hR.es;show(segE R.es (i,j)).length<=10000;omega
   j:=λc hc=>hR.j c (((A6 _ _).trans (A7 _ _)).mem hc)
   b:=hR.b,gcl:=hR.le,bs:=h.bn,le:=by show R.W0.heap.size<=X.heap.size;omega}
 refine(yRz _ hD h.pg h.rm (h.sl.seg a3 a0) h.bl (j-i) a2.symm).mono ?_;rintro e X' ⟨hv,bs',a1,hp,a6,hc⟩;have a4:ObT 4 X gc:=yAk h.bl rfl;have a5:bs'.length=R.n:=a1
 refine⟨hv,bs',h.move' hR hc hp a6 a5 (λq z=>z.elim (λk=>.inr (.inr (.inr k))) (λk=>.inl k)),hc.mono (λq z=>?_)⟩;rcases z with z|z
 .exact .inr ⟨by rw[z];exact h.bl.lt.1,by rw[z];exact yGc a4 (by decide)⟩
 .exact .inl z
theorem xDp(R:RbG)(hR:RbO R)(K:List Ent->Nat->Ww->Prop)(hK:RbK R 14 K)(hA:R.Wb.heap.size<=A.heap.size)(pg:R.pg A)(rm:R.rm A)(sl:CSl A R.b R.off R.cap R.es)
  (bp:yA A R.W0 96 2 R.pp [.slice R.a R.n R.c,ptB R.dm.mb]) (bc:yA A R.W0 26 1 R.pc [(xy R.b R.off R.es.length R.cap)])
  (bY:yA A R.Wb 177 1 R.Wb [.func (.yield R.lY) #[] #[]]) (bb:yA A R.Wb 118 1 cb [xg gc R.n R.n])
  (bR:yA A R.Wb 26 1 pR [(xy R.b R.off R.es.length R.cap)]) (bl:yF7 A R.Wb gc R.n bs) (bn:bs.length=R.n) (hk:K [] 0 A)
  {g:Av} {ps:Array Tmp} {assign body:Code} {Q:Exit->Act->Ww->Prop} {a:Act} (hg:a.eval g=.func (.func 199) #[] #[ptB pR]) (hps:ps.size=1) (a₁:Vv->Act)
  (hassign:∀(l:Nat)(v:Vv)(W:Ww)(K':Act->Ww->Prop),K' (a₁ v) W->assign.wpIn (Fence.wide.inRound l) 17 prog (Exit.then K' (λ_ _ _=>False)) {tmps:=(ps.zip #[v]).foldl (λt (p,v)=>t.setIfInBounds p v) a.tmps,defers:= []} W)
  (hbody:∀(l:Nat)(r0:Loop)(i j:Nat)(W:Ww)(bs:List Bool)(out:List Ent),RbS R gc cb pR bs l (.loop r0) W->yIw R.es i j->K out i W->body.wpIn (Fence.wide.inRound (l+1)) 17 prog (λe _ W'=>e=.normal/\∃bs' o,RbS R gc cb pR bs' l (.loop r0) W'/\K (out++o) j W') (a₁ (segV R.b R.off R.cap (i,j))) W)
  (hQ:∀(W:Ww)(out:List Ent),K out R.es.length W->W.heap[A.heap.size]?=some (.deferred (some []))->Q .normal {a with defers:=mkD A.heap.size::a.defers} W):
  (Aa g ps assign body).wpIn AE 19 prog Q a A:=by
 have ad:=hR.le;refine yGi hg (λargs w=>by simp[go_sem]) qj ?_;intro fn W1 a2;obtain⟨rec,a0⟩:∃rec:Ar->Option Code->Obj,rec=rcL fn a.tmps ps assign body A.heap.size:=⟨_,rfl⟩;have a1:∀s p,(rec s p).isCells=false:=λs p=>by rw[a0];rfl
 have a7:∀s p,∃r,rec s p=.loop r:=λs p=>by rw[a0];exact⟨_,rfl⟩
 have k1:Below A A W1:=by rw[a2];exact(qB).alloc (by simp) _
 obtain⟨kf,vf,hI⟩:=pg;have ac:RbS R gc cb pR bs A (rec .ready none) W1:=by
  refine⟨⟨kf,vf,hI.turn hR.pr.mds (Chg.h k1 (S:=λ_=>False)) (λq z=>z.elim)⟩,yAg rm (Chg.h k1 (S:=λ_=>False)) (λ_ _ z=>z),sl.k k1,bp.k k1,bc.k k1,bY.k k1,bb.k k1,bR.k k1,bl.k k1,bn,?_,a1 _ _,?_,hA⟩
  .rw[a2,a0];have:=AG (A.alloc (.deferred (some []))) (rcL fn a.tmps ps assign body A .ready none);rwa [Aj]at this
  .rw[a2];exact(Below.heap_alloc _ _ _ (by simp)).trans (AG A _)
 have a9:=hK.on _ _ _ _ hk (Chg.h k1)
 have a8:=xAa R.es pR R.b R.off R.cap hR.es (A+1) 18 qj
  (λi W=>(∃bs,RbS R gc cb pR bs A (rec .ready none) W)/\∃out,K out i W)
  ?hY ?hd ?hr W1 ⟨⟨bs,ac⟩,[],a9⟩
 case hd=>rintro i W ⟨⟨bs,hS⟩,out,hk⟩;have kd:Below W W W.drew:=(Below.refl _ _).drew;exact⟨⟨bs,hS.on hR kd⟩,out,hK.on _ _ _ _ hk (Chg.h kd)⟩
 case hr=>rintro i W ⟨⟨bs,hS⟩,_⟩;exact⟨hS.bR.z (j:=0) rfl,hS.sl⟩
 case hY=>rintro i j W ⟨⟨bs,hS⟩,out,hk⟩ hij;have hl:=hS.rc;rw[a0]at hl;refine yEj hl (by rw[hps];rfl) ?_;refine hassign _ _ _ _ ⟨hl,?_⟩;rw[<-a0];have aa:=yAu W (A+1) (rec .busy none);have a6:=hS.put hR (a1 .busy none);have a5:=hK.on _ _ _ _ hk (aa.mono (λq z=>.inr ⟨by rw[z];omega,by rw[z];exact yBc hS.rc hS.rk⟩));obtain⟨r0,a4⟩:=a7 .busy none;rw[a4]at a6 a5|-;refine Ap (hbody _ r0 i j _ bs out a6 hij a5) ?_;rintro e a3 W3 ⟨rfl,bs',o,h3,h4⟩;refine⟨by rw[a4];exact h3.rc,rfl,⟨bs',h3.put hR (a1 .ready none)⟩,out++o,hK.on _ _ _ _ h4 ((yAu W3 (A+1) (rec .ready none)).mono (λq z=>.inr ⟨by rw[z];omega,by rw[z];exact yBc h3.rc rfl⟩))⟩
 simp only[AI,AM,AN];refine a8.mono ?_;rintro e W ⟨he,⟨bs,hS⟩,out,hk⟩;refine⟨he,.inl ⟨by have:=hS.rc;rwa [a0]at this,?_⟩⟩;rw[<-a0];have ab:=hS.put hR (a1 .exhausted none);exact hQ _ out (hK.on _ _ _ _ hk ((yAu W (A+1) (rec .exhausted none)).mono (λq z=>.inr ⟨by rw[z];omega,by rw[z];exact yBc hS.rc hS.rk⟩))) ab.mrk
section
attribute [local go_sem] Oper.semAt_some
theorem yGq(w:Ww){o:Oper}
  (hg:o.guard=none) l c (t:TypeId) (hop:o.op=Op.makeSlice t l c)
  (O:Nat) (e:TypeId) (i:TypeInfo) (z:Vv) (size:Nat) (h1:P.underlying t=some (.slice e)) (h2:P.info? e=some i) (h3:i.zero=some z) (h4:i.size=size)
  (kl kc:IntKind) (L C:Int) (m:Nat) (hl:a.eval l=.int kl L) (hc:a.eval c=.int kc C) (hL:L=(m:Int)) (hC:C=(m:Int)) (b2:i.bytes*m<=281474976710656) (b3:m<=maxLen) (b4:O<=w)
  (hK:∀w',w'.ownsRow O e size (xg w m m) m (madeCells z.cells (m*size)).toList->w.grownBy w' none->w'.heap.size=w+1->wpListIn F n P ops Q rest (a.put o.dst (xg w m m)) w'):
  wpListIn F n P ops Q (o::rest) a w:=by
 refine wpListIn_plain hg λK hK'=>?_;have⟨w',a0,r1,r2⟩:=run_make_full (P:=P) w O t e i z size h1 h2 h3 h4 kl kc m b2 b3 b4;have r3:w'.heap.size=w+1:=by
  subst h4;have a3:m<=9223372036854775807:=by unfold maxLen at b3;omega
  have a2:(i.bytes:Int)*(m:Int)<=281474976710656:=by
   have h:((i.bytes*m:Nat):Int)<=281474976710656:=qo
   rwa [Int.natCast_mul]at h
  have h9:=run_make (P:=P) w t e i z h1 h2 h3 kl kc m m qo (Int.le_refl _) a2 qo;rw[a0]at h9;simp only[Result.ok.injEq]at h9;rw[h9.2];simp
 subst hL;subst hC;unfold Oper.wpIn;refine⟨?_,?_⟩
 .simp[Oper.about,hop]
 .rw[Oper.semAt_plain F _ _ (by rw[hop];intro c a1;cases a1)];simp[execOp,hop,hl,hc,a0,Result.andThen];exact hK' _ _ (hK w' r1 r2 r3)
theorem yOj(w:Ww)(ca:Option Addr)(cn cc:Nat):Calls prog 153 #[.slice ca cn cc] w λe w'=>e=.returned (.func (AT 199) #[] #[ptB w.heap.size])/\w'=(xw w #[.slice ca cn cc] 26):=by go_enter func153,ntmps153;go_wp2;go_ret;exact⟨rfl,rfl⟩
theorem xHd(R:RbG)(hR:RbO R)(K:List Ent->Nat->Ww->Prop)(hK:RbK R 14 K)(hp:R.pg R.Wb)(hm:R.rm R.Wb)(hsl:CSl R.Wb R.b R.off R.cap R.es)
  (hbp:yA R.Wb R.W0 96 2 R.pp [.slice R.a R.n R.c,ptB R.dm.mb]) (hbc:yA R.Wb R.W0 26 1 R.pc [(xy R.b R.off R.es.length R.cap)]) (hk:K [] 0 R.Wb):
  Au AE 19 prog 152 #[.func (.yield R.lY) #[] #[],ptB R.pp,ptB R.pc] R.Wb λe W'=>(∃v,e=.returned v)/\∃out,K out R.es.length W':=by
 have⟨w,hw⟩:=qE R.Wb;have⟨n,hn⟩:=qE R.n;have⟨M,hM⟩:=qE R.es.length;have⟨pp,a2⟩:=qE R.pp;have⟨pc,a3⟩:=qE R.pc;have aB:n<=200:=hn▸hR.pr.n2
 have HD:=qH7 hR hw hn hM a2 a3 hK;have HS:Hid (R.pg w/\R.rm w/\CSl w R.b R.off R.cap R.es/\yA w R.W0 96 2 R.pp [.slice R.a R.n R.c,ptB R.dm.mb]/\yA w R.W0 26 1 R.pc [(xy R.b R.off R.es.length R.cap)]/\K [] 0 w):=hw▸⟨hp,hm,hsl,hbp,hbc,hk⟩
 have⟨A1,a6⟩:=qW (xw w #[.func (.yield R.lY) #[] #[]] 177);have c0:=HS.2.2.2.1.z (j:=0) rfl;rw[<-a2,<-hn]at c0;have aq:pp<w:=a2▸HS.2.2.2.1.lt.2
 have ar:pc<w:=a3▸HS.2.2.2.2.1.lt.2
 have⟨ib,ag,i1,i2,i3⟩:=info_parts Tryz.infoBl;have HC:Hid (∀A2,A1.grownBy A2 none->Below w w A2/\xk A2 pc 0 (xy R.b R.off M R.cap)):=λA2 hg=>by
  have k1:=qN a6
  have k2:Below w w A2:=⟨hg.os.trans k1.os,hg.tape.trans k1.tape,hg.output.trans k1.output,AD k1.size hg.size,λi hi=>(hg.block i (AJ hi k1.size) (by simp)).trans (k1.block i hi)⟩;refine⟨k2,?_⟩;have:=(HS.2.2.2.2.1.k k2).z (j:=0) rfl;rw[<-a3,<-hM]at this;exact this
 rw[<-a2,<-a3,<-hw];clear hR hw hn hM a2 a3 hK hp hm hsl hbp hbc hk;refine Ai func152 rfl trivial ?_ rfl;simp only[ntmps152,Ac,Ae,Al,AS,AV,AO,AP,Ad,AI,AN,AM];have ad:=qS a6
 gi_wp2_with (gi_at_make;rw[<-a6];refine yGq A1 rfl _ _ 118 rfl w 4 ib _ 1 underlying118 ag i1 i2 .i64 .i64 _ _ n rfl rfl rfl rfl (by rw[i3];omega) (by unfold maxLen;omega) qo ?_;intro A2 hO2 a1 an;have c2:=(HC A2 a1).2;have av:pc<w+1+1:=qo;have au:pc<A2:=qo);have⟨A3,a5⟩:=qW (xw A2 #[xg (w+1) n n] 118);have⟨A4,a4⟩:=qW (xw A3 #[(xy R.b R.off M R.cap)] 26);rw[<-a5];refine⟨trivial,(AK.2 (yOj A3 (some ⟨R.b,R.off,none⟩) M R.cap)).mono ?_⟩;rintro e w4 ⟨rfl,rfl⟩;rw[<-a4];have⟨pR,aa⟩:=qE A3;rw[<-aa];have HA:Hid (R.Wb.heap.size<=A4/\yA A4 R.Wb 177 1 R.Wb [.func (.yield R.lY) #[] #[]]/\yA A4 R.Wb 118 1 (w+1+1) [xg (w+1) R.n R.n]/\yA A4 R.Wb 26 1 pR [(xy R.b R.off R.es.length R.cap)]/\yF7 A4 R.Wb (w+1) R.n (AB R.n false)/\Below w w A4):=by
  have ax:=(HC A2 a1).1;have am:Below A1 A1 A2:=⟨a1.os,a1.tape,a1.output,a1.size,λi hi=>a1.block i hi (by simp)⟩;have a9:=qN a5
  have a7:=qN a4
  have e2:A2.heap.size=w+1+1:=qo
  have e3:A3.heap.size=w+1+1+1:=by rw[a5];simp[e2]
  have e4:A4.heap.size=w+1+1+1+1:=by rw[a4];simp[e3]
  have k4:=(ax.trans (a9.mono qo)).trans (a7.mono qo);have b1:yA A1 w 177 1 w [.func (.yield R.lY) #[] #[]]:=a6▸(yAa w _ qr rfl)
  have b2:yA A3 w 118 1 (w+1+1) [xg (w+1) n n]:=by rw[<-e2,a5];exact yAa A2 _ qo rfl
  have b3:yA A4 w 26 1 pR [(xy R.b R.off M R.cap)]:=by rw[aa,a4];exact yAa A3 _ qo rfl
  have b4:yF7 A2 w (w+1) n (AB n false):=by
   have h9:=hO2;rw[ad,yTi yNv qj false (Value.cells false) rfl n]at h9;have h8:A2.ownsRow w 4 1 (xg (w+1) (AB n false).length n) (AB n false).length ((AB n false).flatMap blF):=Ax▸h9
   exact h8
  rw[<-HD.2.1,<-HD.2.2.1,<-HD.2.2.2.1];exact⟨qo,((b1.k am).k a9).k a7,b2.k a7,b3,(b4.k a9).k a7,k4⟩
 clear a5 a4 aa hO2 a1 an c2 av au HC ag i1 i2 i3 c0 aq ar ad a6;gi_wp2;refine xDp R HD.1 K HD.2.2.2.2.2.2 HA.1 ?pg ?rm ?sl ?bp ?bc HA.2.1 HA.2.2.1 HA.2.2.2.1 HA.2.2.2.2.1 (by simp) ?hk rfl rfl (λv=>{tmps:=#[.func (.yield R.lY) #[] #[],ptB pp,ptB pc,.pointer (some ⟨w,0,none⟩),.pointer (some ⟨w+1+1,0,none⟩),v,undef,undef,.pointer (some ⟨pp,0,none⟩),.slice R.a n R.c,.int .i64 (n:Int),(xg (w+1) n n),(xy R.b R.off M R.cap),.func (AT 199) #[] #[ptB pR],v,undef,undef,undef,undef,undef,undef,undef,undef,undef,undef,undef,undef,undef,undef,undef,undef],defers:= []}) ?hassign ?hbody ?hQ;case pg=>
  have⟨kf,vf,hI⟩:=HS.1;exact⟨kf,vf,hI.turn HD.1.pr.mds (Chg.h HA.2.2.2.2.2 (S:=λ_=>False)) (λq z=>z.elim)⟩
 case rm=>exact yAg HS.2.1 (Chg.h HA.2.2.2.2.2 (S:=λ_=>False)) (λ_ _ z=>z)
 case sl=>exact HS.2.2.1.k HA.2.2.2.2.2
 case bp=>exact HS.2.2.2.1.k HA.2.2.2.2.2
 case bc=>exact HS.2.2.2.2.1.k HA.2.2.2.2.2
 case hk=>exact HD.2.2.2.2.2.2.on _ _ _ _ HS.2.2.2.2.2 (Chg.h HA.2.2.2.2.2)
 case hassign=>intro l v W K' hK;gi_wp2;exact hK
 case hbody=>
  intro l r0 i j W bs out hS hij hk;have HB:=qH3 hS hij hk;have⟨x0,x1⟩:=hS.bp.c2;have x2:=hS.bb.z (j:=0) rfl;rw[<-HD.2.2.2.2.1]at x0 x1;rw[<-HD.2.2.1]at x0 x2;clear hS hij hk;have al:Hid (Calls prog 154 #[.agg #[.slice R.a n R.c,ptB R.dm.mb],segV R.b R.off R.cap (i,j),xg (w+1) n n] W λe X'=>(∃v,e=.returned v)/\∃a0,RbS R (w+1) (w+1+1) pR a0 l (.loop r0) X'/\Chg (R.I W) W X'):=by rw[HD.2.2.1];exact HB.1.dec HD.1 HB.2.1
  gi_wp2;refine⟨trivial,(CallsIn.inRound (l+1) (AK.2 al)).mono ?_⟩;rintro e W2 ⟨⟨v,rfl⟩,a0,a8,hc2⟩;have ac:=qH2 a8 (HD.2.2.2.2.2.2.on _ _ _ _ HB.2.2 hc2);clear x0 x1 x2 hc2 al;have x1:=a8.bp.z (j:=1) rfl;have x2:=a8.bb.z (j:=0) rfl;rw[<-HD.2.2.2.2.1]at x1;rw[<-HD.2.2.1]at x2;clear a8;gi_wp2;have⟨W3,ab⟩:=qW (xw ((W2.alloc (AC #[ptB R.dm.mb] 94)).alloc (AC #[segV R.b R.off R.cap (i,j)] 26)) #[xg (w+1) n n] 118);refine⟨trivial,(CallsIn.inRound (l+1) (AK.2 (yLn W2 R.dm.mb (some ⟨R.b,R.off+i*5,none⟩) (j-i) (R.cap-i) (some ⟨w+1,0,none⟩) n n))).mono ?_⟩;rintro e w3 ⟨rfl,af⟩;have ao:w3=W3:=by rw[af,ab];rfl
  subst ao;have az:Hid (w3=(xw ((W2.alloc (AC #[ptB R.dm.mb] 94)).alloc (AC #[segV R.b R.off R.cap (i,j)] 26)) #[xg (w+1) R.n R.n] 118)):=by rw[<-HD.2.2.1];exact ab
  clear ab af x1 x2;gi_wp2;refine xAh R HD.1 K HD.2.2.2.2.2.2 ac.1 HB.2.1 ac.2 az rfl rfl (λx p told=>{tmps:=#[.func (.yield R.lY) #[] #[],ptB pp,ptB pc,.pointer (some ⟨w,0,none⟩),.pointer (some ⟨w+1+1,0,none⟩),segV R.b R.off R.cap (i,j),.pointer (some ⟨p,0,none⟩),.bool told,.pointer (some ⟨pp,0,none⟩),.slice R.a n R.c,.int .i64 (n:Int),(xg (w+1) n n),(xy R.b R.off M R.cap),.func (AT 199) #[] #[ptB pR],segV R.b R.off R.cap (i,j),.agg #[.slice R.a n R.c,ptB R.dm.mb],segV R.b R.off R.cap (i,j),(xg (w+1) n n),v,.pointer (some ⟨pp,1,none⟩),ptB R.dm.mb,segV R.b R.off R.cap (i,j),(xg (w+1) n n),.func (AT 200) #[] #[ptB W2,ptB (W2+1),ptB (W2+1+1)],x.c,.bool told,undef,undef,undef,undef,undef],defers:= []}) ?hassign2 ?hbody2 ?hQ2;case hassign2=>
   intro l x told W K' hK;gi_wp2;exact hK
  case hbody2=>intro l2 x told p W4 Kp hb ae hY;have⟨fn,tmps,assign,body,hy,aj⟩:=hY W4 (Below.refl _ _);have⟨y0,y1,y2,y3,y4⟩:=hb.c5;rw[<-HD.2.1]at ae;clear hb hY;gi_wp2;have ai:=aj;apply ai.mono;rintro e W5 ⟨rfl,ak⟩;have aA:=qH1 ak;clear ak aj ai hy y0 y1 y2 y3 y4 ae;gi_wp2;exact aA
  case hQ2=>intro o W3 ay aw;have HE:Hid (∃a0 o,RbS R (w+1) (w+1+1) pR a0 l (.loop r0) W3/\K (out++o) j W3):=⟨a0,o,ay,aw⟩;gi_wp2;have⟨a0,o,z1,z2⟩:=HE;exact⟨⟨a0,z1⟩,o,z2⟩
 case hQ=>
  intro W out hk hm;have HE:Hid (∀W',Chg (λq=>q∈ [A4.heap.size]) W W'->K out R.es.length W'):=λW' hc=>HD.2.2.2.2.2.2.on _ _ _ _ hk (hc.mono (λq z=>by
   have z':q=A4:=by simpa using z
   exact .inr ⟨by rw[z'];exact HA.1,by rw[z'];exact yBc hm rfl⟩))
  have HR:Hid (MkO 0 [A4.heap.size] W):=⟨by simp,λE hE=>by
   have z':E=A4:=by simpa using hE
   rw[z'];exact⟨Aq _,hm⟩⟩
  clear hk hm;gi_wp2;exact yIc (λW=>A8 rfl _ _ _) [A4.heap.size] W 0 HR (λW' hc=>⟨⟨_,rfl⟩,out,HE W' hc⟩)
end
section
structure RnK(R:RbG)(w:Ww)(rv:Nat)(rec:Obj)(lD:Nat)(out:List Ent)(ops:Nat)(W:Ww):Prop where
 res:∃a n c,n=out.length/\yA W w 39 3 R.rb [true,.slice a n c,xi ops]/\RowC W R.Wb (.slice a n c) out
 rc:W.heap[R.lY]?=some rec
 rk:rec.isCells=false
 mrk:W.heap[lD]?=some (.deferred (some []))
 rvb:yA W w 39 3 rv [false,xh,xi 0]
 le:out.length<=ops
 k:Below w w W
 wb:R.Wb.heap.size<=W.heap.size
structure RnO(R:RbG)(w:Ww)(rv lD:Nat):Prop where
 rb:R.rb<R.tb
 rvl:rv<R.tb
 rbv:¬R.rb=rv
 wl:w.heap.size<=R.tb
 lDl:R.W0.heap.size<=lD
 lY:R.lY=lD+1
 vt:¬R.rb=1
section
variable {R:RbG} {out:List Ent} {ops:Nat}
theorem RnK.on(hR:RbO R)(hO:RnO R w rv lD)(h:RnK R w rv rec lD out ops W)(hc:Chg (R.I W) W W'):RnK R w rv rec lD out ops W':=by
 obtain⟨a,n,c,h1,h2,h3⟩:=h.res;have a4:=hR.le;have a3:=hR.pr.tbl;have o1:=hO.rb;have o2:=hO.rvl;have o3:=hO.wl;have o4:=hO.lDl;have o5:=hO.lY;have a2:=hR.lY;have a0:∀q,q<R.tb->¬R.I W q:=λq hq z=>by
  rcases z with z|z
  .exact hR.pr.old hq z
  .have:=z.1;omega
 have a1:∀q o,W.heap[q]?=some o->o.isCells=false->R.W0.heap.size<=q->q<R.Wb.heap.size->¬R.I W q:=λq o ho hi hq hq2 z=>by
  rcases z with z|z
  .exact hR.pr.noO hq ho hi z
  .have:=z.1;omega
 exact {h with
  res:=⟨a,n,c,h1,h2.i hc (a0 _ o1),h3.i hc (λk hk z=>by
   have ht:=yAk h3 hk
   have hl:=(AH h3 k hk).1
   rcases z with z|z
   .exact hR.pr.noT qo ht qj z
   .exact z.2 ht)⟩
  rc:=by rw[hc.block _ (AA.1 h.rc).1 (a1 _ _ h.rc h.rk qo a2)];exact h.rc
  mrk:=by rw[hc.block _ (AA.1 h.mrk).1 (a1 _ _ h.mrk rfl o4 qo)];exact h.mrk
  rvb:=h.rvb.i hc (a0 _ o2)
  k:=Chg.k h.k hc h.k.size (λq z=>by
   rcases z with z|z
   .have:¬q<R.tb:=λhq=>hR.pr.old hq z
    omega
   .have:=z.1;omega)
  wb:=AD h.wb hc.size}
theorem RnK.Z(hR:RbO R)(hO:RnO R w rv lD)(h:RnK R w rv rec lD out ops W):∀q,q=R.rb\/q=R.lY->(q<R.tb/\¬q=1)\/(R.W0.heap.size<=q/\¬ObT 181 W q):=λq z=>by
 have o4:=hO.lDl
 have o5:=hO.lY
 rcases z with z|z
 .exact .inl ⟨by rw[z];exact hO.rb,by rw[z];exact hO.vt⟩
 .exact .inr ⟨qo,by rw[z];exact yBc h.rc h.rk⟩
theorem RnK.put(hR:RbO R)(hO:RnO R w rv lD)(h:RnK R w rv rec lD out ops W)(hb:rec'.isCells=false):RnK R w rv rec' lD out ops (W.putObj R.lY rec'):=by
 obtain⟨a,n,c,h1,h2,h3⟩:=h.res;have a0:=yAu W R.lY rec';have a1:∀t,¬ObT t W R.lY:=λt=>yBc h.rc h.rk;have o3:=hO.wl;have o4:=hO.lDl;have o5:=hO.lY;have a2:=hR.pr.tbl
 exact {h with
  res:=⟨a,n,c,h1,h2.i a0 (λq=>a1 _ (by rw[<-q];exact yAk h2 rfl)),h3.i a0 (λk hk q=>a1 _ (by rw[<-q];exact yAk h3 hk))⟩
  rc:=AQ (AA.1 h.rc).1
  rk:=hb
  mrk:=(AW qo).trans h.mrk
  rvb:=h.rvb.i a0 (λq=>a1 _ (by rw[<-q];exact yAk h.rvb rfl))
  k:=Chg.k h.k a0 h.k.size (λq z=>qo)
  wb:=AD h.wb a0.size}
end
theorem xDg{R:RbG}(hR:RbO R)(hO:RnO R w rv lD)(hWl:w.heap.size<=R.Wb.heap.size){fn:FuncId}{D m:Nat}(hps:ps.size=2)(a₁:Ent->Nat->Bool->Act)
  (hassign:∀(l:Nat)(x:Ent)(told:Bool)(W:Ww)(K':Act->Ww->Prop),K' (a₁ x W told) (xw W #[x.j,x.E,x.C,xu x.ts,x.val] 70)->assign.wpIn (Fence.wide.inRound l) m prog (Exit.then K' (λ_ _ _=>False)) {tmps:=(ps.zip #[x.c,told]).foldl (λt (p,v)=>t.setIfInBounds p v) tmps,defers:= []} W)
  (hbody:∀(l:Nat)(x:Ent)(told:Bool)(p:Nat)(W:Ww)(a:Option Addr)(n c ops:Nat)(out:List Ent),yA W w 39 3 R.rb [true,.slice a n c,xi ops]->n=out.length->n<=10000->ops<=10000->RowC W R.Wb (.slice a n c) out->yA W R.Wb 70 5 p x.five->¬(AF a n c).ownBlock=some p->R.Wb.heap.size<=W.heap.size->
   body.wpIn (Fence.wide.inRound l) m prog (λe _ W'=>e=.normal/\∃a' n' c',n'=(if told=true then out++ [x]else out).length/\yA W' w 39 3 R.rb [true,.slice a' n' c',xi (ops+1:Nat)]/\RowC W' R.Wb (.slice a' n' c') (if told=true then out++ [x]else out)/\Chg (λq=>q=R.rb\/(R.Wb.heap.size<=q/\ObT 70 W q)) W W') (a₁ x p told) W):
  ∀out ops (x:Ent) (told:Bool) W,RnK R w rv (rcL fn tmps ps assign body D .ready none) lD out ops W->ops<R.es.length->AY AE m prog R.lY #[x.c,told] W λe W'=>e=.returned true/\RnK R w rv (rcL fn tmps ps assign body D .ready none) lD (if told=true then out++ [x]else out) (ops+1) W'/\Chg (R.Y W) W W':=by
 intro out ops x told W h ab;obtain⟨rec,a2⟩:∃rec:Ar->Option Code->Obj,rec=rcL fn tmps ps assign body D:=⟨_,rfl⟩;have a4:∀s p,(rec s p).isCells=false:=λs p=>by rw[a2];rfl
 have o1:=hO.rb;have o2:=hO.rvl;have o3:=hO.wl;have o4:=hO.lDl;have o5:=hO.lY;have ad:=hR.le;have a9:=hR.pr.tbl;have aa:=hR.rb;have af:=hR.es;refine yEj h.rc (by rw[hps];rfl) ?_;refine hassign _ x told _ _ ?_;obtain⟨A,hA⟩:=qE (W.alloc (AC #[x.j,x.E,x.C,xu x.ts,x.val] 70));have kA:=qN hA
 rw[<-a2]at h;have ae:=(AA.1 h.rc).1;have a7:=h.wb;have bA:yA A R.Wb 70 5 W x.five:=by rw[hA];exact yAa W _ a7 rfl
 rw[<-hA];clear hA;have hA:=h.on hR hO (Chg.h kA);have a6:=hA.rc;rw[<-a2];refine⟨a6,?_⟩;have hB:=hA.put hR hO (a4 .busy none);have a0:=yAu A R.lY (rec .busy none);have bB:=bA.i a0 (λq=>(yAk bA rfl).not (by rw[q];exact hA.rc) hA.rk);obtain⟨B,a8⟩:=qE (A.putObj R.lY (rec .busy none));rw[<-a8]at hB a0 bB|-;obtain⟨a,n,c,n1,m2,m3⟩:=h.res;have n2:=(m2.k kA).i a0 (λq=>yBc hA.rc hA.rk (by rw[<-q];exact yAk (m2.k kA) rfl));have n3:=(m3.k kA).i a0 (λk hk q=>yBc hA.rc hA.rk (by rw[<-q];exact yAk (m3.k kA) hk));have ac:=hB.le;have a5:¬(AF a n c).ownBlock=some W.heap.size:=λz=>by have:=(AH m3 _ z).2;omega
 refine Ap (hbody _ x told W B a n c ops out n2 n1 (by omega) (by omega) n3 bB a5 (by have:=bB.lt;omega)) ?_;rintro e a3 W3 ⟨rfl,a',n',c',p1,p2,p3,p4⟩;have a1:∀q,(q=R.rb\/(R.Wb.heap.size<=q/\ObT 70 B q))->¬q=R.lY/\¬q=lD/\¬q=rv/\w.heap.size<=q:=λq z=>by
  rcases z with z|z
  .have:=n2.lt.1;have:=hO.rbv;omega
  .have:=z.1;have:=hR.lY;omega
 have hC:RnK R w rv (rec .busy none) lD (if told=true then out++ [x]else out) (ops+1) W3:=
  {res:=⟨a',n',c',p1,p2,p3⟩
   rc:=by rw[p4.block _ (AA.1 hB.rc).1 (λz=>(a1 _ z).1 rfl)];exact hB.rc
   rk:=a4 _ _
   mrk:=by rw[p4.block _ (AA.1 hB.mrk).1 (λz=>(a1 _ z).2.1 rfl)];exact hB.mrk
   rvb:=hB.rvb.i p4 (λz=>(a1 _ z).2.2.1 rfl)
   le:=by
    have:=hB.le
    cases told
    .exact le_succ_of_le this
    .simp only[if_true,Ak,length_singleton];omega
   k:=Chg.k hB.k p4 hB.k.size (λq z=>(a1 q z).2.2.2)
   wb:=AD hB.wb p4.size}
 refine⟨hC.rc,rfl,hC.put hR hO (a4 _ _),?_⟩;have c1:Chg (R.Y W) W A:=Chg.h kA;have c2:Chg (R.Y W) W B:=c1.absorb a0 (λq z=>.inl (.inr (.inl z)));have c3:Chg (R.Y W) W W3:=⟨p4.os.trans c2.os,p4.tape.trans c2.tape,p4.output.trans c2.output,AD c2.size p4.size,λi hi hn=>by
  have e1:=c2.block i hi hn
  refine(p4.block i (AJ hi c2.size) (λz=>hn ?_)).trans e1
  rcases z with z|⟨z0,cur,z⟩
  .exact .inl z
  .rw[e1]at z;exact .inr (.inr ⟨z0,cur,z⟩)⟩
 exact c3.absorb (yAu _ _ _) (λq z=>.inl (.inr (.inl z)))
end
section
structure RmS(R:RbG)(ph:Nat)(hints:Bool)(X:Ww):Prop where
 sl:CSl X R.b R.off R.cap R.es
 bp:yA X R.W0 96 2 R.pp [.slice R.a R.n R.c,ptB R.dm.mb]
 bc:yA X R.W0 26 1 R.pc [(xy R.b R.off R.es.length R.cap)]
 bh:yA X R.W0 4 1 ph [hints]
 hl:ph<R.Wb.heap.size
 hn:¬ph=R.rb/\¬ph=R.lY
section
variable {R:RbG} {X:Ww}
theorem RmS.K(hR:RbO R)(h:RmS R ph hints X)(hc:Chg S X X')(hS:∀q,S q->R.qu X q\/R.Y X q):RmS R ph hints X':=by
 have a2:=hR.le;have a0:∀(g t:Nat),ObT t X g->¬181=t->¬70=t->R.W0.heap.size<=g->¬g=R.rb->¬g=R.lY->¬S g:=λg t ht h1 h2 h4 h5 h6 z=>by
  rcases hS g z with q|(q|q|q)
  .exact hR.pr.noT h4 ht h1 q
  .exact h5 q
  .exact h6 q
  .exact h2 (q.2.one ht)
 exact {h with
  sl:=h.sl.i hc (λz=>by
   have hb:=hR.b
   have a1:=hR.pr.tbl
   have hn:=hR.bn
   rcases hS _ z with q|(q|q|q)
   .exact hR.pr.old hb q
   .exact hn.1 q
   .exact hn.2 q
   .have:=q.1;omega)
  bp:=h.bp.i hc (a0 _ _ (yAk h.bp rfl) qj qj h.bp.lt.1 hR.pp.1 hR.pp.2)
  bc:=h.bc.i hc (a0 _ _ (yAk h.bc rfl) qj qj h.bc.lt.1 hR.pc.1 hR.pc.2)
  bh:=h.bh.i hc (a0 _ _ (yAk h.bh rfl) qj qj h.bh.lt.1 h.hn.1 h.hn.2)}
theorem RmS.mvs(hR:RbO R)(h:RmS R ph hints X)(hp:R.pd R.dm ks v X):MvS (R.mch R.dm) R.dm.N R.es R.pc R.pp ph R.b R.off R.cap hints ks v X:=by
 have a1:=hp.mc hR.dm;refine⟨a1,h.bc.z (j:=0) rfl,h.bp.z (j:=1) rfl,h.bh.z (j:=0) rfl,h.sl,λq hq=>?_⟩;have hz:=McI.qu hR.dm a1 q;have a0:¬R.qu X q:=by
  rcases hq with rfl|rfl
  .exact hR.pr.noT h.bh.lt.1 (yAk h.bh rfl) qj
  .exact hR.pr.old hR.b
 exact⟨λk=>a0 (hz (.inl k)),λk=>a0 (hz (.inr (.inl k))),λk=>a0 (hz (.inr (.inr (.inl k)))),λk=>a0 (hz (.inr (.inr (.inr k))))⟩
end
theorem xHc(R:RbG)(hR:RbO R)(hn0:R.n=0)(hord:R.es.Pairwise λa b=>yAr (putE a) (putE b)= -1)(K:List Ent->Nat->Ww->Prop)(hK:RbK R 18 K)(hp:R.pd R.dm ks0 v0 R.Wb)(hf:ks0=AB R.dm.nk newC)(hs:RmS R ph hints R.Wb)(hk:K [] 0 R.Wb):
  Au AE 19 prog 103 #[.func (.yield R.lY) #[] #[],ptB R.pc,ptB R.pp,ptB ph] R.Wb λe W'=>(∃v,e=.returned v)/\∃out ops,MvR R.dm.l hints R.es (AB R.dm.nk newC) ops/\K out ops W':=by
 have al:=hR.le;have ab:=(hR.pr.mds.md R.dm hR.dm).1;have a3:=hR.gm;rw[hn0]at a3;have ah:=yQ6 hR.pr.mds hR.dm (yJ2 hR.gm (by simp))
 have ac:=xAw (R.mch R.dm) R.dm.l R.dm.N R.es R.pc R.pp ph R.b R.off R.cap hints hR.es ah a3 ab.X rfl hR.j hord R.lY 19 qj
  (λi ks v X=>RmS R ph hints X/\R.pd R.dm ks v X/\∃out m,K out m X/\m<=i/\∀k,MvR R.dm.l hints (R.es.drop i) ks k->MvR R.dm.l hints R.es (AB R.dm.nk newC) (m+k))
  ?hY (λi ks v X h=>h.1.mvs hR h.2.1) R.Wb ks0 v0 ⟨hs,hp,[],0,hk,Ab _,λk ho=>by rw[Ah,<-hf];exact ho⟩
 case hY=>
  rintro i c it ks a5 v v' X0 X ⟨aj,a2,out,m,ag,ak,a8⟩ hc ae ad a4 a6;have a9:=a2.step hR.pr.mds hR.dm ad a4 a6;have a1:=hR.pr.mcq hR.dm (a2.mc hR.dm) a4;have ai:=aj.K hR a1 (λq z=>.inl z);have a0:=hK.on _ _ _ _ ag (a1.mono (λq z=>.inl z));have hi:=qf hc;have a7:=MvR.step (j:=nxtM R.es hints i it c) a8 hc ae rfl;refine yH7 (hK.yld _ _ (yBl it c) it.H X a0 qo) ?_;rintro e W'' ⟨he,af,hc2⟩;have aa:R.pd R.dm a5 v' W'':=a9.turn hR.pr.mds hc2 (λq z=>by
   rcases z with z|z|z
   .exact hK.Z _ _ _ a0 q (.inl z)
   .exact hK.Z _ _ _ a0 q (.inr z)
   .exact .inr ⟨qw z.1,yGc z.2 qj⟩)
  refine⟨he,ai.K hR hc2 (λq z=>.inr z),aa,_,_,af,?_,a7⟩;unfold nxtM;split<;>omega
 refine ac.mono ?_;rintro e X ⟨he,ks,v,_,_,out,m,hk,_,hr⟩;exact⟨he,out,m,MvR.done hr qr,hk⟩
end
structure RxP(G:PrG)(d0:Md)(es:List Ent)(b off cap:Nat)(rb rv:Nat)(w X:Ww):Prop where
 pr:PrO G
 d0m:d0∈G.all
 gm:yB1 d0.l (d0.nk:Int) G.n
 esl:es.length<=10000
 j:∀c∈es,¬c.j=⟨#[]⟩
 ord:es.Pairwise λa b=>yAr (putE a) (putE b)= -1
 bl:b<G.tb
 le:G.W0.heap.size<=X
 rbl:rb<G.tb
 rvl:rv<G.tb
 ne:¬rb=rv
 br:¬b=rb
 vt:¬rb=1
 wl:w<=G.tb
 rr:∀q,(AF G.a G.n G.c).ownBlock=some q->¬q=rb/\q<X
 pd:∃v0,G.pd d0 (AB d0.nk newC) v0 X
 rm:G.rm X
 sl:CSl X b off cap es
 res:yA X w 39 3 rb [true,xh,xi 0]
 rvb:yA X w 39 3 rv [false,xh,xi 0]
 k:Below w w X
structure RxO(G:PrG)(d0:Md)(es:List Ent)(b off cap:Nat)(pp pc rb rv:Nat)(w X:Ww):Prop extends RxP G d0 es b off cap rb rv w X where
 bp:yA X G.W0 96 2 pp [.slice G.a G.n G.c,ptB d0.mb]
 bc:yA X G.W0 26 1 pc [(xy b off es.length cap)]
variable {G:PrG} {d0:Md} {rb:Nat}
theorem RxP.on{off:Nat}{X:Ww}(h:RxP G d0 es b off cap rb rv w X)(k:Below X X X'):RxP G d0 es b off cap rb rv w X':=
 {h with
  le:=AD h.le k.size
  rr:=λq hq=>⟨(h.rr q hq).1,AJ (h.rr q hq).2 k.size⟩
  pd:=by have⟨v0,kf,vf,hI,h1,h2⟩:=h.pd;exact⟨v0,kf,vf,hI.turn h.pr.mds (Chg.h k (S:=λ_=>False)) (λq z=>z.elim),h1,h2⟩
  rm:=yAg h.rm (Chg.h k (S:=λ_=>False)) (λ_ _ z=>z)
  sl:=h.sl.k k
  res:=h.res.k k
  rvb:=h.rvb.k k
  k:=h.k.trans (k.mono h.k.size)}
def MvP(G:PrG)(d0:Md)(es:List Ent)(b off cap rb rv:Nat)(hints:Bool)(w:Ww)(e:Ending)(X':Ww):Prop:=
 ∃f lb,e=.returned (.func (AT f) #[] lb)/\Hid (∃pp pc ph,RxO G d0 es b off cap pp pc rb rv w X'/\((G.n=0/\f=103/\lb=#[ptB pc,ptB pp,ptB ph]/\yA X' G.W0 4 1 ph [hints])\/(¬G.n=0/\f=152/\lb=#[ptB pp,ptB pc])))
theorem yQ3{off:Nat}{X:Ww}(H:RxP G d0 es b off cap rb rv w X)(hints:Bool):
  Calls prog 47 #[.agg #[.slice G.a G.n G.c,ptB d0.mb],(xy b off es.length cap),hints] X (MvP G d0 es b off cap rb rv hints w):=by
 have a6:=H.le;have⟨A1,a2⟩:=qW (xw X #[.slice G.a G.n G.c,ptB d0.mb] 96);have⟨A2,a1⟩:=qW (xw A1 #[(xy b off es.length cap)] 26);have⟨A3,a0⟩:=qW (xw A2 #[hints] 4);have e1:=qS a2
 have e2:A2.heap.size=X+1+1:=by rw[a1];simp[e1]
 have e3:A3.heap.size=X+1+1+1:=by rw[a0];simp[e2]
 have q1:=qN a2
 have q2:=qN a1
 have q3:=qN a0
 have k3:=(q1.trans (q2.mono qo)).trans (q3.mono qo);by_cases hn:G.n=0
 .have b1:yA A1 G.W0 96 2 X [.slice G.a G.n G.c,ptB d0.mb]:=a2▸(yAa X _ a6 rfl)
  have b2:yA A2 G.W0 26 1 (X+1) [(xy b off es.length cap)]:=by rw[<-e1,a1];exact yAa A1 _ qo rfl
  have b3:yA A3 G.W0 4 1 (X+1+1) [hints]:=by rw[<-e2,a0];exact yAa A2 _ qo rfl
  have h9:=yUy X G.a G.c d0.mb (some ⟨b,off,none⟩) es.length cap hints;rw[<-hn]at h9;apply h9.mono;rintro e X' ⟨he,a4⟩;have a8:X'=A3:=by rw[a4,a0,a1,a2]
  subst a8;exact⟨_,_,he,⟨X,X+1,X+1+1,{H.on k3 with bp:=(b1.k q2).k q3,bc:=b2.k q3},.inl ⟨hn,rfl,rfl,b3⟩⟩⟩
 .have⟨A4,a3⟩:=qW (xw A3 #[.slice G.a G.n G.c,ptB d0.mb] 96);have⟨A5,a5⟩:=qW (xw A4 #[(xy b off es.length cap)] 26);have e4:A4.heap.size=X+1+1+1+1:=by rw[a3];simp[e3]
  have q4:=qN a3
  have q5:=qN a5
  have k5:=(k3.trans (q4.mono qo)).trans (q5.mono qo);have b1:yA A4 G.W0 96 2 (X+1+1+1) [.slice G.a G.n G.c,ptB d0.mb]:=by rw[<-e3,a3];exact yAa A3 _ qo rfl
  have b2:yA A5 G.W0 26 1 (X+1+1+1+1) [(xy b off es.length cap)]:=by rw[<-e4,a5];exact yAa A4 _ qo rfl
  apply (yM7 X G.a G.n G.c d0.mb qo (some ⟨b,off,none⟩) es.length cap hints).mono;rintro e X' ⟨he,a4⟩;have a7:X'=A5:=by rw[a4,a5,a3,a0,a1,a2]
  subst a7;exact⟨_,_,he,⟨X+1+1+1,X+1+1+1+1,0,{H.on k5 with bp:=b1.k q5,bc:=b2},.inr ⟨hn,rfl,rfl⟩⟩⟩
theorem xAe{off pp pc:Nat}{X:Ww}(H:RxO G d0 es b off cap pp pc rb rv w X)
  {g:Av} {ps:Array Tmp} {assign body:Code} {Q:Exit->Act->Ww->Prop} {a:Act} {f:Nat} {lb:Array Vv} (hg:a.eval g=.func (.func f) #[] lb)
  (hf:(G.n=0/\f=103/\lb=#[ptB pc,ptB pp,ptB ph]/\yA X G.W0 4 1 ph [hints])\/(¬G.n=0/\f=152/\lb=#[ptB pp,ptB pc])) (hps:ps.size=2) (a₁:Ent->Nat->Bool->Act)
  (hassign:∀(m l:Nat)(x:Ent)(told:Bool)(W:Ww)(K':Act->Ww->Prop),K' (a₁ x W told) (xw W #[x.j,x.E,x.C,xu x.ts,x.val] 70)->assign.wpIn (Fence.wide.inRound l) m prog (Exit.then K' (λ_ _ _=>False)) {tmps:=(ps.zip #[x.c,told]).foldl (λt (p,v)=>t.setIfInBounds p v) a.tmps,defers:= []} W)
  (hbody:∀(m l:Nat)(x:Ent)(told:Bool)(p B:Nat)(W:Ww)(a:Option Addr)(n c ops:Nat)(out:List Ent),rb<B->yA W w 39 3 rb [true,.slice a n c,xi ops]->n=out.length->n<=10000->ops<=10000->RowC W B (.slice a n c) out->yA W B 70 5 p x.five->¬(AF a n c).ownBlock=some p->B<=W->
   body.wpIn (Fence.wide.inRound l) m prog (λe _ W'=>e=.normal/\∃a' n' c',n'=(if told=true then out++ [x]else out).length/\yA W' w 39 3 rb [true,.slice a' n' c',xi (ops+1:Nat)]/\RowC W' B (.slice a' n' c') (if told=true then out++ [x]else out)/\Chg (λq=>q=rb\/(B<=q/\ObT 70 W q)) W W') (a₁ x p told) W)
  (hQ:∀(out:List Ent)(ops:Nat)(W:Ww)(a':Option Addr)(n' c':Nat),n'=out.length->((¬G.n=0/\ops=es.length)\/(G.n=0/\MvR d0.l hints es (AB d0.nk newC) ops))->yA W w 39 3 rb [true,.slice a' n' c',xi ops]->yA W w 39 3 rv [false,xh,xi 0]->RowC W X (.slice a' n' c') out->Below w w W->W.heap[X.heap.size]?=some (.deferred (some []))->Q .normal {a with defers:=mkD X.heap.size::a.defers} W):
  (Aa g ps assign body).wpIn AE 20 prog Q a X:=by
 refine yGi hg (λargs w=>by rcases hf with⟨_,rfl,_⟩|⟨_,rfl,_⟩<;>simp[go_sem]) qj ?_;intro fn W1 a3;have k1:Below X X W1:=a3▸((qB).alloc (by simp) _)
 have z1:W1.heap.size=X+1+1:=by rw[a3];simp
 have r1:W1.heap[X.heap.size+1]?=some (rcL fn a.tmps ps assign body X .ready none):=by rw[a3];have:=AG (X.alloc (.deferred (some []))) (rcL fn a.tmps ps assign body X .ready none);rwa [Aj]at this
 have m1:W1.heap[X.heap.size]?=some (.deferred (some [])):=a3▸((Below.heap_alloc _ _ _ (by simp)).trans (AG X _))
 have⟨R,a0⟩:=qE ({toPrG:=G,Wb:=W1,dm:=d0,es:=es,b:=b,off:=off,cap:=cap,pp:=pp,pc:=pc,rb:=rb,lY:=X.heap.size+1}:RbG);have ah:=H.pr.tbl;have ai:=H.le;have o1:=H.rbl;have o2:=H.rvl;have o3:=H.wl;have o4:=H.bl;have s1:=k1.size;have b1:=H.bp.lt;have b2:=H.bc.lt;have eP:R.toPrG=G:=by rw[a0]
 have hR:RbO R:=by
  rw[a0]
  exact {pr:=H.pr,dm:=H.d0m,gm:=H.gm,es:=H.esl,j:=H.j,b:=H.bl,le:=by show G.W0.heap.size<=W1;omega,rb:=by show rb<W1;omega,lY:=by show X.heap.size+1<W1;omega,
         pp:=⟨by show¬pp=rb;omega,by show¬pp=X+1;omega⟩,pc:=⟨by show¬pc=rb;omega,by show¬pc=X+1;omega⟩,bn:=⟨H.br,by show¬b=X+1;omega⟩,
         rr:=λq hq=>⟨(H.rr q hq).1,by have:=(H.rr q hq).2;show¬q=X+1;omega,by have:=(H.rr q hq).2;show q<W1;omega⟩}
 have hO:RnO R w rv X.heap.size:=a0▸({rb:=H.rbl,rvl:=H.rvl,rbv:=H.ne,wl:=H.wl,lDl:=H.le,lY:=rfl,vt:=H.vt})
 have af:w.heap.size<=R.Wb:=by rw[a0];show w.heap.size<=W1;omega
 have ac:rb<R.Wb:=by rw[a0];show rb<W1;omega
 have a7:R.rb=rb:=by rw[a0]
 have a2:RnK R w rv (rcL fn a.tmps ps assign body X .ready none) X [] 0 W1:=a0▸({res:=⟨none,0,0,rfl,H.res.k k1,⟨rfl,.inl ⟨rfl,rfl⟩⟩⟩,rc:=r1,rk:=rfl,mrk:=m1,rvb:=H.rvb.k k1,le:=Ab _,k:=H.k.trans (k1.mono H.k.size),wb:=Ab _})
 have hK:∀m,RbK R m (RnK R w rv (rcL fn a.tmps ps assign body X .ready none) X):=λm=>
  {on:=λout ops W W' h hc=>h.on hR hO hc
   Z:=λout ops W h=>h.Z hR hO
   yld:=xDg hR hO af hps a₁ (hassign m) (λl x told p W a n c ops out h1 h2 h3 h4 h5 h6 h7 h8=>by
    rw[a7]at h1|-
    exact hbody m l x told p R.Wb W a n c ops out ac h1 h2 h3 h4 h5 h6 h7 h8)}
 have a5:∀out ops e W2,(∃v,e=Ending.returned v)->((¬G.n=0/\ops=es.length)\/(G.n=0/\MvR d0.l hints es (AB d0.nk newC) ops))->RnK R w rv (rcL fn a.tmps ps assign body X .ready none) X out ops W2->(∃v,e=Ending.returned v)/\
   ((W2.heap[X.heap.size+1]?=some (rcL fn a.tmps ps assign body X .ready none)/\Q .normal {a with defers:={target:=.collected X,args:=#[]}::a.defers} (W2.putObj (X+1) (rcL fn a.tmps ps assign body X .exhausted none)))\/
    ∃c,W2.heap[X.heap.size+1]?=some (rcL fn a.tmps ps assign body X .done (some c))/\c.wpIn AE 20 prog Q {a with defers:={target:=.collected X,args:=#[]}::a.defers} (W2.putObj (X+1) (rcL fn a.tmps ps assign body X .exhausted (some c)))):=λout ops e W2 he hm hk=>by
  have a8:R.lY=X+1:=by rw[a0]
  refine⟨he,.inl ⟨by have:=hk.rc;rwa [a8]at this,?_⟩⟩;have h2:=hk.put hR hO (rec':=rcL fn a.tmps ps assign body X .exhausted none) rfl;rw[a8]at h2;have⟨a',n',c',q1,q2,q3⟩:=h2.res;rw[a7]at q2;refine hQ out ops _ a' n' c' q1 hm q2 h2.rvb ⟨q3.1,?_⟩ h2.k h2.mrk;rcases q3.2 with z|⟨g',ag,cur,hv,a9,rest⟩
  .exact .inl z
  .exact .inr ⟨g',ag,cur,hv,AD (a0▸s1) a9,rest⟩
 have⟨v0,kf,vf,hI,ae,aa⟩:=H.pd;have a4:R.pd R.dm (AB d0.nk newC) v0 W1:=a0▸⟨kf,vf,hI.turn H.pr.mds (Chg.h k1 (S:=λ_=>False)) (λq z=>z.elim),ae,aa⟩
 rcases hf with⟨hn,rfl,rfl,a6⟩|⟨hn,rfl,rfl⟩
 .have a1:=xHc R hR (a0▸hn) (a0▸H.ord) _ (hK 18) (ph:=ph) (hints:=hints) (by rw[a0]at a4|-;exact a4) (by rw[a0]) (by
   rw[a0]
   have b3:=a6.lt
   exact⟨H.sl.k k1,H.bp.k k1,H.bc.k k1,a6.k k1,by show ph<W1;omega,by show¬ph=rb;omega,by show¬ph=X+1;omega⟩) (by rw[a0]at a2|-;exact a2)
  simp only[AI,AM,AN];rw[a0]at a1;apply a1.mono;rintro e W2 ⟨he,out,ops,ad,hk⟩;exact a5 out ops e W2 he (.inr ⟨hn,ad⟩) (a0▸hk)
 .have a1:=xHd R hR _ (hK 14) (by have⟨a,b,c,_⟩:=a4;rw[a0]at c|-;exact⟨a,b,c⟩) (by rw[a0];exact yAg H.rm (Chg.h k1 (S:=λ_=>False)) (λ_ _ z=>z)) (a0▸H.sl.k k1) (a0▸H.bp.k k1) (a0▸H.bc.k k1) (by rw[a0]at a2|-;exact a2);simp only[AI,AM,AN];rw[a0]at a1;apply a1.mono;rintro e W2 ⟨he,out,hk⟩;exact a5 out es.length e W2 he (.inl ⟨hn,rfl⟩) (a0▸hk)
section
attribute [local go_sem] Oper.semAt_some
theorem yU1{D:Nat}(hm:W.heap[D]?=some (.deferred (some [])))(hr:(results fn tmps).run prog (W.putObj D (.deferred none))=.ok v (W.putObj D (.deferred none)))(h:R (.returned v) (W.putObj D (.deferred none))):LeavesInM F n prog fn tmps R [mkD D] .returning W:=
 ⟨by simp,.inl ⟨D,W.putObj D (.deferred none),rfl,Ay hm,v,hr,h⟩⟩
theorem yKn(w:Ww){o:Oper}(hg:o.guard=none) s x
  (ho:o.op=.call {callee:=.builtin .append,args:=#[s,x],argTypes:=#[26,26]})
  (O:Nat) (a0:Option Addr) (nn c0 b off m cx:Nat) (fs es:List Ent) (hs:a.eval s=.slice a0 nn c0) (hx:a.eval x=(xy b off m cx)) (hn:nn=fs.length) (hm:m=es.length) (hO:RowC w O (.slice a0 nn c0) fs)
  (hc:yA6 w b off es) (hlen:fs.length+es.length<=2^30) (hbase:O<=w)
  (h:∀a' c' w',RowC w' O (.slice a' (nn+m) c') (fs++es)->w.grownBy w' (AF a0 nn c0).ownBlock->wpListIn F n prog ops Q rest (a.put o.dst (.slice a' (nn+m) c')) w'):wpListIn F n prog ops Q (o::rest) a w:=by
 subst hn;subst hm;have⟨i,hi,a5,a4,a3⟩:=info_parts Tryz.infoCel;refine wpListIn_append_own w hg s x 26 ho O 70 i _ 5 72 underlying26 hi a5 a4 a3 rfl qj (.slice a0 fs.length c0) fs.length (yC7 fs) hs hO (xd b off) es.length cx (yC7 es) hx (yDa es) (λj u hu=>by rw[Addr.add_mid];exact (xE1.U hc).1 j u hu) (xE1.U hc).2 (by unfold maxLen;omega) qo hbase ?_;intro v' w' a2 a6 a7;rw[<-yEu]at a2;have a1:(fs++es).length=fs.length+es.length:=by simp
 have hR:RowC w' O v' (fs++es):=by unfold RowC;rw[a1];exact a2
 obtain⟨a',c',rfl⟩:∃a' c',v'=.slice a' (fs.length+es.length) c':=by
  rcases hR.cases with⟨q,q2⟩|⟨g,cp,q,_⟩
  .have h9:(fs++es).length=0:=by rw[q2];rfl
   rw[a1]at h9;exact⟨none,0,by rw[h9];exact q⟩
  .exact⟨_,_,by rw[<-a1];exact q⟩
 exact h a' c' w' hR a6
theorem xC8{k:Nat}(h:dkl d=bkl x)(hg:yB1 x.l x.cnt k):vwD d=x.vw/\yB1 d.l (d.nk:Int) k:=by
 simp only[Prod.mk.injEq]at h;have h0:=hg.2.2.1;have h1:(d.nk:Int)=x.cnt:=qo
 exact⟨by simp[vwD,h1,h.2],by rw[h1,h.2];exact hg⟩
theorem xDk(h:yC6 es):∀c∈es,¬c.j=⟨#[]⟩:=λc hc q=>by
 have h9:=h.1.2 c hc
 unfold Ent.vld vE at h9
 have h8:=(of_decide_eq_true h9).1
 rw[q]at h8
 exact absurd h8 qj
variable {bs:List Bk}
theorem xG9{w2 w5:Ww}(hgc:yHj bs m)(hgr:yC6 es)(hC:OwnC w bc gc cc es)(hk:∀e∈es,e.f=0)(hT:TabD w)(hz:W3.heap.size=w2+1)(hw2:w.heap.size+1<w2)
  (hrv:yA W3 w 39 3 (w+1) [false,xh,xi 0]) (hrb:yA W3 w 39 3 w2 [true,xh,xi 0]) (hb:Below w w W3)
  {a:Option Addr} {n c:Nat} {d0:Md} {ds:List Md} {Ts:List Tt} {NM:Nat} (hn:n=ds.length) (hrm:RowM w5 W3 (.slice a n c) ds) (hmds:MdsA (W3+1+1+1) (W3+1+1) NM Ts (d0::ds) w5) (hdk:dkl d0=bkl m) (hdks:ds.map dkl=bs.map bkl)
  (hrt:∀q,(AF a n c).ownBlock=some q->∀X∈Ts,X.t<q\/q<X.lo) (hb5:Below W3 W3 w5):
  RxP ⟨w5,W3+1+1+1,W3+1+1,NM,Ts,d0::ds,ds,a,n,c,W3⟩ d0 es gc 0 cc w2 (w+1) w w5/\vwD d0=m.vw/\ds.map vwD=bs.map Bk.vw/\n=bs.length:=by
 have a7:ds.length=bs.length:=by have:=congrArg List.length hdks;simpa using this
 have a0:n=bs.length:=qo
 have a2:∀k d,ds[k]?=some d->∃x,bs[k]?=some x/\dkl d=bkl x:=λk d hd=>by have a6:=qf hd;obtain⟨x,hx⟩:∃x,bs[k]?=some x:=qg qo;have h2:=congrArg (λl=>l[k]?) hdks;simp only[Af,hd,hx,AX,Option.some.injEq]at h2;exact⟨x,hx,h2⟩
 have⟨v0,g0⟩:=xC8 hdk hgc.2.1;have a1:=(hmds.md d0 (by simp)).1;have a9:=(hmds.md d0 (by simp)).2;have a4:=a1.ord;have a5:=a1.mch.lt.2;have s5:=hb5.size;have a8:=hC.lt.2;have hV:=hT.lt
 have a3:PrO ⟨w5,W3+1+1+1,W3+1+1,NM,Ts,d0::ds,ds,a,n,c,W3⟩:=
  {mds:=hmds,sub:=λd hd=>mem_cons_of_mem _ hd,good:=λk d hd=>by
    have⟨x,hx,he⟩:=a2 k d hd
    exact(xC8 he (hgc.2.2 k x hx)).2
   n:=hn,n2:=by show n<=200;rw[a0];exact hgc.1
   tbl:=by show W3.heap.size+1+1+1<=w5;omega
   rt:=hrt}
 refine⟨{pr:=a3,d0m:=by simp,gm:=by show yB1 d0.l (d0.nk:Int) n;rw[a0];exact g0,esl:=hgr.1.1,j:=xDk hgr,ord:=?_,bl:=by show gc<W3+1+1+1;omega,le:=Ab _,rbl:=by show w2.heap.size<W3+1+1+1;omega,rvl:=by show w.heap.size+1<W3+1+1+1;omega,ne:=qo,br:=qo,vt:=qo,wl:=by show w.heap.size<=W3+1+1+1;omega,rr:=λq hq=>?_,pd:=?_,rm:=hrm,sl:=(hC.sl).k (hb.trans (hb5.mono hb.size)),res:=hrb.k hb5,rvb:=hrv.k hb5,k:=hb.trans (hb5.mono hb.size)},v0,?_,a0⟩
 .have h9:=yQ0 hgr;rw[<-yIz hk]at h9;exact List.pairwise_map.1 h9
 .have:=AH hrm q hq;exact⟨qo,this.2⟩
 .exact⟨xh,_,_,xDu hmds,by simp,rfl⟩
 .apply ext_getElem?;intro k;rw[Af,Af];cases hd:ds[k]? with
  |none=>rw[getElem?_eq_none (qw (List.getElem?_eq_none_iff.1 hd))];rfl
  |some d=>
   have⟨x,hx,he⟩:=a2 k d hd;rw[hx,AX,AX,(xC8 he (hgc.2.2 k x hx)).1]
theorem yU9(hU:yGp w (.slice ua ul uc) bs)(hok:∀x∈bs,x.ok)(hm:yC5 w m.v m.l)(hmo:m.ok)(hC:OwnC w bc gc cc es)(hoe:∀e∈es,e.ok)(hk:∀e∈es,e.f=0)(hl:es.length<=1048576)(hT:TabD w)(hints:Bool){M:Nat}(hM:M=es.length)(hG:yHj bs m)(hR:yC6 es)(hF:∀wx,Below w w wx->(xf 14 #[.agg #[.slice ua ul uc,m.v,xi m.cnt]] wx true:Prop)):
  Calls prog 10 #[.agg #[.slice ua ul uc,m.v,xi m.cnt],xg gc M cc,hints] w (RunP bs m es hints w):=by
 have⟨va,vn,vc,a5,aM⟩:=hm.one;clear aM;have an:ul=bs.length:=by
  rcases hU with⟨_,_,q,rfl⟩|⟨_,_,_,q,_⟩
  .cases q;rfl
  .cases q;rfl
 have HM:Hid (OwnC w bc gc cc es/\M=es.length/\(∀e∈es,e.ok)/\(∀e∈es,e.f=0)/\yGp w (.slice ua ul uc) bs/\yC5 w m.v m.l/\ul=bs.length/\(∀x∈bs,x.ok)/\m.ok/\TabD w):=⟨hC,hM,hoe,hk,hU,hm,an,hok,hmo,hT⟩;have⟨W0,a9⟩:=qW (xw (w.alloc (AC #[.slice ua ul uc,.slice va vn vc,xi m.cnt] 34)) #[false,xh,xi 0] 39);have H0:Hid (yA W0 w 34 3 w [.slice ua ul uc,.slice va vn vc,xi m.cnt]/\yA W0 w 39 3 (w+1) [false,xh,xi 0]/\Below w w W0):=by
  have⟨X,hX⟩:=qW (xw w #[.slice ua ul uc,.slice va vn vc,xi m.cnt] 34);rw[<-hX]at a9;have zx:=qS hX
  have k1:=qN hX
  have k2:=qN a9
  have b1:yA X w 34 3 w [.slice ua ul uc,.slice va vn vc,xi m.cnt]:=hX▸(yAa w _ qr rfl)
  have b2:yA W0 w 39 3 (w+1) [false,xh,xi 0]:=by rw[a9,<-zx];exact yAa X _ qo rfl
  exact⟨b1.k k2,b2,k1.trans (k2.mono qo)⟩
 have HF:Hid (xf 14 #[.agg #[.slice ua ul uc,.slice va vn vc,xi m.cnt]] W0 true:Prop):=by rw[<-a5];exact hF W0 H0.2.2
 have HV:Hid (∀wx,Below w w wx->(xf 45 #[xg gc M cc] wx true:Prop)):=λwx hx=>by rw[hM];exact yKz gc cc es bc wx (hC.k hx hC.lt.2) hoe (by rw[yIz hk];exact hR)
 have aW:=hC.lt.2;rw[a5];have aQ:Hid (m.v=.slice va vn vc):=a5;clear hU hok hm hmo hC hoe hk a5 hM hl an hT hF;have⟨c0,c1,c2⟩:=H0.1.c3;apply (AK (n:=20)).1;refine Ai func10 rfl trivial ?_ rfl;simp only[ntmps10,Ac,Ae,Al,AS,AV,AO,AP,Ad,AI,AN,AM];gi_wp2;rw[<-a9];clear a9;gi_wp2;refine⟨trivial,(AK.2 HF).mono ?_⟩;rintro e w1 ⟨rfl,ae⟩;have a1:Hid (yA w1 w 34 3 w [.slice ua ul uc,.slice va vn vc,xi m.cnt]/\yA w1 w 39 3 (w+1) [false,xh,xi 0]/\Below w w w1):=⟨H0.1.k ae,H0.2.1.k ae,H0.2.2.trans (ae.mono H0.2.2.size)⟩;clear ae HF c0 c1 c2 H0
 have aG:Hid (xf 45 #[.slice (some ⟨gc,0,none⟩) M cc] w1 true:Prop):=HV w1 a1.2.2;gi_wp2;refine⟨trivial,(AK.2 aG).mono ?_⟩;rintro e w2 ⟨rfl,hb2⟩;have a3:Hid (yA w2 w.heap.size 34 3 w.heap.size [.slice ua ul uc,.slice va vn vc,.int .i64 m.cnt]/\yA w2 w.heap.size 39 3 (w.heap.size+1) [.bool false,.slice none 0 0,.int .i64 0]/\Below w.heap.size w w2):=⟨a1.1.k hb2,a1.2.1.k hb2,a1.2.2.trans (hb2.mono a1.2.2.size)⟩;clear hb2 aG HV a1
 have ac:=hG
 obtain⟨bI,oI,N,cI,a5,hN,hI,ah,aO⟩:∃bI oI N cI,m.v=.slice (some ⟨bI,oI,none⟩) N cI/\N=m.l.length/\yBh w bI oI m.l/\bI<w/\N<=cI/\cI<=maxLen:=by
  rcases HM.2.2.2.2.2.1 with⟨_,_,_,q⟩|⟨b,off,cap,q1,q2,q3,q4,q5⟩
  .have:=ac.2.1.1;rw[q]at this;simp at this
  .exact⟨b,off,_,cap,q1,rfl,q2,q3,q4,q5⟩
 obtain⟨rfl,rfl,rfl⟩:va=some ⟨bI,oI,none⟩/\vn=N/\vc=cI:=by have h9:=aQ.out;rw[a5]at h9;simp only[Value.slice.injEq]at h9;exact⟨h9.1.symm,h9.2.1.symm,h9.2.2.symm⟩
 have⟨W3,a8⟩:=qW (w2.alloc (AC #[.bool true,.slice none 0 0,.int .i64 0] 39));have H3:Hid (yA W3 w.heap.size 34 3 w.heap.size [.slice ua ul uc,.slice (some ⟨bI,oI,none⟩) vn vc,.int .i64 m.cnt]/\yA W3 w.heap.size 39 3 (w.heap.size+1) [.bool false,.slice none 0 0,.int .i64 0]/\yA W3 w.heap.size 39 3 w2.heap.size [.bool true,.slice none 0 0,.int .i64 0]/\Below w.heap.size w W3/\w.heap.size+1<w2):=by
  have⟨h1,h2,h3⟩:=a3;have k5:Below w2 w2 W3:=a8▸qB
  exact⟨h1.k k5,h2.k k5,by rw[a8];exact yAa w2 _ h3.size rfl,h3.trans (k5.mono h3.size),h2.lt.2⟩
 have aI:Hid (Calls prog 46 #[.agg #[.slice ua ul uc,.slice (some ⟨bI,oI,none⟩) vn vc,.int .i64 m.cnt]] W3 (LcP W3 bs m)):=
  yM9 ac (HM.2.2.2.2.1.k H3.2.2.2.1) HM.2.2.2.2.2.2.1 HM.2.2.2.2.2.2.2.1 HM.2.2.2.2.2.2.2.2.1 hN (hI.k H3.2.2.2.1 ah) (AJ ah H3.2.2.2.1.size) (HM.2.2.2.2.2.2.2.2.2.i (S:=λ_=>False) (Chg.h H3.2.2.2.1) (λq=>q))
 have⟨c0,c1,c2⟩:=a3.1.c3;have HG:=qH2 hG hR;have aL:w.heap.size<w2:=qw H3.2.2.2.2
 clear ac hG hR a5 hN hI ah aO;gi_wp2;rw[<-a8];refine⟨trivial,(AK.2 aI).mono ?_⟩;rintro e w5 ⟨a,n,c,mb,rfl,H5⟩;have⟨d0,ds,Ts,NM,aA,hn,ar,az,aD,aC,aq,aF⟩:=H5;have⟨hX,am,al,aw⟩:=xG9 HG.1 HG.2 HM.1 HM.2.2.2.1 HM.2.2.2.2.2.2.2.2.2 (by rw[a8];simp) H3.2.2.2.2 H3.2.1 H3.2.2.1 H3.2.2.2.1 hn ar az aD aC aq aF;have aH:=yQ3 hX hints;have af:Hid (Calls prog 47 #[.agg #[.slice a n c,ptB mb],.slice (some ⟨gc,0,none⟩) M cc,.bool hints] w5 (MvP ⟨w5,W3.heap.size+1+1+1,W3.heap.size+1+1,NM,Ts,d0::ds,ds,a,n,c,W3.heap.size⟩ d0 es gc 0 cc w2.heap.size (w.heap.size+1) hints w)):=by rw[HM.2.1,<-aA];exact aH
 have ab:Hid (vwD d0=m.vw/\ds.map vwD=bs.map Bk.vw/\n=bs.length):=⟨am,al,aw⟩;have⟨G,hG⟩:=qE (⟨w5,W3.heap.size+1+1+1,W3.heap.size+1+1,NM,Ts,d0::ds,ds,a,n,c,W3.heap.size⟩:PrG);have aj:Hid (G.n=n/\G.ds=ds):=hG▸⟨rfl,rfl⟩
 rw[<-hG]at af;have⟨ob,ag⟩:=qE w2.heap.size;have aX:Hid (w+1<ob):=ag▸H3.2.2.2.2
 rw[<-ag]at af|-;clear hX am al aw aH aA hn ar az aD aC aq aF H5 aI c0 c1 c2 a8 hG H3 a3 aL ag;gi_wp2;refine⟨trivial,(AK.2 af).mono ?_⟩;rintro e w6 ⟨f,lb,rfl,H6⟩;clear af;gi_wp2;have⟨pp,pc,ph,hX,hf⟩:=H6;clear H6;refine xAe hX rfl hf rfl (λx p told=>{tmps:=#[.agg #[.slice ua ul uc,.slice (some ⟨bI,oI,none⟩) vn vc,.int .i64 m.cnt],.slice (some ⟨gc,0,none⟩) M cc,.bool hints,.pointer (some ⟨w.heap.size,0,none⟩),undef,undef,.pointer (some ⟨w.heap.size+1,0,none⟩),.pointer (some ⟨ob,0,none⟩),.pointer (some ⟨p,0,none⟩),.bool told,.agg #[.slice ua ul uc,.slice (some ⟨bI,oI,none⟩) vn vc,.int .i64 m.cnt],.bool true,.bool false,.bool false,.slice (some ⟨gc,0,none⟩) M cc,.bool true,.bool false,.bool false,undef,.agg #[.bool true,.slice none 0 0,.int .i64 0],.agg #[.slice ua ul uc,.slice (some ⟨bI,oI,none⟩) vn vc,.int .i64 m.cnt],.agg #[.slice a n c,.pointer (some ⟨mb,0,none⟩)],.slice (some ⟨gc,0,none⟩) M cc,.bool hints,.func (AT f) #[] lb,x.c,.bool told,undef,undef,undef,undef,undef,undef,undef,undef,undef,undef,undef,undef],defers:= []}) ?hassign ?hbody ?hQ;case hassign=>
  intro m l x told W K' hK;gi_wp2;exact hK
 case hbody=>
  clear hX hf;intro mm l x told p B W a n c ops out aR a0 hn aV aS a2 a7 aU hB;have⟨W1,a6⟩:=qW (W.setCell (xd ob 2) (.int .i64 ((ops+1:Nat):Int)));have k1:Chg (λq=>q=ob) W W1:=a6▸(Chg.D (S:=λq=>q=ob) W ob 2 _ rfl)
  have b1:yA W1 w.heap.size 39 3 ob [.bool true,.slice a n c,.int .i64 ((ops+1:Nat):Int)]:=a6▸(a0.set 2 _)
  have r1:RowC W1 B (.slice a n c) out:=a2.i k1 (λk hk q=>yAb a2 a0 qj k hk (by rw[q];rfl));have p1:yA W1 B 70 5 p x.five:=a7.i k1 (λq=>yAb a7 a0 qj p rfl (by rw[q];rfl));have t2:=a0.z (j:=2) rfl;have f2:=a0.frozen 2;have zo:IntKind.i64.wrap ((ops:Int)+1)=(ops:Int)+1:=by rw[IntKind.wrap_i64];omega
  cases told
  case false=>have HE:Hid (∃a' n' c',n'=out.length/\yA W1 w.heap.size 39 3 ob [.bool true,.slice a' n' c',.int .i64 ((ops+1:Nat):Int)]/\RowC W1 B (.slice a' n' c') out/\Chg (λq=>q=ob\/(B<=q/\ObT 70 W q)) W W1):=⟨a,n,c,hn,b1,r1,k1.mono (λq z=>.inl z)⟩;simp only[Int.natCast_add,Int.cast_ofNat_Int]at a6;clear a0 a2 a7 b1 r1 p1 k1;gi_wp2;rw[<-a6];have⟨a',n',c',z1,z⟩:=HE;subst z1;exact⟨a',c',z⟩
  case true=>
   subst hn;have aN:¬p=ob:=λq=>yAb a7 a0 (by decide) p rfl (by rw[q];rfl);have aT:¬ob=p:=λq=>aN q.symm;have⟨A,hA⟩:=qW (xw W1 #[x.j,x.E,x.C,xu x.ts,x.val] 70);have aK:W1.heap.size=W:=by rw[a6];simp
   have HA:Hid (RowC A B (.slice a out.length c) out/\yA6 A W 0 [x]/\B<=A/\yA A w 39 3 ob [true,.slice a out.length c,xi (ops+1:Nat)]/\Chg (λq=>q=ob) W A):=by
    have kA:=qN hA
    have bx:yA A B 70 5 W1 x.five:=hA▸(yAa W1 _ (by omega) rfl)
    rw[aK]at bx;refine⟨r1.k kA,λi e he=>?_,qw kA.size,b1.k kA,k1.trans (Chg.h kA)⟩;have hi:i=0:=by have:=qf he;simp at this;exact this
    subst hi;simp at he;subst he;exact⟨bx.z (j:=0) rfl,bx.z (j:=1) rfl,bx.z (j:=2) rfl,bx.z (j:=3) rfl,bx.z (j:=4) rfl⟩
   have HF:Hid (∀a' c' A',RowC A' B (.slice a' (out.length+1) c') (out++ [x])->A.grownBy A' (AF a out.length c).ownBlock->xk A' ob 1 (.slice a out.length c)/\A'.frozen? (xd ob 1)=false/\yA (xt A' ob 1 (.slice a' (out.length+1) c')) w 39 3 ob [true,.slice a' (out.length+1) c',xi (ops+1:Nat)]/\RowC (xt A' ob 1 (.slice a' (out.length+1) c')) B (.slice a' (out.length+1) c') (out++ [x])/\Chg (λq=>q=ob\/(B<=q/\ObT 70 W q)) W (xt A' ob 1 (.slice a' (out.length+1) c'))):=λa' c' A' aa ad=>by have cA:Chg (λq=>(AF a out.length c).ownBlock=some q) A A':=Chg.M ad (λk q=>q);have bA:=HA.2.2.2.1.i cA (λq=>yAb HA.1 HA.2.2.2.1 (by decide) ob q rfl);have cB:Chg (λq=>q=ob) A' (xt A' ob 1 (.slice a' (out.length+1) c')):=Chg.D (S:=λq=>q=ob) A' ob 1 _ rfl;refine⟨bA.z (j:=1) rfl,bA.frozen 1,bA.set 1 _,aa.i cB (λk hk q=>yAb aa bA (by decide) k hk (by rw[q];rfl)),?_⟩;have c1:Chg (λq=>q=ob\/(B<=q/\ObT 70 W q)) W A:=HA.2.2.2.2.mono (λq z=>.inl z);have c2:Chg (λq=>q=ob\/(B<=q/\ObT 70 W q)) W A':=c1.absorb cA (λq z=>.inl (.inr ⟨(a2.blk z).1,yAk a2 z⟩));exact c2.absorb cB (λq z=>.inl (.inl z))
   have t1:=a0.z (j:=1) rfl;have⟨y0,y1,y2,y3,y4⟩:=a7.c5;simp only[Int.natCast_add,Int.cast_ofNat_Int]at a6;clear a0 a2 a7 b1 r1 p1 k1;gi_wp2_with (gi_at_builtin;rw[<-a6,<-hA];refine yKn A rfl _ _ rfl B a out.length c _ 0 1 1 out [x] rfl rfl rfl rfl HA.1 HA.2.1 (by simp;omega) HA.2.2.1 ?_;intro a' c' A' aa ad;have⟨z1,z2,z3,z4,z5⟩:=HF a' c' A' aa ad;have HZ:Hid (_/\_/\_):=⟨z3,z4,z5⟩;clear z3 z4 z5 aa ad);exact⟨a',c',HZ⟩
 case hQ=>
  intro out ops W a' n' c' ax au a0 ao a2 aE ay;have HQ:Hid (RunM bs m es hints ops/\yA W w 39 3 ob [true,.slice a' n' c',xi ops]/\yA W w 39 3 (w+1) [false,xh,xi 0]/\Below w w W/\W.heap[w6.heap.size]?=some (.deferred (some []))/\w.heap.size+1<w6):=by
   refine⟨?_,a0,ao,aE,ay,hX.rvb.lt.2⟩;have ak:=ab.1;simp only[Prod.mk.injEq]at ak;rcases au with⟨h1,h3⟩|⟨h1,h2⟩
   .rw[aj.1,ab.2.2]at h1;exact .inl ⟨λq=>h1 (by rw[q];rfl),h3⟩
   .rw[aj.1,ab.2.2]at h1;refine .inr ⟨length_eq_zero_iff.1 h1,?_⟩;rw[<-ak.2,show m.cnt.toNat=d0.nk by omega];exact h2
  clear hX hf ax au a0 ao a2 aE ay;have⟨W9,hW9⟩:=qW (setCs W (w+1) 0 [true,.slice a' n' c',xi ops]);have b9:yA W9 w 39 3 (w+1) [true,.slice a' n' c',xi ops]:=hW9▸(HQ.2.2.1.setCs _)
  have c9:Chg (λq=>q=w+1) W W9:=hW9▸(yAo (S:=λq=>q=w.heap.size+1) _ rfl _ _ _)
  have m9:W9.heap[w6.heap.size]?=some (.deferred (some [])):=by rw[c9.block _ (AA.1 HQ.2.2.2.2.1).1 (λq=>qw HQ.2.2.2.2.2)];exact HQ.2.2.2.2.1
  have⟨WX,ai⟩:=qW (W9.putObj w6 (.deferred none));have cX:Chg (λq=>q=w6) W9 WX:=ai▸(yAu _ _ _)
  have bX:=b9.i cX (λq=>qw HQ.2.2.2.2.2);have HE:Hid (RunP bs m es hints w (.returned (.agg #[true,.slice a' n' c',xi ops])) WX/\W9.heap[w6.heap.size]?=some (.deferred (some []))):=by have⟨h1,h3,h4,h6,h7,h8⟩:=HQ;have k1:=Chg.k h6 c9 h6.size (λq z=>qo);have k2:=Chg.k k1 cX k1.size (λq z=>qo);exact⟨⟨a',n',c',ops,rfl,h1,k2⟩,m9⟩
  have⟨q0,q1,q2⟩:=bX.c3;have⟨v0,v1,v2⟩:=HQ.2.1.c3;have⟨u0,u1,u2⟩:=HQ.2.2.1.c3;have⟨f0,f1,f2⟩:=HQ.2.2.1.f3;simp only[setCs,Ah,AS]at hW9;clear b9 c9 m9 cX bX;gi_wp2;rw[<-hW9];refine yU1 HE.2 (v:=.agg #[true,.slice a' n' c',xi ops]) ?_ ?_
  .rw[<-ai];simp[results,results10,go_sem,q0,q1,q2]
  .rw[<-ai];exact HE.1
end
section
section
variable {P:Nd->Prop}
theorem yHa(hz:P yA3):∀(t:CT)(s:Bool)(f:Nat),t.lv P->∀x∈t.gen s f,P x.leaf
 | .leaf n,s,f,h,x,hx=>by rw[AU.1 hx];exact h
 | .chain _ a b,s,f,h,x,hx=>(AL.1 hx).elim (yHa hz a s f h.1 x) (yHa hz b _ _ h.2 x)
 | .inter _ a b,s,f,h,x,hx=>by
   simp only[CT.gen,AL,AU]at hx
   rcases hx with(((rfl|hx)|rfl)|hx)|rfl
   .exact hz
   .exact yHa hz a s f h.1 x hx
   .exact hz
   .exact yHa hz b _ _ h.2 x hx
   .exact hz
 | .cond _ p a b,s,f,h,x,hx=>by
   simp only[CT.gen,AL,AU]at hx
   rcases hx with((rfl|hx)|rfl)|hx
   .exact hz
   .exact yHa hz a _ _ h.2.1 x hx
   .exact hz
   .exact yHa hz b _ _ h.2.2 x hx
theorem yDw(hz:P yA3):∀(t:CT)(l:List Ix)(s:Bool)(f:Nat),t.lv P->(∀x∈l,P x.leaf)->∀L∈t.V l s f,∀x∈L,P x.leaf
 | .leaf n,l,s,f,h,hl,L,hL=>by simp[CT.V]at hL
 | .chain _ a b,l,s,f,h,hl,L,hL=>(AL.1 hL).elim (yDw hz a l s f h.1 hl L) (yDw hz b _ _ _ h.2 (λx hx=>(AL.1 hx).elim (hl x) (yHa hz a s f h.1 x)) L)
 | .inter _ a b,l,s,f,h,hl,L,hL=>(AL.1 hL).elim (yDw hz a l s f h.1 hl L) (yDw hz b l _ _ h.2 hl L)
 | .cond _ p a b,l,s,f,h,hl,L,hL=>by
   simp only[CT.V,AL,AU]at hL
   rcases hL with((hL|rfl)|hL)|hL
   .exact yDw hz p l s f h.1 hl L hL
   .exact λx hx=>(AL.1 hx).elim (hl x) (yHa hz p s f h.1 x)
   .exact yDw hz a l _ _ h.2.1 hl L hL
   .exact yDw hz b l _ _ h.2.2 hl L hL
theorem ySf:∀{L:List Ix}{k c:Nat},(∀x∈L,P x.leaf)->∀x∈absG k c L,P x.leaf
 | [],_,_,_,x,hx=>by simp[absG]at hx
 |y::L,k,c,h,x,hx=>by
  simp only[absG,List.mem_cons]at hx
  rcases hx with rfl|hx
  .exact h y (by simp)
  .exact ySf (λz hz=>h z (List.mem_cons_of_mem _ hz)) x hx
end
theorem xCm{k:Nat}(h:yB1 x.l x.cnt k)(hk:k<=200)(hl:∀e∈x.l,e.leaf.ok):x.ok:=by
 have⟨h1,h2,h3,h4,h5,_⟩:=h;refine⟨yJ ⟨h3,qo⟩,λe he=>?_⟩;have⟨j,hj⟩:=AR.1 he;have hj2:=qf hj;have hg:=h5 j e hj;have:(0<=e.op/\e.op<=200000)/\(0<=e.a/\e.a<=200000)/\(0<=e.b/\e.b<=200000):=by
  rcases hg with⟨g1,_,g2,g3⟩|⟨g1,_,g2⟩|⟨g1,_,g2⟩|⟨g1,_,g2⟩
  .rcases g3 with g3|g3<;>omega
  all_goals omega
 exact⟨yJ this.1,yJ this.2.1,yJ this.2.2,hl e he⟩
variable {ys:List Nd} {bs:List Bk}
theorem yYu(hG:yB9 ys)(hC:yLg ys X M)(hok:∀e∈ys,e.ok)(hv:bs.map Bk.vw=X.map yC9)(hm:m.vw=yC9 M):(∀x∈bs,x.ok)/\m.ok:=by
 obtain⟨h1,h2⟩:m.cnt=(cntL M:Nat)/\m.l=absG 0 0 M:=by simpa [yC9]using hm
 have hz:yA3.ok:=⟨qj,qj,qj,qj,qj,qj⟩;obtain⟨t,ht,rfl,rfl⟩:=hC;have hg:=yYv hG ht hv hm;have hl:=yEl ht λe he _=>hok e he;refine⟨λx hx=>?_,xCm hg.2.1 hg.1 (by rw[h2];exact ySf (yHa hz t false 0 hl))⟩;have⟨j,hj⟩:=AR.1 hx;have hj2:=qf hj;apply xCm (hg.2.2 j x hj) (qw hg.1);have h3:=congrArg (λl=>l[j]?) hv;simp only[Af,hj,AX]at h3;cases hy:(t.V [] false 0)[j]? with
  |none=>rw[hy]at h3;cases h3
  |some y=>
   rw[hy]at h3;obtain⟨_,h5⟩:x.cnt=(cntL y:Nat)/\x.l=absG 0 0 y:=by simpa [yC9]using h3
   rw[h5];exact ySf (yDw hz t [] false 0 hl (λx hx=>by cases hx) y (AZ hy))
structure CdI(w:Ww)(cv mv:Vv)(cnt:Int)(ys:List Nd)(bs:List Bk)(M:List Ix)(X:List (List Ix)):Prop where
 cu:yGp w cv bs
 cm:yC5 w mv (absG 0 0 M)
 of:yLg ys X M
 view:bs.map Bk.vw=X.map yC9
 cnt:cnt=(cntL M:Nat)
theorem CdI.k(h:CdI w cv mv cnt ys bs M X)(hb:Below w w w'):CdI w' cv mv cnt ys bs M X:={h with cu:=h.cu.k hb,cm:=h.cm.k hb qr}
theorem xCl(h:CdU w0 w cv mv cnt X M bs)(hC:yLg ys X M):CdI w cv mv cnt ys bs M X:=⟨h.V.j.inB h.V.each,h.main.in,hC,h.V.view,h.cnt⟩
end
end Go.Proofs.YtnnagkfoiganfaaGreatDoor
