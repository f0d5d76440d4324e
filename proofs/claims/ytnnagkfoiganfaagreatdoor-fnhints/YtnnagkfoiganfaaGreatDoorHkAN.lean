import Derived.Test.YtnnagkfoiganfaaGreatDoorHkAK
namespace Go.Proofs.YtnnagkfoiganfaaGreatDoor
open Go.ChangeShapes Go.WideShapes Go.ChangeAt Go.RowKit Go.Deep Go.Maps XD XI XU XG XP XK XW XT XF XE XH XY _root_.List _root_.Nat Go.Proofs.Tryz
open _root_.Go.Value renaming ownBlock->AD,slice->AF,cells->AK,agg->AM
open _root_.Go.World.ownsRow renaming lt->AE,cellAt->AG,frozenAt->AL
open _root_.List renaming replicate->AA,length_replicate->AB,getElem?_eq_none->AC,getElem?_set_ne->AH,eq_of_mem_replicate->AI,getElem?_set_self->AJ,mem_cons->AN,mem_singleton->AO,ext_getElem?->AP
set_option linter.unusedVariables false
set_option linter.unusedSimpArgs false
set_option maxRecDepth 100000
set_option maxHeartbeats 64000000
variable {sz at_ lo g NM' o N0 i t cap ty nc c pb k ul uc NM:Nat} {E:Prop} {Q:Exit->Act->Ww->Prop} {K:Act->Ww->Prop} {oo:Oper} {ops:Array Oper} {S:Nat->Prop} {x:Ix} {L' xs L:List Vv} {w' wr W2 W W':Ww} {A H v:Vv} {Ts0 Ts' Ts:List Tt} {G:MchG} {e:Ending} {a ua:Option Addr}
section
theorem yTi{α:Type}{f:α->List Vv}(hf:∀x,(f x).length=sz)(hsz:0<sz)(e:α)(z:Array Vv)(hz:z.toList=f e)(n:Nat):(madeCells z (n*sz)).toList=(AA n e).flatMap f:=by
 have a0:z.size=sz:=by rw[<-hf e,<-hz];simp
 apply AP;intro k;by_cases hk:k<n*sz
 .have h1:k=(k/sz)*sz+k%sz:=by rw[Nat.mul_comm];exact(div_add_mod k sz).symm
  have h2:k%sz<sz:=mod_lt _ hsz;have h3:=(div_lt_iff_lt_mul hsz).2 hk;have h4:((AA n e).flatMap f)[k]?=(f e)[k%sz]?:=by
   conv=>lhs;rw[h1]
   exact yB6 hf _ (k/sz) e (by rw[getElem?_replicate,iB h3]) (k%sz) h2
  rw[h4,<-hz];have h5:k%sz<z.size:=qo
  have h7:=getElem!_pos z (k%sz) h5;simp[madeCells,hk,a0,h7,h5]
 .have h6:((AA n e).flatMap f).length=n*sz:=by rw[yBv hf,AB]
  have h8:(madeCells z (n*sz)).toList.length=n*sz:=by rw[Array.length_toList,size_madeCells]
  rw[AC (by rw[h8];omega),AC (by rw[h6];omega)]
theorem yGw{a:Act}(w:Ww)(hgd:oo.guard=none) l c (t:TypeId) (hop:oo.op=Op.makeSlice t l c)
  (O:Nat) (e:TypeId) (i:TypeInfo) (z:Vv) (size:Nat) (h1:prog.underlying t=some (.slice e)) (h2:prog.info? e=some i) (h3:i.zero=some z) (h4:i.size=size)
  (kl kc:IntKind) (L C:Int) (n:Nat) (hl:a.eval l=.int kl L) (hc:a.eval c=.int kc C) (hL:L=(n:Int)) (hC:C=(n:Int)) (b2:i.bytes*n<=281474976710656) (b3:n<=maxLen) (b4:O<=w)
  (hK:∀w',w'.ownsRow O e size (xg w n n) n (madeCells z.cells (n*size)).toList->w.grownBy w' none->w'.heap.size=w+1->K (a.put oo.dst (xg w n n)) w'):if Region.wanted oo (yielded ops a.tmps)=true then Oper.wp prog oo a w K Q else E:=by
 have hw:Region.wanted oo (yielded ops a.tmps)=true:=by simp[Region.wanted,hgd]
 rw[iB hw];obtain⟨w',a0,r1,r2,r3⟩:∃w',(Instr.makeSlice t (.int kl (n:Int)) (.int kc (n:Int))).run prog w=.ok (xg w n n) w'/\w'.ownsRow O e size (xg w n n) n (madeCells z.cells (n*size)).toList/\w.grownBy w' none/\w'.heap.size=w+1:=by
  have⟨w',a0,r1,r2⟩:=run_make_full (P:=prog) w O t e i z size h1 h2 h3 h4 kl kc n b2 b3 b4;refine⟨w',a0,r1,r2,?_⟩;subst h4;have a2:n<=9223372036854775807:=by unfold maxLen at b3;omega
  have a1:(i.bytes:Int)*(n:Int)<=281474976710656:=by
   have h:((i.bytes*n:Nat):Int)<=281474976710656:=qo
   rwa [Int.natCast_mul]at h
  have h9:=run_make (P:=prog) w t e i z h1 h2 h3 kl kc n n qo (Int.le_refl _) a1 qo;rw[a0]at h9;simp only[Result.ok.injEq]at h9;rw[h9.2];simp
 subst hL;subst hC;unfold Oper.wp;simp[execOp,hop,hl,hc,a0,Result.andThen];exact hK w' r1 r2 r3
structure LdG where
 w:Ww
 B:Nat
 l:List Ix
 N:Nat
 bI:Nat
 oI:Nat
 cI:Nat
 cnt:Int
 p:Nat
 g:Nat
 mb:Nat
 nk:Nat
 O:Nat
 Ts0:List Tt
 N0:Nat
structure StpD(lo g:Nat)(Ts:List Tt)(L:List Vv)(at_:Nat)(x:Ix)(W:Ww):Prop where
 ten:∀(j:Nat)(v:Vv),x.ten[j]?=some v->L[at_*13+j]?=some v
 leaf:x.op=1->(cntK x.leaf.f/\∃t,(lo<=t/\∀X∈Ts,t<X.lo\/X.t<t)/\yA W lo 283 2 t [.pointer (some ⟨g,x.a.toNat*4,none⟩),xi x.leaf.n]/\L[at_*13+11]?=some (ofT (cntF x.leaf.f) t)/\L[at_*13+12]?=some (anyV (cntR x.leaf.f)))\/
  (tstK x.leaf.f/\∃T∈Ts,T.n=x.leaf/\L[at_*13+11]?=some (xAz x.leaf T.mp)/\L[at_*13+12]?=some (hntV x.leaf.f T.t))
theorem StpD.on(h:StpD lo g Ts L at_ x W)(hT:∀X∈Ts,X∈Ts')(hnw:∀X∈Ts',X∈Ts\/W<=X.lo)(hL:∀j,j<13->L'[at_*13+j]?=L[at_*13+j]?)(hl:x.ten.length=11)(hc:Chg S W W')(hS:∀t vs,yA W lo 283 2 t vs->¬S t):StpD lo g Ts' L' at_ x W':=by
 refine⟨λj v hv=>?_,λho=>?_⟩
 .have:=qf hv;rw[hL j qo];exact h.ten j v hv
 .rcases h.leaf ho with⟨k,t,h1,h2,h3,h4⟩|⟨k,T,h1,h2,h3,h4⟩
  .exact .inl ⟨k,t,⟨h1.1,λX hX=>(hnw X hX).elim (h1.2 X) (λq=>.inl (qw h2.lt))⟩,h2.i hc (hS t _ h2),by rw[hL 11 qo];exact h3,by rw[hL 12 qo];exact h4⟩
  .exact .inr ⟨k,T,hT T h1,h2,by rw[hL 11 qo];exact h3,by rw[hL 12 qo];exact h4⟩
structure LdJ(G:LdG)(k:Nat)(Ts:List Tt)(NM:Nat)(L:List Vv)(wr:Ww):Prop where
 ldr:yA wr G.w 174 1 G.w [.map (some G.B)]
 blk:yA wr G.w 32 2 (G.w+1) [(xy G.bI G.oI G.N G.cI),xi G.cnt]
 stp:yFq wr G.w G.p G.N L
 ctr:yFr wr G.w G.g G.nk (AA G.nk newC)
 mch:yA wr G.w 230 3 G.mb [xg G.p G.N G.N,xg G.g G.nk G.nk,xh]
 map:MpA wr G.B NM Ts
 ts:TsA G.O Ts wr
 old:∀X∈G.Ts0,X∈Ts
 new:∀X∈Ts,(X∈G.Ts0/\X.t<G.w)\/G.mb<X.lo
 ord:G.w+1<G.p/\G.w+1<G.g/\¬G.p=G.g/\G.p<G.mb/\G.g<G.mb
 done:∀(at_:Nat)(x:Ix),at_<k->G.l[at_]?=some x->StpD G.w G.g Ts L at_ x wr
 i:Chg (λq=>q=G.B) G.w wr
structure LdO(G:LdG):Prop where
 B:G.B<G.O/\G.O<=G.w/\¬1=G.B
 N:G.N=G.l.length
 Nl:G.N<=4000
 nk:(G.nk:Int)=G.cnt
 nkl:G.nk<=200
 ins:yBh G.w G.bI G.oI G.l
 bI:G.bI<G.w/\¬G.bI=G.B
 ok:∀x∈G.l,x.ok
 good:∀(k:Nat)(x:Ix),G.l[k]?=some x->x.op=1->yB9 [x.leaf]/\(cntK x.leaf.f->0<=x.a/\x.a<G.cnt)
 N0:G.N0<=5000000
section
variable {G:LdG}
theorem LdJ.on(h:LdJ G k Ts NM L wr)(hb:Below wr wr W):LdJ G k Ts NM L W:=by
 have hc:Chg (λ_=>False) wr W:=Chg.h hb
 exact {h with
  ldr:=h.ldr.k hb,blk:=h.blk.k hb,stp:=yAg h.stp hc (λ_ _ q=>q),ctr:=h.ctr.k hb,mch:=h.mch.k hb
  map:=h.map.i hc (λq=>q),ts:=h.ts.i hc (λq z=>z.elim) (λq=>q)
  done:=λat_ x h1 h2=>(h.done at_ x h1 h2).on (λX hX=>hX) (λX hX=>.inl hX) (λj _=>rfl) rfl hc (λ_ _ _ q=>q)
  i:=h.i.trans (hc.mono (λq z=>z.elim))}
theorem LdJ.steps(h:LdJ G k Ts NM L wr)(hO:LdO G)(hL:yFq W G.w G.p G.N L')(hc:Chg (λq=>q=G.p) wr W)(hd:∀(at_:Nat)(x:Ix),at_<k->G.l[at_]?=some x->∀j,j<13->L'[at_*13+j]?=L[at_*13+j]?):LdJ G k Ts NM L' W:=by
 have hs:=h.i.size;have a0:=h.ord;have hT:∀X∈Ts,X.t<G.p\/G.p<X.lo:=λX hX=>by
  rcases h.new X hX with q|q
  .exact .inl qo
  .exact .inr qo
 have hB:=hO.B
 exact {h with
  ldr:=h.ldr.i hc (λq=>yAb h.ldr h.stp qj _ rfl (by rw[q];rfl))
  blk:=h.blk.i hc (λq=>yAb h.blk h.stp qj _ rfl (by rw[q];rfl))
  stp:=hL
  ctr:=yAg h.ctr hc (λq hq z=>yAb h.ctr h.stp qj _ hq (by rw[z];rfl))
  mch:=h.mch.i hc (λq=>yAb h.mch h.stp qj _ rfl (by rw[q];rfl))
  map:=h.map.i hc qo
  ts:=⟨λT hT'=>⟨(h.ts.U T hT').1.i hc (λq hq z=>qw (hT T hT')) (qw h.ts.tabl),(h.ts.U T hT').2⟩,h.ts.apart,h.ts.tab.i hc (qw h.ts.tabl),h.ts.tabl⟩
  done:=λat_ x h1 h2=>(h.done at_ x h1 h2).on (λX hX=>hX) (λX hX=>.inl hX) (hd at_ x h1 h2) rfl hc (λt vs hb q=>yAb hb h.stp qj _ rfl (by rw[q];rfl))
  i:=h.i.absorb hc (λq z=>.inr qo)}
theorem LdJ.next(h:LdJ G k Ts NM L wr)(hx:G.l[k]?=some x)(hd:StpD G.w G.g Ts L k x wr):LdJ G (k+1) Ts NM L wr:=
 {h with
  done:=λat_ y h1 h2=>by
   by_cases e:at_=k
   .subst e;rw[hx]at h2;cases h2;exact hd
   .exact h.done at_ y qo h2}
theorem LdJ.test(h:LdJ G k Ts NM L wr)(hO:LdO G)(hM:MpA W G.B NM' Ts')(hts:TsA G.O Ts' W)(ho:∀X∈Ts,X∈Ts')(hnw:∀X∈Ts',X∈Ts\/wr<=X.lo)(hc:Chg (λq=>q=G.B) wr W):LdJ G k Ts' NM' L W:=by
 have hB:=hO.B;have a0:=h.ord;have a1:=h.mch.lt
 exact {h with
  ldr:=h.ldr.i hc qo,blk:=h.blk.i hc qo,stp:=yAg h.stp hc (λq hq z=>by simp[AD]at hq;omega),ctr:=h.ctr.i hc qo,mch:=h.mch.i hc qo
  map:=hM
  ts:=hts
  old:=λX hX=>ho X (h.old X hX)
  new:=λX hX=>by
   rcases hnw X hX with q|q
   .exact h.new X q
   .exact .inr qo
  done:=λat_ x h1 h2=>(h.done at_ x h1 h2).on ho hnw (λj _=>rfl) rfl hc (λt vs hb q=>qw hb.lt)
  i:=h.i.trans hc}
end
def xBk(w:Ww)(B:Nat)(l:List Ix)(N bI oI cI:Nat)(cnt:Int)(nk O:Nat)(Ts0:List Tt)(N0:Nat)(e:Ending)(w':Ww):Prop:=
 ∃mb,e=.returned (xp mb)/\Hid (∃p g Ts NM L,NM<=N0+N/\LdJ ⟨w,B,l,N,bI,oI,cI,cnt,p,g,mb,nk,O,Ts0,N0⟩ N Ts NM L w')
end
theorem Tryz.infoSp:(prog.info? 234).map (λi=>(i.zero,i.size,i.bytes))=some (some (.agg #[xi 0,xi 0,xi 0,false,xi 0,xe,false,xe,xu 0,xu 0,xi 0,.nilFunc,.nilFunc]),13,120):=by kernel_rfl
theorem Tryz.infoKc:(prog.info? 240).map (λi=>(i.zero,i.size,i.bytes))=some (some (.agg #[xe,xe,xe,xi 0]),4,56):=by kernel_rfl
variable {w:Ww}
theorem yEy(h:w.grownBy w' none):Below w w w':=⟨h.os,h.tape,h.output,h.size,λk hk=>h.block k hk (by simp)⟩
variable {j:Nat}
theorem yMk(h1:¬j=o+11)(h2:¬j=o+12):((L.set (o+11) A).set (o+12) H)[j]?=L[j]?:=by rw[AH (by omega),AH (by omega)]
theorem ySt(h:o+13<=L.length):((L.set (o+11) A).set (o+12) H)[o+11]?=some A/\((L.set (o+11) A).set (o+12) H)[o+12]?=some H:=by
 refine⟨?_,?_⟩
 .rw[AH (by omega),AJ (by omega)]
 .rw[AJ (by rw[length_set];omega)]
variable {O N:Nat}
theorem yDh{p:Nat}(h:yFq w O p N L)(hv:L[j]?=some v):(xk w p j v:Prop):=by have hj:=qf hv;rw[AG h j (by have:=h.1;omega),hv]
theorem yJi{p:Nat}(h:yFq w O p N L)(hj:j<N*13):∃v,L[j]?=some v:=qg (by have:=h.1;omega)
variable {p:Prop}
theorem zLdN (h:p:=by
 go_wp2_with fail;go_roundw;case rel=>exact⟨k+1,NMx,Tx,Lx,by omega,by omega,by go_num,HX.out⟩
 case measure=>simp[intOf];omega):p:=h
theorem zLdC (h:p:=by
 obtain⟨an,han⟩:∃an:Nat,x.a=(an:Int):=⟨x.a.toNat,by have:=(HGo.2 hck).1;omega⟩
 have hank:(an:Int)<(nk:Int):=by have h1:=(HGo.2 hck).2;have h2:G.cnt=(nk:Int):=by rw[HGe.out]
                                 omega
 have hnn:0<=(an:Int):=by omega
 have HD:Hid (LdJ G k Ts NM L4 w5.drew/\yA w5.drew G.w 153 11 wo x.ten):=⟨HW5.1.on ((Below.refl _ _).drew),HW5.2.k ((Below.refl _ _).drew)⟩;have hS0:SW (λw':Ww=>xk w' mb 0 (xg p N N)/\xk w' mb 1 (xg g nk nk)/\xk w' wo 1 (.int .i64 (an:Int))) w5.drew:=by have⟨h0,h1,_⟩:=HSa.out _ _ _ _ HD.1;have h2:=HD.2.z (j:=1) rfl;rw[han]at h2;exact⟨h0,h1,h2⟩
 go_upto_region 8 with fail;apply wpR 99 hS0;generalize w5.drew=WD at HD hS0|-;refine ja 0 hS0 ?_;iterate 12 refine jb hS0 ?_
 have HSp:Hid (yFq WD w.heap.size p N L4):=by have h9:=HD.1.stp;rw[HGe.out]at h9;exact h9
 have HBd:Hid (Calls prog 149 #[.pointer (some ⟨p,k*13,none⟩),.pointer (some ⟨g,an*4,none⟩)] WD (BdC WD p (k*13) g (an*4) x.leaf.n (ofT (cntF x.leaf.f) WD.heap.size) (anyV (cntR x.leaf.f)))):=by have⟨u,hu⟩:=yJi HSp.out (show k*13+11<N*13 by omega);obtain⟨v,hv⟩:=yJi HSp.out (show k*13+12<N*13 by omega);exact yKg (World.ownsRow.lt HSp.out p rfl).2 hck (yDh HSp.out (HL4.2.1 4 _ rfl)) (yDh HSp.out (HL4.2.1 10 _ rfl)) (yDh HSp.out hu) (yDh HSp.out hv) (λj=>World.ownsRow.frozenAt HSp.out j)
 refine qO 13 rfl λK hK=>?_;go_simp;refine HBd.mono ?_;rintro e w6 ⟨rfl,H6⟩;obtain⟨Lx,hLx⟩:=qE ((L4.set (k*13+11) (ofT (cntF x.leaf.f) WD.heap.size)).set (k*13+12) (anyV (cntR x.leaf.f)));have hgp:G.p=p/\G.N=N/\G.w=w/\G.g=g:=by rw[HGe.out];exact⟨rfl,rfl,rfl,rfl⟩
 have HXk:Hid (LdJ G k Ts NM Lx w6):=HD.1.steps HO.out (by rw[hgp.1,hgp.2.1,hgp.2.2.1,hLx];exact H6.1 _ _ _ HSp.out) (by rw[hgp.1];exact H6.2.1) (λat_ y h1 h2 j hj=>by
  have:(at_+1)*13<=k*13:=mul_le_mul_right 13 h1
  rw[hLx];exact yMk (by omega) (by omega))
 have HX:Hid (LdJ G (k+1) Ts NM Lx w6):=by
  refine HXk.next HXg.out ⟨λj v hv=>?_,λ_=>.inl ⟨hck,WD.heap.size,⟨HD.1.i.size,λX hX=>.inr (HD.1.ts.U X hX).1.lt⟩,?_,?_,?_⟩⟩
  .have hj:j<11:=(List.getElem?_eq_some_iff.1 hv).1;rw[hLx,yMk (by omega) (by omega)];exact HL4.2.1 j v hv
  .rw[han,hgp.2.2.2];exact yQs H6.2.2 HD.1.i.size
  .rw[hLx];exact(ySt (by rw[HL4.1];omega)).1
  .rw[hLx];exact(ySt (by rw[HL4.1];omega)).2
 have hS6:=SWm hS0 w6 <|by
  obtain⟨h0,h1,_⟩:=HSa.out _ _ _ _ HXk.out;have h2:=(HD.2.i H6.2.1 (λq=>yAb HD.2 HSp.out (by decide) _ rfl (by rw[q];rfl))).z (j:=1) rfl;rw[han]at h2;exact⟨h0,h1,h2⟩
 refine hK.out _ _ (.inr hS6) ?_;clear hK hS0 hLx hgp H6;refine jS ?_;refine qD ?_;clear hS6;obtain⟨Tx,hTx⟩:=qE Ts;obtain⟨NMx,hNx⟩:=qE NM;rw[<-hTx,<-hNx]at HX;clear hTx;exact zLdN):p:=h
theorem zLdT (h:p:=by
 have HD:Hid (LdJ G k Ts NM L4 w5.drew/\yA w5.drew G.w 153 11 wo x.ten):=⟨HW5.1.on ((Below.refl _ _).drew),HW5.2.k ((Below.refl _ _).drew)⟩;have HSt:Hid (∀(X:Ww)(Ts:List Tt)(NM:Nat)(L:List Vv),LdJ G k Ts NM L X->yA X G.w 153 11 wo x.ten->(λw':Ww=>xk w' mb 0 (xg p N N)/\xk w' w 0 (.map (some B))/\xk w' wo 4 (xi x.leaf.f)/\xk w' wo 5 x.leaf.s/\xk w' wo 6 x.leaf.hi/\xk w' wo 7 x.leaf.t/\xk w' wo 8 (xu x.leaf.lo)/\xk w' wo 9 (xu x.leaf.up)/\xk w' wo 10 (xi x.leaf.n)/\xk w' mb 0 (xg p N N)) X):=λX Ts NM L h b=>by have⟨h0,_,h2⟩:=HSa.out _ _ _ _ h;exact⟨h0,h2,b.z (j:=4) rfl,b.z (j:=5) rfl,b.z (j:=6) rfl,b.z (j:=7) rfl,b.z (j:=8) rfl,b.z (j:=9) rfl,b.z (j:=10) rfl,h0⟩
 have hS0:=HSt.out _ _ _ _ HD.1 HD.2;go_upto_region 9 with fail;refine yAf 99 (λw':Ww=>xk w' mb 0 (xg p N N)/\xk w' w 0 (.map (some B))/\xk w' wo 4 (xi x.leaf.f)/\xk w' wo 5 (.string x.leaf.s)/\w'.cell? (xd wo.heap.size 6)=some (.bool x.leaf.hi)/\w'.cell? (xd wo.heap.size 7)=some (.string x.leaf.t)/\w'.cell? (xd wo.heap.size 8)=some (.int .u64 x.leaf.lo)/\w'.cell? (xd wo.heap.size 9)=some (.int .u64 x.leaf.up)/\w'.cell? (xd wo.heap.size 10)=some (.int .i64 x.leaf.n)/\w'.cell? (xd mb 0)=some (.slice (some ⟨p,0,none⟩) N N)) (by kernel_rfl) ?_;generalize w5.drew=WD at HD hS0|-;apply ja 0 hS0;iterate 8 refine jb hS0 ?_
 have hge:G.B=B/\G.O=O/\G.p=p/\G.N=N/\G.w=w:=by rw[HGe.out];exact⟨rfl,rfl,rfl,rfl,rfl⟩
 have HTe:Hid (Calls prog 151 #[.agg #[.map (some B)],.agg #[.int .i64 x.leaf.f,.string x.leaf.s,.bool x.leaf.hi,.string x.leaf.t,.int .u64 x.leaf.lo,.int .u64 x.leaf.up,.int .i64 x.leaf.n]] WD (TeP O B NM Ts x.leaf WD)):=by
  have hB:=HO.B;have hm:=HD.1.map;have ht:=HD.1.ts;have h0:=HO.N0;have hz:=HD.1.i.size;rw[hge.1,hge.2.1]at hB;rw[hge.1]at hm;rw[hge.2.1]at ht;have hn0:G.N0=N0:=by rw[HGe.out]
  exact yWd hm ht hB.1 (by omega) (by omega) hB.2.2 HGo.1.2 HGo.1.1
 refine qO 9 rfl λK hK=>?_;go_simp;refine HTe.mono ?_;rintro e w6 ⟨T,rfl,H6⟩;have⟨NMx,Tx,hT1,hT2,hT3,hT4,hM6,hN6,hs6,hc6⟩:=H6.out;have HT:Hid (T∈Tx/\T.n=x.leaf):=⟨hT1,hT2⟩;have HD6:Hid (LdJ G k Tx NMx L4 w6/\yA w6 G.w.heap.size 153 11 wo.heap.size x.ten):=by have hB:=HO.B;rw[hge.1,hge.2.1]at hB;refine⟨HD.1.test HO.out (by rw[hge.1];exact hM6) (by rw[hge.2.1];exact hs6) hT3 hT4 (by rw[hge.1];exact hc6),HD.2.i hc6 (λq=>?_)⟩;have:=HD.2.lt;omega
 have hS6:=HSt.out _ _ _ _ HD6.1 HD6.2;clear H6 hT1 hT2 hT3 hT4 hM6 hs6 hc6 HTe HD hS0;refine hK.out _ _ (.inr hS6) ?_;clear hK;refine jS ?_;have HSp:Hid (yFq w6 w.heap.size p N L4):=by have h9:=HD6.1.stp;rw[HGe.out]at h9;exact h9
 obtain⟨tt,htt⟩:=qE T.t;have HBd:Hid (Calls prog 150 #[.pointer (some ⟨p,k*13,none⟩),.pointer (some ⟨tt,0,none⟩)] w6 (BdT w6 p (k*13) (xAz x.leaf T.mp) (hntV x.leaf.f tt))):=by
  obtain⟨u,hu⟩:=yJi HSp.out (show k*13+11<N*13 by omega);obtain⟨v,hv⟩:=yJi HSp.out (show k*13+12<N*13 by omega);have hta:=(HD6.1.ts.U T HT.1).1;have hcv:=hta.ctv;rw[HT.2]at hcv;have hor:=HD6.1.ord;have hne:¬p=T.t:=by have h1:=hta.r1;have h2:=hta.r2;rw[hge.2.2.1]at hor;rcases HD6.1.new T HT.1 with q|q<;>omega
  rw[htt];exact yP3 hcv hne htk (yDh HSp.out (HL4.2.1 4 _ rfl)) (yDh HSp.out hu) (yDh HSp.out hv) (λj=>World.ownsRow.frozenAt HSp.out j)
 rw[<-htt];have HTt:Hid (tt=T.t):=htt;clear htt;refine qO 10 rfl λK hK=>?_;go_simp;refine HBd.mono ?_;rintro e w7 ⟨rfl,H7⟩;obtain⟨Lx,hLx⟩:=qE ((L4.set (k*13+11) (xAz x.leaf T.mp)).set (k*13+12) (hntV x.leaf.f tt));have HXk:Hid (LdJ G k Tx NMx Lx w7):=HD6.1.steps HO.out (by rw[hge.2.2.1,hge.2.2.2.1,hge.2.2.2.2,hLx];exact H7.1 _ _ _ HSp.out) (by rw[hge.2.2.1];exact H7.2) (λat_ y h1 h2 j hj=>by
  have:(at_+1)*13<=k*13:=mul_le_mul_right 13 h1
  rw[hLx];exact yMk (by omega) (by omega))
 have HX:Hid (LdJ G (k+1) Tx NMx Lx w7):=by
  refine HXk.next HXg.out ⟨λj v hv=>?_,λ_=>.inr ⟨htk,T,HT.1,HT.2,?_,?_⟩⟩
  .have hj:j<11:=(List.getElem?_eq_some_iff.1 hv).1;rw[hLx,yMk (by omega) (by omega)];exact HL4.2.1 j v hv
  .rw[hLx];exact(ySt (by rw[HL4.1];omega)).1
  .rw[hLx,<-HTt.out];exact(ySt (by rw[HL4.1];omega)).2
 have hS7:=HSt.out _ _ _ _ HXk.out (HD6.2.i H7.2 (λq=>yAb HD6.2 HSp.out (by decide) _ rfl (by rw[q];rfl)));refine hK.out _ _ (.inr hS7) ?_;clear hK hS6 hLx hge H7;refine jS ?_;refine qD ?_;clear hS7;exact zLdN):p:=h
theorem zLdK (h:p:=by
 obtain⟨x,hx⟩:∃x,l[k]?=some x:=qg (by have:=HO.N;rw[HGe]at this;simp only at this;omega);have HX0:Hid (l[k]?=some x):=hx;have HXg:Hid (G.l[k]?=some x):=by rw[HGe.out];exact hx
 have hxa:yBh wo G.bI G.oI G.l:=HO.ins.i HJ.i HO.bI.1 HO.bI.2;have⟨x0,x1,x2,x3,x4,x5,x6,x7,x8,x9,x10⟩:=hxa k x HXg.out;rw[HGe.out]at x0 x1 x2 x3 x4 x5 x6 x7 x8 x9 x10;simp only at x0 x1 x2 x3 x4 x5 x6 x7 x8 x9 x10;have zk:(k:Int)<(N:Int):=by omega
 have⟨W2,hW2⟩:=qE (xw wo #[xi x.op,xi x.a,xi x.b,x.free,xi x.leaf.f,x.leaf.s,x.leaf.hi,x.leaf.t,xu x.leaf.lo,xu x.leaf.up,xi x.leaf.n] 153:Ww);have HW2:Hid (LdJ G k Ts NM L W2.drew/\yA W2.drew G.w 153 11 wo x.ten):=by
  have k2:=qN hW2
  have b2:yA W2 G.w 153 11 wo x.ten:=by rw[hW2];exact yAa wo _ HJ.i.size rfl
  exact⟨(HJ.on k2).on ((Below.refl _ _).drew),b2.k ((Below.refl _ _).drew)⟩
 have HSa:Hid (∀(X:Ww)(Ts:List Tt)(NM:Nat)(L:List Vv),LdJ G k Ts NM L X->xk X mb 0 (xg p N N)/\xk X mb 1 (xg g nk nk)/\xk X w 0 (.map (some B))):=λX Ts NM L h=>by obtain⟨h0,h1⟩:=h.mch.c2;have h2:=h.ldr.z (j:=0) rfl;rw[HGe.out]at h0 h1 h2;exact⟨h0,h1,h2⟩
 have HSb:Hid (∀X:Ww,yA X G.w 153 11 wo x.ten->(xk X mb 0 (xg p N N):Prop)->(λw':Ww=>xk w' mb 0 (xg p N N)/\xk w' wo 0 (xi x.op)/\xk w' wo 1 (xi x.a)/\xk w' wo 2 (xi x.b)/\xk w' wo 3 x.free/\xk w' wo 4 (xi x.leaf.f)/\xk w' wo 5 x.leaf.s/\xk w' wo 6 x.leaf.hi/\xk w' wo 7 x.leaf.t/\xk w' wo 8 (xu x.leaf.lo)/\xk w' wo 9 (xu x.leaf.up)/\xk w' wo 10 (xi x.leaf.n)/\xk w' mb 0 (xg p N N)/\xk w' mb 0 (xg p N N)/\xk w' mb 0 (xg p N N)/\xk w' mb 0 (xg p N N)/\xk w' mb 0 (xg p N N)/\xk w' mb 0 (xg p N N)) X):=λX b h0=>
  ⟨h0,b.z (j:=0) rfl,b.z (j:=1) rfl,b.z (j:=2) rfl,b.z (j:=3) rfl,b.z (j:=4) rfl,b.z (j:=5) rfl,b.z (j:=6) rfl,b.z (j:=7) rfl,b.z (j:=8) rfl,b.z (j:=9) rfl,b.z (j:=10) rfl,h0,h0,h0,h0,h0,h0⟩
 have hS0:=HSb.out _ HW2.2 (HSa.out _ _ _ _ HW2.1).1;go_upto_region 5 with fail;rw[<-hW2];refine yAf 99 (λw':Ww=>xk w' mb 0 (xg p N N)/\xk w' wo 0 (xi x.op)/\xk w' wo 1 (.int .i64 x.a)/\w'.cell? (xd wo.heap.size 2)=some (.int .i64 x.b)/\w'.cell? (xd wo.heap.size 3)=some (.bool x.free)/\w'.cell? (xd wo.heap.size 4)=some (.int .i64 x.leaf.f)/\w'.cell? (xd wo.heap.size 5)=some (.string x.leaf.s)/\w'.cell? (xd wo.heap.size 6)=some (.bool x.leaf.hi)/\w'.cell? (xd wo.heap.size 7)=some (.string x.leaf.t)/\w'.cell? (xd wo.heap.size 8)=some (.int .u64 x.leaf.lo)/\w'.cell? (xd wo.heap.size 9)=some (.int .u64 x.leaf.up)/\w'.cell? (xd wo.heap.size 10)=some (.int .i64 x.leaf.n)/\w'.cell? (xd mb 0)=some (.slice (some ⟨p,0,none⟩) N N)/\w'.cell? (xd mb 0)=some (.slice (some ⟨p,0,none⟩) N N)/\w'.cell? (xd mb 0)=some (.slice (some ⟨p,0,none⟩) N N)/\w'.cell? (xd mb 0)=some (.slice (some ⟨p,0,none⟩) N N)/\w'.cell? (xd mb 0)=some (.slice (some ⟨p,0,none⟩) N N)/\w'.cell? (xd mb 0)=some (.slice (some ⟨p,0,none⟩) N N)) (by kernel_rfl) ?_;generalize W2.drew=WD at HW2 hS0|-;apply ja 0 hS0;iterate 7 apply jb hS0
 have HSp:Hid (yFq WD w.heap.size p N L):=by have h9:=HW2.1.stp;rw[HGe.out]at h9;exact h9
 have hcell:∀j,j<N*13->∃v,WD.cell? (xd p j)=some v:=λj hj=>by obtain⟨v,hv⟩:=yJi HSp.out hj;exact⟨v,yDh HSp.out hv⟩
 have fz:∀j,WD.frozen? ⟨p,j,none⟩=false:=λj=>World.ownsRow.frozenAt HSp.out j;obtain⟨W4,hW4⟩:=qE (setCs WD p (k*13) x.ten:Ww);obtain⟨L4,hL4⟩:=qE (setL L (k*13) x.ten);have HLn:Hid (L.length=N*13):=HSp.1;have HL4:Hid (L4.length=N*13/\(∀j v,x.ten[j]?=some v->L4[k*13+j]?=some v)/\(∀j,j<k*13\/k*13+11<=j->L4[j]?=L[j]?)):=by
  have hll:x.ten.length=11:=rfl;have hg:∀j,L4[j]?=if k*13<=j/\j<k*13+11/\j<L.length then x.ten[j-k*13]? else L[j]?:=λj=>by rw[hL4,yMl,hll]
  refine⟨?_,λj v hv=>?_,λj hj=>?_⟩
  .have h1:(setCs WD p (k*13) x.ten).ownsRow w.heap.size 234 13 (.slice (some ⟨p,0,none⟩) N N) N (setL L (k*13) x.ten):=yB4 (v:=.slice (some ⟨p,0,none⟩) N N) rfl ⟨N,rfl⟩ x.ten (k*13) WD L HSp.out;rw[hL4];exact h1.1
  .have hj:=(List.getElem?_eq_some_iff.1 hv).1;rw[hll]at hj;rw[hg,iB ⟨by omega,by omega,by have:=HLn.out;omega⟩,Nat.add_sub_cancel_left];exact hv
  .rw[hg,iA (by omega)]
 have HW4:Hid (LdJ G k Ts NM L4 W4/\yA W4 G.w.heap.size 153 11 wo.heap.size x.ten):=by
  have hc4:Chg (λq=>q=p) WD W4:=by rw[hW4];exact yAo (S:=λq=>q=p) p rfl _ _ _
  have ho4:yFq W4 w.heap.size p N L4:=by rw[hW4,hL4];exact yB4 (v:=.slice (some ⟨p,0,none⟩) N N) rfl ⟨N,rfl⟩ x.ten (k*13) WD L HSp.out
  have hgp:G.p=p/\G.N=N/\G.w=w:=by rw[HGe.out];exact⟨rfl,rfl,rfl⟩
  refine⟨HW2.1.steps HO.out (by rw[hgp.1,hgp.2.1,hgp.2.2];exact ho4) (by rw[hgp.1];exact hc4) (λat_ y h1 h2 j hj=>HL4.2.2 _ (.inl (by have:(at_+1)*13<=k*13:=mul_le_mul_right 13 h1;omega))),HW2.2.i hc4 (λq=>?_)⟩;exact yAb HW2.2 HSp.out (by decide) _ rfl (by rw[q];rfl)
 have hS4:=HSb.out _ HW4.2 (HSa.out _ _ _ _ HW4.1).1;clear hL4;refine qO 8 rfl λK hK=>?_;refine yQj rfl _ _ 153 rfl p (k*13) rfl x.ten rfl (by kernel_rfl) (λj hj=>?_) fz (λv hv=>?_) ?_
 .obtain⟨v,hv⟩:=hcell (k*13+j) (by have hj2:j<11:=hj;omega);rw[hv];rfl
 .have hv2:v∈ [Value.int .i64 x.op,.int .i64 x.a,.int .i64 x.b,.bool x.free,.int .i64 x.leaf.f,.string x.leaf.s,.bool x.leaf.hi,.string x.leaf.t,.int .u64 x.leaf.lo,.int .u64 x.leaf.up,.int .i64 x.leaf.n]:=hv;simp only[mem_cons,not_mem_nil,or_false]at hv2;rcases hv2 with rfl|rfl|rfl|rfl|rfl|rfl|rfl|rfl|rfl|rfl|rfl<;>rfl
 rw[<-hW4];refine hK.out _ _ (.inr hS4) ?_;clear hK hW4 hS0 hcell fz HW2 HSp;refine jS ?_;refine qD ?_;have y0:=HW4.2.z (j:=0) rfl;have y4:=HW4.2.z (j:=4) rfl;clear hS4;by_cases ho:x.op=1
 .have hb:(x.op==1)=true:=by simp[ho]
  rw[ho]at y0;have hgf:=HO.good k x HXg.out ho;have HGo:Hid ((yCz x.leaf/\x.leaf.ok)/\(cntK x.leaf.f->0<=x.a/\x.a<G.cnt)):=⟨⟨yDk hgf.1 x.leaf (by simp),(HO.ok x (mem_of_getElem? HXg.out)).leaf⟩,hgf.2⟩;have hlk:=yXt hgf.1;clear hgf;go_wp2_with fail;refine(yJ1 x.leaf.f W4).mono ?_;rintro e w5 ⟨r,rfl,hr,hb5⟩;have HW5:Hid (LdJ G k Ts NM L4 w5/\yA w5 G.w.heap.size 153 11 wo.heap.size x.ten):=⟨HW4.1.on hb5,HW4.2.k hb5⟩;clear hb5 y0 y4 HW4;rcases hlk with hck|htk
  .obtain rfl:r=true:=hr.2 hck;clear hr;exact zLdC
  .have hnc:¬cntK x.leaf.f:=by unfold tstK at htk;unfold cntK;omega
   obtain rfl:r=false:=by
    cases r
    .rfl
    .exact absurd (hr.1 rfl) hnc
   clear hr;exact zLdT
 .have hb:(x.op==1)=false:=by simp[ho]
  have HX:Hid (LdJ G (k+1) Ts NM L4 W4):=HW4.1.next HXg.out ⟨HL4.2.1,λq=>absurd q ho⟩;obtain⟨Tx,hTx⟩:=qE Ts;obtain⟨NMx,hNx⟩:=qE NM;obtain⟨Lx,hLx⟩:=qE L4;rw[<-hTx,<-hNx,<-hLx]at HX;clear hTx hLx;exact zLdN):p:=h
theorem zLdS (h:p:=by
 have hS5:SW (λw':Ww=>xk w' (w+1) 0 (.slice (some ⟨bI,oI,none⟩) N cI)/\xk w' (w+1) 1 (xi nk)) W5:=⟨H5.2.1.z (j:=0) rfl,H5.2.1.z (j:=1) rfl⟩;apply hK.out _ _ (.inr hS5);refine jS ?_;refine ja 7 hS5 ?_;have⟨W6,hW6⟩:=qE (xw W5 #[xg p N N,xg g nk nk,.slice none 0 0] 230:Ww);have⟨mb,hmb⟩:=qE W5.heap.size;have⟨G,hG⟩:=qE (⟨w,B,l,N,bI,oI,cI,(nk:Int),p,g,mb,nk,O,Ts0,N0⟩:LdG);have H6:Hid (∃L,LdJ G 0 Ts0 N0 L W6):=by
  obtain⟨h1,h2,h3,⟨L,h4⟩,h5,h6,h7,h8,h9,h10⟩:=H5.out;have k6:Below W5 W5 W6:=by rw[hW6];exact qB
  have kb:Below w.heap.size w W6:=h3.trans (k6.mono h3.size);have kc:Chg (λ_=>False) w W6:=Chg.h kb;rw[hG];exact⟨L,h1.k k6,h2.k k6,yAg h4 (S:=λ_=>False) (Chg.h k6) (λ_ _ q=>q),h5.k k6,by rw[hmb,hW6];exact yAa W5 _ h3.size rfl,HM.1.i kc (λq=>q),HM.2.i kc (λq z=>z.elim) (λq=>q),λX hX=>hX,λX hX=>.inl ⟨hX,(HM.2.U X hX).1.lt⟩,⟨h6,h7,h8,by show p<mb;omega,by show g<mb;omega⟩,λat_ x h=>absurd h (not_lt_zero _),kc.mono (λq z=>z.elim)⟩
 have hS6:=SWm hS5 W6 <|by
  have k6:Below W5 W5 W6:=by rw[hW6];exact qB
  exact⟨(H5.2.1.k k6).z (j:=0) rfl,(H5.2.1.k k6).z (j:=1) rfl⟩
 have HGe:Hid (G=⟨w,B,l,N,bI,oI,cI,(nk:Int),p,g,mb,nk,O,Ts0,N0⟩):=hG;have HO:Hid (LdO G):=by rw[hG];exact HO0.out p g mb
 clear hG;refine qO 8 rfl λK hK=>?_;go_simp;rw[<-hW6];(try simp only[<-hmb]);refine hK.out _ _ (.inr hS6) ?_;clear hK hW6 hS5 hmb H5;refine jS ?_;refine qO 9 rfl λK hK=>?_;go_simp;refine hK.out _ _ (.inr hS6) ?_;clear hK;refine jS ?_;refine qD ?_;obtain⟨c0,c1⟩:=hS6;go_wp2_with fail;go_loopw[20] (λkv wr=>∃(k NM:Nat)(Ts:List Tt)(L:List Vv),k<=N/\NM<=N0+k/\kv=.int .i64 (k:Int)/\Hid (LdJ G k Ts NM L wr)) (λkv _=>N-(intOf kv).toNat);case atStart=>
  obtain⟨L,hL⟩:=H6.out;exact⟨0,N0,Ts0,L,zero_le _,by omega,rfl,hL⟩
 case round=>
  clear H6 c0 c1;obtain⟨k,NM,Ts,L,hk,hnm,rfl,HJ⟩:=hrel;obtain⟨wo,hwo⟩:=qE (wr:Ww);subst hwo;by_cases hlt:k<N
  .as_aux_lemma=>exact zLdK
  .have zk:¬(k:Int)<(N:Int):=by omega
   have HE:Hid (∃p g Ts NM L,NM<=N0+N/\LdJ ⟨w,B,l,N,bI,oI,cI,(nk:Int),p,g,mb,nk,O,Ts0,N0⟩ N Ts NM L wo):=by
    have hkN:k=N:=by omega
    subst hkN;have h9:=HJ.out;rw[HGe.out]at h9;exact⟨p,g,Ts,NM,L,hnm,h9⟩
   go_wp2_with fail;go_ret;exact⟨mb,rfl,HE⟩):p:=h
variable {B bI oI cI nk:Nat} {l:List Ix} {cnt:Int}
theorem yOz(hO:∀p g mb,LdO ⟨w,B,l,N,bI,oI,cI,cnt,p,g,mb,nk,O,Ts0,N0⟩)(hM:MpA w B N0 Ts0)(hT:TsA O Ts0 w):
  Calls prog 101 #[.agg #[.map (some B)],.agg #[.slice (some ⟨bI,oI,none⟩) N cI,xi cnt]] w (xBk w B l N bI oI cI cnt nk O Ts0 N0):=by
 have a7:cnt=(nk:Int):=(hO 0 0 0).nk.symm;have a9:N<=4000:=(hO 0 0 0).Nl;have a8:nk<=200:=(hO 0 0 0).nkl;subst a7;have HO0:Hid (∀p g mb,LdO ⟨w,B,l,N,bI,oI,cI,(nk:Int),p,g,mb,nk,O,Ts0,N0⟩):=hO;have⟨W0,a3⟩:=qE (xw (w.alloc (Obj.cells #[.map (some B)] 174)) #[.slice (some ⟨bI,oI,none⟩) N cI,xi nk] 32:Ww);have H0:Hid (yA W0 w 174 1 w [.map (some B)]/\yA W0 w 32 2 (w+1) [.slice (some ⟨bI,oI,none⟩) N cI,xi nk]/\Below w w W0/\W0.heap.size=w.heap.size+2):=by
  have⟨X,hX⟩:=qE (xw w #[.map (some B)] 174:Ww);rw[<-hX]at a3;have zx:=qS hX
  have k1:=qN hX
  have k2:=qN a3
  have b1:yA X w 174 1 w [.map (some B)]:=by rw[hX];exact yAa w _ qr rfl
  have b2:yA W0 w 32 2 (w+1) [.slice (some ⟨bI,oI,none⟩) N cI,xi nk]:=by rw[a3,<-zx];exact yAa X _ (by omega) rfl
  exact⟨b1.k k2,b2,k1.trans (k2.mono (by omega)),by rw[a3];simp;omega⟩
 have HM:Hid (MpA w B N0 Ts0/\TsA O Ts0 w):=⟨hM,hT⟩;clear hO hM hT;go_enter func101,ntmps101;go_upto_region 1 with fail;rw[<-a3];have HD:Hid (yA W0.drew w 174 1 w [.map (some B)]/\yA W0.drew w 32 2 (w+1) [.slice (some ⟨bI,oI,none⟩) N cI,xi nk]/\Below w w W0.drew/\W0.drew.heap.size=w.heap.size+2):=by have k:=(Below.refl W0 W0).drew;exact⟨H0.1.k k,H0.2.1.k k,H0.2.2.1.trans (k.mono H0.2.2.1.size),H0.2.2.2⟩
 have hS0:SW (λw':Ww=>xk w' (w+1) 0 (.slice (some ⟨bI,oI,none⟩) N cI)/\xk w' (w+1) 1 (xi nk)) W0.drew:=⟨HD.2.1.z (j:=0) rfl,HD.2.1.z (j:=1) rfl⟩;have⟨ip,a5,p1,p2,p3⟩:=info_parts Tryz.infoSp;have⟨ig,a6,g1,g2,g3⟩:=info_parts Tryz.infoKc;have a1:Hid (prog.info? 234=some ip/\ip.zero=some (.agg #[xi 0,xi 0,xi 0,false,xi 0,xe,false,xe,xu 0,xu 0,xi 0,.nilFunc,.nilFunc])/\ip.size=13/\ip.bytes=120):=⟨a5,p1,p2,p3⟩;have a2:Hid (prog.info? 240=some ig/\ig.zero=some (.agg #[xe,xe,xe,xi 0])/\ig.size=4/\ig.bytes=56):=⟨a6,g1,g2,g3⟩;clear a5 p1 p2 p3 a6 g1 g2 g3;refine wpR 99 hS0 ?_;generalize W0.drew=WD at HD hS0|-;refine ja 0 hS0 ?_;iterate 2 refine jb hS0 ?_
 refine ja 4 hS0 ?_;refine jb hS0 ?_;refine yB0 (i:=3) (j:=6) (by kernel_rfl) rfl rfl (λK hK=>?_) (λK hK=>?_)
 .refine yGw WD rfl _ _ 226 rfl w 234 ip _ 13 underlying226 a1.1 a1.2.1 a1.2.2.1 .i64 .i64 _ _ N rfl rfl rfl rfl (by rw[a1.2.2.2];omega) (by unfold maxLen;omega) HD.2.2.1.size (λw3 hO3 hg3 hz3=>?_);have a0:Below WD WD w3:=yEy hg3;have hS3:=SWm hS0 w3 <|⟨(HD.2.1.k a0).z (j:=0) rfl,(HD.2.1.k a0).z (j:=1) rfl⟩;refine hK.out _ _ (.inr hS3) ?_;clear hK hS0;refine jS ?_;refine qO 6 rfl λK hK=>?_;refine yGw w3 rfl _ _ 227 rfl w 240 ig _ 4 underlying227 a2.1 a2.2.1 a2.2.2.1 .i64 .i64 _ _ nk rfl rfl rfl rfl (by rw[a2.2.2.2];omega) (by unfold maxLen;omega) (by have:=HD.2.2.1.size;omega) (λW5 hO5 hg5 hz5=>?_);have hb5:Below w3 w3 W5:=yEy hg5;obtain⟨p,hp⟩:=qE WD.heap.size;obtain⟨g,hg⟩:=qE w3.heap.size;have H5:Hid (yA W5 w.heap.size 174 1 w.heap.size [.map (some B)]/\yA W5 w.heap.size 32 2 (w.heap.size+1) [.slice (some ⟨bI,oI,none⟩) N cI,.int .i64 (nk:Int)]/\Below w.heap.size w W5/\(∃L,yFq W5 w.heap.size p N L)/\yFr W5 w.heap.size g nk (AA nk newC)/\w.heap.size+1<p/\w.heap.size+1<g/\¬p=g/\p<W5.heap.size/\g<W5.heap.size):=by have hz:=HD.2.2.2;have a4:=HD.2.2.1;rw[yTi yIg (by decide) newC (AK (.agg #[.string ⟨#[]⟩,.string ⟨#[]⟩,.string ⟨#[]⟩,.int .i64 0])) rfl nk]at hO5;refine⟨(HD.1.k a0).k hb5,(HD.2.1.k a0).k hb5,(a4.trans (a0.mono a4.size)).trans (hb5.mono (by omega)),⟨_,by rw[hp];exact yAg hO3 (S:=λ_=>False) (Chg.h hb5) (λ_ _ q=>q)⟩,by rw[hg];unfold yFr OwnG;rw[AB];exact hO5,by omega,by omega,by omega,by omega,by omega⟩
  rw[<-hp,<-hg];clear hO3 hg3 hz3 a0 hO5 hg5 hz5 hb5 hp hg HD;exact zLdS
 .refine yGw WD rfl _ _ 227 rfl w.heap.size 240 ig _ 4 underlying227 a2.1 a2.2.1 a2.2.2.1 .i64 .i64 _ _ nk rfl rfl rfl rfl (by rw[a2.2.2.2];omega) (by unfold maxLen;omega) HD.2.2.1.size (λw3 hO3 hg3 hz3=>?_);have a0:Below WD.heap.size WD w3:=yEy hg3;have hS3:(λw':Ww=>w'.cell? (xd (w.heap.size+1) 0)=some (.slice (some ⟨bI,oI,none⟩) N cI)/\w'.cell? (xd (w.heap.size+1) 1)=some (.int .i64 (nk:Int))) w3:=⟨(HD.2.1.k a0).z (j:=0) rfl,(HD.2.1.k a0).z (j:=1) rfl⟩;refine hK.out _ _ (.inr hS3) ?_;clear hK hS0;refine jS ?_;refine qO 3 rfl λK hK=>?_;refine yGw w3 rfl _ _ 226 rfl w.heap.size 234 ip _ 13 underlying226 a1.1 a1.2.1 a1.2.2.1 .i64 .i64 _ _ N rfl rfl rfl rfl (by rw[a1.2.2.2];omega) (by unfold maxLen;omega) (by have:=HD.2.2.1.size;omega) (λW5 hO5 hg5 hz5=>?_);have hb5:Below w3.heap.size w3 W5:=yEy hg5;have⟨g,hg⟩:=qE WD.heap.size;have⟨p,hp⟩:=qE w3.heap.size;have H5:Hid (yA W5 w.heap.size 174 1 w.heap.size [.map (some B)]/\yA W5 w.heap.size 32 2 (w.heap.size+1) [.slice (some ⟨bI,oI,none⟩) N cI,.int .i64 (nk:Int)]/\Below w.heap.size w W5/\(∃L,yFq W5 w.heap.size p N L)/\yFr W5 w.heap.size g nk (AA nk newC)/\w+1<p/\w+1<g/\¬p=g/\p<W5/\g<W5):=by have hz:=HD.2.2.2;have a4:=HD.2.2.1;rw[yTi yIg (by decide) newC (AK (.agg #[.string ⟨#[]⟩,.string ⟨#[]⟩,.string ⟨#[]⟩,.int .i64 0])) rfl nk]at hO3;refine⟨(HD.1.k a0).k hb5,(HD.2.1.k a0).k hb5,(a4.trans (a0.mono a4.size)).trans (hb5.mono (by omega)),⟨_,by rw[hp];exact hO5⟩,?_,by omega,by omega,by omega,by omega,by omega⟩;rw[hg];have h9:=yAg hO3 (S:=λ_=>False) (Chg.h hb5) (λ_ _ q=>q);unfold yFr OwnG;rw[AB];exact h9
  rw[<-hp,<-hg];clear hO3 hg3 hz3 a0 hO5 hg5 hz5 hb5 hp hg HD;exact zLdS
theorem TsA.side(h:TsA O Ts W)(hc:Chg S W W')(hS:∀q,S q->∀X∈Ts,q<X.lo\/X.t<q)(hv:¬S 1):TsA O Ts W':=
 ⟨λT hT=>⟨(h.U T hT).1.i hc (λq hq z=>qw (hS q hq T hT)) hv,(h.U T hT).2⟩,h.apart,h.tab.i hc hv,h.tabl⟩
variable {T:Tt}
theorem TsA.one(h:TsA O Ts W)(hT:T∈Ts)(hc:Chg (InB T.lo T.hi) W W')(ht:yDq W' T.lo T.hi T.n (.pointer T.mp)):TsA O Ts W':=by
 have hv:¬InB T.lo T.hi 1:=λq=>qv ((h.U T hT).1.tab) q.1
 refine⟨λX hX=>?_,h.apart,h.tab.i hc hv,h.tabl⟩;refine⟨?_,(h.U X hX).2⟩;have hx:=(h.U X hX).1;have h1:=hx.r1;have h2:=hx.r2;have a1:=(h.U T hT).1;have t1:=a1.r1;have t2:=a1.r2;by_cases e:X=T
 .subst e;have hn:¬InB X.lo X.hi X.t:=λq=>qw q.2
  have a0:∀j,W'.cell? (xd X.t j)=W.cell? (xd X.t j):=λj=>hc.z (p:=(xd X.t j)) hx.lt hn;have⟨c0,c1,c2,c3,c4,c5,c6,c7⟩:=hx.ctv;exact⟨⟨(a0 0).trans c0,(a0 1).trans c1,(a0 2).trans c2,(a0 3).trans c3,(a0 4).trans c4,(a0 5).trans c5,(a0 6).trans c6,(a0 7).trans c7⟩,(a0 8).trans hx.low,Nat.lt_of_lt_of_le hx.lt hc.size,ht,h1,h2,hx.tab⟩
 .have a2:X.t<T.lo\/T.t<X.lo:=by
   have hp:=h.apart;induction Ts with
   |nil=>cases hX
   |cons Y Ys ih=>
    have⟨p1,p2⟩:=List.pairwise_cons.1 hp;rcases AN.1 hX with x1|x1
    .rcases AN.1 hT with y1|y1
     .exact absurd (x1.trans y1.symm) e
     .rw[x1];exact .inr (p1 T y1)
    .rcases AN.1 hT with y1|y1
     .rw[y1];exact .inl (p1 X x1)
     .exact ih ⟨λZ hZ=>h.U Z (mem_cons_of_mem _ hZ),p2,h.tab,h.tabl⟩ y1 x1 p2
  exact hx.i hc (λq hq z=>qv hq.1 hq.2) hv
theorem xA8(k:Int):EntF (cntF k):=by
 unfold cntF;split
 .exact yNk
 .split
  .exact yVf
  .exact yYi
variable {ks:List Ctr}
theorem xEs{k:Ctr}{n:Nd}(hk:cntK n.f)(h:CkA w O t g cap ks i k n.n)(c:Ent)(hkk:CtK k)(hr:¬c.j=⟨#[]⟩):
  Calls prog (cntF n.f) #[xp t,c.c] w λe w'=>e=.returned (yCm n k c).1/\yFr w' O g cap (ks.set i (yCm n k c).2)/\Chg (λq=>q=g) w w':=by
 have hc:0<=k.count/\k.count<=1000000:=⟨hkk.lo,qw hkk.up⟩;rcases hk with hk|hk|hk
 .have h1:=yYy (n:=n) hkk hr (k.j.toList==c.j.toList && (k.E.toList==c.E.toList && k.C.toList==c.C.toList)) (by simp[hk]);have⟨h2,h3⟩:=xCj h1 qo;rw[show cntF n.f=189 from by unfold cntF;rw[iB hk]];apply (yT9 h c hc).mono;rintro e w' ⟨q1,q2,q3⟩;rw[h2]at q1;rw[h3]at q2;exact⟨q1,q2.j,q3⟩
 .have h1:=yYy (n:=n) hkk hr (k.j.toList==c.j.toList) (by simp[hk]);have⟨h2,h3⟩:=xCj h1 qo;rw[show cntF n.f=191 from by unfold cntF;rw[iA qo,iB hk]];apply (yKb h c hc).mono;rintro e w' ⟨q1,q2,q3⟩;rw[h2]at q1;rw[h3]at q2;exact⟨q1,q2.j,q3⟩
 .have h1:=yYy (n:=n) hkk hr (k.j.toList==c.j.toList) (by simp[hk]);have⟨h2,h3⟩:=xBc h1 hk;rw[show cntF n.f=192 from by unfold cntF;rw[iA qo,iA qo]];apply (yUc h c hc).mono;rintro e w' ⟨q1,q2,q3⟩;rw[h2]at q1;rw[h3]at q2;exact⟨q1,q2.j,q3⟩
theorem TtA.lfa(h:TtA T W):LfA W T.t T.n (.pointer T.mp) (lowB T.n):=⟨h.ctv.t4,h.ctv.t7,h.low,h.lt⟩
theorem TtA.mv(h:TtA T W):(PatK T.n.f/\mvB (.pointer T.mp) true)\/(¬PatK T.n.f/\mvB (.pointer T.mp) false):=by
 rcases h.tst with⟨q,e⟩|⟨q,M,e,_⟩
 .exact .inr ⟨q,.inl ⟨e,rfl⟩⟩
 .exact .inl ⟨q,.inr ⟨M,e,rfl⟩⟩
theorem xEj(T:Tt)(hk:tstK T.n.f):∃(kh:Nat)(hv:Vv),hntV T.n.f T.t=.func (Fn.func kh) #[hv] #[]/\EntF kh/\∀(c:Ent)(W:Ww),TtA T W->(xf kh #[hv,c.c] W (yCa (pfxB T.n.s) T.n c).v:Prop):=by
 have a0:∀(r:Int),hntV T.n.f T.t=anyV r->(∀c,yCa (pfxB T.n.s) T.n c=⟨r,⟨#[]⟩⟩)->∃(kh:Nat)(hv:Vv),hntV T.n.f T.t=.func (Fn.func kh) #[hv] #[]/\EntF kh/\∀(c:Ent)(W:Ww),TtA T W->(xf kh #[hv,c.c] W (yCa (pfxB T.n.s) T.n c).v:Prop):=λr h1 h2=>
  ⟨_,_,h1,yLx,λc W hT=>by rw[h2 c];exact yLk ⟨r,⟨#[]⟩⟩ c W⟩
 have a1:hntV T.n.f T.t=ofT 194 T.t->(∀c W,TtA T W->∃m,mvB (.pointer T.mp) m/\txtH (lowB T.n) m c.j 5 4 6=yCa (pfxB T.n.s) T.n c)->∃(kh:Nat)(hv:Vv),hntV T.n.f T.t=.func (Fn.func kh) #[hv] #[]/\EntF kh/\∀(c:Ent)(W:Ww),TtA T W->(xf kh #[hv,c.c] W (yCa (pfxB T.n.s) T.n c).v:Prop):=λh1 h2=>
  ⟨_,_,h1,yPo,λc W hT=>by
    have⟨m,hm,h3⟩:=h2 c W hT
    rw[<-h3]
    exact yOl hT.lfa hm c⟩
 have a2:hntV T.n.f T.t=ofT 195 T.t->(∀c W,TtA T W->∃m,mvB (.pointer T.mp) m/\txtH (lowB T.n) m c.C 2 1 3=yCa (pfxB T.n.s) T.n c)->∃(kh:Nat)(hv:Vv),hntV T.n.f T.t=.func (Fn.func kh) #[hv] #[]/\EntF kh/\∀(c:Ent)(W:Ww),TtA T W->(xf kh #[hv,c.c] W (yCa (pfxB T.n.s) T.n c).v:Prop):=λh1 h2=>
  ⟨_,_,h1,yNl,λc W hT=>by
    have⟨m,hm,h3⟩:=h2 c W hT
    rw[<-h3]
    exact yMu hT.lfa hm c⟩
 rcases hk with h|h|h|h|h|h|h|h|h|h
 .exact xCt
 .exact a0 6 (by rw[h];rfl) (λc=>by unfold yCa;simp[h])
 .exact xCt
 .refine a1 (by rw[h];rfl) (λc W hT=>?_);rcases hT.mv with⟨q,hm⟩|⟨q,hm⟩
  .exact⟨true,hm,by rw[yQ7 q];unfold yCa txtH;simp[h]⟩
  .exact absurd (.inl h) q
 .exact a0 3 (by rw[h];rfl) (λc=>by unfold yCa;simp[h])
 .refine a2 (by rw[h];rfl) (λc W hT=>?_);rcases hT.mv with⟨q,hm⟩|⟨q,hm⟩
  .exact⟨true,hm,by rw[yQ7 q];unfold yCa txtH;simp[h]⟩
  .exact absurd (.inr (.inr (.inl h))) q
 .exact xCt
 .refine a1 (by rw[h];rfl) (λc W hT=>?_);exact xBx
 .refine a2 (by rw[h];rfl) (λc W hT=>?_);exact xBx
 .refine⟨_,_,by rw[h];rfl,yRx,λc W hT=>?_⟩;have h9:=yQg hT.lfa c;have h8:yCa (pfxB T.n.s) T.n c=(if c.ts<T.n.lo then(⟨1,⟨#[]⟩⟩:Hn)else noH):=by unfold yCa;simp[h]
  rw[h8];exact h9
structure MaD(G:MchG)(l:List Ix)(tb lo N:Nat)(Ts:List Tt)(L:List Vv):Prop where
 ti:G.TI=TsA tb Ts
 tq:G.T=λq=>∃X∈Ts,X.lo<=q/\q<X.hi
 sp:yFq G.w0 lo G.p N L
 pS:¬G.S G.p
 pT:∀X∈Ts,G.p<X.lo\/X.t<G.p
 gT:∀X∈Ts,G.g<X.lo\/X.t<G.g
 gl:G.g<G.w0
 gp:¬G.g=G.p
 gv:¬1=G.g
 cS:∀t vs,yA G.w0 lo 283 2 t vs->(∀X∈Ts,t<X.lo\/X.t<t)->¬G.S t/\¬t=G.g
 xl:∀X∈Ts,X.t<G.w0
 don:∀(at_:Nat)(x:Ix),l[at_]?=some x->StpD lo G.g Ts L at_ x G.w0
 good:∀(k:Nat)(x:Ix),l[k]?=some x->x.op=1->yCz x.leaf/\(cntK x.leaf.f->0<=x.a/\x.a<(G.nk:Int))
theorem yZ3{p:Nat}(h:yFq w O p N L)(hv:L[j]?=some v):(xk w p j v:Prop):=by have hj:=qf hv;rw[AG h j (qw h.1),hv]
variable {tb:Nat}
theorem xEf(hD:MaD G l tb lo N Ts L):xH9 G l:=by
 intro at_ x i c ks W hx ho aa a5 a9 aD a3 an;have ao:=(AE hD.sp G.p rfl).2;have a1:∀j v,L[at_*13+j]?=some v->(xk W G.p (at_*13+j) v:Prop):=λj v hv=>by rw[aa.z (p:=(xd G.p _)) ao hD.pS];exact yZ3 hD.sp hv
 have aB:=aa.size;cases hal:i.H
 .have au:leafI pfxB x c i ks=(i,ks):=by unfold leafI;rw[iA (by simp[hal])]
  apply (yXu hal).mono;rintro e w' ⟨rfl,hb⟩;unfold LfQ;rw[au];have hc:Chg (λ_=>False) W w':=Chg.h hb;refine⟨rfl,a9.k hb,a3,?_,hc.mono (λq z=>z.elim)⟩;rw[hD.ti]at a5|-;exact a5.side hc (λq z=>z.elim) (λz=>z)
 .have hd:=hD.don at_ x hx;have ag:=a1 3 _ (hd.ten 3 _ rfl);have ae:=a1 4 _ (hd.ten 4 _ rfl);have a0:TsA tb Ts W:=by rw[<-hD.ti];exact a5
  rcases hd.leaf ho with⟨a2,t,⟨aC,am⟩,hb,a8,hl2⟩|⟨ac,T,hT,a4,a8,hl2⟩
  .have⟨aw,af⟩:=hD.good at_ x hx ho;have af:=af a2;obtain⟨k,hk⟩:∃k,ks[x.a.toNat]?=some k:=qg qo;have ad:=a3 k (mem_of_getElem? hk);have⟨ak,al⟩:=hD.cS t _ hb am;have ab:=hb.i aa ak;have ay:¬(yBl i c).j=⟨#[]⟩:=by unfold yBl;split<;>exact an
   have a6:StA W G.p (at_*13) x (cntF x.leaf.f) (xp t) 190 (.agg #[xi (cntR x.leaf.f),xe]):=⟨ag,ae,a1 11 _ a8,a1 12 _ hl2,qo⟩
   have a7:=yO2 (i:=i) (c:=c) (d:=yBl i c) (b:=(yCm x.leaf k c).1) (H:=⟨cntR x.leaf.f,⟨#[]⟩⟩) (S:=λq=>q=G.g) (R:=λW1 W2=>yFr W2 G.O G.g G.cap (ks.set x.a.toNat (yCm x.leaf k c).2)/\Chg (λq=>q=G.g) W1 W2) hal (xA8 _) yLx a6 rfl (λW1 W2 h=>h.2) (λq hq=>by subst hq;exact⟨qw hD.gl,hD.gp⟩)
    (λW1 hb1=>by
     have az:CkA W1 G.O t G.g G.cap ks x.a.toNat k x.leaf.n:=⟨a9.k hb1,hk,(ab.k hb1).z (j:=0) rfl,(ab.k hb1).z (j:=1) rfl,(ab.k hb1).lt.2,al⟩
     apply (xEs a2 az (yBl i c) ad ay).mono
     rintro e w' ⟨q1,q2,q3⟩
     rw[yXl]at q1 q2
     exact⟨q1,q2,q3⟩)
    (λW1 _=>yLk ⟨cntR x.leaf.f,⟨#[]⟩⟩ (yBl i c) W1)
   have av:(⟨cntR x.leaf.f,⟨#[]⟩⟩:Hn)=yCa (pfxB x.leaf.s) x.leaf c:=by unfold cntR yCa;rcases a2 with q|q|q<;>simp[q,noH]
   apply a7.mono;rintro e w' ⟨rfl,W1,W2,p1,⟨p2,p3⟩,p4⟩;unfold LfQ;rw[yO3 hal a2 hk,av];have aG:=p1.size;have aF:=p3.size;have aE:=hD.gl;refine⟨rfl,p2.i p4 (by show¬_<=_;omega),λk' hk'=>?_,?_,?_⟩
   .rcases mem_or_eq_of_mem_set hk' with q|q
    .exact a3 k' q
    .rw[q];exact xD8 ad (by rcases aw.2.2.2 with z|z|z|z|z<;>(unfold cntK at a2;omega))
   .rw[hD.ti];have t1:=a0.side (S:=λ_=>False) (Chg.h p1) (λq z=>z.elim) (λz=>z);have t2:=t1.side p3 (λq hq X hX=>by subst hq;exact hD.gT X hX) hD.gv;exact t2.side p4 (λq hq X hX=>.inr (qw (hD.xl X hX))) (by show¬_<=_;have:=a0.tab.lt;omega)
   .refine((Chg.h p1).trans (p3.mono (λq hq=>.inl hq))).absorb p4 (λq hq=>.inr hq)
  .have aq:¬cntK x.leaf.f:=by unfold tstK at ac;unfold cntK;omega
   have aj:=(a0.U T hT).1;have aA:=hD.xl T hT;have r1:=aj.r1;have r2:=aj.r2;have⟨kh,hv,he,ax,ah⟩:=xEj T (a4▸ac);rw[a4]at he ah;rw[he]at hl2;have a6:StA W G.p (at_*13) x 193 (ctvV x.leaf (.pointer T.mp)) kh hv:=⟨ag,ae,a1 11 _ a8,a1 12 _ hl2,qo⟩;have ai:∀W1,LfP W (λW1 W2=>yDq W2 T.lo T.hi T.n (.pointer T.mp)/\Chg (InB T.lo T.hi) W1 W2) W1->TsA tb Ts W1/\Chg (InB T.lo T.hi) W W1:=λW1 h=>by have⟨V1,V2,p1,⟨p2,p3⟩,p4⟩:=h;have t1:=a0.side (S:=λ_=>False) (Chg.h p1) (λq z=>z.elim) (λz=>z);have t2:=t1.one hT p3 p2;exact⟨t2.side p4 (λq hq X hX=>.inr (qw (hD.xl X hX))) (by show¬_<=_;have:=a0.tab.lt;omega),((Chg.h p1).trans p3).absorb p4 (λq hq=>.inr hq)⟩
   have a7:=yO2 (i:=i) (c:=c) (d:=yBl i c) (b:=tstB x.leaf (yBl i c)) (H:=yCa (pfxB x.leaf.s) x.leaf c) (S:=InB T.lo T.hi) (R:=λW1 W2=>yDq W2 T.lo T.hi T.n (.pointer T.mp)/\Chg (InB T.lo T.hi) W1 W2) hal yVe ax a6 rfl (λW1 W2 h=>h.2) (λq hq=>⟨qw hq.2,λz=>by have h9:=hD.pT T hT;have:=hq.1;have:=hq.2;omega⟩)
    (λW1 hb1=>by
     have t1:=a0.side (S:=λ_=>False) (Chg.h hb1) (λq z=>z.elim) (λz=>z)
     have⟨mp,ar,hc⟩:=yV T.n (yBl i c) (.pointer T.mp) W1 T.lo T.hi (t1.U T hT).1.tst (qw hb1.size)
     cases ar
     rw[a4]at hc
     apply hc.mono
     rintro e w' ⟨q1,q2⟩
     refine⟨q1,?_,q2.2⟩
     rw[a4];exact q2.1)
    (λW1 h=>by
     have h9:=ah (yBl i c) W1 ((ai W1 h).1.U T hT).1
     rw[yX9]at h9
     exact h9)
   apply a7.mono;rintro e w' ⟨rfl,h⟩;have⟨t9,c9⟩:=ai w' h;unfold LfQ;rw[yTm hal aq];refine⟨rfl,a9.i c9 (λq=>?_),a3,by rw[hD.ti];exact t9,c9.mono (λq hq=>.inr ?_)⟩
   .have:=hD.gT T hT;have:=q.1;have:=q.2;omega
   .rw[hD.tq];exact⟨T,hT,hq⟩
structure Md where
 lo:Nat
 p:Nat
 g:Nat
 mb:Nat
 N:Nat
 nk:Nat
 l:List Ix
 L:List Vv
structure MdA(d:Md)(Ts:List Tt)(W:Ww):Prop where
 sp:yFq W d.lo d.p d.N d.L
 ctr:yFr W d.lo d.g d.nk (AA d.nk newC)
 mch:yA W d.lo 230 3 d.mb [xg d.p d.N d.N,xg d.g d.nk d.nk,xh]
 ord:d.lo+1<d.p/\d.lo+1<d.g/\¬d.p=d.g/\d.p<d.mb/\d.g<d.mb
 new:∀X∈Ts,X.t<d.lo\/d.mb<X.lo
 don:∀(at_:Nat)(x:Ix),d.l[at_]?=some x->StpD d.lo d.g Ts d.L at_ x W
 X:d.N=d.l.length
theorem xHl{G:LdG}(h:LdJ G G.N Ts NM L W)(hN:G.N=G.l.length):MdA ⟨G.w,G.p,G.g,G.mb,G.N,G.nk,G.l,L⟩ Ts W:=
 ⟨h.stp,h.ctr,h.mch,h.ord,λX hX=>(h.new X hX).imp (λq=>q.2) (λq=>q),λat_ x hx=>h.done at_ x (by rw[hN];exact(List.getElem?_eq_some_iff.1 hx).1) hx,hN⟩
variable {d:Md}
theorem MdA.on(h:MdA d Ts W)(hc:Chg S W W')(hS:∀q,S q->q<d.lo\/W.heap.size<=q)(ho:∀X∈Ts,X∈Ts')(hnw:∀X∈Ts',X∈Ts\/W.heap.size<=X.lo):MdA d Ts' W':=by
 have a1:=h.ord;have a2:=h.mch.lt;have a0:∀q,d.lo<=q->q<W.heap.size->¬S q:=λq h1 h2 z=>by rcases hS q z with k|k<;>omega
 exact {h with
  sp:=yAg h.sp hc (λq hq=>by simp[AD]at hq;exact a0 _ qo qo)
  ctr:=h.ctr.i hc (a0 _ qo qo)
  mch:=h.mch.i hc (a0 _ qo qo)
  new:=λX hX=>by
   rcases hnw X hX with q|q
   .exact h.new X q
   .exact .inr qo
  don:=λat_ x hx=>(h.don at_ x hx).on ho hnw (λj _=>rfl) rfl hc (λt vs hb=>a0 _ hb.lt.1 hb.lt.2)}
abbrev mpF(d:Md):List Vv:= [.pointer (some ⟨d.mb,0,none⟩)]
theorem xCa(d:Md):(mpF d).length=1:=rfl
theorem xHk(d:Md):∀u∈mpF d,u.oneCell'=true:=λu hu=>by simp at hu;subst hu;rfl
theorem Tryz.infoMp:(prog.info? 94).map (λi=>(i.zero,i.size,i.bytes))=some (some (.pointer none),1,8):=qk
def RowM(w:Ww)(O:Nat)(v:Vv)(ds:List Md):Prop:=w.ownsRow O 94 1 v ds.length (ds.flatMap mpF)
theorem TsA.side2(h:TsA O Ts W)(hc:Chg S W W')(hS:∀q,S q->∀X∈Ts,X.t<q\/q<X.lo)(hv:¬S 1):TsA O Ts W':=
 ⟨λT hT=>⟨(h.U T hT).1.i hc (λq hq z=>qw (hS q hq T hT)) hv,(h.U T hT).2⟩,h.apart,h.tab.i hc hv,h.tabl⟩
structure MdsA(tb B NM:Nat)(Ts:List Tt)(ds:List Md)(W:Ww):Prop where
 map:MpA W B NM Ts
 ts:TsA tb Ts W
 Bb:B<tb
 md:∀d∈ds,MdA d Ts W/\tb<=d.lo
 apart:ds.Pairwise λd d'=>d.mb<d'.lo
variable {ds:List Md}
theorem MdsA.on(h:MdsA tb B NM Ts ds W)(hc:Chg S W W')(hS:∀q,S q->W.heap.size<=q\/(q<tb/\¬q=B/\¬q=1)):MdsA tb B NM Ts ds W':=by have a0:=h.map.lt;have hv:=h.ts.tab.lt;exact⟨h.map.i hc (λq=>by rcases hS _ q with k|k<;>omega),h.ts.i hc (λq hq=>(hS q hq).elim .inr (λk=>.inl k.1)) (λq=>by rcases hS _ q with k|k<;>omega),h.Bb,λd hd=>⟨(h.md d hd).1.on hc (λq hq=>(hS q hq).elim .inr (λk=>.inl (qw ((h.md d hd).2)))) (λX hX=>hX) (λX hX=>.inl hX),(h.md d hd).2⟩,h.apart⟩
theorem MdsA.load(h:MdsA tb B NM Ts ds W)(htb:tb<=W.heap.size)(hN:N=l.length)(hl:xBk W B l N bI oI cI cnt nk tb Ts NM e W'):
  ∃(d:Md)(Ts':List Tt)(NM':Nat),e=.returned (xp d.mb)/\MdsA tb B NM' Ts' (ds++ [d]) W'/\NM'<=NM+N/\Chg (λq=>q=B) W W'/\W.heap.size<=d.lo/\d.l=l/\d.N=N/\d.nk=nk/\(∀X∈Ts,X∈Ts')/\(∀X∈Ts',X∈Ts\/W.heap.size<=X.lo):=by
 have⟨mb,he,H⟩:=hl;have⟨p,g,Ts',NM',L,hn,hJ⟩:=H.out;have hd:=xHl hJ hN;have a0:∀X∈Ts',X∈Ts\/W.heap.size<=X.lo:=λX hX=>by
  rcases hJ.new X hX with q|q
  .exact .inl q.1
  .have a1:=hJ.mch.lt.1;exact .inr (by simp only at q a1;omega)
 refine⟨⟨W,p,g,mb,N,nk,l,L⟩,Ts',NM',he,⟨hJ.map,hJ.ts,h.Bb,λd' hd'=>?_,?_⟩,hn,hJ.i,Nat.le_refl _,rfl,rfl,rfl,hJ.old,a0⟩
 .rcases List.mem_append.1 hd' with q|q
  .exact⟨(h.md d' q).1.on hJ.i (λz hz=>.inl (by have:=(h.md d' q).2;have:=h.Bb;simp only at hz;omega)) hJ.old a0,(h.md d' q).2⟩
  .rw[AO]at q;subst q;exact⟨hd,htb⟩
 .refine List.pairwise_append.2 ⟨h.apart,pairwise_singleton _ _,λa ha b hb=>?_⟩;rw[AO]at hb;subst hb;exact(h.md a ha).1.mch.lt.2
variable {n:Nat}
theorem MdsA.turn(h:MdsA tb B NM Ts ds W)(hO:W.ownsRow O ty sz v n xs)(h1:¬234=ty)(h2:¬240=ty)(h3:¬230=ty)(h4:¬283=ty)
  (hq:∀k,v.ownBlock=some k->¬k=B/\¬k=1/\∀X∈Ts,X.t<k\/k<X.lo) (hc:Chg (λk=>v.ownBlock=some k) W W'):MdsA tb B NM Ts ds W':=by
 refine⟨h.map.i hc (λq=>(hq _ q).1 rfl),h.ts.side2 hc (λq z=>(hq q z).2.2) (λq=>(hq _ q).2.1 rfl),h.Bb,λd hd=>⟨?_,(h.md d hd).2⟩,h.apart⟩;have hm:=(h.md d hd).1
 exact {hm with
  sp:=yAg hm.sp hc (λk hk z=>yAb hm.sp hO h1 k hk z)
  ctr:=yAg hm.ctr hc (λk hk z=>yAb hm.ctr hO h2 k hk z)
  mch:=hm.mch.i hc (λz=>yAb hm.mch hO h3 _ rfl z)
  don:=λat_ x hx=>(hm.don at_ x hx).on (λX hX=>hX) (λX hX=>.inl hX) (λj _=>rfl) rfl hc (λt vs hb z=>yAb hb hO h4 _ rfl z)}
theorem xCc(hg:yB1 l cnt nc)(hok:∀x∈l,x.ok)(hN:N=l.length)(hnk:nk=cnt.toNat)(hI:yBh W bI oI l)(hb:bI<W.heap.size)(hB:B<tb)(hbB:¬bI=B)(htb:tb<=W.heap.size)(hv:¬1=B)(hNM:NM<=5000000)(p g mb:Nat):LdO ⟨W,B,l,N,bI,oI,cI,cnt,p,g,mb,nk,tb,Ts,NM⟩:=by
 have h3:=hg.2.2.1;have h4:=hg.2.2.2.1;have h2:=hg.2.1;have a0:∀(k:Nat)(x:Ix),l[k]?=some x->x.op=1->yB9 [x.leaf]/\(cntK x.leaf.f->0<=x.a/\x.a<cnt):=λk x hx ho=>by
  rcases yB5 hg hx with q|q|q|q
  .refine⟨q.2.1,λhc=>?_⟩;rcases q.2.2.2 with z|z
   .exact z.2
   .exact absurd hc z.1
  .have:=q.1;omega
  .have:=q.1;omega
  .have:=q.1;omega
 exact {B:=⟨hB,htb,hv⟩,N:=hN,Nl:=by show N<=4000;omega,nk:=by show((nk:Nat):Int)=cnt;omega,nkl:=by show nk<=200;omega,ins:=hI,bI:=⟨hb,hbB⟩,ok:=hok,N0:=hNM,good:=a0}
abbrev dkl(d:Md):Nat×List Ix:=(d.nk,d.l)
abbrev bkl(x:Bk):Nat×List Ix:=(x.cnt.toNat,x.l)
structure LcJ(w:Ww)(bs:List Bk)(m:Bk)(u mv:Vv)(pb k:Nat)(a:Option Addr)(n c:Nat)(d0:Md)(ds:List Md)(Ts:List Tt)(NM:Nat)(wr:Ww):Prop where
 cod:yA wr w 34 3 w [u,mv,xi m.cnt]
 res:yA wr w 96 2 (w+1) [xh,.pointer none]
 ldr:yA wr w 174 1 (w+1+1+1) [.map (some (w+1+1))]
 prg:yA wr w 96 2 pb [.slice a n c,xp d0.mb]
 j:RowM wr w (.slice a n c) ds
 nl:n=ds.length
 mds:MdsA (w+1+1+1) (w+1+1) NM Ts (d0::ds) wr
 pt:∀X∈Ts,X.t<pb\/pb<X.lo
 rt:∀q,(AF a n c).ownBlock=some q->¬q=w.heap.size+1+1/\∀X∈Ts,X.t<q\/q<X.lo
 pn:w.heap.size+1+1+1<pb
 dm:dkl d0=bkl m
 dsm:ds.map dkl=(bs.take k).map bkl
 k:Below w w wr
variable {bs:List Bk} {m:Bk}
variable {d0:Md}
theorem LcJ.on{u mv:Vv}(h:LcJ w bs m u mv pb k a n c d0 ds Ts NM wr)(hb:Below wr wr W):LcJ w bs m u mv pb k a n c d0 ds Ts NM W:=
 {h with
  cod:=h.cod.k hb,res:=h.res.k hb,ldr:=h.ldr.k hb,prg:=h.prg.k hb,j:=yAg h.j (S:=λ_=>False) (Chg.h hb) (λ_ _ q=>q)
  mds:=h.mds.on (S:=λ_=>False) (Chg.h hb) (λq z=>z.elim),k:=h.k.trans (hb.mono h.k.size)}
theorem LcJ.load{u mv:Vv}(h:LcJ w bs m u mv pb k a n c d0 ds Ts NM wr)(hm:MdsA (w+1+1+1) (w+1+1) NM' Ts' (d0::(ds++ [d])) W)(hc:Chg (λq=>q=w.heap.size+1+1) wr W)(hnw:∀X∈Ts',X∈Ts\/wr.heap.size<=X.lo):
  yA W w 34 3 w [u,mv,xi m.cnt]/\yA W w 96 2 (w+1) [xh,.pointer none]/\yA W w 174 1 (w+1+1+1) [.map (some (w+1+1))]/\yA W w 96 2 pb [.slice a n c,xp d0.mb]/\RowM W w (.slice a n c) ds/\(∀X∈Ts',X.t<pb\/pb<X.lo)/\(∀q,(AF a n c).ownBlock=some q->¬q=w.heap.size+1+1/\∀X∈Ts',X.t<q\/q<X.lo)/\Below w w W:=by
 have a0:=h.pn;have a1:=h.prg.lt;refine⟨h.cod.i hc qo,h.res.i hc qo,h.ldr.i hc qo,h.prg.i hc qo,yAg h.j hc (λq hq z=>(h.rt q hq).1 z),λX hX=>?_,λq hq=>⟨(h.rt q hq).1,λX hX=>?_⟩,Chg.k h.k hc h.k.size (λq z=>qo)⟩
 .rcases hnw X hX with z|z
  .exact h.pt X z
  .exact .inr qo
 .rcases hnw X hX with z|z
  .exact(h.rt q hq).2 X z
  .have a2:q<wr.heap.size:=by
    rcases h.j.2 with⟨q0,_⟩|⟨g',a3,cur,hv,h1,h2,_⟩
    .rw[q0]at hq;simp[AD]at hq
    .have:=AE h.j q hq;exact this.2
   exact .inr qo
theorem yZ7:∀(vs L:List Vv),vs.length=L.length->setL L 0 vs=vs:=λvs L h=>by
 apply AP
 intro j
 rw[yMl]
 by_cases hj:j<L.length
 .rw[iB ⟨zero_le _,qo,hj⟩,Nat.sub_zero]
 .rw[iA qo,AC qo,AC qo]
theorem yY4(h:yFr W O g cap ks):∃W2,(Builtin.clear_ #[227] ty #[xg g ks.length cap]).run prog W=.ok (.tuple #[]) W2/\yFr W2 O g cap (AA ks.length newC)/\Chg (λq=>q=g) W W2:=by
 cases hn:ks.length with
 |zero=>
  obtain rfl:ks= []:=length_eq_zero_iff.1 hn;refine⟨W,?_,h,Chg.refl _ _⟩;simp[Builtin.clear_,run_underlying underlying227]
 |succ n=>
  have⟨ig,a2,g1,g2,g3⟩:=info_parts Tryz.infoKc;have hf:∀x:Ctr,(Ctr.kc x).length=4:=λ_=>rfl;have hz:(Builtin.zeroCells (AM #[xe,xe,xe,xi 0]).cells (n+1)).toList=(AA (n+1) newC).flatMap Ctr.kc:=by have:=yTi hf (by decide) newC (AM #[xe,xe,xe,xi 0]).cells rfl (n+1);rw[<-this];rfl
  have hl:((AA (n+1) newC).flatMap Ctr.kc).length=(n+1)*4:=by rw[yBv hf,AB]
  have a1:(ks.flatMap Ctr.kc).length=(n+1)*4:=by rw[yBv hf,hn]
  have a0:=run_storeCells_cells (P:=prog) g 0 ((AA (n+1) newC).flatMap Ctr.kc) 0 W (λj hj=>by
    rw[hl]at hj
    obtain⟨x,hx⟩:∃x,ks[j/4]?=some x:=qg (by omega)
    have h9:=h.z hf hx (j%4) (mod_lt _ (by decide))
    rw[show j/4*4+j%4=0+0+j by omega]at h9
    rw[h9,getElem?_eq_getElem (by rw[hf];exact mod_lt _ (by decide))];rfl) (λj _=>AL h _) (λv hv=>by
    have⟨x,hx,hv⟩:=mem_flatMap.1 hv
    rw[AI hx]at hv
    simp[Ctr.kc]at hv
    rcases hv with rfl|rfl|rfl|rfl<;>rfl)
  rw[Nat.add_zero,yGh]at a0;refine⟨_,?_,?_,yAo (S:=λq=>q=g) g rfl ((AA (n+1) newC).flatMap Ctr.kc) 0 W⟩
  .simp[Builtin.clear_,run_underlying underlying227,zeroValue,typeInfo,a2,g1,hz,a0]
  .have h1:=yB4 (sz:=4) (ty:=240) (O:=O) (g:=g) (n:=ks.length) (v:=(xg g ks.length cap)) rfl ⟨cap,rfl⟩ ((AA (n+1) newC).flatMap Ctr.kc) 0 W (ks.flatMap Ctr.kc) h;rw[yZ7 _ _ (by rw[hl,a1]),hn]at h1;unfold yFr OwnG;rw[AB];exact h1
theorem McI.fresh(h:McI G N ks v W)(hO:MaOk G l)(hK:yFr W2 G.O G.g G.cap (AA ks.length newC))(hc:Chg (λq=>q=G.g) W W2):McI G N (AA G.nk newC) v W2:=by have⟨m,hm⟩:=h.stk;rw[h.X]at hK;refine⟨h.i.trans (hc.mono (λq z=>by subst z;exact hO.gS)),hO.ti _ W W2 h.ti hc (λq z=>.inl z),hK,AB,λk hk=>by rw[AI hk];exact yYq,h.A.i hc (λq=>hO.gm q.symm),⟨m,yAg hm hc (λk hk q=>?_)⟩⟩;have:=(AE hm k hk).1;have:=hO.gl;omega
def LcP(w:Ww)(bs:List Bk)(m:Bk)(e:Ending)(w':Ww):Prop:=
 ∃(a:Option Addr)(n c mb:Nat),e=.returned (.agg #[.slice a n c,xp mb])/\Hid (∃(d0:Md)(ds:List Md)(Ts:List Tt)(NM:Nat),d0.mb=mb/\n=ds.length/\RowM w' w (.slice a n c) ds/\MdsA (w+1+1+1) (w+1+1) NM Ts (d0::ds) w'/\dkl d0=bkl m/\ds.map dkl=bs.map bkl/\(∀q,(AF a n c).ownBlock=some q->∀X∈Ts,X.t<q\/q<X.lo)/\Below w w w')
theorem zLcK (h:p:=by
 obtain⟨x,hx⟩:∃x,bs[k]?=some x:=qg (qw HM.2.2.2.1);have hgx:yB1 x.l x.cnt k:=HM.1.2.2 k x hx;obtain⟨ub,uo,hua,hBk,hubl⟩:∃ub uo,ua=some ⟨ub,uo,none⟩/\ySj w ub uo bs/\ub<w.heap.size:=by
  rcases HM.2.1 with⟨_,_,_,q⟩|⟨b,off,cap,q1,q2,q3,q4,q5⟩
  .rw[q]at hx;simp at hx
  .simp only[Value.slice.injEq]at q1;exact⟨b,off,q1.1,q2,q3⟩
 obtain⟨hx0,hx1,hx2⟩:=hBk k x hx;obtain⟨xb,xo,xn,xc,hxv,hxn,hxi,hxl,hxc⟩:∃xb xo xn xc,x.v=(xy xb xo xn xc)/\xn=x.l.length/\yBh w xb xo x.l/\xb<w.heap.size/\xn<=xc/\xc<=maxLen:=by
  rcases hx2 with⟨_,_,_,q⟩|⟨b,off,cap,q1,q2,q3,q4,q5⟩
  .have:=hgx.1;rw[q]at this;simp at this
  .exact⟨b,off,_,cap,q1,rfl,q2,q3,q4,q5⟩
 rw[hxv]at hx0;have y0:(xk wo ub (uo+k*2) (xy xb xo xn xc):Prop):=by rw[HJ.k.cell (p:=(xd ub _)) hubl];exact hx0
 have y1:(xk wo ub (uo+k*2+1) (xi x.cnt):Prop):=by rw[HJ.k.cell (p:=(xd ub _)) hubl];exact hx1
 have HX:Hid (bs[k]?=some x/\yB1 x.l x.cnt k/\xn=x.l.length/\yBh w xb xo x.l/\xb<w.heap.size/\x.ok):=⟨hx,hgx,hxn,hxi,hxl,HM.2.2.2.2.1 x (mem_of_getElem? hx)⟩;obtain⟨W2,hW2⟩:=qW (xw wo #[(xy xb xo xn xc),xi x.cnt] 32);have HW2:Hid (LcJ w bs m (.slice ua ul uc) (xy bI oI N cI) pb k a n c d0 ds Ts NM W2.drew/\yA W2.drew w 32 2 wo [(xy xb xo xn xc),xi x.cnt]):=by
  have k2:=qN hW2
  have b2:yA W2 w 32 2 wo [(xy xb xo xn xc),xi x.cnt]:=by rw[hW2];exact yAa wo _ HJ.k.size rfl
  exact⟨(HJ.on k2).on ((Below.refl _ _).drew),b2.k ((Below.refl _ _).drew)⟩
 have hS0:SW (λw':Ww=>xk w' pb 0 (.slice a n c)/\xk w' (w+1+1+1) 0 (.map (some (w+1+1)))/\xk w' wo 0 (xy xb xo xn xc)/\xk w' wo 1 (xi x.cnt)/\xk w' wo 1 (xi x.cnt)/\xk w' wo 1 (xi x.cnt)/\xk w' wo 1 (xi x.cnt)/\xk w' wo 1 (xi x.cnt)) W2.drew:=by have b:=HW2.2;have h1:=b.z (j:=1) rfl;exact⟨HW2.1.prg.z (j:=0) rfl,HW2.1.ldr.z (j:=0) rfl,b.z (j:=0) rfl,h1,h1,h1,h1,h1⟩
 have zk:(k:Int)<(ul:Int):=by omega
 rw[hua]at HW2|-;clear hx hgx hBk hubl hx0 hx1 hx2 hxv hxn hxi hxl hxc;go_upto_region 6 with fail;rw[<-hW2];clear hW2 y0 y1;refine yCp [8] (λw':Ww=>xk w' pb 0 (.slice a n c)/\xk w' (w+1+1+1) 0 (.map (some (w+1+1)))/\xk w' wo 0 (xy xb xo xn xc)/\xk w' wo 1 (xi x.cnt)/\xk w' wo 1 (xi x.cnt)/\xk w' wo 1 (xi x.cnt)/\xk w' wo 1 (xi x.cnt)/\xk w' wo 1 (xi x.cnt)) (by kernel_rfl) ?_;generalize W2.drew=WD at HW2 hS0|-;refine txa 0 hS0 ?_;iterate 3 refine txb hS0 ?_
 have HLd:Hid (Calls prog 101 #[.agg #[.map (some (w+1+1))],.agg #[(xy xb xo xn xc),xi x.cnt]] WD (xBk WD (w+1+1) x.l xn xb xo xc x.cnt x.cnt.toNat (w+1+1+1) Ts NM)):=by have hb0:=HW2.1.k;have htl:=HM.2.2.2.2.2.2.2.2.lt;have hxb:=HX.2.2.2.2.1;have hpl:=HW2.1.prg.lt;have hpn:=HW2.1.pn;exact yOz (λp g mb=>xCc HX.2.1 HX.2.2.2.2.2.ins HX.2.2.1 rfl (HX.2.2.2.1.k hb0 hxb) (qw hb0.size) (by omega) (by omega) (by omega) (by omega) (by omega) p g mb) HW2.1.mds.map HW2.1.mds.ts
 refine yA1 (i:=4) (by kernel_rfl) rfl (λK hK=>?_);go_simp;refine HLd.mono ?_;intro e w3 hL;have hpl:=HW2.1.prg.lt;have hpn:=HW2.1.pn;obtain⟨d,Tx,NMx,rfl,hmd,hNx,hch,hlo,hdl,hdN,hdk,hold,hnw⟩:=HW2.1.mds.load (by omega) HX.2.2.1 hL;have H3:Hid (yA w3 w 34 3 w [(xy ub uo ul uc),(xy bI oI N cI),xi m.cnt]/\yA w3 w 96 2 (w+1) [xh,.pointer none]/\yA w3 w 174 1 (w+1+1+1) [.map (some (w+1+1))]/\yA w3 w 96 2 pb [.slice a n c,xp d0.mb]/\RowM w3 w (.slice a n c) ds/\(∀X∈Tx,X.t<pb\/pb<X.lo)/\(∀q,(Value.slice a n c).ownBlock=some q->¬q=w.heap.size+1+1/\∀X∈Tx,X.t<q\/q<X.lo)/\Below w w w3):=HW2.1.load (by rw[cons_append]at hmd;exact hmd) hch hnw;have HMd:Hid (MdsA (w+1+1+1) (w+1+1) NMx Tx (d0::(ds++ [d])) w3/\yA w3 w 32 2 wo [(xy xb xo xn xc),xi x.cnt]/\dkl d=bkl x):=⟨by rw[cons_append]at hmd;exact hmd,HW2.2.i hch (by have:=HW2.2.lt;have:=HJ.prg.lt;have:=HJ.pn;omega),by unfold dkl bkl;rw[hdl,hdk]⟩;have hS3:=SWm hS0 w3 <|by
  have h1:=HMd.2.1.z (j:=1) rfl;exact⟨H3.2.2.2.1.z (j:=0) rfl,H3.2.2.1.z (j:=0) rfl,HMd.2.1.z (j:=0) rfl,h1,h1,h1,h1,h1⟩
 have HNm:Hid (NMx<=4000*(k+1+1)):=by have h9:=HX.2.1.2.1;have h8:=HX.2.2.1;show _<=_;omega
 have hz3:=hch.size;have hn2:n<=200:=by have h9:=HW2.1.nl;have h8:=congrArg List.length HW2.1.dsm;simp at h8;omega
 refine hK.out _ _ (.inr hS3) (jS ?_);clear hK hL hmd hch hdl hdN hdk hold hnw hS0 HLd hNx;obtain⟨W5,hW5⟩:=qW (xw w3 #[xp d.mb] 94);have k5:=qN hW5
 have HC5:Hid (∀j u,(mpF d)[j]?=some u->(xk W5 w3 j u:Prop)):=by rw[hW5];exact yBj w3 (mpF d) _
 have hS5:=SWm hS3 W5 <|by
  have b:=HMd.2.1.k k5;have h1:=b.z (j:=1) rfl;exact⟨(H3.2.2.2.1.k k5).z (j:=0) rfl,(H3.2.2.1.k k5).z (j:=0) rfl,b.z (j:=0) rfl,h1,h1,h1,h1,h1⟩
 have HR5:Hid (RowM W5 w (.slice a n c) ds):=yAg H3.2.2.2.2.1 (S:=λ_=>False) (Chg.h k5) (λ_ _ q=>q);refine yA1 (i:=5) (by kernel_rfl) rfl (λK hK=>?_);go_simp;rw[<-hW5];refine hK.out _ _ (.inr hS5) (jS ?_);clear hK hW5 hS3;refine yA1 (i:=6) (by kernel_rfl) rfl (λK hK=>?_);refine stA rfl (apGV ⟨underlying93,_,_,Tryz.infoMp,rfl,(by decide),(by decide)⟩ xCa xHk rfl w ds d rfl rfl HW2.1.nl HR5.out HC5.out (qw HW2.1.nl) (qv H3.2.2.2.2.2.2.2.size k5.size) (λg' cp' w6 hO6 hg6 ha6=>?_));have hc6:Chg (λq=>(Value.slice a n c).ownBlock=some q) W5 w6:=Chg.M hg6 (λq hq=>hq);obtain⟨wx,hwx⟩:=qW (xt w6 pb 0 (xg g' (n+1) cp'));have H6:Hid (yA w6 w 96 2 pb [.slice a n c,xp d0.mb]/\LcJ w bs m (xy ub uo ul uc) (xy bI oI N cI) pb (k+1) (some ⟨g',0,none⟩) (n+1) cp' d0 (ds++ [d]) Tx NMx wx):=by
  obtain⟨h1,h2,h3,h4,h5,h6,h7,h8⟩:=H3.out;have hml:=HMd.1.on (S:=λ_=>False) (Chg.h k5) (λq z=>z.elim);have hvt:=hml.ts.tabl;have htl:=HM.2.2.2.2.2.2.2.2.lt;have hrw:=HR5.out;have o4:=h4.k k5;have q1:yA w6 w 96 2 pb [.slice a n c,xp d0.mb]:=o4.i hc6 (λz=>yAb hrw o4 (by decide) _ z rfl);have hcx:Chg (λq=>q=pb) w6 wx:=by rw[hwx];exact Chg.D _ _ _ _ rfl
  have m6:=hml.turn hrw (by decide) (by decide) (by decide) (by decide) (λq hq=>⟨(h7 q hq).1,qw (World.ownsRow.lt hrw q hq),(h7 q hq).2⟩) hc6;have hcx':Chg (λq=>(Value.slice (some ⟨pb,0,none⟩) 1 1).ownBlock=some q) w6 wx:=hcx.mono (λq z=>by subst z;rfl);have mx:=m6.turn q1 (by decide) (by decide) (by decide) (by decide) (λq hq=>by
   simp[Value.ownBlock]at hq
   subst hq
   exact⟨by omega,by omega,h6⟩) hcx'
  have b8:Below w w W5:=h8.trans (k5.mono h8.size);have b6:Below w w w6:=Chg.k b8 hc6 b8.size (λq z=>(World.ownsRow.lt hrw q z).1);have p1:=(h1.k k5).i hc6 (λz=>yAb hrw (h1.k k5) (by decide) _ z rfl);have p2:=(h2.k k5).i hc6 (λz=>yAb hrw (h2.k k5) (by decide) _ z rfl);have p3:=(h3.k k5).i hc6 (λz=>yAb hrw (h3.k k5) (by decide) _ z rfl);refine⟨q1,⟨p1.i hcx (by omega),p2.i hcx (by omega),p3.i hcx (by omega),?_,?_,?_,mx,h6,λq hq=>?_,hpn,HW2.1.dm,?_,Chg.k b6 hcx b6.size (λq z=>by omega)⟩⟩
  .rw[hwx];exact q1.set 0 _
  .have h9:RowM w6 w (xg g' (n+1) cp') (ds++ [d]):=by
    have h8:n+1=(ds++ [d]).length:=by rw[length_append,<-HW2.1.nl];rfl
    rw[h8];exact hO6
   exact yAg h9 hcx (λq hq z=>yAb h9 q1 (by decide) _ hq (by rw[z];rfl))
  .rw[length_append,<-HW2.1.nl];rfl
  .simp[Value.ownBlock]at hq;subst hq;rcases ha6 with z|z
   .exact h7 _ z
   .refine⟨qw k5.size,λX hX=>.inl ?_⟩;have:=(HMd.1.ts.U X hX).1.lt;have:=k5.size;omega
  .rw[map_append,HW2.1.dsm,take_add_one,HX.1,Option.toList_some,map_append];congr 1;simp only[map_cons,map_nil];rw[HMd.2.2]
 have hS6:=SWm hS5 w6 <|by
  have b:=(HMd.2.1.k k5);have b':=b.i hc6 (λz=>yAb HR5.out b (by decide) _ z rfl);have h1:=b'.z (j:=1) rfl;have hl5:=H3.2.2.1.k k5;exact⟨H6.1.z (j:=0) rfl,(hl5.i hc6 (λz=>yAb HR5.out hl5 (by decide) _ z rfl)).z (j:=0) rfl,b'.z (j:=0) rfl,h1,h1,h1,h1,h1⟩
 clear hO6 hg6 ha6 hc6 hS5;refine hK.out _ _ (.inr hS6) (jS ?_);clear hK;refine txb hS6 ?_;have v0:=H6.1.z (j:=0) rfl;have f0:=H6.1.frozen 0;refine yA1 (i:=8) (by kernel_rfl) rfl (λK hK=>?_);go_simp;rw[<-hwx];refine hK.out _ _ (.inl (by decide)) (jS ?_);clear hK hwx v0 f0 hS6;refine yEe (by kernel_rfl) ?_;rw[<-hua]at H6;go_wp2_with fail;(try rw[<-hua]);go_roundw;case rel=>exact⟨k+1,NMx,some ⟨g',0,none⟩,n+1,cp',ds++ [d],Tx,by omega,HNm.out,by go_num,H6.2⟩
 case measure=>simp[intOf];omega):p:=h
theorem yM9(hg:yHj bs m)(hU:yGp w (.slice ua ul uc) bs)(hul:ul=bs.length)(hok:∀x∈bs,x.ok)(hmo:m.ok)(hN:N=m.l.length)(hI:yBh w bI oI m.l)(hb:bI<w.heap.size)(hT:TabD w):
  Calls prog 46 #[.agg #[.slice ua ul uc,(xy bI oI N cI),xi m.cnt]] w (LcP w bs m):=by
 have a9:ul<=200:=by rw[hul];exact hg.1
 have HM:Hid (yHj bs m/\yGp w (.slice ua ul uc) bs/\yBh w bI oI m.l/\ul=bs.length/\(∀x∈bs,x.ok)/\m.ok/\N=m.l.length/\bI<w.heap.size/\TabD w):=⟨hg,hU,hI,hul,hok,hmo,hN,hb,hT⟩;clear hg hU hul hok hmo hN hI hb hT;obtain⟨W0,a0⟩:=qW (xw (((w.alloc (Obj.cells #[.slice ua ul uc,(xy bI oI N cI),xi m.cnt] 34)).alloc (Obj.cells #[xh,.pointer none] 96)).alloc (.map #[] 0)) #[.map (some (w+1+1))] 174);have a6:∀wx:Ww,(Instr.makeMap 172 none).run prog wx=.ok (.map (some wx)) (wx.alloc (.map #[] 0)):=λwx=>by kernel_rfl
 have H0:Hid (yA W0 w 34 3 w [.slice ua ul uc,(xy bI oI N cI),xi m.cnt]/\yA W0 w 96 2 (w+1) [xh,.pointer none]/\yA W0 w 174 1 (w+1+1+1) [.map (some (w+1+1))]/\MdsA (w+1+1+1) (w+1+1) 0 [] [] W0/\Below w w W0/\W0.heap.size=w.heap.size+1+1+1+1):=by
  obtain⟨X,hX⟩:=qW (xw w #[.slice ua ul uc,(xy bI oI N cI),xi m.cnt] 34);rw[<-hX]at a0;obtain⟨Y,hY⟩:=qW (xw X #[xh,.pointer none] 96);rw[<-hY]at a0;obtain⟨Z,hZ⟩:=qW (Y.alloc (.map #[] 0));rw[<-hZ]at a0;have zx:=qS hX
  have zy:Y.heap.size=w.heap.size+1+1:=by rw[hY];simp;omega
  have zz:Z.heap.size=w.heap.size+1+1+1:=by rw[hZ];simp;omega
  have k1:=qN hX
  have k2:Below X X Y:=by rw[hY];exact qB
  have k3:Below Y Y Z:=by rw[hZ];exact qB
  have k4:Below Z Z W0:=by rw[a0];exact qB
  have b1:yA X w.heap.size 34 3 w.heap.size [.slice ua ul uc,(xy bI oI N cI),.int .i64 m.cnt]:=by rw[hX];exact yAa w _ (Nat.le_refl _) rfl
  have b2:yA Y w.heap.size 96 2 (w.heap.size+1) [.slice none 0 0,.pointer none]:=by rw[hY,<-zx];exact yAa X _ (by omega) rfl
  have b4:yA W0 w.heap.size 174 1 (w.heap.size+1+1+1) [.map (some (w.heap.size+1+1))]:=by rw[a0,<-zz];exact yAa Z _ (by omega) rfl
  have kb:Below w.heap.size w W0:=((k1.trans (k2.mono (by omega))).trans (k3.mono (by omega))).trans (k4.mono (by omega));have a5:MpA Z (w.heap.size+1+1) 0 []:=by have:=xAv Y;rw[<-hZ,zy]at this;exact this
  have htl:=HM.2.2.2.2.2.2.2.2.lt;refine⟨((b1.k k2).k k3).k k4,(b2.k k3).k k4,b4,⟨a5.i (S:=λ_=>False) (Chg.h k4) (λq=>q),⟨λT hT=>by simp at hT,List.Pairwise.nil,HM.2.2.2.2.2.2.2.2.i (S:=λ_=>False) (Chg.h kb) (λq=>q),by omega⟩,by omega,λd hd=>by simp at hd,List.Pairwise.nil⟩,kb,by rw[a0];simp;omega⟩
 have HLd:Hid (Calls prog 101 #[.agg #[.map (some (w.heap.size+1+1))],.agg #[(xy bI oI N cI),.int .i64 m.cnt]] W0 (xBk W0 (w.heap.size+1+1) m.l N bI oI cI m.cnt m.cnt.toNat (w.heap.size+1+1+1) [] 0)):=by have hb0:=H0.2.2.2.2.1;have htl:=HM.2.2.2.2.2.2.2.2.lt;have a7:=HM.2.2.2.2.2.2.2.1;exact yOz (λp g mb=>xCc HM.1.2.1 HM.2.2.2.2.2.1.ins HM.2.2.2.2.2.2.1 rfl (HM.2.2.1.k hb0 a7) (qw hb0.size) (by omega) (by omega) (qw H0.2.2.2.2.2) (by omega) (by omega) p g mb) H0.2.2.2.1.map H0.2.2.2.1.ts
 go_enter func46,ntmps46;go_upto_region 2 with fail;rw[<-a0];clear a0 a6;have c1:=H0.1.z (j:=1) rfl;have c2:=H0.1.z (j:=2) rfl;have l0:=H0.2.2.1.z (j:=0) rfl;go_wp2_with fail;refine HLd.mono ?_;intro e w1 hL;obtain⟨d0,Ts,NM,rfl,hmd,a8,hch,hlo,hdl,hdN,hdk,_⟩:=H0.2.2.2.1.load (qw H0.2.2.2.2.2) HM.2.2.2.2.2.2.1 hL;obtain⟨pb,a1⟩:=qE w1.heap.size;obtain⟨W3,a3⟩:=qW (w1.alloc (Obj.cells #[.slice none 0 0,.pointer (some ⟨d0.mb,0,none⟩)] 96));have H3:Hid (LcJ w bs m (.slice ua ul uc) (xy bI oI N cI) pb 0 none 0 0 d0 [] Ts NM W3/\NM<=4000):=by
  obtain⟨h1,h2,h3,h4,h5,h6⟩:=H0.out;have k3:Below w1 w1 W3:=by rw[a3];exact qB
  have kb:Below w.heap.size w w1:=Chg.k h5 hch h5.size (λq z=>by omega);have hz:=hch.size;have ab:=HM.1.2.1.2.1;have aa:=HM.2.2.2.2.2.2.1;refine⟨⟨(h1.i hch (by omega)).k k3,(h2.i hch (by omega)).k k3,(h3.i hch (by omega)).k k3,by rw[a1,a3];exact yAa w1 _ kb.size rfl,⟨rfl,.inl ⟨rfl,rfl⟩⟩,rfl,hmd.on (S:=λ_=>False) (Chg.h k3) (λq z=>z.elim),λX hX=>.inl (by rw[a1];exact(hmd.ts.U X hX).1.lt),λq hq=>by simp[AD]at hq,by omega,by unfold dkl bkl;rw[hdl,hdk],rfl,kb.trans (k3.mono kb.size)⟩,by omega⟩
 clear hmd hch hlo hdl hdN hdk c1 c2 l0 H0 HLd hL;go_upto_region 3 with fail;rw[<-a3,<-a1];clear a3 a1;have c0:=H3.1.cod.z (j:=0) rfl;go_wp2;go_loopw[17] (λkv wr=>∃(k NM:Nat)(a:Option Addr)(n c:Nat)(ds:List Md)(Ts:List Tt),k<=ul/\NM<=4000*(k+1)/\kv=(xi k)/\Hid (LcJ w bs m (.slice ua ul uc) (xy bI oI N cI) pb k a n c d0 ds Ts NM wr)) (λkv _=>ul-(intOf kv).toNat);case atStart=>exact⟨0,NM,none,0,0,[],Ts,zero_le _,qw H3.2,rfl,H3.1⟩
 case round=>
  clear H3 c0;obtain⟨k,NM,a,n,c,ds,Ts,hk,a8,rfl,HJ⟩:=hrel;obtain⟨wo,a4⟩:=qW wr;subst a4;by_cases hlt:k<ul
  .as_aux_lemma=>exact zLcK
  .have zk:¬(k:Int)<(ul:Int):=by omega
   obtain⟨t0,t1⟩:=HJ.prg.c2;obtain⟨v0,v1⟩:=HJ.res.c2;obtain⟨f0,f1⟩:=HJ.res.f2;obtain⟨W9,a2⟩:=qW (setCs wo (w+1) 0 [.slice a n c,xp d0.mb]);have b9:yA W9 w 96 2 (w+1) [.slice a n c,xp d0.mb]:=by rw[a2];exact HJ.res.setCs _
   have c9:Chg (λq=>q=w.heap.size+1) wo W9:=by rw[a2];exact yAo (S:=λq=>q=w.heap.size+1) _ rfl _ _ _
   have HE:Hid (∃(d0':Md)(ds:List Md)(Ts:List Tt)(NM:Nat),d0'.mb=d0.mb/\n=ds.length/\RowM W9 w (.slice a n c) ds/\MdsA (w+1+1+1) (w+1+1) NM Ts (d0'::ds) W9/\dkl d0'=bkl m/\ds.map dkl=bs.map bkl/\(∀q,(AF a n c).ownBlock=some q->∀X∈Ts,X.t<q\/q<X.lo)/\Below w w W9):=by have hj:=HJ.out;have htl:=HM.2.2.2.2.2.2.2.2.lt;refine⟨d0,ds,Ts,NM,rfl,hj.nl,yAg hj.j c9 (λq hq z=>yAb hj.j hj.res (by decide) _ hq (by rw[z];rfl)),hj.mds.on c9 (λq z=>.inr ⟨by omega,by omega,by omega⟩),hj.dm,?_,λq hq=>(hj.rt q hq).2,Chg.k hj.k c9 hj.k.size (λq z=>by omega)⟩;rw[hj.dsm,take_of_length_le (qw HM.2.2.2.1)]
   obtain⟨q0,q1⟩:=b9.c2;simp only[setCs,Nat.zero_add,Nat.reduceAdd]at a2;clear b9 c9;go_wp2;rw[<-a2];exact bodyPost_ret (v:=.agg #[.slice a n c,xp d0.mb]) (by simp[results,results46,go_sem,q0,q1]) rfl ⟨a,n,c,d0.mb,rfl,HE⟩
end Go.Proofs.YtnnagkfoiganfaaGreatDoor
