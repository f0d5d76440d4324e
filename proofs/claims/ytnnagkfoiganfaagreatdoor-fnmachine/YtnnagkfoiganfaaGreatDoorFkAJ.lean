import Derived.Test.YtnnagkfoiganfaaGreatDoorFkAE
import Derived.Test.YtnnagkfoiganfaaGreatDoorFkAF
import Derived.Test.YtnnagkfoiganfaaGreatDoorFkAG
namespace Go.Proofs.YtnnagkfoiganfaaGreatDoor
open Go.ChangeShapes Go.WideShapes Go.ChangeAt Go.RowKit Go.Deep XD XI XU XG XP XK XW XT XF XE XH XY _root_.List _root_.Nat Go.Proofs.Tryz
open _root_.Go renaming bodyPost_ret->AS,Ending->AV,size_zeroCells->Ah
open _root_.Go.Builtin renaming zeroCells->AH
open _root_.Go.Obj renaming cells->AD
open _root_.List renaming length_append->AA,append_assoc->AB,getElem?_eq_getElem->AC,mem_of_getElem?->AF,getElem?_append_right->AI,length_drop->AK,length_take->AL,length_eq_zero_iff->AM,take_of_length_le->AN,getElem?_append_left->AQ,length_singleton->AR,getElem?_drop->AU,getElem?_map->AW,getElem?_eq_some_iff->AX,singleton_append->Aa,take_add_one->Ac,cons_append->Ad,getElem_mem->Ae,mem_append->Af
open _root_.Nat renaming le_trans->AE,le_refl->AG,zero_le->AJ,zero_add->AO,lt_of_lt_of_le->AP,add_assoc->AZ,add_zero->Ab,zero_mul->Ag
open _root_.Option.some renaming inj->AT,injEq->AY
set_option linter.unusedVariables false
set_option linter.unusedSimpArgs false
set_option maxRecDepth 100000
set_option maxHeartbeats 64000000
variable {ps:List Nat} {v bv:Vv} {wx Wa V w1 w2 B wr X w W W':Ww} {l:List Ix} {row:Option Nat} {g t blk nw id T sz off len c lo N gN oN eb O cb n b j cp:Nat} {cs ws:Array Vv} {S S':Nat->Prop} {Q:Exit->Act->Ww->Prop} {ops:Array Oper} {a:Act} {rest:List Oper} {es x0 x1:List Nd} {P:List Vv->Prop} {P':Program} {e:Nd} {r:Ending} {p0 p1:Nat×Nat×Nat} {f:Ent} {s:Operand}
variable {m:Nat}
theorem emC{a:CT}{lo pa f:Nat}(Ha:EmC a)(hA:TrAt w a lo m pa (some f))(hm:m<=eb)(hw:eb<=w.heap.size)(hf:f+a.J<=50000){wx:Ww}{v:Vv}{X:List Ix}{c:Nat}(s:Bool)(hx:Below eb w wx)(hE:EmAt wx eb v X c)(h1:X.length+3*a.size<=50000)(h2:c+a.size<=50000):
  Hid (Calls prog 39 #[ptrV pa,ptrV eb,s] wx (EmP wx eb c v X a s f)):=Ha wx lo m pa f eb c v X s (hA.k hx hm hw) hE hm h1 h2 hf
theorem emR{p q cq:Nat}{n:Nd}{k:Int}(hb:BoxT w O p n v k)(hr:PRow w O q cq ps)(h:p<eb/\q<eb)(hx:Below eb w wx):xk wx p 7 v/\∀{j u},ps[j]?=some u->(xk wx q j (ptrV u):Prop):=
 ⟨(hx.cell h.1).trans (yA.z hb (j:=7) rfl),λhj=>(hx.cell h.2).trans (hr.z hj)⟩
theorem yXr n (a b:CT) (Ha:EmC a) (Hb:EmC b):EmC (.chain n a b):=by
 intro w lo hi p f eb c v X s hT hE hh hl hc hf;obtain⟨h0,m,m2,pa,pb,q,cq,k,hA,hB,l1,l2,hb,hr,hp,hq⟩:=hT;have hcq:=hr.caps.1;have hcm:=hr.caps.2;have hbl:=yA.lt hb;have hpq:p<eb/\q<eb:=qo
 have hel:=hE.lt;simp only[CT.size]at hl hc;simp only[CT.J]at hf;have hga:=yE7 a s f;have hca:=yF a s f;have HCL:Hid (∀wx,Below eb w wx->(λw':Ww=>xk w' p 7 (xg q 2 cq)/\xk w' q 0 (ptrV pa)/\xk w' q 1 (ptrV pb)) wx):=λwx hx=>have h:=emR hb hr hpq hx;⟨h.1,h.2 rfl,h.2 rfl⟩;have d0:=yA.z hb (j:=0) rfl;have z14:(n.f==14)=true:=by rw[beq_iff_eq];exact h0
 have hdr:=(Below.refl eb w).drew;have HA:=emC Ha hA qo qo qo s hdr (hE.k ((Below.refl _ _).drew)) qo qo;have HB:= @emC w eb m2 b m pb (f+a.J) Hb hB qo qo qo;obtain⟨c0,c1,c2⟩:=HCL.out w (Below.refl _ _);have hSd:=HCL.out _ hdr;clear hA hB hb hr Ha Hb h0 hdr;go_enter func39,ntmps39;go_upto_region 3 with fail;refine yAe 99 (λw':Ww=>xk w' p 7 (xg q 2 cq)/\xk w' q 0 (ptrV pa)/\xk w' q 1 (ptrV pb)) qk ?_;refine ja 0 hSd ?_;iterate 14 refine jb hSd ?_
 refine qO 15 rfl λK hK=>?_;go_simp;go_at_call 39;refine HA.mono ?_;rintro r w1 ⟨v1,rfl,T1⟩;have T1:=(EmTo.h hE ((Below.refl _ _).drew)).trans T1;have b1:=T1.k hE;have HC:=HB (s || a.passes) b1 T1.U (by rw[AA,yAl];omega) qo;refine hK.out _ _ (.inr (HCL.out _ b1)) (jS ?_);clear hK HA HB hga hca;refine qO 16 rfl λK hK=>?_;go_simp;go_at_call 39;refine HC.mono ?_;rintro r w2 ⟨v2,rfl,T2⟩;have HR:Hid (EmP w eb c v X (.chain n a b) s f (.returned (s || a.passes || b.passes)) w2):=by refine⟨v2,by simp only[CT.passes,Bool.or_assoc],?_⟩;have h9:=T1.trans T2;simp only[CT.gen,yC9,yAj];rw[AA,yAl]at h9;rw[<-AB,<-AZ];exact h9
 have hS2:=HCL.out _ ((T1.trans T2).k hE);clear T2 T1 HC;refine hK.out _ _ (.inr hS2) (jS ?_);clear hK;refine kO 17 hS2 ?_;refine qD ?_;go_wp2;go_ret;exact HR.out
theorem yXd(a b:CT) n (X:List Ix) (c:Nat) (s:Bool) (f:Nat):
  X++absG X.length c ((CT.inter n a b).gen s f)=((((X++ [opI 2])++absG (X++ [opI 2]).length c (a.gen s f))++ [opI 3])++absG (((X++ [opI 2])++absG (X++ [opI 2]).length c (a.gen s f))++ [opI 3]).length (c+cntL (a.gen s f)) (b.gen s (f+a.J)))++ [opI 4]/\cntL ((CT.inter n a b).gen s f)=cntL (a.gen s f)+cntL (b.gen s (f+a.J)):=by
 have e2:=λk c=>yUd (o:=2) qj qj qj k c;have e3:=λk c=>yUd (o:=3) qj qj qj k c;have e4:=λk c=>yUd (o:=4) qj qj qj k c;have n2:=(e2 0 0).2;have n3:=(e3 0 0).2;have n4:=(e4 0 0).2;refine⟨?_,?_⟩
 .simp only[CT.gen,yC9,(e2 _ _).1,(e3 _ _).1,(e4 _ _).1,AA,AR,yAl,yAj,n2,n3,AO,Ab,AB,AZ]
 .simp only[CT.gen,yAj,n2,n3,n4];omega
variable {p:Prop}
theorem zEmE(h:p:=by cases sa<;>(simp only[Bool.false_or,Bool.true_or]at HR;go_wp2_with fail;go_ret;exact HR.out)):p:=h
theorem yXq n (a b:CT) (Ha:EmC a) (Hb:EmC b):EmC (.inter n a b):=by
 intro w lo hi p f eb c v X s hT hE hh hl hc hf;obtain⟨h0,m,m2,pa,pb,q,cq,k,hA,hB,l1,l2,hb,hr,hp,hq⟩:=hT;have hcq:=hr.caps.1;have hcm:=hr.caps.2;have hbl:=yA.lt hb;have hel:=hE.lt;simp only[CT.size]at hl hc;simp only[CT.J]at hf;have hga:=yE7 a s f;have hca:=yF a s f;have hgb:=yE7 b s (f+a.J);have HCL:=hidO (λwx (hx:Below eb w wx)=>emR hb hr qo hx);have d0:=yA.z hb (j:=0) rfl;have z14:(n.f==14)=false:=by rw[iC];omega
 have z15:(n.f==15)=true:=by rw[beq_iff_eq];exact h0
 have HA:= @emC w eb m a lo pa f Ha hA qo qo qo;have HB:= @emC w eb m2 b m pb (f+a.J) Hb hB qo qo qo;have HL:=hidO (yXd a b n X c s f);have HQ:Hid (opI 2=⟨2,0,0,false,yA8⟩):=rfl;clear hA hB hb hr Ha Hb h0;go_enter func39,ntmps39;go_wp2_with fail;refine(yGl hE (opI 2) qo).mono ?_;rintro r w1 ⟨rfl,v1,T1⟩;obtain⟨c0,cj⟩:=HCL.out w1 (T1.k hE);have c1:=cj (j:=0) rfl;have C1:=HA s (T1.k hE) T1.U (by simp;omega) qo;clear d0 cj HA;go_wp2_with fail;refine C1.out.mono ?_;rintro r w2 ⟨v2,rfl,T2⟩;have T2:=T1.trans T2;obtain⟨sa,hsa⟩:∃sa,Hid (sa=(s || a.passes))/\sa=(s || a.passes):=⟨_,rfl,rfl⟩;rw[<-hsa.2];replace hsa:=hsa.1;clear T1 c0 c1 C1;go_wp2_with fail;refine(yGl T2.U (opI 3) (by simp[yAl];omega)).mono ?_;rintro r w3 ⟨rfl,v3,T3⟩;have T3:=T2.trans T3;obtain⟨c0,cj⟩:=HCL.out w3 (T3.k hE);have c1:=cj (j:=1) rfl;have C2:=HB s (T3.k hE) T3.U (by simp[yAl];omega) qo;clear T2 cj HB;go_wp2_with fail;refine C2.out.mono ?_;rintro r w4 ⟨v4,rfl,T4⟩;have T4:=T3.trans T4;obtain⟨sb,hsb⟩:∃sb,Hid (sb=(s || b.passes))/\sb=(s || b.passes):=⟨_,rfl,rfl⟩;rw[<-hsb.2];replace hsb:=hsb.1;clear T3 c0 c1 C2;go_wp2_with fail;refine(yGl T4.U (opI 4) (by simp[yAl];omega)).mono ?_;rintro r w5 ⟨rfl,v5,T5⟩;have HR:Hid (EmP w eb c v X (.inter n a b) s f (.returned (sa || sb)) w5):=by refine⟨v5,by rw[hsa.out,hsb.out];simp only[CT.passes];cases s<;>simp,?_⟩;rw[HL.1,HL.2,<-AZ];exact T4.trans T5
 clear T5 T4;exact zEmE
theorem xBs(a b d:CT) n (X:List Ix) (c:Nat) (s:Bool) (f:Nat) {B C:List Ix} {cB k3 k5:Nat} (hB:B=absG (X.length+1) c (b.gen s (f+a.J+1))) (hcB:cB=c+cntL (b.gen s (f+a.J+1))) (hC:C=absG (X.length+1+B.length+1) cB (d.gen s (f+a.J+1+b.J))) (h3:k3=X.length+1+B.length+1) (h5:k5=k3+C.length):
  X++absG X.length c ((CT.cond n a b d).gen s f)=X++⟨5,((f+a.J:Nat):Int),(k3:Int),false,yA8⟩::(B++⟨6,0,(k5:Int),false,yA8⟩::C)/\c+cntL ((CT.cond n a b d).gen s f)=cB+cntL (d.gen s (f+a.J+1+b.J)):=by
 obtain⟨gb,hgb⟩:=qE (b.gen s (f+a.J+1));obtain⟨gd,hgd⟩:=qE (d.gen s (f+a.J+1+b.J));have hBl:B.length=gb.length:=by rw[hB,yAl,hgb]
 have hCl:C.length=gd.length:=by rw[hC,yAl,hgd]
 have j5:∀(k c:Nat)(u v:Int),fixI k c ⟨5,u,v,false,yA8⟩=⟨5,u,v+(k:Int),false,yA8⟩:=λk c u v=>by simp[fixI]
 have j6:∀(k c:Nat)(u v:Int),fixI k c ⟨6,u,v,false,yA8⟩=⟨6,u,v+(k:Int),false,yA8⟩:=λk c u v=>by simp[fixI]
 have n5:∀(u v:Int),cntI ⟨5,u,v,false,yA8⟩=0:=λu v=>by simp[cntI]
 have n6:∀(u v:Int),cntI ⟨6,u,v,false,yA8⟩=0:=λu v=>by simp[cntI]
 have e3:(gb.length:Int)+2+(X.length:Int)=(k3:Int):=qo
 have e5:(gd.length:Int)+1+((X.length+1+gb.length:Nat):Int)=(k5:Int):=qo
 have eg:(CT.cond n a b d).gen s f=⟨5,((f+a.J:Nat):Int),(gb.length:Int)+2,false,yA8⟩::(gb++⟨6,0,(gd.length:Int)+1,false,yA8⟩::gd):=by rw[hgb,hgd];simp[CT.gen]
 refine⟨?_,?_⟩
 .rw[eg,absG,yC9,absG,j5,j6,n5,n6,e3,e5,hC,hB,yAl,hcB,<-hgb,<-hgd];simp only[Ab]
 .rw[eg,cntL,yAj,cntL,n5,n6,hcB,hgb,hgd];omega
theorem xF1{r:List Ix}{x:Ix}{k:Nat}(hk:k=l.length):(l++x::r)[k]?=some x:=by subst hk;simp
theorem xFq{r:List Ix}{x y:Ix}{k:Nat}(hk:k=l.length):(l++x::r).set k y=l++y::r:=by subst hk;simp
theorem xBk n (a b d:CT) (Hb:EmC b) (Hd:EmC d):EmC (.cond n a b d):=by
 intro w lo hi p f eb c v X s hT hE hh hl hc hf;obtain⟨h0,m,m2,m3,pa,pb,pc,q,cq,k,hA,hB,hD,l1,l2,l3,hb,hr,hp,hq,hk⟩:=hT;have hcq:=hr.caps.1;have hcm:=hr.caps.2;have hbl:=yA.lt hb;have hel:=hE.lt;obtain rfl:=hk f rfl;simp only[CT.size]at hl hc;simp only[CT.J]at hf;have HCL:=hidO (λwx (hx:Below eb w wx)=>emR hb hr qo hx);have d0:=yA.z hb (j:=0) rfl;have d8:=yA.z hb (j:=8) rfl;obtain⟨Kf,hKf⟩:=qE (f+a.J);rw[<-hKf]at d8;have HK:=hidO hKf;have hgb:=yE7 b s (f+a.J+1);have hcb:=yF b s (f+a.J+1);have hgd:=yE7 d s (f+a.J+1+b.J);have z14:(n.f==14)=false:=by rw[iC];omega
 have z15:(n.f==15)=false:=by rw[iC];omega
 have z16:(n.f==16)=true:=by rw[beq_iff_eq];exact h0
 have HB:= @emC w eb m2 b m pb (f+a.J+1) Hb hB qo qo qo;have HD:= @emC w eb m3 d m2 pc (f+a.J+1+b.J) Hd hD qo qo qo;have J0:=hidO (yJb hE ⟨5,(Kf:Int),0,false,yA8⟩ qo);clear hA hB hD hb hr Hb Hd h0 hKf hk;go_enter func39,ntmps39;go_wp2_with fail;refine J0.out.mono ?_;rintro r w1 ⟨P1,P3,v1,rfl,La,T1⟩;obtain⟨c0,cj⟩:=HCL.out w1 (T1.k hE);have c1:=cj (j:=1) rfl;have C1:=HB s (T1.k hE) T1.U (by simp;omega) qo;clear d0 d8 cj HB J0;go_wp2_with fail;refine C1.out.mono ?_;rintro r w2 ⟨v2,rfl,T2⟩;have La:=La.K T1.U T2;have T2:=T1.trans T2;obtain⟨sa,hsa⟩:∃sa,Hid (sa=(s || b.passes))/\sa=(s || b.passes):=⟨_,rfl,rfl⟩;rw[<-hsa.2];replace hsa:=hsa.1;have J1:=hidO (yJb T2.U ⟨6,0,0,false,yA8⟩ (by simp[yAl];omega));clear T1 c0 c1 C1;go_wp2_with fail;refine J1.out.mono ?_;rintro r w3 ⟨P4,P6,v3,rfl,Lb,T3⟩;have La:=La.K T2.U T3;have T3:=T2.trans T3;generalize hB':absG _ _ (b.gen s (f+a.J+1))=B at T2 T3 Lb;have hBl:B.length=(b.gen s (f+a.J+1)).length:=by rw[<-hB',yAl]
 have L1:=yNa T3.U La (k:=X.length) (y:=(⟨5,(Kf:Int),0,false,yA8⟩:Ix)) (by rw[AB,AB];exact xF1 rfl) (by simp;omega);rw[AB,AB,Aa,xFq rfl]at L1;replace L1:=hidO L1;replace hB':=hidO hB';clear T2 J1;go_wp2_with fail;refine L1.out.mono ?_;rintro r w4 ⟨rfl,T4⟩;have Lb:=Lb.K T3.U T4;have T4:=T3.trans T4;obtain⟨c0,cj⟩:=HCL.out w4 (T4.k hE);have c2:=cj (j:=2) rfl;have C2:=HD s (T4.k hE) T4.U (by simp;omega) qo;clear T3 cj HD L1;go_wp2_with fail;refine C2.out.mono ?_;rintro r w5 ⟨v5,rfl,T5⟩;have Lb:=Lb.K T4.U T5;have T5:=T4.trans T5;obtain⟨sb,hsb⟩:∃sb,Hid (sb=(s || d.passes))/\sb=(s || d.passes):=⟨_,rfl,rfl⟩;rw[<-hsb.2];replace hsb:=hsb.1;generalize hC':absG _ _ (d.gen s (f+a.J+1+b.J))=C at T5;have hCl:C.length=(d.gen s (f+a.J+1+b.J)).length:=by rw[<-hC',yAl]
 rw[AB,Ad,AB,Aa,<-Ad,<-AB]at T5;have L2:=yNa T5.U Lb (y:=⟨6,0,0,false,yA8⟩) (xF1 (by simp)) (by simp;omega);rw[xFq (by simp)]at L2;replace L2:=hidO L2;replace hC':=hidO hC';clear T4 c0 c2 C2;go_wp2_with fail;refine L2.out.mono ?_;rintro r w6 ⟨rfl,T6⟩;have T6:=T5.trans T6;have HR:Hid (EmP w eb c v X (.cond n a b d) s f (.returned (sa || sb)) w6):=by refine⟨v5,by rw[hsa.out,hsb.out];simp only[CT.passes];cases s<;>simp,?_⟩;obtain⟨e1,e2⟩:=xBs a b d n X c s f (B:=B) (C:=C) (by rw[<-hB'.out];simp) rfl (by rw[<-hC'.out];congr 1;simp;omega) rfl rfl;rw[e1,e2];rw[HK.out]at T6;refine cast (congrArg (λL=>EmTo w w6 eb v v5 L _) ?_) T6;simp;omega
 clear T6 T5 L2;exact zEmE
theorem xBj n:EmC (.leaf n):=by
 intro w lo hi p f eb c v X s hT hE hh hl hc hf;obtain⟨h0,vv,k,hb,hp⟩:=hT;have z14:(n.f==14)=false:=by rw[iC];exact λq=>by rw[q]at h0;simp[yAk]at h0
 have z15:(n.f==15)=false:=by rw[iC];exact λq=>by rw[q]at h0;simp[yAk]at h0
 have z16:(n.f==16)=false:=by rw[iC];exact λq=>by rw[q]at h0;simp[yAk]at h0
 have d0:=yA.z hb (j:=0) rfl;have d1:=yA.z hb (j:=1) rfl;have d2:=yA.z hb (j:=2) rfl;have d3:=yA.z hb (j:=3) rfl;have d4:=yA.z hb (j:=4) rfl;have d5:=yA.z hb (j:=5) rfl;have d6:=yA.z hb (j:=6) rfl;have HC:=qH1 (yR2 hE n s (by simp only[CT.size]at hl;omega) (by simp only[CT.size]at hc;omega));clear hE hb h0;go_enter func39,ntmps39;go_wp2_with fail;refine HC.mono ?_;rintro r w2 ⟨v',rfl,hT⟩;have HR:Hid (EmP w eb c v X (.leaf n) s f (.returned (s || yDg n.f)) w2):=⟨v',rfl,hT⟩;obtain⟨bb,hbb⟩:=qE ((s || yDg n.f));rw[<-hbb]at HR|-;clear hT d0 d1 d2 d3 d4 d5 d6 hbb;go_wp2;go_ret;exact HR.out
section
structure Nd.sm(K:Int)(e:Nd):Prop where
 s:e.s.size<=200000
 t:e.t.size<=300000
 lo:0<=e.lo/\e.lo<=50000
 up:0<=e.up/\e.up<=100000
 n:0<=e.n/\e.n<=K
 f:0<=e.f/\e.f<=100000
abbrev Nd.small:Nd->Prop:=Nd.sm 100000
theorem yYm{x:Int}(h:0<=x/\x<=200000):(Lit.int .u64 x).wf=true:=by
 have h1:IntKind.u64.min=0:=by decide
 have h2:IntKind.u64.max=18446744073709551615:=by decide
 simp[Lit.wf,h1,h2];omega
theorem yJ5{x:Int}(h:0<=x/\x<=200000):(Lit.int .i64 x).wf=true:=by
 have h1:IntKind.i64.min= -9223372036854775808:=by decide
 have h2:IntKind.i64.max=9223372036854775807:=by decide
 simp[Lit.wf,h1,h2];omega
theorem xCr(x:Int)(h:0<=x/\x<=200000):IntKind.u64.wrap x=x:=by simp only[IntKind.wrap,IntKind.bits,IntKind.signed,Bool.false_and,Bool.false_eq_true,if_false];omega
theorem Nd.sm.ok{K:Int}(h:e.sm K)(hK:K<=200000):e.ok:=⟨AE h.s (by decide),AE h.t (by decide),yJ5 ⟨h.f.1,by have:=h.f.2;omega⟩,yYm ⟨h.lo.1,by have:=h.lo.2;omega⟩,yYm ⟨h.up.1,by have:=h.up.2;omega⟩,yJ5 ⟨h.n.1,Int.le_trans h.n.2 hK⟩⟩
theorem Nd.small_zero:yA8.small:=⟨by decide,by decide,by decide,by decide,by decide,by decide⟩
structure DInv(O cb:Nat)(bv:Vv)(n:Nat)(w wr:Ww):Prop where
 d:yAo O cb bv n wr
 c:Chg (λk=>k=cb) w wr
 lt:cb<w
 hb:O<=w
theorem DInv.start(h:yAo O cb bv n w):DInv O cb bv n w w:=⟨h,Chg.h (Below.refl _ _),h.lt.2,h.O⟩
theorem DInv.call(h:DInv O cb bv n w wr)(hd:Drew O cb bv n wr w1):DInv O cb bv n w w1:=⟨hd.1,h.c.trans hd.2,h.lt,h.hb⟩
theorem DInv.k(h:DInv O cb bv n w wr)(hd:Below wr wr w1):DInv O cb bv n w w1:=⟨h.d.k hd,h.c.trans (Chg.h hd),h.lt,h.hb⟩
theorem DInv.grow(h:DInv O cb bv n w wr)(hg:wr.grownBy w1 row)(hr:∀k,row=some k->w<=k):DInv O cb bv n w w1:=by have hc:Chg (λk=>row=some k) wr w1:=Chg.M hg (λk q=>q);have hl:=h.lt;have hbb:=h.hb;exact⟨h.d.i hc (λq=>by have:=hr _ q;omega) (λk q=>by have:=hr _ q;omega),Chg.grown_new h.c hg hr,h.lt,h.hb⟩
def LefP(O cb:Nat)(bv:Vv)(n:Nat)(w:Ww)(e:AV)(w':Ww):Prop:=∃f:Nd,e=.returned f.v/\f.small/\Drew O cb bv n w w'
def C7(W:Ww)(g:Nat)(f:Nd):Prop:=xk W g 0 (xi f.f)/\xk W g 1 f.s/\xk W g 2 f.hi/\xk W g 3 f.t/\xk W g 4 (xu f.lo)/\xk W g 5 (xu f.up)/\xk W g 6 (xi f.n)
theorem yA.c7n{f:Nd}(h:yA W b 83 7 g f.seven):C7 W g f:=⟨h.z rfl,h.z rfl,h.z rfl,h.z rfl,h.z rfl,h.z rfl,h.z rfl⟩
structure Ent.fine(e:Ent):Prop where
 j:e.j.size<=1000
 E:e.E.size<=1000
 C:e.C.size<=1000
 val:e.val.size<=1000
 ts:0<=e.ts/\e.ts<=18446744073709551615
 f:0<=e.f/\e.f<=3
def BX(O cb:Nat)(bv:Vv)(n T sz:Nat)(P:List Vv->Prop)(B:Ww)(eb:Nat)(W:Ww):Prop:=∃vs,yA W B T sz eb vs/\DInv O cb bv n B W/\P vs
section
theorem BX.put(h:BX O cb bv n T sz P B eb W)(j:Nat)(u:Vv)(hP:∀vs,P vs->P (vs.set j u)):BX O cb bv n T sz P B eb (xt W eb j u):=by have⟨vs,h1,h2,h3⟩:=h;exact⟨vs.set j u,h1.set j u,h2.grow (yDs W eb j u) (λk q=>by cases q;exact h1.lt.1),hP _ h3⟩
theorem BX.call(h:BX O cb bv n T sz P B eb W)(hd:Drew O cb bv n W W'):BX O cb bv n T sz P B eb W'/\∀j,W'.cell? (xd eb j)=W.cell? (xd eb j):=by
 have⟨vs,h1,h2,h3⟩:=h;have hne:¬eb=cb:=by have:=h1.lt.1;have:=h2.lt;omega
 exact⟨⟨vs,h1.i hd.2 hne,h2.call hd,h3⟩,λj=>hd.2.z (p:=(xd eb j)) h1.lt.2 hne⟩
theorem BX.k(h:BX O cb bv n T sz P B eb W)(hb:Below W W W'):BX O cb bv n T sz P B eb W':=by have⟨vs,h1,h2,h3⟩:=h;exact⟨vs,h1.k hb,h2.k hb,h3⟩
theorem BX.dinv(h:BX O cb bv n T sz P B eb W):DInv O cb bv n B W:=by have⟨vs,h1,h2,h3⟩:=h;exact h2
theorem BX.al(h:BX O cb bv n T sz P B eb W)(o:Obj):BX O cb bv n T sz P B eb (W.alloc o):=h.k (qB)
theorem BX.dr(h:BX O cb bv n T sz P B eb W):BX O cb bv n T sz P B eb W.drew:=h.k ((Below.refl _ _).drew)
theorem BX.new(h:yAo O cb bv n B)(hP:P cs.toList)(hz:cs.size=sz)(hW:W=(xw B cs T)):BX O cb bv n T sz P B B W:=by subst hW;exact⟨_,yAa B cs qr hz,(DInv.start h).k (qB),hP⟩
end
def NdP(K:Int)(vs:List Vv):Prop:=∃f:Nd,vs=f.seven/\f.sm K
abbrev NE(O cb:Nat)(bv:Vv)(n:Nat)(K:Int):=BX O cb bv n 83 7 (NdP K)
def NC(O cb:Nat)(bv:Vv)(n:Nat)(K:Int)(B:Ww)(eb:Nat)(W:Ww):Prop:=∃f:Nd,NE O cb bv n K B eb W/\f.sm K/\C7 W eb f/\(∀j,W.frozen? (xd eb j)=false)
section
variable {K:Int}
def FOk(K:Int):Nat->Vv->Prop
 |0,v=>∃k,v=.int .i64 k/\0<=k/\k<=100000
 |1,v=>∃s,v=.string s/\s.size<=200000
 |2,v=>∃b,v=.bool b
 |3,v=>∃s,v=.string s/\s.size<=300000
 |4,v=>∃k,v=(xu k)/\0<=k/\k<=50000
 |5,v=>∃k,v=(xu k)/\0<=k/\k<=100000
 |6,v=>∃k,v=(xi k)/\0<=k/\k<=K
 |_,_=>False
theorem NdP.set(hv:FOk K j v)(vs:List Vv)(h:NdP K vs):NdP K (vs.set j v):=by
 obtain⟨f,rfl,hs⟩:=h;match j,hv with
 |0,⟨k,e,h1,h2⟩=>exact⟨{f with f:=k},by rw[e];rfl,hs.1,hs.2,hs.3,hs.4,hs.5,h1,h2⟩
 |1,⟨k,e,h1⟩=>exact⟨{f with s:=k},by rw[e];rfl,h1,hs.2,hs.3,hs.4,hs.5,hs.6⟩
 |2,⟨k,e⟩=>exact⟨{f with hi:=k},by rw[e];rfl,hs.1,hs.2,hs.3,hs.4,hs.5,hs.6⟩
 |3,⟨k,e,h1⟩=>exact⟨{f with t:=k},by rw[e];rfl,hs.1,h1,hs.3,hs.4,hs.5,hs.6⟩
 |4,⟨k,e,h1,h2⟩=>exact⟨{f with lo:=k},by rw[e];rfl,hs.1,hs.2,⟨h1,h2⟩,hs.4,hs.5,hs.6⟩
 |5,⟨k,e,h1,h2⟩=>exact⟨{f with up:=k},by rw[e];rfl,hs.1,hs.2,hs.3,⟨h1,h2⟩,hs.5,hs.6⟩
 |6,⟨k,e,h1,h2⟩=>exact⟨{f with n:=k},by rw[e];rfl,hs.1,hs.2,hs.3,hs.4,⟨h1,h2⟩,hs.6⟩
theorem NE.nc(h:NE O cb bv n K B eb W):NC O cb bv n K B eb W:=by have ⟨vs,hf,hd,f,e,hs⟩:=h;subst e;exact⟨f,h,hs,hf.c7n,hf.frozen⟩
end
def EtP(vs:List Vv):Prop:=∃f:Ent,vs=f.cells/\f.fine
def EOk:Nat->Vv->Prop
 |0,v|1,v|2,v|5,v=>∃s,v=.string s/\s.size<=1000
 |3,v=>∃k,v=(xu k)/\0<=k/\k<=18446744073709551615
 |4,v=>∃k,v=(xi k)/\0<=k/\k<=3
 |_,_=>False
theorem EtP.set(hv:EOk j v)(vs:List Vv)(h:EtP vs):EtP (vs.set j v):=by
 obtain⟨f,rfl,hs⟩:=h;match j,hv with
 |0,⟨k,e,h1⟩=>exact⟨{f with j:=k},by rw[e];rfl,h1,hs.2,hs.3,hs.4,hs.5,hs.6⟩
 |1,⟨k,e,h1⟩=>exact⟨{f with E:=k},by rw[e];rfl,hs.1,h1,hs.3,hs.4,hs.5,hs.6⟩
 |2,⟨k,e,h1⟩=>exact⟨{f with C:=k},by rw[e];rfl,hs.1,hs.2,h1,hs.4,hs.5,hs.6⟩
 |3,⟨k,e,h1,h2⟩=>exact⟨{f with ts:=k},by rw[e];rfl,hs.1,hs.2,hs.3,hs.4,⟨h1,h2⟩,hs.6⟩
 |4,⟨k,e,h1,h2⟩=>exact⟨{f with f:=k},by rw[e];rfl,hs.1,hs.2,hs.3,hs.4,hs.5,⟨h1,h2⟩⟩
 |5,⟨k,e,h1⟩=>exact⟨{f with val:=k},by rw[e];rfl,hs.1,hs.2,hs.3,h1,hs.5,hs.6⟩
def xL(l:List Vv):Bool:=l.all fun| .string s=>decide (s.size<=1000)|_=>false
theorem xMs(h:yAo O cb bv n W)(hb:blk=W)(hn:ws.size=nw)(h1:1<=nw)(h2:nw<=100)(ho:xL ws.toList=true):
  Calls prog 177 #[xp cb,xg blk nw nw] (xw W ws t) λe w'=>∃s:Ba,e=.returned s/\s.size<=1000/\Drew O cb bv n W w':=by
 have hbl:Below W W (xw W ws t):=qB;refine(yDr O cb bv n blk nw _ (h.k hbl) h1 h2 (by have:=h.lt.2;omega) (by rw[hb];simp) ?_).mono ?_
 .intro k hk;have hk':k<ws.toList.length:=by rw[Array.length_toList];omega
  have:=List.all_eq_true.1 ho _ (Ae hk');have hc:(xk (W.alloc (.cells ws t)) blk k ws.toList[k]:Prop):=by rw[hb];simp[hk]
  rw[hc];cases hv:ws.toList[k]<;>rw[hv]at this<;>simp at this
  exact⟨_,rfl,this⟩
 .rintro e w' ⟨s,he,hs,hd⟩;exact⟨s,he,hs,hd.1,(Chg.h hbl).trans hd.2⟩
theorem zN(h:p:=by repeat (first|assumption|with_reducible refine BX.dr ?_|with_reducible refine BX.al ?_ _|(with_reducible refine BX.put ?_ _ _ ?_;rotate_left;(first|(apply NdP.set;simp only[FOk])|(refine EtP.set ?_;simp only[EOk]));first|exact⟨_,rfl⟩|exact⟨_,rfl,by omega,by omega⟩|exact⟨_,rfl,by(try rw[yD1]);first|omega|decide⟩))):p:=h
def set7(w:Ww)(g:Nat)(f:Nd):Ww:=(xt ((((((w.setCell (xd g 0) (xi f.f)).setCell (xd g 1) f.s).setCell (xd g 2) f.hi).setCell (xd g 3) f.t).setCell (xd g 4) (xu f.lo)).setCell (xd g 5) (xu f.up)) g 6 (xi f.n))
theorem yA.set7(h:yA w O t 7 g e.seven)(f:Nd):yA (Go.Proofs.YtnnagkfoiganfaaGreatDoor.set7 w g f) O t 7 g f.seven:=by have:=((((((h.set 0 (xi f.f)).set 1 f.s).set 2 f.hi).set 3 f.t).set 4 (xu f.lo)).set 5 (xu f.up)).set 6 (xi f.n);exact this
theorem xEw(w:Ww)(g:Nat) f (hs:S g):Chg S w (set7 w g f):=
 ((((((Chg.D w g 0 _ hs).trans (Chg.D _ g 1 _ hs)).trans (Chg.D _ g 2 _ hs)).trans (Chg.D _ g 3 _ hs)).trans (Chg.D _ g 4 _ hs)).trans (Chg.D _ g 5 _ hs)).trans (Chg.D _ g 6 _ hs)
theorem NE.fin(h0:yAo O cb bv n w)(ha:Wa=(xw w #[xi 0,xe,false,xe,xu 0,xu 0,xi 0] 83))(hd:Drew O cb bv n Wa B)(h:NE O cb bv n 100000 B eb W):∃(f:Nd)(WF:Ww),WF=set7 W w f/\Hid (LefP O cb bv n w (.returned f.v) WF)/\C7 W eb f/\C7 W w yA8/\(∀j,W.frozen? (xd w j)=false)/\C7 WF w f:=by
 obtain⟨_,h1,h2,f,rfl,h3⟩:=h;have hb:=qN ha
 have hA:yA Wa w 83 7 w yA8.seven:=ha▸(yAa w _ qr rfl)
 have hl:=h0.lt.2;have hr:=(hA.i hd.2 (by omega)).i h2.c (by omega);have hg:=(((DInv.start h0).k hb).call hd).c.trans h2.c;have hcg:Chg (λk=>k=w) W (set7 W w f):=xEw W w f rfl;have hrl:=hr.lt;refine⟨f,_,rfl,⟨f,rfl,h3,h2.d.i hcg (by omega) (λk q=>by have:=h0.O;omega),?_⟩,h1.c7n,hr.c7n,hr.frozen,(hr.set7 f).c7n⟩;exact⟨hcg.os.trans hg.os,hcg.tape.trans hg.tape,hcg.output.trans hg.output,AE hg.size hcg.size,λk hk hn=>(hcg.block k (AP hk hg.size) (by omega)).trans (hg.block k hk hn)⟩
theorem rgT{P:Program}(L:Nat)(S:Ww->Prop)(hm:P.follows .mixedOrders=true)(hS:S w.drew)(h:S w.drew->AnyT P .any ops Q S L ops.size (Array.replicate ops.size false) a w.drew):(Code.region id ops true).wp P Q a w:=yAe L S hm (h hS)
theorem zR3 (h:p:=by
 refine rgT 6 (λwz:Ww=>xk wz eb 1 f.s) (by kernel_rfl) (by go_simp) (λhS=>?_);apply ja 0 hS;iterate 2 apply jb hS
 refine qO 3 rfl λK hK=>?_;go_simp;apply (yBm _ _ _ _ _ _ _ (A.out _ (by exact zN)).1 (by omega) (by omega) (by omega)).mono;rintro e W8 ⟨s,rfl,hs0,hd⟩;have hS8:=(((A _ (by exact zN)).2 _ hd).2 1).trans hS;have⟨f8,H8,hs8,⟨b0,b1,b2,b3,b4,b5,b6⟩,z8⟩:=((A _ (by exact zN)).2 _ hd).1;clear hd;apply hK.out _ _ (.inr hS8);clear hK;refine jS ?_;have hcat:¬9223372036854775807<f.s.size+s.size:=by have:=hs.s;omega
 refine ja 4 hS8 ?_;refine jb hS8 ?_;refine qO 6 rfl λK hK=>?_;go_simp;refine hK.out _ _ (.inl rfl) (jS ?_);clear hK;refine qD ?_;have:=hs.s;go_wp2_with fail;go_meet;exact zN):p:=h
theorem zR4 (h:p:=by
 have hl:=hs.lo;have hw9:IntKind.u64.wrap (f.lo+1)=f.lo+1:=xCr _ ⟨qo,qo⟩;refine rgT 8 (λwz:Ww=>xk wz eb 4 (xu f.lo)) (by kernel_rfl) (by go_simp) (λhS=>?_);apply ja 0 hS;iterate 3 apply jb hS
 refine qO 4 rfl λK hK=>?_;go_simp;apply (yAs _ _ _ _ _ _ (A.out _ (by exact zN)).1 (by omega) (by omega)).mono;rintro e W8 ⟨x,rfl,hy0,hy1,hd⟩;have hS8:=(((A _ (by exact zN)).2 _ hd).2 4).trans hS;have⟨f8,H8,hs8,⟨b0,b1,b2,b3,b4,b5,b6⟩,z8⟩:=((A _ (by exact zN)).2 _ hd).1;clear hd;have hw:=xCr x ⟨by omega,by omega⟩;have hw8:IntKind.u64.wrap (f.lo+1+x)=f.lo+1+x:=xCr _ ⟨qo,qo⟩;apply hK.out _ _ (.inr hS8);clear hK;refine jS ?_;refine ja 5 hS8 ?_;iterate 2 refine jb hS8 ?_
 refine qO 8 rfl λK hK=>?_;go_simp;refine hK.out _ _ (.inl rfl) (jS ?_);clear hK;refine qD ?_;go_wp2_with fail;go_meet;exact zN):p:=h
theorem yO8(O cb:Nat)(bv:Vv)(n:Nat) w (h:yAo O cb bv n w):
  Calls prog 132 #[xp cb] w (LefP O cb bv n w):=by
 have⟨Wa,hWa⟩:=qE (xw w #[xi 0,xe,false,xe,xu 0,xu 0,xi 0] 83:Ww);have hba:yAo O cb bv n Wa:=hWa▸(h.k (qB))
 have HW:Hid (Wa=(xw w #[xi 0,xe,false,xe,.int .u64 0,.int .u64 0,.int .i64 0] 83)):=hWa;go_enter func132,ntmps132;go_wp2_with fail;rw[<-hWa];clear hWa;apply (yAs O cb bv n 16 _ hba (by omega) (by omega)).mono;rintro e w1 ⟨x,rfl,hx0,hx1,hd⟩;have⟨W2,hW2⟩:=qE (w1.alloc (AD #[.int .i64 0,.string ⟨#[]⟩,.bool false,.string ⟨#[]⟩,.int .u64 0,.int .u64 0,.int .i64 0] 83):Ww);have HR:Hid (∀W,NE O cb bv n 100000 w1 w1.heap.size W->_):=λW=>NE.fin h HW hd;have H:=NE.nc (K:=100000) (BX.new hd.1 ⟨yA8,rfl,Nd.small_zero⟩ rfl hW2);go_upto_region 3 with fail;have⟨eb,heb⟩:=qE w1.heap.size;rw[<-hW2,<-heb];rw[<-heb]at H HR;clear hW2 heb hd HW h hba;go_upto_block 0 with fail;have A:Hid (∀W,NE O cb bv n 100000 w1 eb W->yAo O cb bv n W/\∀W',Drew O cb bv n W W'->NC O cb bv n 100000 w1 eb W'/\∀j,W'.cell? ⟨eb,j,none⟩=W.cell? ⟨eb,j,none⟩):=λW h=>⟨h.dinv.d,λW' d=>⟨NE.nc (h.call d).1,(h.call d).2⟩⟩;have⟨f,H,hs,⟨c0,c1,c2,c3,c4,c5,c6⟩,z⟩:=H;go_cut[] (λwx=>NE O cb bv n 100000 w1 eb wx);case first=>
  go_wp2_with (first
   |(go_at_call 74;go_must (apply (yAs _ _ _ _ _ _ (A.out _ (by exact zN)).1 (by omega) (by omega)).mono;rintro e W ⟨x,rfl,hx0,hx1,hd⟩;have⟨f,H,hs,⟨c0,c1,c2,c3,c4,c5,c6⟩,z⟩:=((A _ (by exact zN)).2 _ hd).1;have hw:=xCr x ⟨by omega,by omega⟩;clear hd))
   |(go_at_call 31;go_must (apply (yBh _ _ _ _ _ _ (A.out _ (by exact zN)).1 (by omega) (by omega)).mono;rintro e W ⟨v,rfl,hv,hd⟩;have⟨f,H,hs,⟨c0,c1,c2,c3,c4,c5,c6⟩,z⟩:=((A _ (by exact zN)).2 _ hd).1;clear hd;rcases hv with rfl|rfl))
   |(go_at_call 178;go_must (apply (yBm _ _ _ _ _ _ _ (A.out _ (by exact zN)).1 (by omega) (by omega) (by omega)).mono;rintro e W ⟨s,rfl,hs0,hd⟩;have⟨f,H,hs,⟨c0,c1,c2,c3,c4,c5,c6⟩,z⟩:=((A _ (by exact zN)).2 _ hd).1;clear hd))
   |(go_at_call 176;go_must (apply (yQ _ _ _ _ _ (A.out _ (by exact zN)).1).mono;rintro e W ⟨s,rfl,hs0,hd⟩;have⟨f,H,hs,⟨c0,c1,c2,c3,c4,c5,c6⟩,z⟩:=((A _ (by exact zN)).2 _ hd).1;clear hd))
   |(go_at_call 177;go_must (refine(xMs (A.out _ (by exact zN)).1 (by simp) (by rfl) (by omega) (by omega) (by rfl)).mono ?_;rintro e W ⟨s,rfl,hs0,hd⟩;obtain⟨f,H,hs,⟨c0,c1,c2,c3,c4,c5,c6⟩,z⟩:=((A.out _ (by exact zN)).2 _ hd).1;clear hd)))
  all_goals first|(go_meet;case rel=>exact zN)|skip
  all_goals first|(go_not_at_region 38;exact zR3)|exact zR4
 case rest=>have⟨f,WF,hWF,HR,⟨k0,k1,k2,k3,k4,k5,k6⟩,⟨l0,l1,l2,l3,l4,l5,l6⟩,lf,p0,p1,p2,p3,p4,p5,p6⟩:=HR _ hcut;simp only[set7]at hWF;go_wp2_with fail;rw[<-hWF];exact AS (by simp[results,results132,go_sem,p0,p1,p2,p3,p4,p5,p6]) rfl HR
end
theorem yOy(v:Vv)(xs:List Nd)(k:Int) w (h:yMw w v xs) (hl:xs.length<=1000000):Calls prog 163 #[v,xi k] w λr w'=>r=.returned (isKB xs k)/\w'=w:=by
 obtain⟨a,c,rfl,hf⟩:=h.form;obtain⟨B,hB⟩:=qE (isKB xs k);rw[<-hB];have HB:=qH1 hB;clear hB h;by_cases h1:xs.length=1
 .obtain⟨n,rfl⟩:∃n,xs= [n]:=List.length_eq_one_iff.1 h1;obtain⟨b,o,rfl,hE,_⟩:=hf (by simp);obtain⟨c0,_⟩:=hE 0 n rfl;simp only[Ag,Ab]at c0;clear hf hE h1;by_cases hk:n.f=k
  .have hb:B=true:=by rw[HB.out];exact(yJw _ _).2 ⟨n,rfl,hk⟩
   exact xJe
  .have hb:B=false:=by rw[HB.out];exact xA1 (fun⟨m,q,r⟩=>by cases q;exact hk r)
   exact xJe
 .have hb:B=false:=by rw[HB.out];exact xA1 (fun⟨m,q,r⟩=>by rw[q]at h1;simp at h1)
  subst hb;have z1:((xs.length:Int)==1)=false:=by rw[iC];omega
  clear hf;go_enter func163,ntmps163;go_wp2;go_ret;exact⟨rfl,rfl⟩
theorem yTs(v v':Vv)(xs ys:List Nd)(w:Ww)(h:yMw w v xs)(h':yMw w v' ys)(hl:xs.length<=1000000)(hl':ys.length<=1000000):Calls prog 165 #[v,v'] w λr w'=>r=.returned (sameB xs ys)/\∃m,w'=w.drewN m:=by
 obtain⟨a,c,rfl,hf⟩:=h.form;obtain⟨a',c',rfl,hf'⟩:=h'.form;obtain⟨B,hB⟩:=qE (sameB xs ys);rw[<-hB];have HB:=qH1 hB;have HF:=qH2 hf hf';clear hB h h' hf hf';by_cases hle:xs.length=ys.length;case neg=>
  have hb:B=false:=by rw[HB.out];exact yU4 (λq=>hle (by rw[q]))
  subst hb;have z1:=bne_iff_ne.2 qo;go_enter func165,ntmps165;go_wp2;go_ret;exact⟨rfl,0,rfl⟩
 obtain⟨n,hn⟩:=qE xs.length;have HN:=qH2 hn (by omega:n=ys.length);rw[<-hle,<-hn];have hn1:n<=1000000:=qo
 clear hn hle hl hl';go_enter func165,ntmps165;go_wp2;go_loopw[13] (λi wr=>∃(k m:Nat),k<=n/\i=(xi k)/\Hid (xs.take k=ys.take k)/\wr=w.drewN m) (λi _=>n-(intOf i).toNat);case atStart=>exact⟨0,0,AJ _,rfl,rfl,rfl⟩
 case round=>
  obtain⟨k,m,hk,rfl,HT,rfl⟩:=hrel;by_cases hlt:k<n
  .have zk:(k:Int)<(n:Int):=qo
   obtain⟨x,hx⟩:∃x,xs[k]?=some x:=qg (qw HN.1);obtain⟨y,hy⟩:∃y,ys[k]?=some y:=qg (qw HN.2);obtain⟨b,o,hab,hE,_⟩:=HF.1 (by rintro rfl;simp at hx);obtain⟨b',o',hab',hE',_⟩:=HF.2 (by rintro rfl;simp at hy);obtain⟨c0,c1,c2,c3,c4,c5,c6⟩:=hE k x hx;obtain⟨d0,d1,d2,d3,d4,d5,d6⟩:=hE' k y hy;obtain⟨Q,hQ,hq⟩:=xD4 x y;have HX:=qH3 hx hy hQ;subst hab hab';clear hx hy hE hE' hQ HF;cases Q
   case true=>
    have hb:B=false:=by rw[HB.out];refine yU4 (λq=>?_);have h1:=HX.1;rw[q,HX.2.1]at h1;have:=HX.2.2.2 (AT h1).symm;cases this
    subst hb;go_wp2_with fail;go_quiet (fail);go_wp2;go_ret;exact⟨rfl,_,World.drewN_drewN ..⟩
   case false=>
    have HT2:Hid (xs.take (k+1)=ys.take (k+1)):=by show _=_;rw[Ac,Ac,HT.out,HX.1,HX.2.1,HX.2.2.1 rfl]
    go_wp2_with fail;go_quiet (fail);refine zY ?_;exact⟨k+1,_,qo,by go_num,HT2,rfl⟩
  .have zk:¬(k:Int)<(n:Int):=qo
   have hb:B=true:=by rw[HB.out];refine(yHh _ _).2 ?_;have:=HT.out;rw[AN (qw HN.1),AN (qw HN.2)]at this;exact this
   subst hb;go_wp2;go_ret;exact⟨rfl,m,rfl⟩
theorem yH2{o:Oper}(w:Ww)(hgd:o.guard=none) s x
  (ho:o.op=.call {callee:=.builtin .append,args:=#[s,x],argTypes:=#[23,23]})
  (O:Nat) (v:Vv) (b off m cx:Nat) (fs es:List Nd) (hs:a.eval s=v) (hx:a.eval x=(xy b off m cx)) (hm:m=es.length) (hO:w.ownsRow O 83 7 v fs.length (yC0 fs))
  (hc:yCq w b off es) (hlen:fs.length+es.length<=2^30) (hbase:O<=w.heap.size)
  (h:∀v' w',w'.ownsRow O 83 7 v' (fs++es).length (yC0 (fs++es))->w.grownBy w' v.ownBlock->wpList prog ops Q rest (a.put o.dst v') w'):wpList prog ops Q (o::rest) a w:=by
 subst hm;exact wpA hgd (apV ⟨underlying23,_,_,Tryz.infoNd,rfl,qj,qj⟩ ho hs hx hO (yHq es) (xFx hc) (AE hlen qj) hbase λv' w' h1 h2 _ _=>h v' w' (by rw[AA,yPf];exact h1) h2)
theorem xA5(w:Ww)(t:TypeId)(z:Array Vv)(size n c:Nat)(hz:z.size=size)(hn:n<=c)(hc:c<=maxLen):
  (w.drew.alloc (.cells (AH z n++AH z (c-n)) t)).ownsRow w t size (xg w 0 c) 0 []:=by
 refine⟨by simp,.inr ⟨w,c,_,rfl,AG _,heap_alloc_new w.drew _,AJ _,hc,?_,by simp⟩⟩;rw[Array.size_append,Ah,Ah,hz,<-Nat.add_mul];congr 1;omega
def xM6(w:Ww)(r:AV)(w':Ww):Prop:=∃v:Vv,r=.returned v/\w'.ownsRow w 83 7 v 0 []/\Below w w w'
theorem yXh(n:Nat) w (hn:n<=2^30):
  Calls prog 203 #[xh,xi n] w λr w'=>xM6 w r w':=by
 obtain⟨i,hi,hz0,hz1,hz2⟩:=info_parts Tryz.infoNd;by_cases h0:n=0
 .subst h0;go_enter func203,ntmps203;go_wp2;go_ret;exact⟨_,rfl,World.ownsRow_nil ..,Below.refl _ _⟩
 .have hp:0<n:=qo
  have HG:Hid (n<=grownCap w n 0 83/\grownCap w n 0 83<=maxLen):=⟨grownCap_ge w n 0 _,grownCap_le_maxLen w n 0 _ (by unfold maxLen;omega)⟩;have HRun:Hid (∀ty,(Builtin.append_ #[23,3] ty #[xh,xi n]).run prog w=.ok (xg w n (grownCap w n 0 83)) (xw w.drew (AH #[xi 0,xe,false,xe,xu 0,xu 0,xi 0] n++AH #[xi 0,xe,false,xe,xu 0,xu 0,xi 0] (grownCap w n 0 83-n)) 83)):=λty=>
   Go.Lib.run_append_nil_zeros w 23 3 ty 83 i (.agg #[xi 0,xe,false,xe,xu 0,xu 0,xi 0]) .i64 .i64 underlying23 underlying3 hi hz0 n hp qo qo (by rw[hz2];omega)
  obtain⟨c,hc⟩:=qE (grownCap w n 0 83);rw[<-hc]at HG HRun;have hcm:=HG.2;have hcn:=HG.1;unfold maxLen at hcm;have zp:(0:Int)<(n:Int):=qo
  clear h0 hc hi hz0 hz1 hz2;go_enter func203,ntmps203;go_wp2_with (at_builtin;refine Go.Lib.wpList_append_run _ rfl _ _ _ _ rfl _ _ rfl rfl _ _ (HRun.out _) ?_);obtain⟨W1,hW1⟩:=qW (xw w.drew (AH #[xi 0,xe,false,xe,xu 0,xu 0,xi 0] n++AH #[xi 0,xe,false,xe,xu 0,xu 0,xi 0] (c-n)) 83);have HO:Hid (W1.ownsRow w 83 7 (xg w 0 c) 0 []/\Below w w W1):=by rw[hW1];exact⟨xA5 w _ _ 7 n c rfl hcn (by unfold maxLen;omega),(Below.refl _ _).drew.alloc (by simp) _⟩
  go_ret;rw[hW1]at HO;exact⟨_,rfl,HO.1,HO.2⟩
theorem Tryz.infoCt:(prog.info? 71).map (λi=>(i.zero,i.size,i.bytes))=some (some (.pointer none),1,8):=qk
structure AppC(w w':Ww)(O g n cp:Nat)(ps qs:List Nat)(g' cp':Nat):Prop where
 Z:PRow w' O g' cp' (ps++qs)
 grown:w.grownBy w' (some g)
 U:g'=g\/g'=w.heap.size
theorem xHv(qs:List Nat):∀u∈qs.map ptrV,u.oneCell'=true:=by intro u hu;obtain⟨p,_,rfl⟩:=List.mem_map.1 hu;rfl
theorem apCt:ApT 146 71 1 (λl=>l.map ptrV) PRow (λw b off qs=>∀j p,qs[j]?=some p->w.cell? ⟨b,off+j,none⟩=some (ptrV p)):=⟨⟨underlying146,_,_,Tryz.infoCt,rfl,qj,qj⟩,λ_ _=>List.map_append,λ_=>by simp,Iff.rfl,λh=>⟨λj u hu=>by
 rw[AW]at hu;obtain⟨r,hr,rfl⟩:=Option.map_eq_some_iff.1 hu;exact h j r hr,xHv _⟩⟩
def CtP(e:Nd)(ps:List Nat)(w:Ww)(r:AV)(w':Ww):Prop:=∃p q cq,r=.returned (ptrV p)/\BoxT w' w p e (xg q ps.length cq) 0/\PRow w' w q cq ps/\Below w w w'
theorem yFz(e:Nd)(b off m cx:Nat)(ps:List Nat)(w:Ww)(hm:m=ps.length)(hl:ps.length<=1000)(hb:b<w.heap.size)(hc:∀j p,ps[j]?=some p->(xk w b (off+j) (ptrV p):Prop)):Calls prog 36 #[e.v,(xy b off m cx)] w (CtP e ps w):=by
 have HC:Hid (m=ps.length/\∀wx,Below w w wx->∀j p,ps[j]?=some p->(xk wx b (off+j) (ptrV p):Prop)):=⟨hm,λwx hx j p hp=>by rw[hx.cell (p:=(xd b (off+j))) hb];exact hc j p hp⟩;clear hc hm;obtain⟨W0,hW0⟩:=qW (xw w #[xi e.f,e.s,e.hi,e.t,xu e.lo,xu e.up,xi e.n] 83);obtain⟨P0,hP0⟩:=qE w.heap.size;have hb0:Below w w W0:=by rw[hW0];exact qB
 have HB0:Hid (yA W0 P0 83 7 P0 [.int .i64 e.f,.string e.s,.bool e.hi,.string e.t,.int .u64 e.lo,.int .u64 e.up,.int .i64 e.n]):=by rw[hW0,hP0];exact yAa w _ (AG _) rfl
 have hSd:SW (λw':Ww=>w'.cell? ⟨P0,0,none⟩=some (.int .i64 e.f)/\w'.cell? ⟨P0,1,none⟩=some (.string e.s)/\w'.cell? ⟨P0,2,none⟩=some (.bool e.hi)/\w'.cell? ⟨P0,3,none⟩=some (.string e.t)/\w'.cell? ⟨P0,4,none⟩=some (.int .u64 e.lo)/\w'.cell? ⟨P0,5,none⟩=some (.int .u64 e.up)/\w'.cell? ⟨P0,6,none⟩=some (.int .i64 e.n)) W0.drew:=⟨HB0.z (j:=0) rfl,HB0.z (j:=1) rfl,HB0.z (j:=2) rfl,HB0.z (j:=3) rfl,HB0.z (j:=4) rfl,HB0.z (j:=5) rfl,HB0.z (j:=6) rfl⟩;go_enter func36,ntmps36;go_upto_region 1 with fail;rw[<-hW0,<-hP0];clear hW0 hP0;refine wpR 99 hSd ?_;refine ja 0 hSd ?_;refine ja 2 hSd ?_;obtain⟨V1,hV1⟩:=qW ((W0.alloc (AD #[] 71)).drew);obtain⟨G1,hG1⟩:=qE W0.heap.size;have hbV:Below W0.heap.size W0 V1:=by rw[hV1];exact(qB).drew
 have k1:=hb0.trans (hbV.mono hb0.size);have HV1:Hid (PRow V1 W0.heap.size G1 0 []):=by rw[hV1,hG1];have h9:PRow (W0.alloc (AD #[] 71)) W0.heap.size W0.heap.size 0 []:=World.ownsRow_lit W0 #[] 0 (AG _) qj qj;exact h9.i (S:=λ_=>False) (Chg.h ((Below.refl _ _).drew)) (λq=>q)
 have hS1:=SWm hSd V1 <|⟨by rw[hbV.cell (p:=⟨P0,0,none⟩) HB0.lt.2];exact HB0.z (j:=0) rfl,by rw[hbV.cell (p:=⟨P0,1,none⟩) HB0.lt.2];exact HB0.z (j:=1) rfl,by rw[hbV.cell (p:=⟨P0,2,none⟩) HB0.lt.2];exact HB0.z (j:=2) rfl,by rw[hbV.cell (p:=⟨P0,3,none⟩) HB0.lt.2];exact HB0.z (j:=3) rfl,by rw[hbV.cell (p:=⟨P0,4,none⟩) HB0.lt.2];exact HB0.z (j:=4) rfl,by rw[hbV.cell (p:=⟨P0,5,none⟩) HB0.lt.2];exact HB0.z (j:=5) rfl,by rw[hbV.cell (p:=⟨P0,6,none⟩) HB0.lt.2];exact HB0.z (j:=6) rfl⟩;have HBV:=qH3 (HB0.k hbV) hbV.size hb0.size;refine qO 1 rfl λK hK=>?_;go_simp;rw[<-hV1,<-hG1];clear hV1 hG1;refine hK.out _ _ (.inr hS1) (jS ?_);clear hK;refine qO 3 rfl λK hK=>?_;refine stA rfl (apK apCt rfl W0.heap.size [] ps rfl rfl rfl HC.1 HV1.out (HC.2 V1 k1) (by simp;omega) HBV.2.1 ?_);intro g2 c2 w2 a1 a2 _;have hgr:Below W0.heap.size W0 w2:=by have h1:=Chg.M a2 (λj hj=>by cases hj;exact HV1.lt.1);exact Chg.k hbV h1 HBV.2.1 (λj hj=>hj)
 have HR2:=qH2 a1 hgr;have hS2:=SWm hS1 w2 <|⟨by rw[hgr.cell (p:=⟨P0,0,none⟩) HB0.lt.2];exact HB0.z (j:=0) rfl,by rw[hgr.cell (p:=⟨P0,1,none⟩) HB0.lt.2];exact HB0.z (j:=1) rfl,by rw[hgr.cell (p:=⟨P0,2,none⟩) HB0.lt.2];exact HB0.z (j:=2) rfl,by rw[hgr.cell (p:=⟨P0,3,none⟩) HB0.lt.2];exact HB0.z (j:=3) rfl,by rw[hgr.cell (p:=⟨P0,4,none⟩) HB0.lt.2];exact HB0.z (j:=4) rfl,by rw[hgr.cell (p:=⟨P0,5,none⟩) HB0.lt.2];exact HB0.z (j:=5) rfl,by rw[hgr.cell (p:=⟨P0,6,none⟩) HB0.lt.2];exact HB0.z (j:=6) rfl⟩;clear a1 a2 hbV;refine hK.out _ _ (.inr hS2) (jS ?_);clear hK;simp only[AO];refine ja 4 hS2 ?_;obtain⟨V3,hV3⟩:=qW (w2.alloc (AD #[.int .i64 e.f,.string e.s,.bool e.hi,.string e.t,.int .u64 e.lo,.int .u64 e.up,.int .i64 e.n,(xg g2 m c2),.int .i64 0] 149));obtain⟨G3,hG3⟩:=qE w2.heap.size;have hb3:Below w2.heap.size w2 V3:=by rw[hV3];exact qB
 have HR:Hid (CtP e ps w (.returned (ptrV G3)) V3):=by
  have h1:=HR2.2.size;have h2:=hb0.size;refine⟨G3,g2,c2,rfl,?_,?_,(hb0.trans (HR2.2.mono h2)).trans (hb3.mono qo)⟩
  .rw[hV3,hG3,<-HC.1];exact yAa w2 _ qo rfl
  .have h9:=HR2.1.i (S:=λ_=>False) (Chg.h hb3) (λq=>q);refine⟨h9.1,?_⟩;rcases h9.2 with hn|⟨g',cap',cur,hv,h3,rest⟩
   .exact .inl hn
   .exact .inr ⟨g',cap',cur,hv,AE h2 h3,rest⟩
 have hS3:=SWm hS2 V3 <|⟨by rw[hb3.cell (p:=⟨P0,0,none⟩) (by show P0<_;have:=HB0.lt.2;have:=HR2.2.size;omega)];exact hS2.1,by rw[hb3.cell (p:=⟨P0,1,none⟩) (by show P0<_;have:=HB0.lt.2;have:=HR2.2.size;omega)];exact hS2.2.1,by rw[hb3.cell (p:=⟨P0,2,none⟩) (by show P0<_;have:=HB0.lt.2;have:=HR2.2.size;omega)];exact hS2.2.2.1,by rw[hb3.cell (p:=⟨P0,3,none⟩) (by show P0<_;have:=HB0.lt.2;have:=HR2.2.size;omega)];exact hS2.2.2.2.1,by rw[hb3.cell (p:=⟨P0,4,none⟩) (by show P0<_;have:=HB0.lt.2;have:=HR2.2.size;omega)];exact hS2.2.2.2.2.1,by rw[hb3.cell (p:=⟨P0,5,none⟩) (by show P0<_;have:=HB0.lt.2;have:=HR2.2.size;omega)];exact hS2.2.2.2.2.2.1,by rw[hb3.cell (p:=⟨P0,6,none⟩) (by show P0<_;have:=HB0.lt.2;have:=HR2.2.size;omega)];exact hS2.2.2.2.2.2.2⟩;refine qO 5 rfl λK hK=>?_;go_simp;rw[<-hV3,<-hG3];clear hV3 hG3;refine hK.out _ _ (.inr hS3) (jS ?_);clear hK;refine kO 6 hS3 ?_;refine qD ?_;go_wp2;go_ret;exact HR.out
def CatN(w:Ww)(xs:List Nd)(r:AV)(w':Ww):Prop:=∃v:Vv,r=.returned v/\w'.ownsRow w 83 7 v xs.length (yC0 xs)/\Below w w w'
structure xCj(w:Ww)(sb:Nat)(ns:List (List Nd)):Prop where
 lt:sb<w.heap.size
 U:∀(j:Nat)(y:List Nd),ns[j]?=some y->∃b o c,xk w sb j (xy b o y.length c)/\yCq w b o y/\b<w.heap.size
variable {w':Ww} {ns:List (List Nd)}
theorem xCj.k{sb:Nat}(h:xCj w sb ns)(hb:Below w w w'):xCj w' sb ns:=by refine⟨qv hb.size h.lt,λj y hy=>?_⟩;obtain⟨b,o,c,h1,h2,h3⟩:=h.U j y hy;exact⟨b,o,c,by rw[hb.cell (p:=(xd sb j)) h.lt];exact h1,h2.k hb h3,qw hb.size⟩
theorem yRq(sb n:Nat)(ns:List (List Nd)) w (h:xCj w sb ns) (hn:ns.flatten.length<=1000000) (hm:n=ns.length) (hn2:n<=1000):
  Calls prog 164 #[xg sb n n] w (CatN w ns.flatten):=by
 have HP:=qH3 h hm hn;clear h hm hn;go_enter func164,ntmps164;go_wp2;go_loopw[3,11] (λs i wr=>∃(k x:Nat),k<=n/\i=(xi k)/\s=.int .i64 x/\Hid (x=(ns.take k).flatten.length)/\x<=1000000/\Below w.heap.size w wr) (λ_ i _=>n-(intOf i).toNat);case atStart=>exact⟨0,0,AJ _,rfl,rfl,rfl,qo,Below.refl _ _⟩
 case round=>
  obtain⟨k,x,hk,rfl,rfl,HX,hxl,hb0⟩:=hrel;have hs0:=hb0.size;by_cases hlt:k<n
  .obtain⟨y,hy⟩:∃y,ns[k]?=some y:=⟨_,AC (qw HP.2.1)⟩;obtain⟨b,o,c,c0,_⟩:=(HP.1.k hb0).U k y hy;have HX2:Hid (x+y.length=(ns.take (k+1)).flatten.length):=by show _=_;rw[yLf hy,AA,<-HX.out]
   have hx2:x+y.length<=1000000:=by have h1:=HX2.out;have h2:=xBf ns (k+1);have h3:=HP.2.2;omega
   clear hy;have zk:(k:Int)<(n:Int):=qo
   have zz:¬(x:Int)+(y.length:Int)<0:=qo
   refine zY ?_;exact⟨k+1,x+y.length,qo,by go_num,by go_num,HX2,hx2,hb0⟩
  .have zk:¬(k:Int)<(n:Int):=qo
   go_wp2_with fail;refine(yXh x _ qo).mono ?_;rintro e w1 ⟨v,rfl,hO1,hb1⟩;have HO1:=qH2 hO1 (hb0.trans (hb1.mono hs0));have hs1:=hb1.size;clear hO1 hb1;obtain⟨B0,hB0⟩:=qE wr.heap.size;rw[<-hB0]at HO1;have hB1:w.heap.size<=B0/\B0<=w1.heap.size:=qo
   clear hB0;go_wp2_with fail;go_loopw[6,27] (λov i wr=>∃(k:Nat)(v:Vv),k<=n/\i=(xi k)/\ov=v/\Hid (wr.ownsRow B0 83 7 v ((ns.take k).flatten).length (yC0 ((ns.take k).flatten)))/\B0<=wr.heap.size/\Below w w wr) (λ_ i _=>n-(intOf i).toNat);case atStart=>exact⟨0,v,AJ _,rfl,rfl,HO1.1,hB1.2,HO1.2⟩
   case round=>
    obtain⟨v0,hv0⟩:=qE (u6:Vv);subst hv0;obtain⟨k,v,hk,rfl,hov,HO,hBr,hb⟩:=hrel;rw[<-hov]at HO;clear hov;have hs:=hb.size;by_cases hlt:k<n
    .obtain⟨y,hy⟩:∃y,ns[k]?=some y:=qg (by have:=HP.2.1;omega);obtain⟨b,o,c,c0,hE,_⟩:=(HP.1.k hb).U k y hy;have HD:Hid (ns[k]?=some y/\yCq wr b o y/\((ns.take k).flatten).length+y.length<=2^30):=by refine⟨hy,hE,?_⟩;have h1:=xBf ns (k+1);rw[yLf hy,AA]at h1;have:=HP.2.2;omega
     clear hy hE;have zk:(k:Int)<(n:Int):=qo
     go_wp2_with (at_builtin;refine yH2 _ rfl _ _ rfl B0 v0 b o y.length c ((ns.take k).flatten) y rfl rfl rfl HO.out HD.2.1 HD.2.2 ?hb ?_);case hb=>omega
     intro v' w2 hO' hgr;have HN:Hid (w2.ownsRow B0 83 7 v' ((ns.take (k+1)).flatten).length (yC0 ((ns.take (k+1)).flatten))):=by show World.ownsRow _ _ _ _ _ _ _;rw[yLf HD.1];simpa using hO'
     have hb2:=hb.grown hgr hs (λq hq=>by have:=(World.ownsRow.lt HO.out q hq).1;omega);have hB2:B0<=w2.heap.size:=by have:=hgr.size;omega
     clear hO' hgr;refine zX ?_;exact⟨k+1,v',qo,by go_num,rfl,HN,hB2,hb2⟩
    .have zk:¬(k:Int)<(n:Int):=qo
     have HF:Hid (wr.ownsRow w 83 7 v0 ns.flatten.length (yC0 ns.flatten)):=by
      have h1:=HO.out;rw[AN (by have:=HP.2.1;omega)]at h1;refine⟨h1.1,?_⟩;rcases h1.2 with q|⟨g',cap',cur,hv,h2,rest⟩
      .exact .inl q
      .exact .inr ⟨g',cap',cur,hv,qo,rest⟩
     go_wp2_with fail;go_ret;exact⟨v0,rfl,HF.out,hb⟩
section
theorem yBb.i{cap:Nat}(h:yBb w O g cap es)(hc:Chg S w w')(hn:¬S g):yBb w' O g cap es:=yAh h hc (λk q=>by simp[Value.ownBlock]at q;subst q;exact hn)
theorem wGen{c:Code}(h:BX O cb bv n T sz P B eb W)(k:∀W',BX O cb bv n T sz P B eb W'->c.wp P' Q a W'):c.wp P' Q a W:=k W h
def yOo:List Vv->Bool
 | []=>true
 | (xi k):: .string s:: .bool _:: .string t:: (xu l):: (xu u):: (xi n)::r=>decide ((s.size<=200000/\t.size<=300000)/\(0<=l/\l<=50000)/\(0<=u/\u<=100000)/\(0<=n/\n<=100000)/\0<=k/\k<=100000) && yOo r
 |_=>false
theorem Nd.sm.nds(h:e.small):yOo e.seven=true:=by simp only[yOo,Bool.and_true,decide_eq_true_eq];exact⟨⟨h.s,h.t⟩,h.lo,h.up,h.n,h.f⟩
theorem yVl:∀{l:List Vv},yOo l=true->∃es:List Nd,l=yC0 es/\∀e∈es,e.small
 | [],_=>⟨[],rfl,λ_ q=>by cases q⟩
 | (xi k):: .string s:: .bool b:: .string t:: (xu l):: (xu u):: (xi n)::r,h=>by
   simp only[yOo,Bool.and_eq_true,decide_eq_true_eq]at h
   have⟨es,h1,h2⟩:=yVl h.2
   have⟨⟨q1,q2⟩,q3,q4,q5,q6⟩:=h.1
   refine⟨⟨k,s,b,t,l,u,n⟩::es,by rw[h1];rfl,λe he=>?_⟩
   rcases List.mem_cons.1 he with rfl|he
   .exact⟨q1,q2,q3,q4,q5,q6⟩
   .exact h2 e he
def DnR(w W:Ww)(g cp len:Nat):Prop:=∃xs:List Nd,len=xs.length/\(∀e∈xs,e.small)/\yBb W w g cp xs
section
variable {la lb gb ob cx:Nat}
theorem DnR.i(h:DnR w W g cp len)(hc:Chg S W W')(hn:¬S g):DnR w W' g cp len:=by have⟨xs,h1,h2,h3⟩:=h;exact⟨xs,h1,h2,h3.i hc hn⟩
theorem DnR.lt(h:DnR w W g cp len):w<=g/\g<W:=by have⟨xs,h1,h2,h3⟩:=h;exact h3.lt
theorem DnR.k(h:DnR w W g cp len)(hb:Below W W W'):DnR w W' g cp len:=h.i (S:=λ_=>False) (Chg.h hb) (λq=>q)
theorem DnR.drew(h:DnR w W g cp len)(hl:cb<w)(hd:Drew O cb bv n W W'):DnR w W' g cp len:=h.i hd.2 (qw h.lt)
theorem xAa(h:yCq w b off es)(hb:Chg S w w')(hlt:b<w)(hn:¬S b):yCq w' b off es:=by
 intro i e he;have:=h i e he;refine⟨?_,?_,?_,?_,?_,?_,?_⟩;all_goals rw[hb.z (by exact hlt) (by exact hn)]
 .exact this.1
 .exact this.2.1
 .exact this.2.2.1
 .exact this.2.2.2.1
 .exact this.2.2.2.2.1
 .exact this.2.2.2.2.2.1
 .exact this.2.2.2.2.2.2
def Src(p:Nd->Prop)(W:Ww)(b o len:Nat):Prop:=∃ys:List Nd,len=ys.length/\(∀e∈ys,p e)/\yCq W b o ys
theorem DnR.src(h:DnR w W g cp len):Src Nd.small W g 0 len:=by have⟨xs,h1,h2,h3⟩:=h;exact⟨xs,h1,h2,h3.at⟩
variable {o:Nat}
theorem Src.i{p:Nd->Prop}(h:Src p W b o len)(hb:b<W)(hc:Chg S W W')(hn:¬S b):Src p W' b o len:=by have⟨xs,h1,h2,h3⟩:=h;exact⟨xs,h1,h2,xAa h3 hc hb hn⟩
theorem DnR.lit(hb:w.heap.size<=W)(hok:yOo cs.toList=true)(hz:cs.size=len*7)(h6:len<=100):DnR w (xw W cs 83) W len len:=by
 have⟨es,h1,h2⟩:=yVl hok;have hl:len=es.length:=by have:=congrArg List.length h1;rw[yHq,Array.length_toList]at this;omega
 subst hl;refine⟨es,rfl,h2,?_⟩;have h:=World.ownsRow_lit (base:=w.heap.size) (e:=83) (size:=7) W cs es.length hb (by unfold maxLen;omega) hz;unfold yBb;rw[<-h1];exact h
variable {o:Oper} {x:Operand}
theorem apN(hgd:o.guard=none)(ho:o.op=.call {callee:=.builtin .append,args:=#[s,x],argTypes:=#[23,23]})
  (hs:a.eval s=(xg g la cp)) (hx:a.eval x=(xy gb ob lb cx)) (HA:Hid (DInv O cb bv n w W/\DnR w W g cp la)) (HB:Src Nd.small W gb ob lb) (hl:la+lb<=100000)
  (h:∀g' cp' w',Hid (DInv O cb bv n w w'/\DnR w w' g' cp' (la+lb))->Hid (∀g2 c2 l2,DnR w W g2 c2 l2->¬g2=g->DnR w w' g2 c2 l2)->wpList prog ops Q rest (a.put o.dst (xg g' (la+lb) cp')) w'):wpList prog ops Q (o::rest) a W:=by
 obtain⟨HD,xs,rfl,h2,h3⟩:=HA;obtain⟨es,rfl,h5,h6⟩:=HB;exact wpA hgd (apK apNd ho w xs es hs hx rfl rfl h3 h6 qo HD.c.size λg' cp' w' hO hgr hat=>h g' cp' w' ⟨HD.grow hgr (λk q=>by cases q;exact h3.lt.1),xs++es,by simp,λe he=>(Af.1 he).elim (h2 e) (h5 e),hO⟩ λg2 c2 l2 hr hn=>hr.i (Chg.M (S:=λk=>k=g) hgr (λk q=>by cases q;rfl)) hn)
theorem apS(hgd:o.guard=none)(ho:o.op=.call {callee:=.builtin .append,args:=#[s,x],argTypes:=#[23,23]})
  (hs:a.eval s=(xg g la cp)) (hx:a.eval x=(xg W lb lb)) (HA:Hid (DInv O cb bv n w W/\DnR w W g cp la)) (hok:yOo cs.toList=true) (hz:cs.size=lb*7) (hl:la<=10000) (h1:lb<=100)
  (h:∀g' cp' w',Hid (DInv O cb bv n w w'/\DnR w w' g' cp' (la+lb))->wpList prog ops Q rest (a.put o.dst (xg g' (la+lb) cp')) w'):wpList prog ops Q (o::rest) a (xw W cs 83):=
 have hb:=qB
 apN hgd ho hs hx ⟨HA.1.k hb,HA.2.k hb⟩ (DnR.lit HA.1.c.size hok hz h1).src qo λg' cp' w' h9 _=>h g' cp' w' h9
theorem apP(hgd:o.guard=none)(ho:o.op=.call {callee:=.builtin .append,args:=#[s,x],argTypes:=#[23,23]})
  (hs:a.eval s=(xg W lb lb)) (hx:a.eval x=(xg g la cp)) (HA:Hid (DInv O cb bv n w W/\DnR w W g cp la)) (hok:yOo cs.toList=true) (hz:cs.size=lb*7) (hl:la<=10000) (h1:lb<=100)
  (h:∀g' cp' w',Hid (DInv O cb bv n w w'/\DnR w w' g' cp' (lb+la))->wpList prog ops Q rest (a.put o.dst (xg g' (lb+la) cp')) w'):wpList prog ops Q (o::rest) a (xw W cs 83):=
 have hb:=qB
 apN hgd ho hs hx ⟨HA.1.k hb,DnR.lit HA.1.c.size hok hz h1⟩ (HA.2.k hb).src qo λg' cp' w' h9 _=>h g' cp' w' h9
end
def TreP(O cb:Nat)(bv:Vv)(n m:Nat)(w:Ww)(e:AV)(w':Ww):Prop:=∃g cp len:Nat,e=.returned (xg g len cp)/\len<=m/\0<len/\Hid (DInv O cb bv n w w'/\DnR w w' g cp len)
def TreC(O cb:Nat)(bv:Vv)(n:Nat)(z:Int)(m:Nat):Prop:=∀w,yAo O cb bv n w->Calls prog 75 #[xp cb,xi z] w (TreP O cb bv n m w)
theorem DInv.up(hd:DInv O cb bv n w W)(h:DInv O cb bv n W w'/\DnR W w' g cp len):Hid (DInv O cb bv n w w'/\DnR w w' g cp len/\∀g2 c2 l2,DnR w W g2 c2 l2->DnR w w' g2 c2 l2/\¬g=g2):=by have⟨h4,xs,h5,h6,h7⟩:=h;have hz:=hd.c.size;have hl:=hd.lt;have:=h7.lt;refine⟨⟨h4.d,hd.c.trans h4.c,hd.lt,hd.hb⟩,⟨xs,h5,h6,h7.mono hz⟩,λg2 c2 l2 hr=>?_⟩;have hq:=hr.lt;exact⟨hr.i h4.c qo,qo⟩
theorem zTl(h:p:=by go_wp2_with (at_builtin;refine apS rfl rfl rfl rfl H4 (by rfl) (by rfl) qo qo ?_);intro g5 c5 w5 H5;go_wp2_with fail;go_ret;exact⟨g5,c5,_,rfl,qo,qo,H5⟩):p:=h
theorem zTa(h:p:=by go_wp2_with (at_builtin;refine apN rfl rfl rfl rfl HX HB.src qo ?_);intro g4 c4 w4 H4 _;exact zTl):p:=h
theorem zTi(h:p:=by go_wp2_with fail;apply (HT.out _ HX.1.d).mono;rintro e w7 ⟨gc,cd,lc,rfl,hCl,hC0,K⟩;have HY:=HX.1.up K;have HA:=HY.2.2 _ _ _ HX.2;clear K;go_wp2_with (at_builtin;refine apN rfl rfl rfl rfl ⟨HY.1,HA.1⟩ (HY.2.2 _ _ _ HB).1.src qo ?_);intro g3 c3 w3 H3 HK;go_wp2_with (at_builtin;refine apN rfl rfl rfl rfl H3 (HK _ _ _ HY.2.1 HA.2).src qo ?_);intro g4 c4 w4 H4 _;exact zTl):p:=h
theorem zTf(h:p:=by go_wp2_with fail;apply (yO8 O cb bv n _ H1.d).mono;rintro e w2 ⟨f,rfl,hf,hd⟩;have H2:=qH2 (H1.call hd) hf.nds;clear hd hf;go_wp2_with fail;go_ret;exact⟨_,1,1,rfl,qo,qo,H2.1.k (qB),DnR.lit H2.1.c.size H2.2 rfl qo⟩):p:=h
theorem yHb(O cb:Nat)(bv:Vv)(n:Nat)(z:Int)(m:Nat)(hz0:0<=z)(hz1:z<=100)(hm:m<=1000)(HT0:0<z->TreC O cb bv n (z-1) m):TreC O cb bv n z (3*m+1):=by
 intro w h;have HD:=qH1 (DInv.start h);have HS:=qH1 HT0;clear h HT0;go_enter func75,ntmps75;go_wp2_with fail;apply (yAs O cb bv n 10 _ HD.d qo qo).mono;rintro e w1 ⟨x,rfl,hx0,hx1,hd⟩;have H1:=qH1 (HD.call hd);clear hd;by_cases hz:z=0
 .subst hz;exact zTf
 have hzb:(z==0)=false:=by rw[iC];exact hz
 by_cases hx2:x<2
 .exact zTf
 have HT:=qH1 (HS qo);clear HS;go_wp2_with fail;apply (HT.out _ H1.d).mono;rintro e w2 ⟨ga,ca,la,rfl,hAl,hA0,K⟩;have H2:=H1.up K;clear K;go_wp2_with fail;apply (HT.out _ H2.1.d).mono;rintro e w3 ⟨gb,cc,lb,rfl,hBl,hB0,K⟩;have H3:=H2.1.up K;have HX:=qH2 H3.1 ((H3.2.2 _ _ _ H2.2.1).1);have HB:=qH1 H3.2.1;clear K H3 H2 HD;by_cases hx6:x<6
 .exact zTa
 by_cases hx8:x<8
 .exact zTa
 by_cases hx9:x=8
 .subst hx9;go_wp2_with fail;apply (yBh O cb bv n 3 _ HX.1.d qo qo).mono;rintro e w9 ⟨v,rfl,hv,hd⟩;have hl:=H1.lt;have HX:=qH2 (HX.1.call hd) (HX.2.drew hl hd);have HB:=qH1 (HB.drew hl hd);clear hd;rcases hv with rfl|rfl
  .have HB:=qH1 HX.2;exact zTa
  .exact zTi
 .have hxb:(x==8)=false:=by rw[iC];exact hx9
  exact zTi
end
def yJo(w:Ww)(v:Vv)(y:List Nd):Prop:=∃g cp,v=(xg g y.length cp)/\yBb w 0 g cp y
variable {y:List Nd}
theorem yJo.ins(h:yJo w v y):yMw w v y:=by obtain⟨g,cp,rfl,h⟩:=h;exact yMw.Z h rfl
theorem yJo.k(h:yJo w v y)(hb:Below w w w'):yJo w' v y:=by obtain⟨g,cp,rfl,h⟩:=h;exact⟨g,cp,rfl,h.k hb h.lt.2⟩
def NmI(S:Nat->Prop)(y:List Nd)(w:Ww)(r:AV)(w':Ww):Prop:=∃v,r=.returned v/\yJo w' v y/\(∀a n c,v=.slice (some a) n c->S a.block\/w<=a.block)/\Below w w w'
structure Opd(S:Nat->Prop)(w:Ww)(u:Vv)(x:List Nd):Prop where
 Z:yJo w u x
 ne:x≠ []
 blk:∀a n c,u=.slice (some a) n c->S a.block
 good:∀e∈x,yBq e
 X:x.length<=1000
variable {u:Vv} {x:List Nd}
theorem Opd.ins(h:Opd S w u x):yMw w u x:=h.Z.ins
theorem Opd.form(h:Opd S w u x):∃b o c,u=(xy b o x.length c)/\yCq w b o x/\b<w:=by obtain⟨a,c,rfl,hf⟩:=h.ins.form;obtain⟨b,o,rfl,hE,hlt,_⟩:=hf h.ne;exact⟨b,o,c,rfl,hE,hlt⟩
theorem yTo{k l:Int}(h:isK x k)(g:isK x l):k=l:=by
 obtain⟨n,rfl,rfl⟩:=h;obtain⟨m,hm,rfl⟩:=g;cases hm
 rfl
theorem xEx(hb:Below w w W)(hne:y≠ [])(h:CatN W y r w'):NmI S y w r w':=by
 obtain⟨v,rfl,hO,hb2⟩:=h;have hb3:=hb.trans (hb2.mono hb.size);rcases hO.2 with⟨_,q⟩|⟨g,cap,cur,rfl,h1,_⟩
 .exact absurd (AM.1 q) hne
 .refine⟨_,rfl,⟨g,cap,rfl,yBb.mono (show yBb w' W g cap y from hO) (AJ _)⟩,λa n c hq=>?_,hb3⟩;cases hq
  exact .inr (by have:=hb.size;show w<=g;omega)
theorem yQa(w:Ww)(e:Nd):yBb (xw w #[xi e.f,e.s,e.hi,e.t,xu e.lo,xu e.up,xi e.n] 83) w w 1 [e]:=
 World.ownsRow_lit w #[xi e.f,e.s,e.hi,e.t,xu e.lo,xu e.up,xi e.n] 1 qr qj rfl
def Oq(S:Nat->Prop)(w:Ww)(x:List Nd)(p:Nat×Nat×Nat):Prop:=Opd S w (xy p.1 p.2.1 x.length p.2.2) x/\yCq w p.1 p.2.1 x/\p.1<w
variable {o:Nat}
theorem Oq.ret(h:Hid (Oq S w x (b,o,c)))(hb:Below w w W)(e:y=x):NmI S y w (.returned (xy b o x.length c)) W:=by rw[e];exact⟨_,rfl,h.out.1.Z.k hb,λa n c hq=>.inl (h.out.1.blk a n c hq),hb⟩
theorem Oq.sgl(h:Hid (Oq S w x (b,o,c)))(k:Int):Calls prog 163 #[(xy b o x.length c),xi k] w λr w'=>w'=w/\(r=.returned true/\Hid (isK x k)\/r=.returned false/\Hid (¬isK x k)):=by
 apply (yOy _ x k w h.out.1.ins (qw h.out.1.X)).mono;rintro r w' ⟨rfl,rfl⟩;refine⟨rfl,?_⟩;cases q:isKB x k
 .exact .inr ⟨rfl,λz=>by rw[(yJw _ _).2 z]at q;cases q⟩
 .exact .inl ⟨rfl,(yJw _ _).1 q⟩
theorem Oq.same{b' o' c':Nat}(h:Hid (Oq S w x (b,o,c)))(g:Hid (Oq S w y (b',o',c'))):Calls prog 165 #[(xy b o x.length c),(xy b' o' y.length c')] w λr w'=>(∃m,w'=w.drewN m)/\(r=.returned true/\Hid (x=y)\/r=.returned false/\Hid (¬x=y)):=by
 apply (yTs _ _ x y w h.out.1.ins g.out.1.ins (qw h.out.1.X) (qw g.out.1.X)).mono;rintro r w' ⟨rfl,hm⟩;refine⟨hm,?_⟩;cases q:sameB x y
 .exact .inr ⟨rfl,λz=>by rw[(yHh _ _).2 z]at q;cases q⟩
 .exact .inl ⟨rfl,(yHh _ _).1 q⟩
theorem Oq.conc{k:Int}(hV:Below w.heap.size w V)(L:List (List Nd×Nat×Nat×Nat))(h:∀p∈L,Oq S w p.1 p.2)(hcs:cs.toList=L.map (λp=>.slice (some ⟨p.2.1,p.2.2.1,none⟩) p.1.length p.2.2.2)++ [.slice (some ⟨V.heap.size,0,none⟩) 1 1])(hm:m=L.length+1)(hl:(L.map (·.1)).flatten.length<=10000)(hm2:m<=10)(he:y=(L.map (·.1)).flatten++ [yCa k]):
  Calls prog 164 #[.slice (some ⟨V.heap.size+1,0,none⟩) m m] ((V.alloc (AD #[.int .i64 k,.string ⟨#[]⟩,.bool false,.string ⟨#[]⟩,.int .u64 0,.int .u64 0,.int .i64 0] 83)).alloc (AD cs 23)) λr w'=>∃v,r=.returned v/\Hid (NmI S y w r w'):=by
 rw[he];have⟨V1,hV1⟩:=qW (V.alloc (AD #[.int .i64 k,.string ⟨#[]⟩,.bool false,.string ⟨#[]⟩,.int .u64 0,.int .u64 0,.int .i64 0] 83));have⟨V2,hV2⟩:=qW (V1.alloc (AD cs 23));rw[<-hV1,<-hV2];have hb1:Below V.heap.size V V1:=hV1▸qB
 have hb2:Below V1.heap.size V1 V2:=hV2▸qB
 have hz1:V1.heap.size=V+1:=by rw[hV1];simp
 have hz2:V2.heap.size=V+1+1:=by rw[hV2];simp[hz1]
 have kb:=(hV.trans (hb1.mono hV.size)).trans (hb2.mono (qw hV.size));have hcl:∀j v,cs.toList[j]?=some v->V2.cell? ⟨V.heap.size+1,j,none⟩=some v:=λj v hj=>by rw[hV2,<-hz1];simp only[Array.getElem?_toList]at hj;simp[hj]
 have hP:xCj V2 (V.heap.size+1) (L.map (·.1)++ [[yCa k]]):=by
  refine⟨qo,λj y hy=>?_⟩;rcases Nat.lt_or_ge j L.length with hj|hj
  .rw[AQ (by simpa using hj),AW,AC hj]at hy;obtain rfl:=AT hy;have hp:=h _ (Ae hj);exact⟨_,_,_,hcl j _ (by rw[hcs,AQ (by simpa using hj),AW,AC hj];rfl),hp.2.1.k kb hp.2.2,qv kb.size hp.2.2⟩
  .rw[AI (by simpa using hj)]at hy;obtain⟨hj2,rfl⟩:j=L.length/\y= [yCa k]:=by
    cases q:j-(L.map (·.1)).length with
    |zero=>rw[q]at hy;simp at hy q;exact⟨qo,hy.symm⟩
    |succ z=>rw[q]at hy;simp at hy
   subst hj2;have h9:yCq V1 V.heap.size 0 [yCa k]:=hV1▸((yQa V (yCa k)).at)
   exact⟨_,0,1,hcl _ _ (by rw[hcs,AI (by simp)];simp),h9.k hb2 qo,qo⟩
 refine(yRq (V.heap.size+1) m _ V2 hP (by simp;simp at hl;omega) (by simpa using hm) qo).mono ?_;intro r w' hr;have hq:=xEx (S:=S) kb (by simp) hr;rw[List.flatten_append,List.flatten_singleton]at hq;have⟨v,hv,_⟩:=hr;exact⟨v,hv,hq⟩
theorem xF8(HY:Hid (y=normOf (yCa 14) [x0,x1]))(H0:Hid (Oq S w x0 p0))(H1:Hid (Oq S w x1 p1))(h:Hid (¬isK x0 1))(g:Hid (¬isK x1 1))(h2:isK x0 2\/isK x0 3/\isK x1 3):y=x0:=by
 rw[HY];have q:=h.out;have z:=g.out;simp only[normOf,yCa];have k1:= @yTo x1;by_cases q2:isK x1 2
 .rw[iB trivial,iB (.inr q2),yVt q2 H1.1.good qo];rcases h2 with h2|h2
  .rw[yVt h2 H0.1.good qo]
  .cases k1 q2 h2.2
 .simp[q,z,q2,h2]
theorem zNb(h:p:=by first|exact Below.refl _ _|exact below_drewN (Below.refl _ _) _):p:=h
theorem Opd.oq(h:Opd S w u x):∃b o c,u=(xy b o x.length c)/\Hid (Oq S w x (b,o,c)):=by obtain⟨b,o,c,rfl,h1,h2⟩:=h.form;exact⟨b,o,c,rfl,h,h1,h2⟩
theorem zNgS(h:p:=by rw[HY];have aa:=a.out;(try have bb:=b.out);(try have cc:=c.out);(try have dd:=d.out);simp only[normOf,yCa];simp[*]):p:=h
theorem zNgE(h:p:=by rintro r w2 ⟨v,rfl,hN⟩;go_wp2_with fail;go_ret;exact hN):p:=h
theorem yJj(S:Nat->Prop)(u0 u1:Vv)(x0 x1:List Nd)(w:Ww)(h0:Opd S w u0 x0)(h1:Opd S w u1 x1):Calls prog 109 #[u0,u1] w (NmI S (normOf (yCa 14) [x0,x1]) w):=by
 have⟨y,hy⟩:=qE (normOf (yCa 14) [x0,x1]);rw[<-hy];have HY:=qH1 hy;obtain⟨b0,o0,c0,rfl,H0⟩:=h0.oq;obtain⟨b1,o1,c1,rfl,H1⟩:=h1.oq;clear hy h0 h1;have hl0:=H0.1.X;have hl1:=H1.1.X;go_enter func109,ntmps109;go_wp2_with fail;apply (Oq.sgl H0 _).mono;rintro r w2 ⟨hw,⟨rfl,h⟩|⟨rfl,h⟩⟩<;>rw[hw]<;>clear hw<;>go_wp2_with fail
 .go_ret;exact Oq.ret H1 (by exact zNb) (by rw[HY];have q:=h.out;simp only[normOf,yCa];simp[q])
 apply (Oq.sgl H1 _).mono;rintro r w2 ⟨hw,⟨rfl,g⟩|⟨rfl,g⟩⟩<;>rw[hw]<;>clear hw<;>go_wp2_with fail
 .go_ret;exact Oq.ret H0 (by exact zNb) (by rw[HY];have q:=h.out;have z:=g.out;simp only[normOf,yCa];grind [yTo])
 apply (Oq.sgl H0 _).mono;rintro r w2 ⟨hw,⟨rfl,h2⟩|⟨rfl,h2⟩⟩<;>rw[hw]<;>clear hw<;>go_wp2_with fail
 .go_ret;exact Oq.ret H0 (by exact zNb) (by exact xF8 HY H0 H1 h g (.inl h2))
 apply (Oq.sgl H1 _).mono;rintro r w2 ⟨hw,⟨rfl,g2⟩|⟨rfl,g2⟩⟩<;>rw[hw]<;>clear hw<;>go_wp2_with fail
 .go_ret;exact Oq.ret H1 (by exact zNb) (by rw[HY];have q:=h.out;have z:=g.out;have q2:=h2.out;have z2:=g2.out;simp only[normOf,yCa];grind [yTo])
 apply (Oq.sgl H0 _).mono;rintro r w2 ⟨hw,⟨rfl,h3⟩|⟨rfl,h3⟩⟩<;>rw[hw]<;>clear hw<;>go_wp2_with fail
 .apply (Oq.sgl H1 _).mono;rintro r w2 ⟨hw,⟨rfl,g3⟩|⟨rfl,g3⟩⟩<;>rw[hw]<;>clear hw<;>go_wp2_with fail
  .go_ret;exact Oq.ret H0 (by exact zNb) (by exact xF8 HY H0 H1 h g (.inr ⟨h3,g3⟩))
  refine(Oq.conc (y:=y) (by exact zNb) [(x0,b0,o0,c0),(x1,b1,o1,c1)] (by intro p hp;simp at hp;rcases hp with rfl|rfl<;>first|exact H0|exact H1) (by rfl) (by rfl) (by simp;omega) qo (by rw[HY];have q:=h.out;have z:=g.out;have q2:=h2.out;have z2:=g2.out;have z3:=g3.out;simp only[normOf,yCa];simp[*])).mono ?_;exact zNgE
 refine(Oq.conc (y:=y) (by exact zNb) [(x0,b0,o0,c0),(x1,b1,o1,c1)] (by intro p hp;simp at hp;rcases hp with rfl|rfl<;>first|exact H0|exact H1) (by rfl) (by rfl) (by simp;omega) qo (by rw[HY];have q:=h.out;have z:=g.out;have q2:=h2.out;have z2:=g2.out;have q3:=h3.out;simp only[normOf,yCa];simp[*])).mono ?_;exact zNgE
theorem yJi(S:Nat->Prop)(u0 u1:Vv)(x0 x1:List Nd)(w:Ww)(h0:Opd S w u0 x0)(h1:Opd S w u1 x1):Calls prog 110 #[u0,u1] w (NmI S (normOf (yCa 15) [x0,x1]) w):=by
 have⟨y,hy⟩:=qE (normOf (yCa 15) [x0,x1]);rw[<-hy];have HY:=qH1 hy;obtain⟨b0,o0,c0,rfl,H0⟩:=h0.oq;obtain⟨b1,o1,c1,rfl,H1⟩:=h1.oq;have hl0:=H0.1.X;have hl1:=H1.1.X;clear hy h0 h1;go_enter func110,ntmps110;go_wp2_with fail;apply (Oq.sgl H0 _).mono;rintro r w2 ⟨hw,⟨rfl,a⟩|⟨rfl,a⟩⟩<;>rw[hw]<;>clear hw<;>go_wp2_with fail
 .exact xGh
 apply (Oq.sgl H1 _).mono;rintro r w2 ⟨hw,⟨rfl,b⟩|⟨rfl,b⟩⟩<;>rw[hw]<;>clear hw<;>go_wp2_with fail
 .exact xGg
 apply (Oq.sgl H0 _).mono;rintro r w2 ⟨hw,⟨rfl,c⟩|⟨rfl,c⟩⟩<;>rw[hw]<;>clear hw<;>go_wp2_with fail
 .exact xGg
 apply (Oq.same H0 H1).mono;rintro r w2 ⟨⟨m,hw⟩,⟨rfl,d⟩|⟨rfl,d⟩⟩<;>rw[hw]<;>clear hw
 .go_wp2;exact xGg
 obtain⟨V,hV,hb⟩:∃V:Ww,V=w.drewN m/\Below w.heap.size w V:=⟨_,rfl,by exact zNb⟩;rw[<-hV];clear hV;go_wp2_with fail;refine(Oq.conc (y:=y) (hb) [(x0,b0,o0,c0),(x1,b1,o1,c1)] (by intro p hp;simp at hp;rcases hp with rfl|rfl<;>first|exact H0|exact H1) (by rfl) (by rfl) (by simp;omega) qo (by exact zNgS)).mono ?_;exact zNgE
theorem yOk(S:Nat->Prop)(u0 u1 u2:Vv)(x0 x1 x2:List Nd)(w:Ww)(h0:Opd S w u0 x0)(h1:Opd S w u1 x1)(h2:Opd S w u2 x2):Calls prog 111 #[u0,u1,u2] w (NmI S (normOf (yCa 16) [x0,x1,x2]) w):=by
 have⟨y,hy⟩:=qE (normOf (yCa 16) [x0,x1,x2]);rw[<-hy];have HY:=qH1 hy;obtain⟨b0,o0,c0,rfl,H0⟩:=h0.oq;obtain⟨b1,o1,c1,rfl,H1⟩:=h1.oq;obtain⟨b2,o2,c2,rfl,H2⟩:=h2.oq;have hl0:=H0.1.X;have hl1:=H1.1.X;have hl2:=H2.1.X;clear hy h0 h1 h2;go_enter func111,ntmps111;go_wp2_with fail;apply (Oq.sgl H0 _).mono;rintro r w2 ⟨hw,⟨rfl,a⟩|⟨rfl,a⟩⟩<;>rw[hw]<;>clear hw<;>go_wp2_with fail
 .exact xGh
 apply (Oq.sgl H0 _).mono;rintro r w2 ⟨hw,⟨rfl,b⟩|⟨rfl,b⟩⟩<;>rw[hw]<;>clear hw<;>go_wp2_with fail
 .go_ret;exact Oq.ret H2 (by exact zNb) (by exact zNgS)
 apply (Oq.same H1 H2).mono;rintro r w2 ⟨⟨m,hw⟩,⟨rfl,c⟩|⟨rfl,c⟩⟩<;>rw[hw]<;>clear hw
 .go_wp2;exact xGh
 obtain⟨V,hV,hb⟩:∃V:Ww,V=w.drewN m/\Below w.heap.size w V:=⟨_,rfl,by exact zNb⟩;rw[<-hV];clear hV;go_wp2_with fail;refine(Oq.conc (y:=y) (hb) [(x0,b0,o0,c0),(x1,b1,o1,c1),(x2,b2,o2,c2)] (by intro p hp;simp at hp;rcases hp with rfl|rfl|rfl<;>first|exact H0|exact H1|exact H2) (by rfl) (by rfl) (by simp;omega) qo (by exact zNgS)).mono ?_;exact zNgE
section
theorem xCz(O cb:Nat)(bv:Vv)(n:Nat)(z:Int)(h0:0<=z)(h3:z<=3):TreC O cb bv n z 40:=by
 have t0:=yHb O cb bv n 0 0 qo qo qo (λq=>absurd q qo);have t1:=yHb O cb bv n 1 1 qo qo qo (λ_=>t0);have t2:=yHb O cb bv n 2 4 qo qo qo (λ_=>t1);have t3:=yHb O cb bv n 3 13 qo qo qo (λ_=>t2);have up:∀m,m<=40->TreC O cb bv n z m->TreC O cb bv n z 40:=λm hm h w hw=>(h w hw).mono λe w' ⟨g,cp,len,h1,h2,h3⟩=>⟨g,cp,len,h1,qo,h3⟩;have hz:z=0\/z=1\/z=2\/z=3:=qo
 rcases hz with rfl|rfl|rfl|rfl
 .exact up _ qo t0
 .exact up _ qo t1
 .exact up _ qo t2
 .exact t3
def AnyR(p:Nd->Prop)(w W:Ww)(b o len c:Nat):Prop:=Src p W b o len/\(w.heap.size<=b/\b<W.heap.size)/\len<=c/\c<=maxLen
def FltP(p:Nd->Prop)(lo m:Nat)(O cb:Nat)(bv:Vv)(n:Nat)(w:Ww)(e:AV)(w':Ww):Prop:=∃b o c len:Nat,e=.returned (.agg #[(xy b o len c)])/\lo<=len/\len<=m/\Hid (DInv O cb bv n w w'/\AnyR p w w' b o len c)
abbrev FilP(O cb:Nat)(bv:Vv)(n m:Nat):=FltP Nd.small 1 m O cb bv n
abbrev AnyP(O cb:Nat)(bv:Vv)(n:Nat):=FltP Nd.ok 0 1001 O cb bv n
section
variable {p:Nd->Prop} {o:Nat}
theorem DnR.any(h:DnR w W g cp len):AnyR Nd.small w W g 0 len cp:=by have ⟨xs,h1,h2,h3⟩:=h;exact⟨h.src,h.lt,by rw[h1];exact h3.caps.1,h3.caps.2⟩
theorem AnyR.i(h:AnyR p w W b o len c)(hc:Chg S W W')(hn:¬S b):AnyR p w W' b o len c:=⟨h.1.i h.2.1.2 hc hn,⟨h.2.1.1,AP h.2.1.2 hc.size⟩,h.2.2⟩
theorem AnyR.ok(h:AnyR Nd.small w W b o len c):AnyR Nd.ok w W b o len c:=by obtain⟨⟨ys,h1,h2,h3⟩,h4⟩:=h;exact⟨⟨ys,h1,λe he=>(h2 e he).ok qj,h3⟩,h4⟩
theorem DInv.upA(hd:DInv O cb bv n w W)(h:DInv O cb bv n W W'/\AnyR p W W' b o len c):Hid (DInv O cb bv n w W'/\AnyR p w W' b o len c):=
 ⟨⟨h.1.d,hd.c.trans h.1.c,hd.lt,hd.hb⟩,h.2.1,⟨AE hd.c.size h.2.2.1.1,h.2.2.1.2⟩,h.2.2.2⟩
theorem yO3(h:yAo O cb bv n w):∃Wa,Wa=w.alloc (.cells #[.slice none 0 0] 25)/\Hid (DInv O cb bv n Wa Wa)/\Hid (∀p W b o len c lo m,DInv O cb bv n Wa W/\AnyR p Wa W b o len c->lo<=len->len<=m->
  ∃W9,W9=W.setCell (xd w.heap.size 0) (.slice (some ⟨b,o,none⟩) len c)/\W.cell? (xd w.heap.size 0)=some (.slice none 0 0)/\W.frozen? ⟨w.heap.size,0,none⟩=false/\W9.cell? ⟨w.heap.size,0,none⟩=some (.slice (some ⟨b,o,none⟩) len c)/\Hid (FltP p lo m O cb bv n w (.returned (.agg #[.slice (some ⟨b,o,none⟩) len c])) W9)):=by
 have hb:Below w.heap.size w (w.alloc (.cells #[.slice none 0 0] 25)):=qB;have hB:=yAa w (O:=w.heap.size) (t:=25) (sz:=1) #[.slice none 0 0] (AG _) rfl;have hcb:=h.lt.2;refine⟨_,rfl,DInv.start (h.k hb),λp W b o len c lo m hW hl h0=>⟨_,rfl,?_⟩⟩;have hB':=hB.i hW.1.c (by omega);have H:=(DInv.k (DInv.start h) hb).upA hW;have hg:=hW.2.2.1.1;have hc:Chg (λk=>k=w.heap.size) W (xt W w 0 (.slice (some ⟨b,o,none⟩) len c)):=Chg.D _ _ _ _ rfl;refine⟨hB'.z rfl,hB'.frozen 0,(hB'.set 0 _).z rfl,b,o,c,len,rfl,hl,h0,H.1.grow (yDs W w 0 _) (λk q=>by cases q;exact AG _),H.2.i hc ?_⟩;have:=hB.lt.2;omega
end
theorem yFx(O cb:Nat)(bv:Vv)(n:Nat)(w:Ww)(h:yAo O cb bv n w):
  Calls prog 30 #[.pointer (some ⟨cb,0,none⟩)] w (FilP O cb bv n 40 w):=by
 obtain⟨Wa,hWa,HA,HR⟩:=yO3 h;clear h;go_enter func30,ntmps30;go_wp2_with fail;rw[<-hWa];refine(yAs O cb bv n 3 _ HA.d qo qo).mono ?_;rintro e w1 ⟨x,rfl,hx0,hx1,hd⟩;have H1:=HA.call hd;go_wp2_with fail;refine(xCz O cb bv n (1+x) qo qo _ H1.d).mono ?_;rintro e w2 ⟨g,cp,len,rfl,hl,h0,K⟩;have H2:=H1.up K.out;obtain⟨W9,hW9,c0,f0,p0,HF⟩:=HR.out _ _ _ _ _ _ 1 40 ⟨H2.1,H2.2.1.any⟩ h0 hl;clear hd H1 hWa;go_wp2;rw[<-hW9];exact AS (by simp[results,results30,go_sem,p0]) rfl HF.out
end
theorem Opd.k(h:Opd S w u x)(hb:Below w.heap.size w w'):Opd S w' u x:=⟨h.Z.k hb,h.ne,h.blk,h.good,h.X⟩
theorem NmI.back(hb:Below w.heap.size w w1)(h:NmI S y w1 r w'):NmI S y w r w':=by
 obtain⟨v,hv,h1,h2,h3⟩:=h;refine⟨v,hv,h1,λa n c hq=>?_,hb.trans (h3.mono hb.size)⟩;rcases h2 a n c hq with q|q
 .exact .inl q
 .exact .inr (by have:=hb.size;omega)
theorem zNh (h:p:=by
 rintro r w3 ⟨hr3,hb3⟩;have HR3:=hidO hr3;obtain⟨v3,rfl,-⟩:=hr3;refine hK.out _ _ (.inr (HS.out _ ((Below.refl W0.heap.size W0).drew.trans hb3))) (jS ?_);clear hK;first|refine qO 10 rfl λK hK=>?_|refine qO 7 rfl λK hK=>?_
 go_simp;refine hK.out _ _ (.inl rfl) (jS ?_);clear hK;refine qD ?_;go_wp2_with fail;go_ret;exact HR3.out):p:=h
theorem yFt(S:Nat->Prop)(e:Nd)(g f c:Nat)(us:List Vv)(xs:List (List Nd))(w:Ww)(hg:yBq e)(hgl:g<w.heap.size)(hl:xs.length=yAk e.f)(hul:us.length=xs.length)(hc:∀(j:Nat)(u:Vv),us[j]?=some u->w.cell? ⟨g,f+j,none⟩=some u)(hO:∀(j:Nat)(u:Vv)(x:List Nd),us[j]?=some u->xs[j]?=some x->Opd S w u x):
  Calls prog 50 #[e.v,.slice (some ⟨g,f,none⟩) xs.length c] w (NmI S (normOf e xs) w):=by
 obtain⟨y,hy⟩:=qE (normOf e xs);rw[<-hy];obtain⟨W0,hW0⟩:=qE (w.alloc (AD #[.int .i64 e.f,.string e.s,.bool e.hi,.string e.t,.int .u64 e.lo,.int .u64 e.up,.int .i64 e.n] 83):Ww);have hb0:Below w.heap.size w W0:=by rw[hW0];exact qB
 obtain⟨d0,d1,d2,d3,d4,d5,d6⟩:=yA.c7 (w:=W0) (O:=w.heap.size) (t:=83) (sz:=7) (g:=w.heap.size) (r:= []) (by rw[hW0];exact yAa w _ (AG _) rfl);have HY:Hid (∀k,k=14\/k=15\/k=16->e.f=k->y=normOf (yCa k) xs):=λk hk q=>by rw[hy,yQ8 hg qo,q]
 have HL:=hidO (And.intro hy hl);have HX:Hid (∀(j:Nat) x,xs[j]?=some x->∃b o c,(∀wx,Below W0.heap.size W0 wx->wx.cell? ⟨g,f+j,none⟩=some (.slice (some ⟨b,o,none⟩) x.length c))/\∀wx,Below W0.heap.size W0 wx->Opd S wx (.slice (some ⟨b,o,none⟩) x.length c) x):=λj x hx=>by obtain⟨u,hu⟩:∃u,us[j]?=some u:=⟨_,AC (by rw[hul];exact(AX.1 hx).1)⟩;have hp:=hO j u x hu hx;obtain⟨b,o,c,rfl,-⟩:=hp.form;exact⟨b,o,c,λwx hb=>by rw[hb.cell (AP hgl hb0.size),hb0.cell hgl];exact hc j _ hu,λwx hb=>(hp.k hb0).k hb⟩
 clear hy hg hc hO hul;go_enter func50,ntmps50;go_upto_region 1 with fail;rw[<-hW0];clear hW0;by_cases hk14:e.f=14;case pos=>
  have hxl:xs.length=2:=by rw[hl,hk14];rfl
  obtain⟨x0,x1,rfl⟩:∃x0 x1,xs= [x0,x1]:=by
   match xs,hxl with
   | [x0,x1],_=>exact⟨x0,x1,rfl⟩
  obtain⟨b0,o0,c0,m0,p0⟩:=HX.out 0 x0 rfl;obtain⟨b1,o1,c1,m1,p1⟩:=HX.out 1 x1 rfl;have hy9:=hidO (HY.out 14 qo hk14);have HC:Hid (∀wx,Below W0.heap.size W0 wx->Calls prog 109 #[.slice (some ⟨b0,o0,none⟩) x0.length c0,.slice (some ⟨b1,o1,none⟩) x1.length c1] wx λr w'=>NmI S y w r w'/\Below wx.heap.size wx w'):=λwx hx=>
   (yJj S _ _ x0 x1 wx (p0 wx hx) (p1 wx hx)).mono λr w' hr=>by rw[<-hy9.out]at hr;exact xGm
  have HS:Hid (∀wx,Below W0.heap.size W0 wx->(λw':Ww=>w'.cell? ⟨g,f,none⟩=some (.slice (some ⟨b0,o0,none⟩) x0.length c0)/\w'.cell? ⟨g,f+1,none⟩=some (.slice (some ⟨b1,o1,none⟩) x1.length c1)) wx):=λwx hx=>⟨m0 wx hx,m1 wx hx⟩;have hS:=HS.out _ ((Below.refl _ _).drew);clear d1 d2 d3 d4 d5 d6 m0 p0 m1 p1 hxl hl;go_upto_region 3 with fail;refine yAe 7 (λw':Ww=>w'.cell? ⟨g,f,none⟩=some (.slice (some ⟨b0,o0,none⟩) x0.length c0)/\w'.cell? ⟨g,f+1,none⟩=some (.slice (some ⟨b1,o1,none⟩) x1.length c1)) qk ?_;refine ja 0 hS ?_;iterate 5 refine jb hS ?_
  refine qO 6 rfl λK hK=>?_;go_simp;go_at_call 109;exact xGk
 by_cases hk15:e.f=15;case pos=>
  have hxl:xs.length=2:=by rw[hl,hk15];rfl
  obtain⟨x0,x1,rfl⟩:∃x0 x1,xs= [x0,x1]:=by
   match xs,hxl with
   | [x0,x1],_=>exact⟨x0,x1,rfl⟩
  obtain⟨b0,o0,c0,m0,p0⟩:=HX.out 0 x0 rfl;obtain⟨b1,o1,c1,m1,p1⟩:=HX.out 1 x1 rfl;have hy9:=hidO (HY.out 15 qo hk15);have HC:Hid (∀wx,Below W0.heap.size W0 wx->Calls prog 110 #[.slice (some ⟨b0,o0,none⟩) x0.length c0,.slice (some ⟨b1,o1,none⟩) x1.length c1] wx λr w'=>NmI S y w r w'/\Below wx.heap.size wx w'):=λwx hx=>
   (yJi S _ _ x0 x1 wx (p0 wx hx) (p1 wx hx)).mono λr w' hr=>by rw[<-hy9.out]at hr;exact xGm
  have HS:Hid (∀wx,Below W0.heap.size W0 wx->(λw':Ww=>w'.cell? ⟨g,f,none⟩=some (.slice (some ⟨b0,o0,none⟩) x0.length c0)/\w'.cell? ⟨g,f+1,none⟩=some (.slice (some ⟨b1,o1,none⟩) x1.length c1)) wx):=λwx hx=>⟨m0 wx hx,m1 wx hx⟩;have hS:=HS.out _ ((Below.refl _ _).drew);clear d1 d2 d3 d4 d5 d6 m0 p0 m1 p1 hxl hl;go_upto_region 5 with fail;refine yAe 7 (λw':Ww=>w'.cell? ⟨g,f,none⟩=some (.slice (some ⟨b0,o0,none⟩) x0.length c0)/\w'.cell? ⟨g,f+1,none⟩=some (.slice (some ⟨b1,o1,none⟩) x1.length c1)) qk ?_;refine ja 0 hS ?_;iterate 5 refine jb hS ?_
  refine qO 6 rfl λK hK=>?_;go_simp;go_at_call 110;exact xGk
 by_cases hk16:e.f=16;case pos=>
  have hxl:xs.length=3:=by rw[hl,hk16];rfl
  obtain⟨x0,x1,x2,rfl⟩:∃x0 x1 x2,xs= [x0,x1,x2]:=by
   match xs,hxl with
   | [x0,x1,x2],_=>exact⟨x0,x1,x2,rfl⟩
  obtain⟨b0,o0,c0,m0,p0⟩:=HX.out 0 x0 rfl;obtain⟨b1,o1,c1,m1,p1⟩:=HX.out 1 x1 rfl;obtain⟨b2,o2,c2,m2,p2⟩:=HX.out 2 x2 rfl;have hy9:=hidO (HY.out 16 qo hk16);have HC:Hid (∀wx,Below W0.heap.size W0 wx->Calls prog 111 #[.slice (some ⟨b0,o0,none⟩) x0.length c0,.slice (some ⟨b1,o1,none⟩) x1.length c1,.slice (some ⟨b2,o2,none⟩) x2.length c2] wx λr w'=>NmI S y w r w'/\Below wx.heap.size wx w'):=λwx hx=>
   (yOk S _ _ _ x0 x1 x2 wx (p0 wx hx) (p1 wx hx) (p2 wx hx)).mono λr w' hr=>by rw[<-hy9.out]at hr;exact xGm
  have HS:Hid (∀wx,Below W0.heap.size W0 wx->(λw':Ww=>w'.cell? ⟨g,f,none⟩=some (.slice (some ⟨b0,o0,none⟩) x0.length c0)/\w'.cell? ⟨g,f+1,none⟩=some (.slice (some ⟨b1,o1,none⟩) x1.length c1)/\w'.cell? ⟨g,f+2,none⟩=some (.slice (some ⟨b2,o2,none⟩) x2.length c2)) wx):=λwx hx=>⟨m0 wx hx,m1 wx hx,m2 wx hx⟩;have hS:=HS.out _ ((Below.refl _ _).drew);clear d1 d2 d3 d4 d5 d6 m0 p0 m1 p1 m2 p2 hxl hl;go_upto_region 7 with fail;refine yAe 10 (λw':Ww=>w'.cell? ⟨g,f,none⟩=some (.slice (some ⟨b0,o0,none⟩) x0.length c0)/\w'.cell? ⟨g,f+1,none⟩=some (.slice (some ⟨b1,o1,none⟩) x1.length c1)/\w'.cell? ⟨g,f+2,none⟩=some (.slice (some ⟨b2,o2,none⟩) x2.length c2)) qk ?_;refine ja 0 hS ?_;iterate 8 refine jb hS ?_
  refine qO 9 rfl λK hK=>?_;go_simp;go_at_call 111;exact xGk
 obtain rfl:xs= []:=AM.1 (by rw[hl];unfold yAk;rw[iA qo,iA hk16]);have z14:(e.f==14)=false:=by rw[iC];exact hk14
 have z15:(e.f==15)=false:=by rw[iC];exact hk15
 have z16:(e.f==16)=false:=by rw[iC];exact hk16
 have HR:Hid (NmI S y w (.returned (.slice (some ⟨W0.heap.size,0,none⟩) 1 1)) (W0.alloc (AD #[.int .i64 e.f,.string e.s,.bool e.hi,.string e.t,.int .u64 e.lo,.int .u64 e.up,.int .i64 e.n] 83))):=by refine⟨_,rfl,by rw[HL.1];exact⟨_,_,rfl,yBb.mono (yQa W0 e) (AJ _)⟩,λa n c hq=>?_,hb0.trans ((qB).mono hb0.size)⟩;cases hq;exact .inr hb0.size
 go_wp2_with fail;go_ret;exact HR.out
abbrev limN:Nd:=⟨11,⟨#[]⟩,false,⟨#[]⟩,0,0,2⟩
abbrev limO:Obj:=.cells #[xi 11,xe,false,xe,xu 0,xu 0,xi 2] 83
def LimI(O cb:Nat)(bv:Vv)(n:Nat)(B:Ww)(nv iv:Vv)(W:Ww):Prop:=∃i g cp len:Nat,iv=(xi i)/\nv=(xg g len cp)/\i<=110/\len<=4+3*i/\0<len/\Hid (DInv O cb bv n B W/\DnR B W g cp len)
theorem xId(h:DInv O cb bv n w w2):∃B,B=w2.alloc limO/\Hid (DInv O cb bv n B B)/\Hid (∀W,DInv O cb bv n B W->C7 W w2 limN)/\Hid (∀W g cp len,DInv O cb bv n B W/\DnR B W g cp len->DInv O cb bv n w W/\AnyR Nd.small w W g 0 len cp):=by have hb:Below w2 w2 (w2.alloc limO):=qB;have hB:=yAa w2 (O:=w2.heap.size) (t:=83) (sz:=7) #[xi 11,xe,false,xe,xu 0,xu 0,xi 2] qr rfl;have hcb:=h.d.lt.2;have h2:=h.k hb;exact⟨_,rfl,DInv.start h2.d,λW hW=>yA.c7n (f:=limN) (hB.i hW.c (by omega)),λW g cp len hW=>⟨(h2.up hW).1,(h2.up hW).2.1.any⟩⟩
theorem xCd{o:Obj}(h:g<W.heap.size):(W.alloc o).setCell (xd g j) v=(W.setCell ⟨g,j,none⟩ v).alloc o:=by go_simp
theorem yMi{o:Obj}(h:g<W.heap.size)(hc:(xk W g 0 u:Prop)):(xk ((W.setCell (xd g 0) v).alloc o) g 0 v:Prop):=by go_simp
theorem zLo (h:p:=by
 obtain⟨i,g,cp,len,rfl,rfl,hi,hl,h0,HJ⟩:=hrel;obtain⟨b0,b1,b2,b3,b4,b5,b6⟩:=HC.out _ HJ.1;obtain⟨W9,hW9,c0,f0,p0,HF⟩:=HR.out _ _ _ _ _ _ 1 1000 (HU.out _ _ _ _ HJ.out) h0 qo
 go_wp2_with (at_builtin;first
  |(refine apS rfl rfl rfl rfl H4 (by rfl) (by rfl) qo qo ?_;intro g5 c5 w5 H5)
  |(refine apS rfl rfl rfl rfl HJ (by rfl) (by rfl) qo qo ?_;intro g5 c5 w5 H5)
  |(refine apP rfl rfl rfl rfl HJ (by rfl) (by rfl) qo qo ?_;intro g4 c4 w4 H4))
 all_goals first
  |exact⟨⟨i+1,_,_,_,rfl,rfl,qo,qo,qo,H5⟩,by simp[intOf];omega⟩
  |(rw[<-hW9];exact bodyPost_ret (by simp[results,results76,go_sem,p0]) rfl HF.out)):p:=h
theorem zLs (h:p:=by
 obtain⟨W9,hW9,c0,f0,p0,HF⟩:=HR.out _ _ _ _ _ _ 1 1000 (HU.out _ _ _ _ HX.out) qo qo;have hlt:=Nat.lt_of_lt_of_le hlw HX.1.c.size;clear hW9;go_wp2_with fail;have hF:∀W g cp len,DInv O cb bv n B W/\DnR B W g cp len->len<=1000->0<len->FilP O cb bv n 1000 w (.returned (.agg #[xg g len cp])) (xt W w 0 (xg g len cp)):=λW g cp len h1 h2 h3=>by obtain⟨W9,rfl,-,-,-,HF⟩:=HR.out _ _ _ _ _ _ 1 1000 (HU.out _ _ _ _ h1) h3 h2;exact HF.out
 refine bodyPost_ret (by simp[results,results76,go_sem,yMi hlt c0];rfl) rfl ?_;rw[<-xCd hlt];exact hF _ _ 1 1 ⟨HX.1.k (qB),DnR.lit HX.1.c.size (by have:(⟨#[]⟩:Ba).size=0:=rfl;simp[yOo];omega) (by rfl) qo⟩ qo qo):p:=h
theorem yMg(O cb:Nat)(bv:Vv)(n:Nat) w (h:yAo O cb bv n w):
  Calls prog 76 #[xp cb] w (FilP O cb bv n 1000 w):=by
 obtain⟨Wa,hWa,HA,HR⟩:=yO3 h;clear h;go_enter func76,ntmps76;go_wp2_with fail;rw[<-hWa];refine(yAs O cb bv n 6 _ HA.d qo qo).mono ?_;rintro e w1 ⟨x,rfl,hx0,hx1,hd⟩;have H1:=qH1 (HA.call hd);clear hd;go_wp2_with fail;refine(yAs O cb bv n 2 _ H1.d qo qo).mono ?_;rintro e w2 ⟨y,rfl,hy0,hy1,hd⟩;obtain⟨B,hB,HB,HC,HU⟩:=xId (H1.call hd);have hwB:Hid (w.heap.size<B.heap.size):=by have h1:=H1.c.size;have h2:=hd.2.size;rw[hWa]at h1;simp at h1;show _<_;rw[hB];simp;omega
 clear hd hWa;go_upto_region 5 with fail;have e3:w2.heap.size+1=B.heap.size:=by rw[hB];simp
 rw[<-hB,e3];clear hB e3;have H4:Hid (DInv O cb bv n B (B.alloc limO)/\DnR B (B.alloc limO) B.heap.size 1 1):=⟨HB.k (qB),DnR.lit (AG _) (by rfl) (by rfl) qo⟩;obtain⟨W4,hW4⟩:=qE (B.alloc limO);rw[<-hW4]at H4|-;clear hW4;obtain⟨b0,b1,b2,b3,b4,b5,b6⟩:=HC.out _ H4.1;by_cases x3:x=3
 .subst x3;go_wp2_with fail;go_loopw[6,7] (λnv iv wr=>LimI O cb bv n B nv iv wr) (λ_ iv _=>200-(intOf iv).toNat);case atStart=>exact⟨0,_,4,4,rfl,rfl,qo,qo,qo,H4.1.k (qB),DnR.lit H4.1.c.size (by rfl) (by rfl) qo⟩
  case round=>exact zLo
 by_cases x0:x=0
 .subst x0;go_wp2_with fail;go_loopw[6,8] (λnv iv wr=>LimI O cb bv n B nv iv wr) (λ_ iv _=>200-(intOf iv).toNat);case atStart=>exact⟨0,_,1,1,rfl,rfl,qo,qo,by omega,H4.out⟩
  case round=>exact zLo
 by_cases x1:x=1
 .subst x1;go_wp2_with fail;go_loopw[6,9] (λnv iv wr=>LimI O cb bv n B nv iv wr) (λ_ iv _=>200-(intOf iv).toNat);case atStart=>exact⟨0,_,1,1,rfl,rfl,by omega,by omega,by omega,H4.out⟩
  case round=>exact zLo
 by_cases x2:x=2
 .subst x2;go_wp2_with fail;go_loopw[6,10] (λnv iv wr=>LimI O cb bv n B nv iv wr) (λ_ iv _=>200-(intOf iv).toNat);case atStart=>exact⟨0,_,1,1,rfl,rfl,by omega,by omega,by omega,H4.out⟩
  case round=>exact zLo
 have hlw:w.heap.size<B.heap.size:=hwB;clear hwB;by_cases x4:x=4
 .subst x4;have HX:=H4;exact zLs
 .obtain rfl:x=5:=by omega
  obtain⟨k,rfl⟩:∃k:Nat,y=(k:Int):=⟨y.toNat,by omega⟩;have HM:=yK2 97 (200+k) W4 (by omega);rw[show((200+k:Nat):Int)=200+(k:Int)by omega]at HM;go_wp2_with fail;refine HM.mono ?_;rintro e WQ ⟨s,rfl,hs,hb⟩;have HX:Hid (DInv O cb bv n B WQ/\DnR B WQ B.heap.size 1 1):=⟨H4.1.k hb,H4.2.k hb⟩;clear hb;exact zLs
section
theorem Ent.fine.ok{e:Ent}(h:e.fine):e.ok where
 j:=AE h.j qj
 E:=AE h.E qj
 C:=AE h.C qj
 val:=AE h.val qj
 ts:=by
  have:=h.ts;have h1:IntKind.u64.min=0:=qj
  have h2:IntKind.u64.max=18446744073709551615:=qj
  simp[Lit.wf,h1,h2];omega
 f:=yJ5 ⟨h.f.1,qw h.f.2⟩
theorem xBg:xCq.fine:=⟨qj,qj,qj,qj,qj,qj⟩
abbrev entO:Obj:=.cells #[xe,xe,xe,xu 0,xi 0,xe] 165
def C6(W:Ww)(g:Nat)(f:Ent):Prop:=xk W g 0 f.j/\xk W g 1 f.E/\xk W g 2 f.C/\xk W g 3 (xu f.ts)/\xk W g 4 (xi f.f)/\xk W g 5 f.val
theorem yA.c6n(h:yA W b 165 6 g f.cells):C6 W g f:=⟨h.z rfl,h.z rfl,h.z rfl,h.z rfl,h.z rfl,h.z rfl⟩
section
abbrev EE(O cb:Nat)(bv:Vv)(n:Nat):=BX O cb bv n 165 6 EtP
theorem EE.ec(h:EE O cb bv n B eb W):∃f:Ent,EE O cb bv n B eb W/\f.fine/\C6 W eb f/\(∀j,W.frozen? (xd eb j)=false):=by have ⟨vs,hf,hd,f,e,hs⟩:=h;subst e;exact⟨f,h,hs,hf.c6n,hf.frozen⟩
def set6(w:Ww)(g:Nat)(f:Ent):Ww:=(xt (((((w.setCell (xd g 0) f.j).setCell (xd g 1) f.E).setCell (xd g 2) f.C).setCell (xd g 3) (xu f.ts)).setCell (xd g 4) (xi f.f)) g 5 f.val)
theorem EE.fin(h0:yAo O cb bv n w)(hB:B=w.alloc entO)(h:EE O cb bv n B eb W):∃(f:Ent)(WF:Ww),WF=set6 W w f/\Hid (f.fine/\Drew O cb bv n w WF)/\C6 W eb f/\C6 W w xCq/\(∀j,W.frozen? (xd w j)=false)/\C6 WF w f:=by
 obtain⟨_,h1,h2,f,rfl,h3⟩:=h;have hb:=qN hB
 have hA:yA B w 165 6 w xCq.cells:=by rw[hB];exact yAa w _ qr rfl
 have hl:=h0.lt.2;have hr:=hA.i h2.c qo;have hs:=(((((hr.set 0 f.j).set 1 f.E).set 2 f.C).set 3 (xu f.ts)).set 4 (xi f.f)).set 5 f.val;have hp:∀W j u,DInv O cb bv n w W->DInv O cb bv n w (xt W w j u):=λW j u h=>h.grow (yDs W _ j u) (λk q=>by cases q;exact AG _);have hd:DInv O cb bv n w W:=⟨h2.d,(Chg.h hb).trans h2.c,hl,h0.O⟩;have hf:=hp _ 5 f.val (hp _ 4 (xi f.f) (hp _ 3 (xu f.ts) (hp _ 2 f.C (hp _ 1 f.E (hp _ 0 f.j hd)))));exact⟨f,_,rfl,⟨h3,hf.d,hf.c⟩,h1.c6n,hr.c6n,hr.frozen,yA.c6n hs⟩
end
theorem zWf(h:p:=by refine wGen (by exact zN:EE O cb bv n B (w+1) _) ?_;intro W H;obtain⟨f,WF,hWF,HF,⟨k0,k1,k2,k3,k4,k5⟩,⟨l0,l1,l2,l3,l4,l5⟩,lf,p0,p1,p2,p3,p4,p5⟩:=HR.out _ H;simp only[set6]at hWF;go_wp2;rw[<-hWF];exact bodyPost_ret (by simp[results,results137,go_sem,p0,p1,p2,p3,p4,p5]) rfl ⟨f,rfl,HF.out⟩):p:=h
theorem xKz(O cb:Nat)(bv:Vv)(n:Nat) w (h:yAo O cb bv n w):
  Calls prog 137 #[xp cb] w λr w'=>∃e:Ent,r=.returned e.v/\e.fine/\Drew O cb bv n w w':=by
 obtain⟨B,hB⟩:=qE (w.alloc entO);obtain⟨W0,hW0⟩:=qE (B.alloc entO);have hzB:=qS hB
 have hd0:yAo O cb bv n B:=by rw[hB];exact h.k (qB)
 have H0:EE O cb bv n B B W0:=BX.new hd0 ⟨xCq,rfl,xBg⟩ rfl hW0;have HR:Hid (∀W,EE O cb bv n B B W->_):=λW=>EE.fin h hB;have A:Hid (∀W,EE O cb bv n B B W->yAo O cb bv n W/\∀W',Drew O cb bv n W W'->_):=λW h=>⟨h.dinv.d,λW' d=>EE.ec (h.call d).1⟩;obtain⟨f,H,hs,⟨c0,c1,c2,c3,c4,c5⟩,z⟩:=H0.ec;rw[hzB]at H HR A c0 c1 c2 c3 c4 c5 z;clear h hd0 H0 hzB;go_enter func137,ntmps137;go_upto_region 2 with fail;rw[<-hB,<-hW0];clear hB hW0
 go_upto_region 12 with(first
  |(go_at_call 179;refine(xDe _ _ _ _ _ (A.out _ (by exact zN)).1).mono ?_;rintro e W ⟨s,rfl,hs0,hd⟩;obtain⟨f,H,hs,⟨c0,c1,c2,c3,c4,c5⟩,z⟩:=(A.out _ (by exact zN)).2 _ hd;clear hd)
  |(go_at_call 180;refine(xEn _ _ _ _ _ (A.out _ (by exact zN)).1).mono ?_;rintro e W ⟨s,rfl,hs0,hd⟩;obtain⟨f,H,hs,⟨c0,c1,c2,c3,c4,c5⟩,z⟩:=(A.out _ (by exact zN)).2 _ hd;clear hd)
  |(go_at_call 181;refine(yZh _ _ _ _ _ (A.out _ (by exact zN)).1).mono ?_;rintro e W ⟨s,rfl,hs0,hd⟩;obtain⟨f,H,hs,⟨c0,c1,c2,c3,c4,c5⟩,z⟩:=(A.out _ (by exact zN)).2 _ hd;clear hd)
  |(go_at_call 182;refine(xG3 _ _ _ _ _ (A.out _ (by exact zN)).1).mono ?_;rintro e W ⟨s,rfl,⟨ht0,ht1⟩,hd⟩;obtain⟨f,H,hs,⟨c0,c1,c2,c3,c4,c5⟩,z⟩:=(A.out _ (by exact zN)).2 _ hd;clear hd)
  |(go_at_call 74;refine(yAs _ _ _ _ _ _ (A.out _ (by exact zN)).1 qo qo).mono ?_;rintro e W ⟨s,rfl,hx0,hx1,hd⟩;obtain⟨f,H,hs,⟨c0,c1,c2,c3,c4,c5⟩,z⟩:=(A.out _ (by exact zN)).2 _ hd;clear hd)
  |(go_at_call 178;refine(yBm _ _ _ _ _ _ _ (A.out _ (by exact zN)).1 (by omega) (by omega) (by omega)).mono ?_;rintro e W ⟨s,rfl,hs0,hd⟩;obtain⟨f,H,hs,⟨c0,c1,c2,c3,c4,c5⟩,z⟩:=(A.out _ (by exact zN)).2 _ hd;clear hd))
 all_goals exact zWf
end
theorem FltP.up{p:Nd->Prop}{e:AV}(hd:DInv O cb bv n w W)(h:FltP p lo m O cb bv n W e w'):FltP p lo m O cb bv n w e w':=by have⟨b,o,c,len,h1,h2,h3,h4⟩:=h;exact⟨b,o,c,len,h1,h2,h3,hd.upA h4⟩
theorem NE.mono(h:NE O cb bv n 100000 B eb W):NE O cb bv n 200000 B eb W:=by have⟨vs,h1,h2,f,h3,h⟩:=h;exact⟨vs,h1,h2,f,h3,h.s,h.t,h.lo,h.up,⟨h.n.1,Int.le_trans h.n.2 qj⟩,h.f⟩
variable {xs:List Nd}
theorem xG8{W9:Ww}(hd:DInv O cb bv n B W)(hO:yBb W B g c xs)(hs:∀e∈xs,e.ok){i:Nat}{e0 f:Nd}(he:xs[i]?=some e0)(hf:f.ok)(h9:W9=(xt ((((((W.setCell (xd g (i*7)) (xi f.f)).setCell (xd g (i*7+1)) f.s).setCell (xd g (i*7+2)) f.hi).setCell (xd g (i*7+3)) f.t).setCell (xd g (i*7+4)) (xu f.lo)).setCell (xd g (i*7+5)) (xu f.up)) g (i*7+6) (xi f.n))):DInv O cb bv n B W9/\AnyR Nd.ok B W9 g 0 xs.length c:=by
 have hp:=hO.put i e0 f he;rw[<-h9]at hp;have hc:Chg (λk=>k=g) W W9:=h9▸(((((((Chg.D (S:=λk=>k=g) _ _ _ _ rfl).trans (Chg.D (S:=λk=>k=g) _ _ _ _ rfl)).trans (Chg.D (S:=λk=>k=g) _ _ _ _ rfl)).trans (Chg.D (S:=λk=>k=g) _ _ _ _ rfl)).trans (Chg.D (S:=λk=>k=g) _ _ _ _ rfl)).trans (Chg.D (S:=λk=>k=g) _ _ _ _ rfl)).trans (Chg.D (S:=λk=>k=g) _ _ _ _ rfl))
 have hl:=hO.lt;have hlt:=hd.lt;have hbb:=hd.hb;have hcp:=hp.caps;rw[List.length_set]at hcp;refine⟨⟨hd.d.i hc qo (λk q=>qo),⟨hc.os.trans hd.c.os,hc.tape.trans hd.c.tape,hc.output.trans hd.c.output,AE hd.c.size hc.size,λk hk hnk=>(hc.block k (AP hk hd.c.size) qo).trans (hd.c.block k hk hnk)⟩,hlt,hbb⟩,⟨xs.set i f,by simp,λe h=>?_,hp.at⟩,hp.lt,hcp⟩;rcases List.mem_or_eq_of_mem_set h with q|q
 .exact hs e q
 .rw[q];exact hf
theorem xD3(h:yCq w b 0 xs):yCq w b 7 (xs.drop 1):=by intro i e he;rw[AU]at he;have:=h (1+i) e he;rw[show 0+(1+i)*7=7+i*7 by omega]at this;exact this
theorem zSr(h:p:=by go_wp2_with fail;rw[<-hW9];exact bodyPost_ret (by simp[results,results77,go_sem,p0]) rfl HZ):p:=h
theorem zSb(h:p:=by apply wGen (by exact zN:NE O cb bv n 200000 w6 eb _);intro W H;obtain⟨f9,-,hs9,⟨k0,k1,k2,k3,k4,k5,k6⟩,z9⟩:=NE.nc H;have⟨hd9,hO9⟩:=HO W H.dinv;have⟨d0,d1,d2,d3,d4,d5,d6⟩:=hO9.at i _ HF.1;simp only[Nat.zero_add]at d0 d1 d2 d3 d4 d5 d6;have hfz:=λj=>World.ownsRow.frozenAt hO9 j;have⟨WP,hWP⟩:=qE ((xt ((((((W.setCell (xd g5 (i*7)) (xi f9.f)).setCell (xd g5 (i*7+1)) f9.s).setCell (xd g5 (i*7+2)) f9.hi).setCell (xd g5 (i*7+3)) f9.t).setCell (xd g5 (i*7+4)) (xu f9.lo)).setCell (xd g5 (i*7+5)) (xu f9.up)) g5 (i*7+6) (xi f9.n)):Ww);have⟨W9,hW9,r0,rf,p0,HZ⟩:=HR _ _ _ _ _ _ 0 1001 (xG8 hd9 hO9 (λe he=>(HF.2.2 e he).ok qj) HF.1 (hs9.ok qj) hWP) qo (by rw[<-HN];omega);rw[<-HN]at hW9 p0 HZ;have HD:=qH1 (And.intro hd9 hO9);clear hd9 hO9;go_upto_region 28 with fail;rw[<-hWP];clear hWP k0 k1 k2 k3 k4 k5 k6 d0 d1 d2 d3 d4 d5 d6 hfz z9;exact zSr):p:=h
theorem yMf(O cb:Nat)(bv:Vv)(n:Nat)(b0 w:Ww)(h:DInv O cb bv n b0 w)(hA:AnyR Nd.small b0 w g o N cp)(hl:N<=1000)(h0:0<N):
  Calls prog 77 #[.pointer (some ⟨cb,0,none⟩),.agg #[(xy g o N cp)]] w (AnyP O cb bv n w):=by
 have⟨X,hX⟩:=qE (w.alloc (.cells #[(xy g o N cp)] 25));have hbX:Below w.heap.size w X:=hX▸qB
 have hXz:X.heap.size=w+1:=by rw[hX];simp
 have hdX:=(DInv.start h.d).k hbX;have⟨B,hB,HB,HR⟩:=yO3 hdX.d;rw[hXz]at HR;have HS:Hid (∀W,DInv O cb bv n B W->xk W w 0 (xy g o N cp)/\Src Nd.small W g o N):=λW hW=>by
  have hbB:=qN hB
  have hbx:=(yAa w (O:=w.heap.size) (t:=25) (sz:=1) #[(xy g o N cp)] (AG _) rfl);rw[<-hX]at hbx;have hc:=h.d.lt.2;have h1:=hA.2.1;have h2:=h.lt;have h3:=hbX.size;have h4:=hbB.size;exact⟨((hbx.k hbB).i hW.c qo).z rfl,((hA.1.i h1.2 (Chg.h hbX) (S:=λ_=>False) (λq=>q)).i qo (Chg.h hbB) (S:=λ_=>False) (λq=>q)).i qo hW.c qo⟩
 have hNc:N<=cp/\cp<=9223372036854775807:=by have:=hA.2.2;unfold maxLen at this;omega
 have hNb:((N:Int)==0)=false:=by rw[iC];omega
 suffices hh:Calls prog 77 #[.pointer (some ⟨cb,0,none⟩),.agg #[(xy g o N cp)]] w (AnyP O cb bv n X)from hh.mono λe w' q=>FltP.up hdX q;have⟨WE,hWE⟩:=qE (B.alloc (.cells #[] 83));have HE:Hid (DInv O cb bv n B WE/\DnR B WE B 0 0):=hWE▸⟨HB.k (qB),DnR.lit qr (by rfl) (by rfl) qo⟩
 have HW:=qH1 hWE;have c0:=(HS _ HB).1;have c1:=(HS _ HE.1).1;rw[hWE]at c1;clear h hA hdX hXz hbX hWE;go_enter func77,ntmps77;go_upto_region 1 with fail;rw[<-hX,<-hB];clear hX hB;go_wp2_with (at_builtin;rw[<-HW];refine apN rfl rfl rfl rfl HE (HS _ HE.1).2 qo ?_);intro g5 c5 w5 H5 _;(try simp only[AO]at H5);(try simp only[AO]);clear c0 c1;go_wp2_with fail;apply (yAs O cb bv n (N:Int) _ H5.1.d qo qo).mono;rintro e w6 ⟨ii,rfl,hi0,hi1,hd⟩;obtain⟨i,rfl⟩:∃k:Nat,ii=(k:Int):=⟨ii.toNat,qo⟩;have hiN:i<N:=qo
 have⟨xs,hN,hs,hO⟩:=H5.2.drew H5.1.lt hd;have H6:=H5.1.call hd;obtain⟨f,hf⟩:∃f,xs[i]?=some f:=qg qo;obtain⟨f0,hf0⟩:∃f,xs[0]?=some f:=qg qo;have HN:=qH1 hN;have HF:=qH3 hf (⟨hs f (AF hf),hs f0 (AF hf0),hf0⟩:(f.small/\f0.small/\xs[0]?=some f0)) hs;have HO:Hid (∀W,DInv O cb bv n w6 W->DInv O cb bv n B W/\yBb W B g5 c5 xs):=λW hW=>by have:=hO.lt;have:=H6.lt;exact⟨⟨hW.d,H6.c.trans hW.c,H6.lt,H6.hb⟩,hO.i hW.c qo⟩
 have hNc5:N<=c5/\c5<=9223372036854775807:=by have:=hO.caps;unfold maxLen at this;omega
 have hsl:=hO.lt.2;have⟨d0,d1,d2,d3,d4,d5,d6⟩:=hO.at i f hf;simp only[AO]at d0 d1 d2 d3 d4 d5 d6;have⟨W7,hW7⟩:=qW (xw w6 #[.int .i64 f.f,.string f.s,.bool f.hi,.string f.t,.int .u64 f.lo,.int .u64 f.up,.int .i64 f.n] 83);have H7:NE O cb bv n 100000 w6 w6.heap.size W7:=BX.new H6.d ⟨f,rfl,hs f (AF hf)⟩ rfl hW7;clear hf hf0 hs hO hN hd H6 H5;have⟨eb,heb⟩:=qE w6.heap.size;rw[<-heb]at H7;go_upto_region 6 with fail;rw[<-hW7,<-heb];clear hW7 heb d0 d1 d2 d3 d4 d5 d6;have A:Hid (∀W,NE O cb bv n 200000 w6 eb W->yAo O cb bv n W/\(∀W',Drew O cb bv n W W'->NC O cb bv n 200000 w6 eb W')/\∀W',Below W.heap.size W W'->NC O cb bv n 200000 w6 eb W'):=λW h=>⟨h.dinv.d,λW' hd=>NE.nc (h.call hd).1,λW' hb=>NE.nc (h.k hb)⟩;go_wp2_with fail;apply (yAs O cb bv n 10 _ H7.dinv.d qo (by omega)).mono;rintro e w8 ⟨x,rfl,hx0,hx1,hd⟩;have⟨f8,H,hs,⟨c0,c1,c2,c3,c4,c5',c6⟩,z⟩:=NE.nc (H7.call hd).1;have hd8:=H.dinv;have H:=NE.mono H;clear hd H7;have hsn:=hs.n;have hss:=hs.s;have hsl':=hs.lo;have hx:x=0\/x=1\/x=2\/x=3\/x=4\/x=5\/x=8\/x=9\/x=6\/x=7:=by omega
 rcases hx with rfl|rfl|rfl|rfl|rfl|rfl|rfl|rfl|rfl|rfl
 iterate 8
  .go_upto_region 27 with(first
    |(go_at_call 74;apply (yAs _ _ _ _ _ _ (A.out _ (by exact zN)).1 (by omega) (by omega)).mono;rintro e W ⟨x,rfl,hx0,hx1,hd⟩;have⟨f,H,hs,⟨c0,c1,c2,c3,c4,c5',c6⟩,z⟩:=(A _ (by exact zN)).2.1 _ hd;clear hd)
    |(go_at_call 133;apply (yK2 97 201 _ (by omega)).mono;rintro e W ⟨s,rfl,hs0,hd⟩;have⟨f,H,hs,⟨c0,c1,c2,c3,c4,c5',c6⟩,z⟩:=(A _ (by exact zN)).2.2 _ hd;clear hd))
   exact zSb
 .have⟨hd9,hO9⟩:=HO _ hd8;have HQ:Hid (Src Nd.ok w8 g5 7 (N-1)/\DInv O cb bv n B w8/\(B<=g5/\g5<w8)):=⟨⟨xs.drop 1,by rw[AK,<-HN],λe he=>(HF.2.2 e (List.mem_of_mem_drop he)).ok qj,xD3 hO9.at⟩,hd9,hO9.lt⟩;clear hd9 hO9;go_upto_region 20 with fail;by_cases hc1:c5=1
  .obtain rfl:N=1:=by omega
   subst hc1;have⟨W9,hW9,r0,rf,p0,HZ⟩:=HR Nd.ok w8 g5 0 0 0 0 1001 ⟨HQ.2.1,⟨[],rfl,λe he=>(by cases he),λi e he=>by simp at he⟩,HQ.2.2,by omega,by omega⟩ (by omega) (by omega);exact zSr
  .have zc:¬((c5:Int)-1=0):=by omega
   have⟨W9,hW9,r0,rf,p0,HZ⟩:=HR _ _ _ _ _ (c5-1) 0 1001 ⟨HQ.2.1,HQ.1,HQ.2.2,by omega,by unfold maxLen;omega⟩ (by omega) (by omega);exact zSr
 .have⟨hd9,hO9⟩:=HO _ hd8;have⟨d0,d1,d2,d3,d4,d5,d6⟩:=hO9.at 0 _ HF.2.1.2.2;simp only[AO,Ag]at d0 d1 d2 d3 d4 d5 d6;have HQ:Hid (DInv O cb bv n B w8/\DnR B w8 g5 c5 N):=⟨hd9,xs,HN,HF.2.2,hO9⟩;clear hd9 hO9;go_wp2_with (at_builtin;refine apS rfl rfl rfl rfl HQ HF.2.1.2.1.nds (by rfl) (by omega) (by omega) ?_);intro g9 c9 w9 H9;have⟨W9,hW9,r0,rf,p0,HZ⟩:=HR _ _ _ _ _ _ 0 1001 ⟨H9.1,H9.2.any.ok⟩ (by omega) (by omega);exact zSr
theorem yVx{T:Type}(V:Nd->List T->T):∀(k:Nat)(xs:List Nd)(ss:List T),xs.length=k->yB8 V [] xs=some ss->TrV V ss xs
 |0,xs,ss,hk,h=>by
  obtain rfl:=AM.1 hk
  simp only[yB8,AY]at h
  subst h
  exact .nil
 |k+1,xs,ss,hk,h=>by
  rcases List.eq_nil_or_concat xs with rfl|⟨ys,n,rfl⟩
  .simp at hk
  .rw[List.concat_eq_append]at hk h|-
   rw[yD5]at h
   cases hy:yB8 V [] ys with
   |none=>rw[hy]at h;cases h
   |some st=>
    have ih:=yVx V k ys st (by simp at hk;exact hk) hy
    rw[hy]at h
    simp only[Option.bind_some,yB8,yWj]at h
    split at h
    .cases h
    .rename_i hn
     simp only[Option.bind_some,yB8,AY]at h
     subst h
     refine .snoc n (by rw[AK];omega) ?_
     rw[List.take_append_drop];exact ih
theorem xEi(h:yB8 normOf [] xs=some ns):∀y∈ns,y≠ []/\(∀e∈y,e∈xs)/\y.length<=xs.length:=by
 intro y hy;obtain⟨ks,hxs,hK⟩:=TrV.kids normOf (yVx normOf _ xs ns rfl h);obtain⟨j,hj⟩:=List.getElem?_of_mem hy;have hjl:=qf hj;obtain⟨k,hk⟩:∃k,ks[j]?=some k:=qg (qw (KidV.length _ hK));obtain⟨o',ho',ht⟩:=KidV.nth _ hK hk;rw[hj]at ho';cases ho'
 have hm:=AF hk;obtain⟨h1,h2⟩:=yJ7 _ qr ht;refine⟨xFn ht,λe he=>?_,?_⟩
 .rw[hxs];exact List.mem_flatten.2 ⟨k,hm,h1 e he⟩
 .rw[hxs];have:=yDl hm;omega
theorem yXl(h:yB8 normOf [] (xs.take j)=some ns)(he:xs[j]?=some e)(hl:yAk e.f<=ns.length):yB8 normOf [] (xs.take (j+1))=some (ns.take (ns.length-yAk e.f)++ [normOf e (ns.drop (ns.length-yAk e.f))]):=by exact xJy
theorem yXk(h:yB8 normOf [] (xs.take j)=some ns)(he:xs[j]?=some e)(hl:ns.length<yAk e.f):yB8 normOf [] xs=none:=by exact zzT3
theorem yJo.i(h:yJo w v y)(hc:Chg S w w')(hv:∀a n c,v=.slice (some a) n c->¬S a.block):yJo w' v y:=by obtain⟨g,cp,rfl,h⟩:=h;exact⟨g,cp,rfl,yAh h hc (λk q=>by simp[Value.ownBlock]at q;subst q;exact hv _ _ _ rfl)⟩
theorem Opd.K(h:Opd S w u x)(hb:Chg S' w w')(hd:∀k,S k->¬S' k):Opd S w' u x:=⟨h.Z.i hb (λa n c q=>hd _ (h.blk a n c q)),h.ne,h.blk,h.good,h.X⟩
theorem Opd.weak(h:Opd S w u x)(hd:∀k,k<w.heap.size->S k->S' k):Opd S' w u x:=⟨h.Z,h.ne,λa n c q=>by
 refine hd _ ?_ (h.blk a n c q)
 obtain⟨g,cp,rfl,ho⟩:=h.Z
 cases q
 exact ho.lt.2,h.good,h.X⟩
variable {us:List Vv}
theorem OwnV.take(h:OwnV w O g cp us){k:Nat}(hk:k<=us.length):OwnV w O g cp (us.take k):=by have h1:=yN8 h hk;rw[Nat.mul_one]at h1;unfold OwnV;rw[show(us.take k).length=k by rw[AL];omega];exact h1
section
def DeR(w W:Ww)(g cp len:Nat):Prop:=∃es:List Ent,len=es.length/\(∀e∈es,e.fine)/\OwnE W w g cp es
section
theorem DeR.lt(h:DeR w W g cp len):w.heap.size<=g/\g<W.heap.size:=by obtain⟨xs,h1,h2,h3⟩:=h;exact h3.lt
theorem DeR.i(h:DeR w W g cp len)(hc:Chg S W W')(hn:¬S g):DeR w W' g cp len:=by obtain⟨xs,h1,h2,h3⟩:=h;exact⟨xs,h1,h2,yAh h3 hc (λk q=>by simp[Value.ownBlock]at q;subst q;exact hn)⟩
theorem DeR.caps(h:DeR w W g cp len):len<=cp:=by
 obtain⟨es,rfl,-,-,⟨h,-⟩|⟨_,_,_,h,_,_,h2,_⟩⟩:=h
 .cases h
 .cases h;exact h2
theorem DeR.go(hd:DInv O cb bv n w W)(h:DeR w W g cp len)(hd':DInv O cb bv n W W'):DInv O cb bv n w W'/\DeR w W' g cp len:=
 ⟨⟨hd'.d,hd.c.trans hd'.c,hd.lt,hd.hb⟩,h.i hd'.c (qv h.lt hd.lt)⟩
variable {o:Oper} {x:Operand}
theorem apE(hgd:o.guard=none)(ho:o.op=.call {callee:=.builtin .append,args:=#[s,x],argTypes:=#[87,87]})
  (hs:a.eval s=(xg g len cp)) (hx:a.eval x=(xg W 1 1)) (HA:Hid (DInv O cb bv n w W/\DeR w W g cp len)) (hf:f.fine) (hl:len<=1000)
  (h:∀g' cp' w',Hid (DInv O cb bv n w w'/\DeR w w' g' cp' (len+1))->wpList prog ops Q rest (a.put o.dst (xg g' (len+1) cp')) w'):wpList prog ops Q (o::rest) a (xw W #[f.j,f.E,f.C,xu f.ts,xi f.f,f.val] 165):=by
 have hb:Below W W (xw W #[f.j,f.E,f.C,xu f.ts,xi f.f,f.val] 165):=qB;obtain⟨HD,es,rfl,h2,h3⟩:=HA;have hd:=HD.k hb;refine wpA hgd (apK yPn ho w es [f] hs hx rfl rfl (h3.k hb h3.lt.2) (show OwnE _ W W 1 [f]from yAa W _ qr rfl).at (lN (by omega)) hd.c.size λg' cp' w' hO hgr _=>h g' cp' w' ⟨hd.grow hgr (λk q=>by cases q;exact h3.lt.1),es++ [f],by simp,λe he=>?_,hO⟩);rcases Af.1 he with q|q
 .exact h2 e q
 .simp at q;subst q;exact hf
end
def WrI(O cb:Nat)(bv:Vv)(n:Nat)(w:Ww)(nv iv:Vv)(W:Ww):Prop:=∃i g cp len:Nat,iv=(xi i)/\nv=(xg g len cp)/\i<=100/\len<=i/\Hid (DInv O cb bv n w W/\DeR w W g cp len)
theorem zWa (h:p:=by
 refine wGen (by exact zN:EE O cb bv n w3 eb _) ?_;intro W H;obtain⟨f,-,hf,⟨k0,k1,k2,k3,k4,k5⟩,z⟩:=EE.ec H;have HX:=qH1 (H3.2.go H3.1 H.dinv);go_wp2_with (at_builtin;refine apE rfl rfl rfl rfl HX hf qo ?_);intro g4 c4 w4 H4;refine zX ?_;exact⟨i+1,g4,c4,_,rfl,rfl,qo,qo,H4⟩):p:=h
theorem xGw(O cb:Nat)(bv:Vv)(n:Nat)(most:Nat) w (h:DInv O cb bv n w w) (hm:most<=100):
  Calls prog 79 #[xp cb,xi most] w λr w'=>∃g cp len:Nat,r=.returned (xg g len cp)/\len<=100/\Hid (DInv O cb bv n w w'/\DeR w w' g cp len):=by
 have HD:=qH1 h;clear h;go_enter func79,ntmps79;go_wp2_with fail;refine(yAs O cb bv n ((most:Int)/2+1) _ HD.d qo qo).mono ?_;rintro e w1 ⟨x,rfl,hx0,hx1,hd⟩;have H1:=qH1 (HD.call hd);have H2:Hid (DInv O cb bv n w (xw w1 #[] 165)/\DeR w (xw w1 #[] 165) w1 0 0):=⟨H1.k (qB),[],rfl,λe he=>(by cases he),World.ownsRow_made w1 #[] 0 hd.2.size (AJ _) (by simp)⟩;have hN:(most:Int)/2+x<=100:=qo
 obtain⟨N,hN2⟩:=qE ((most:Int)/2+x);rw[<-hN2]at hN;clear hd;go_wp2_with fail;rw[<-hN2];clear hN2 hx0 hx1;go_loopw[6,7] (λnv iv wr=>WrI O cb bv n w nv iv wr) (λ_ i _=>200-(intOf i).toNat);case atStart=>exact⟨0,_,0,0,rfl,rfl,qo,qo,H2.out⟩
 case round=>
  obtain⟨i,g,cp,len,rfl,rfl,hi,hl,HX⟩:=hrel;by_cases hlt:(i:Int)<N
  .go_wp2_with fail;refine(xKz O cb bv n _ HX.1.d).mono ?_;rintro e w3 ⟨f,rfl,hf,hd⟩;have H3:=qH1 (HX.2.go HX.1 ((DInv.start HX.1.d).call hd));obtain⟨W4,hW4⟩:=qE (xw w3 #[.string f.j,.string f.E,.string f.C,.int .u64 f.ts,.int .i64 f.f,.string f.val] 165:Ww);have H4:EE O cb bv n w3 w3.heap.size W4:=BX.new hd.1 ⟨f,rfl,hf⟩ rfl hW4;obtain⟨eb,heb⟩:=qE w3.heap.size;rw[<-heb]at H4;have hge:¬g=eb:=by have:=H3.2.lt;omega
   have hgl:=H3.2.lt.2;clear hd hf;go_upto_region 7 with fail;rw[<-hW4,<-heb];clear hW4 heb;by_cases h0:len=0
   .have z0:¬(0:Int)<(len:Int):=qo
    clear h0;go_upto_region 12 with fail;exact zWa
   .have h0':(0:Int)<(len:Int):=qo
    go_wp2_with fail;refine(yBh O cb bv n 2 _ H4.dinv.d qo qo).mono ?_;rintro e w5 ⟨v,rfl,hv,hd⟩;have H5:=(H4.call hd).1;clear hd;rcases hv with rfl|rfl
    .go_wp2_with fail;refine(yAs O cb bv n (len:Int) _ H5.dinv.d qo qo).mono ?_;rintro e w6 ⟨j,rfl,hj0,hj1,hd⟩;obtain⟨j,rfl⟩:∃k:Nat,j=(k:Int):=⟨j.toNat,qo⟩;obtain⟨f6,H6,hf6,⟨k0,k1,k2,k3,k4,k5⟩,z⟩:=EE.ec (H5.call hd).1;obtain⟨-,es,hel,hes,hO⟩:=H3.2.go H3.1 H6.dinv;obtain⟨y,hy⟩:∃y,es[j]?=some y:=⟨_,AC qo⟩;obtain⟨d0,d1,d2,d3,d4,d5⟩:=hO.at j y hy;simp only[AO]at d0 d1 d2 d3 d4 d5;have hyf:=hes y (AF hy);have hy1:=hyf.j;have hy2:=hyf.E;have hy3:=hyf.C;have hcp:=H3.2.caps;clear hd hel hes hO hy hyf;go_upto_region 12 with fail;exact zWa
    .go_upto_region 12 with fail;exact zWa
  .go_wp2_with fail;go_ret;exact⟨g,cp,len,rfl,qo,HX.out⟩
end
def NmB(B g:Nat)(k:Nat):Prop:=B<=k/\¬k=g
structure FnJ(w:Ww)(xs:List Nd)(j g cp:Nat)(us:List Vv)(ns:List (List Nd))(wr:Ww):Prop where
 fold:yB8 normOf [] (xs.take j)=some ns
 Z:OwnV wr w g cp us
 X:us.length=ns.length
 opd:∀(i:Nat)(u:Vv)(x:List Nd),us[i]?=some u->ns[i]?=some x->Opd (NmB w g) wr u x
 k:Below w w wr
theorem FnJ.K(h:FnJ w xs j g cp us ns wr)(hb:Below wr wr w'):FnJ w xs j g cp us ns w':=
 ⟨h.fold,h.Z.k hb,h.X,λi u x hu hx=>(h.opd i u x hu hx).k hb,h.k.trans (hb.mono h.k.size)⟩
def yWc(xs:List Nd)(w:Ww)(r:AV)(w':Ww):Prop:=Below w w w'/\((∃u y,yB8 normOf [] xs=some [y]/\r=.returned (.tuple #[u,true])/\Opd (λk=>w<=k) w' u y)\/((∀y,¬yB8 normOf [] xs=some [y])/\r=.returned (.tuple #[xh,false])))
theorem xIo{g' cp' fr:Nat}(hG:∀e∈xs,yBq e)(hxl:xs.length<=200)(h:FnJ w xs j g cp us ns X)(hU:yJo X u y)(hB:∀a n c,u=.slice (some a) n c->NmB w g a.block)(hY:yB8 normOf [] (xs.take (j+1))=some (ns.take fr++ [y]))(hfr:fr<=us.length)(hO:OwnV w' w g' cp' (us.take fr++ [u]))(hgr:(X.alloc (AD #[u] 23)).grownBy w' (some g))(hat:g'=g\/g'=(X.alloc (AD #[u] 23)).heap.size):FnJ w xs (j+1) g' cp' (us.take fr++ [u]) (ns.take fr++ [y]) w':=by
 have hgl:=h.Z.lt;have hbX:Below X X (xw X #[u] 23):=qB;have hsX:(X.alloc (AD #[u] 23)).heap.size=X+1:=by simp
 have hC:Chg (λk=>k=g) (xw X #[u] 23) w':=Chg.M hgr (λk hk=>by cases hk;rfl);have hY2:=xEi hY y (by simp);have hyo:Opd (NmB w g) X u y:=⟨hU,hY2.1,hB,λe he=>hG e (List.mem_of_mem_take (hY2.2.1 e he)),by have h9:=hY2.2.2;rw[AL]at h9;omega⟩;have all:∀(i:Nat)(u':Vv)(x:List Nd),(us.take fr++ [u])[i]?=some u'->(ns.take fr++ [y])[i]?=some x->Opd (NmB w g) X u' x:=by
  intro i u' x hu hx;have hlu:(us.take fr).length=fr:=by rw[AL];omega
  have hln:(ns.take fr).length=fr:=by rw[AL,<-h.X];omega
  by_cases hi:i<fr
  .rw[AQ qo]at hu hx;rw[List.getElem?_take_of_lt hi]at hu hx;exact h.opd i u' x hu hx
  .have hi2:i=fr:=by have:=qf hu;simp only[AA,AR,hlu]at this;omega
   subst hi2;rw[AI (by omega),hlu]at hu;rw[AI (by omega),hln]at hx;simp at hu hx;subst hu hx;exact hyo
 refine⟨hY,hO,by simp[AL,h.X],λi u' x hu hx=>?_,?_⟩
 .have o1:Opd (λk=>NmB w g k/\¬k=g') X u' x:=(all i u' x hu hx).weak (λk hk q=>⟨q,by
   rcases hat with rfl|hat
   .exact q.2
   .omega⟩)
  exact((o1.k hbX).K hC (λk hk q=>hk.1.2 q)).weak (λk hk q=>⟨q.1.1,q.2⟩)
 .exact Chg.k (h.k.trans (hbX.mono h.k.size)) hC (qw h.k.size) (λk q=>by omega)
theorem yRd{cpN:Nat}(h:yCq w gN oN xs)(hg:gN<w)(hG:∀e∈xs,yBq e)(hl:xs.length<=200):
  Calls prog 49 #[.slice (some ⟨gN,oN,none⟩) xs.length cpN,.func (Fn.func 50) #[] #[]] w (yWc xs w):=by
 have HF:=qH3 h hG hl;have⟨n,hn⟩:=qE xs.length;have HL:=qH1 hn;rw[<-hn]at hl|-;clear h hG hn;have⟨W0,hW0⟩:=qE (w.alloc (AD #[] 23):Ww);have HW0:Hid (FnJ w xs 0 w.heap.size 0 [] [] W0):=by
  refine⟨rfl,?_,rfl,λi u x hu=>by simp at hu,?_⟩
  .rw[hW0];exact yVf w (AG _)
  .rw[hW0];exact qB
 go_enter func49,ntmps49;go_upto_region 2 with fail;rw[<-hW0];clear hW0;go_wp2_with fail;go_loopw[4,6,14] (λwv sv iv wr=>∃(j m g cp:Nat)(us:List Vv)(ns:List (List Nd)),wv=.slice none 0 0/\iv=.int .i64 (j:Int)/\j<=n/\m=us.length/\m<=j/\m<=cp/\sv=.slice (some ⟨g,0,none⟩) m cp/\FnJ w xs j g cp us ns wr) (λ_ _ iv _=>n-(intOf iv).toNat);case atStart=>exact⟨0,0,_,0,[],[],rfl,rfl,AJ _,rfl,AG _,AJ _,rfl,HW0⟩
 case round=>
  obtain⟨j,m,g,cp,us,ns,rfl,rfl,hj,hm,hmj,hmc,rfl,hJ⟩:=hrel;have HJ:=qH2 hm hJ;have hgl:=hJ.Z.lt;have hcp:cp<=9223372036854775807:=by have:=hJ.Z.caps.2;unfold maxLen at this;omega
  have hsz:=hJ.k.size;clear hm hJ HW0;by_cases hlt:j<n
  .have zj:(j:Int)<(n:Int):=qo
   obtain⟨e,he⟩:∃e,xs[j]?=some e:=⟨_,AC (by have:=HL.out;omega)⟩;have⟨d0,d1,d2,d3,d4,d5,d6⟩:=(HF.1.k HJ.2.k hg) j e he;have HE:=qH2 he (HF.2.1 e (AF he));clear he;have⟨W1,hW1⟩:=qE (wr.alloc (AD #[.int .i64 e.f,.string e.s,.bool e.hi,.string e.t,.int .u64 e.lo,.int .u64 e.up,.int .i64 e.n] 83):Ww);have hb1:Below wr.heap.size wr W1:=hW1▸qB
   have hz1:wr.heap.size<W1:=by rw[hW1];simp
   have HJ1:Hid (m=us.length/\FnJ w xs j g cp us ns W1/\yA W1 w.heap.size 83 7 wr.heap.size e.seven):=by refine⟨HJ.1,HJ.2.K hb1,?_⟩;rw[hW1];exact yAa wr _ hsz rfl
   go_upto_region 5 with fail;rw[<-hW1];clear hW1 d0 d1 d2 d3 d4 d5 d6 HJ hb1;have⟨c0,c1,c2,c3,c4,c5,c6⟩:=HJ1.2.2.c7;have⟨a,ha⟩:=qE (yAk e.f);have ha3:a<=3:=ha▸(yGj _)
   have HAr:Hid (Calls prog 83 #[.int .i64 e.f] W1 λr w'=>r=.returned (.int .i64 (a:Int))/\w'=W1):=ha▸(yC2 e.f W1)
   have HAk:=qH1 ha;clear ha;go_wp2_with fail;apply HAr.mono;rintro r w9 ⟨rfl,hw9⟩;rw[hw9];clear hw9 HAr;by_cases hfr:m<a
   .have zf:(m:Int)-(a:Int)<0:=qo
    have HS:=qH1 (yXk HJ1.2.1.fold HE.1 (by rw[<-HJ1.2.1.X,<-HJ1.1,<-HAk];exact hfr));have HB9:=qH1 HJ1.2.1.k;go_wp2_with fail;exact AS (v:=.tuple #[.slice none 0 0,.bool false]) (by simp[results,results49,go_sem]) rfl ⟨HB9,.inr ⟨λs q=>(by rw[HS]at q;cases q),rfl⟩⟩
   .obtain⟨fr,hfrm⟩:∃fr:Nat,(m:Int)-(a:Int)=(fr:Int):=⟨m-a,qo⟩;have hfrle:fr<=m:=qo
    have HFr:Hid (fr=ns.length-yAk e.f/\yAk e.f<=ns.length):=by have h1:=HJ1.1;have h2:=HAk.out;have h3:=HJ1.2.1.X;exact⟨qo,qo⟩
    have zf:¬(fr:Int)<0:=qo
    have z2:(fr:Int)<=(m:Int):=qo
    have z3:(m:Int)<=(cp:Int):=qo
    have⟨y,hy⟩:=qE (normOf e (ns.drop fr));have HY:Hid (yB8 normOf [] (xs.take (j+1))=some (ns.take fr++ [y])):=by show _=_;rw[hy,HFr.1];exact yXl HJ1.2.1.fold HE.1 HFr.2
    obtain⟨ad,had⟩:∃ad:Option Addr,(if cp=fr then some (⟨g,0,none⟩:Addr)else some ⟨g,fr,none⟩)=ad:=⟨_,rfl⟩;have HSh:Hid (∀X,Below W1.heap.size W1 X->Calls prog 50 #[.agg #[.int .i64 e.f,.string e.s,.bool e.hi,.string e.t,.int .u64 e.lo,.int .u64 e.up,.int .i64 e.n],.slice ad (m-fr) (cp-fr)] X (NmI (NmB w.heap.size g) y X)):=λX hX=>by
     have hJX:=HJ1.2.1.K hX;have hlen:(ns.drop fr).length=m-fr:=by rw[AK,<-HJ1.2.1.X,<-HJ1.1]
     have hulen:(us.drop fr).length=(ns.drop fr).length:=by rw[AK,AK,HJ1.2.1.X]
     have hxa:(ns.drop fr).length=yAk e.f:=by rw[AK];have:=HFr.1;have:=HFr.2;omega
     have hO9:∀(i:Nat)(u:Vv)(x:List Nd),(us.drop fr)[i]?=some u->(ns.drop fr)[i]?=some x->Opd (NmB w.heap.size g) X u x:=λi u x hu hx=>by rw[AU]at hu hx;exact hJX.opd _ u x hu hx
     rw[hy,<-had];by_cases hcf:cp=fr
     .rw[iB hcf];have hnil:=AM.1 (by rw[hulen,hlen];omega);have h9:=yFt (NmB w.heap.size g) e g 0 (cp-fr) (us.drop fr) (ns.drop fr) X HE.2 hJX.Z.lt.2 hxa hulen (by rw[hnil];intro i u hu;simp at hu) hO9;rw[hlen]at h9;exact h9
     .rw[iA hcf];have h9:=yFt (NmB w.heap.size g) e g fr (cp-fr) (us.drop fr) (ns.drop fr) X HE.2 hJX.Z.lt.2 hxa hulen (by intro i u hu;rw[AU]at hu;exact hJX.Z.z hu) hO9;rw[hlen]at h9;exact h9
    clear hy hfr;go_upto_region 8 with fail;go_cut[10] (λsv wx=>Below W1.heap.size W1 wx/\yJo wx sv y/\(∀a n c,sv=.slice (some a) n c->NmB w.heap.size g a.block));case first=>
     go_region_law ((go_simp;go_at_call 50;refine(HSh _ ?hX).mono ?_;(case hX=>(repeat (first|exact Below.refl _ _|refine Below.drew ?_)));rintro r w' ⟨v7,rfl,hv7,hs7,hbb⟩));all_goals go_wp2_with fail
     all_goals go_meet
     all_goals (refine⟨?_,hv7,λa n c hq=>?_⟩)
     all_goals first
      |exact((Below.refl _ _).drew).trans hbb
      |(rcases hs7 a n c hq with q|q
        .exact q
        .exact⟨by have h8:=HJ1.2.1.k.size;have h7:W1.drew.heap.size=W1:=(by simp);omega,by have h8:=HJ1.2.1.Z.lt.2;have h7:W1.drew.heap.size=W1:=(by simp);omega⟩)
    case rest=>
    have⟨hb10,hv10,hs10⟩:=hcut;have HK:=qH3 hb10 hv10 hs10;obtain⟨vg,vc,rfl,_⟩:=hv10;have HK2:=qH1 (HJ1.2.1.K hb10);have hgl2:=HK2.Z.lt;have hsz2:=HK2.k.size;have⟨W2,hW2⟩:=qE (wc.alloc (AD #[.slice (some ⟨vg,0,none⟩) y.length vc] 23):Ww);have hb2:Below wc.heap.size wc W2:=hW2▸qB
    have cW2:W2.cell? ⟨wc.heap.size,0,none⟩=some (.slice (some ⟨vg,0,none⟩) y.length vc):=by rw[hW2];simp
    have hfl:fr<=us.length:=by rw[<-HJ1.1];exact hfrle
    have HM:Hid (fr=(us.take fr).length):=by show fr=_;rw[AL];omega
    have HO2:=qH1 ((HK2.Z.take hfl).k hb2);have HW2:=qH1 hW2;have z4:(fr:Int)<=(cp:Int):=qo
    have hz2:wc.heap.size<W2:=by rw[hW2];simp
    clear hb10 hs10 c0 c1 c2 c3 c4 c5 c6 HSh hb2;go_wp2_with (at_builtin;(try rw[<-hW2]);refine wpA rfl (apK xM rfl w.heap.size (us.take fr) [.slice (some ⟨vg,0,none⟩) y.length vc] rfl rfl HM rfl HO2 (atV0 ?hc ?hy) (lT ?hl) ?hb ?_));case hc=>
     intro i v hv;have hi:i=0:=by have:=(AX.1 hv).1;simpa using this
     subst hi;simp at hv;subst hv;exact cW2
    case hy=>intro v hv;simp at hv;subst hv;rfl
    case hl=>rw[<-HM];show fr+1<=1000;omega
    case hb=>omega
    intro g' cp' w' hO' hgr' hat'
    have fin:Hid (FnJ w xs (j+1) g' cp' (us.take fr++ [.slice (some ⟨vg,0,none⟩) y.length vc]) (ns.take fr++ [y]) w'):=
     xIo HF.2.1 HF.2.2 HK2 HK.2.1 HK.2.2 HY hfl hO' (by simpa using hgr') (by simpa using hat')
    have hcp':fr+1<=cp':=by have h8:=hO'.caps.1;rw[AA,<-HM]at h8;exact h8
    clear hO' hgr' hat' hW2 cW2;go_wp2;go_roundw;case rel=>exact⟨j+1,fr+1,g',cp',us.take fr++ [(xg vg y.length vc:Vv)],ns.take fr++ [y],rfl,by go_num,qo,by rw[AA,AR,<-HM],qo,hcp',rfl,fin⟩
    case measure=>simp[intOf];omega
  .have zj:¬(j:Int)<(n:Int):=qo
   have HFo:Hid (yB8 normOf [] xs=some ns):=by have h1:=HJ.2.fold;rw[AN (by have:=HL.out;omega)]at h1;exact h1
   have HB9:=qH1 HJ.2.k;by_cases hm1:m=1
   .subst hm1;obtain⟨u,rfl⟩:∃u,us= [u]:=by
     have h1:=HJ.1;match us,h1 with
     | [u],_=>exact⟨u,rfl⟩
    obtain⟨y,rfl⟩:∃y,ns= [y]:=by
     have h1:=HJ.2.X;match ns,h1 with
     | [y],_=>exact⟨y,rfl⟩
    have e0:=HJ.2.Z.z (j:=0) rfl;have HO9:=qH1 ((HJ.2.opd 0 u y rfl rfl).weak (λk _ q=>q.1));have⟨b9,o9,c9,hu9,_,_⟩:=HO9.form;rw[hu9]at e0;have HR:Hid (yWc xs w (.returned (.tuple #[(xy b9 o9 y.length c9),true])) wr):=⟨HB9,.inl ⟨u,y,HFo,by rw[hu9],HO9⟩⟩;clear hu9;go_wp2_with fail;exact AS (v:=.tuple #[(xy b9 o9 y.length c9),true]) (by simp[results,results49,go_sem]) rfl HR
   .have zm:((m:Int) != 1)=true:=by have:¬(m:Int)=1:=qo;simpa using this
    have HR:Hid (yWc xs w (.returned (.tuple #[.slice none 0 0,.bool false])) wr):=⟨HB9,.inr ⟨λs q=>by
     rw[HFo]at q
     have h1:=HJ.1
     rw[HJ.2.X,AT q]at h1
     exact hm1 h1,rfl⟩⟩
    go_wp2_with fail;exact AS (v:=.tuple #[.slice none 0 0,.bool false]) (by simp[results,results49,go_sem]) rfl HR
section
section
variable {p:Nd->Prop} {o:Nat}
theorem AnyR.k(h:AnyR p w W b o len c)(hb:Below W W W'):AnyR p w W' b o len c:=h.i (S:=λ_=>False) (Chg.h hb) (λq=>q)
theorem AnyR.drew(h:AnyR p w W b o len c)(hl:cb<w.heap.size)(hd:Drew O cb bv n W W'):AnyR p w W' b o len c:=h.i hd.2 (qw h.2.1)
theorem AnyR.put(hd:DInv O cb bv n w W)(h:AnyR p w W b o len c)(hg:w.heap.size<=g)(hn:¬b=g)(j:Nat)(u:Vv):DInv O cb bv n w (xt W g j u)/\AnyR p w (xt W g j u) b o len c:=
 ⟨hd.grow (yDs W g j u) (λk q=>by cases q;exact hg),h.i (Chg.D (S:=λk=>k=g) _ _ _ _ rfl) hn⟩
end
theorem zAr(h:p:=by go_wp2_with fail;rw[<-hW9];exact bodyPost_ret (by simp[results,results32,go_sem,p0]) rfl HZ.out):p:=h
theorem yRj(O cb:Nat)(bv:Vv)(n:Nat) w (h:yAo O cb bv n w):
  Calls prog 32 #[xp cb] w (AnyP O cb bv n w):=by
 obtain⟨Wa,hWa,HA,HR⟩:=yO3 h;clear h;go_enter func32,ntmps32;go_wp2_with fail;rw[<-hWa];refine(yBh O cb bv n 20 _ HA.d qo qo).mono ?_;rintro e w1 ⟨v,rfl,hv,hd⟩;have H1:=qH1 (HA.call hd);clear hd hWa;rcases hv with rfl|rfl
 .go_wp2_with fail;refine(yMg O cb bv n w1 H1.d).mono ?_;rintro e w2 ⟨b,o,c,len,rfl,h0,hl,K⟩;have H2:=H1.upA K.out;obtain⟨W9,hW9,r0,rf,p0,HZ⟩:=HR.out _ _ _ _ _ _ 0 1001 ⟨H2.1,H2.2.ok⟩ qo qo;exact zAr
 .go_wp2_with fail;refine(yFx O cb bv n w1 H1.d).mono ?_;rintro e w2 ⟨b,o,c,len,rfl,h0,hl,K⟩;have H2:=H1.upA K.out;obtain⟨W3,hW3⟩:=qE (xw w2 #[(xy b o len c)] 25:Ww);have k3:=qN hW3
  have H3:=qH2 (H2.1.k k3) (H2.2.k k3);obtain⟨tb,htb⟩:=qE w2;have HB:=qH2 (by rw[hW3,htb];exact yAa w2 _ H2.1.c.size rfl:yA W3 Wa 25 1 tb [(xy b o len c)]) (by rw[htb];exact H2.2.2.1.2:b<tb);clear K k3;go_upto_region 4 with fail;rw[<-hW3,<-htb];clear hW3 htb H2;go_wp2_with fail;refine(yBh O cb bv n 8 _ H3.1.d qo qo).mono ?_;rintro e w4 ⟨v,rfl,hv,hd⟩;have hcl:=H3.1.lt;have H4:=qH2 (H3.1.call hd) (H3.2.drew hcl hd);have HT:=qH1 (HB.1.i hd.2 (by have:=HB.1.lt;omega));clear hd;rcases hv with rfl|rfl
  .have t4:=HT.z (j:=0) rfl;go_wp2_with fail;refine(yMf O cb bv n Wa w4 H4.1 H4.2 qo qo).mono ?_;rintro e w5 ⟨b5,o5,c5,len5,rfl,-,hl5,K⟩;have H5:=H4.1.upA K.out;have h5:=K.out.2.2.1.1;have HX:=HT.i K.out.1.c (by have:=HT.lt;omega);have ht:=HX.lt.1;have htl:=HT.lt.2;have t5:=HX.z (j:=0) rfl;have tf:=HX.frozen 0;obtain⟨W9,hW9,r0,rf,p0,HZ⟩:=HR.out _ _ _ _ _ _ 0 1001 (H5.2.put H5.1 ht qo 0 (xy b5 o5 len5 c5)) qo hl5;clear K h5 HX ht htl t4 hcl;exact zAr
  .have t4:=HT.z (j:=0) rfl;obtain⟨W9,hW9,r0,rf,p0,HZ⟩:=HR.out _ _ _ _ _ _ 0 1001 ⟨H4.1,H4.2.ok⟩ qo qo;exact zAr
end
def CelP(O cb:Nat)(bv:Vv)(n:Nat)(w:Ww)(e:AV)(w':Ww):Prop:=∃(g cp:Nat)(L:List Ent),e=.returned (xg g L.length cp)/\L.length<=100/\Hid (OwnC w' w g cp L/\DInv O cb bv n w w'/\(∀e∈L,e.ok)/\(∀e∈L,e.f=0))
theorem yMh(O cb:Nat)(a:Option Addr)(n cap:Nat) w (h:yAo O cb (.slice a n cap) n w) (hn:n<=1048576):
  Calls prog 33 #[xp cb,.slice a n cap] w (CelP O cb (.slice a n cap) n w):=by
 have HD:Hid (DInv O cb (.slice a n cap) n w w):=DInv.start h;clear h;go_enter func33,ntmps33;go_wp2_with fail;refine(yY3 a n cap w hn).mono ?_;rintro e w1 ⟨k,rfl,hk,rfl⟩;have HW:=xGw O cb (.slice a n cap) n (k+6) w1 HD.out (by omega);rw[show((k+6:Nat):Int)=(k:Int)+6 by omega]at HW;go_wp2_with fail;refine HW.mono ?_;rintro e w2 ⟨g,cp,len,rfl,hl,HL⟩;obtain⟨es,hel,hes,hO⟩:=HL.2;have HE:=qH1 hes;have HR:=xHj g 0 cp es w2 hO.at (λe he=>(hes e he).ok) hO.lt.2 qo;rw[<-hel]at HR;have HN:=qH1 hel;clear HW hes hO hel;go_wp2_with fail;refine HR.mono ?_;rintro e w3 ⟨g3,c3,L,rfl,hO3,hb3,hR3⟩
 have HE:Hid (CelP O cb (.slice a n cap) n w1 (.returned (xg g3 L.length c3)) w3):=
  ⟨g3,c3,L,rfl,by have:=HN.out;have:=hR3.1;omega,hO3.mono HL.1.c.size,HL.1.k hb3,λe he=>(hR3.2 e he).1,λe he=>(hR3.2 e he).2⟩
 clear hO3 hb3 hR3 HR;go_wp2_with fail;go_ret;exact HE.out
end Go.Proofs.YtnnagkfoiganfaaGreatDoor
