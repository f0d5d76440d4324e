import Derived.Test.YtnnagkfoiganfaaGreatDoorHkAK
import Derived.Test.YtnnagkfoiganfaaGreatDoorHkAL
namespace Go.Proofs.YtnnagkfoiganfaaGreatDoor
open Go.ChangeShapes Go.WideShapes Go.ChangeAt Go.RowKit Go.Deep XD XI XU XG XP XK XW XT XF XE XH _root_.List _root_.Nat XY Go.Proofs.Tryz
open _root_.Go.Fn renaming func->AD
open _root_.Go.Obj renaming cells->AC
open _root_.Go.Value renaming ownBlock->AE,slice->AH
open _root_.List renaming length_append->AB,mem_singleton->AF,getElem?_eq_some_iff->AI,append_eq_nil_iff->AJ,mem_append->AM,map_append->AN,length->AQ,range->AR
open _root_.Nat renaming le_refl->AA,zero_le->AG,le_trans->AK,le_of_lt->AL,zero_add->AO,le_of_eq->AP
set_option linter.unusedVariables false
set_option linter.unusedSimpArgs false
set_option maxRecDepth 100000
set_option maxHeartbeats 64000000
variable {ks:List Ctr} {g cp b p1 O c o:Nat} {v0 v cv1 cv2 cv cv' mv:Vv} {es:List Ent} {R' S:Nat->Prop} {w2 w' w0 w:Ww} {f:Option Nat} {t a:CT} {Z bs:List Bk} {q:Prop} {M:List Ix} {xs:List Nd}
theorem yS(x p:Ba) w:Calls prog 172 #[x,p] w λe w'=>e=.returned (.bool (yCl x p))/\w'=w:=by
 unfold yCl;by_cases h:p.size<=x.size
 .have z:(p.size:Int)<=(x.size:Int):=qo
  have z2:¬(x.size:Int)<(p.size:Int):=qo
  cases e1:((x.extract 0 p.size).toList==p.toList)
  .go_enter func172,ntmps172;go_wp2_with fail;go_ret;exact⟨by simp[h,e1],rfl⟩
  .go_enter func172,ntmps172;go_wp2_with fail;go_ret;exact⟨by simp[h,e1],rfl⟩
 .have z:¬(p.size:Int)<=(x.size:Int):=qo
  have z2:(x.size:Int)<(p.size:Int):=qo
  go_enter func172,ntmps172;go_wp2_with fail;go_ret;exact⟨by simp[h],rfl⟩
variable {p:Prop}
theorem zHe (h:p:=by
 go_wp2_with fail;refine bodyPost_ret (v:=(yCa p n c).v) ?_ rfl ⟨rfl,yAc (yAc HV.2.2.2 (by omega) 0 _) (by omega) 1 _⟩
 have hm:=HM.out.symm;simp[results,results122,go_sem,r0,r1,f0,f1];simp[yCa,lsB,noH,Hn.v, *];try (rw[iA (by omega)];simp)):p:=h
theorem yRr(n:Nd)(c:Ent)(w:Ww)(hs:n.s.size<=maxLen):(xf 122 #[n.v,c.c] w (yCa (pfxB n.s) n c).v:Prop):=by
 obtain⟨p,hp⟩:=qE (pfxB n.s);obtain⟨q,a7⟩:∃q:Bool,Hid (∀W,(xf 171 #[n.s] W (.agg #[p,q]):Prop)):=⟨(pfxR n.s).2,λW=>hp▸(yJe n.s W hs _ (yWy n.s))⟩
 rw[<-hp];have ab:∀W:Ww,(Instr.field 268 (.agg #[p,q]) 0).run prog W=.ok p W:=λW=>qk
 clear hp;obtain⟨W0,a6⟩:∃V:Ww,V=(xw ((w.alloc (AC #[xi n.f,n.s,n.hi,n.t,xu n.lo,xu n.up,xi n.n] 83)).alloc (AC #[c.j,c.E,c.C,xu c.ts,c.val] 70)) #[xi 0,xe] 113):=⟨_,rfl⟩;have H0:Hid (yA W0 w 83 7 w n.seven/\yA W0 w 70 5 (w+1) c.five/\yA W0 w 113 2 (w+2) [xi 0,xe]/\Below w.heap.size w W0):=box3 a6
 have HB:Hid (∀x W,Calls prog 172 #[.string x,.string p] W λe w'=>e=.returned (.bool (yCl x p))/\w'=W):=λx W=>yS x p W;go_enter func122,ntmps122;go_upto_region 1 with fail;rw[<-a6];clear a6;have a1:=H0.1.z (j:=1) rfl;go_wp2_with fail;refine(a7.out W0).mono ?_;clear a7;rintro e v ⟨rfl,a3⟩;have HV:=qH4 (H0.1.k a3) (H0.2.1.k a3) (H0.2.2.1.k a3) (H0.2.2.2.trans (a3.mono H0.2.2.2.size));clear a3 a1 H0;obtain⟨a0,a1⟩:=HV.1.c2;have a4:=HV.1.z (j:=4) rfl;have b0:=HV.2.1.z (j:=0) rfl;have b2:=HV.2.1.z (j:=2) rfl;have b3:=HV.2.1.z (j:=3) rfl;obtain⟨r0,r1⟩:=HV.2.2.1.c2;obtain⟨f0,f1⟩:=HV.2.2.1.f2;obtain⟨kd,a5⟩:=qE n.f;rw[<-a5]at a0;have HM:=qH1 a5;clear a5;by_cases k2:kd=2
 .subst k2;exact zHe
 by_cases k4:kd=4
 .subst k4;cases z:Op.bytesLess c.j.toList p.toList
  .go_wp2_with fail;refine(HB.out c.j v).mono ?_;rintro e wx ⟨rfl,a2⟩;rw[a2];clear a2;cases zb:yCl c.j p<;>exact zHe
  .exact zHe
 by_cases k5:kd=5
 .subst k5;exact zHe
 by_cases k6:kd=6
 .subst k6;cases z:Op.bytesLess c.C.toList p.toList
  .go_wp2_with fail;refine(HB.out c.C v).mono ?_;rintro e wx ⟨rfl,a2⟩;rw[a2];clear a2;cases zb:yCl c.C p<;>exact zHe
  .exact zHe
 by_cases k8:kd=8
 .subst k8;cases z:Op.bytesLess c.j.toList n.s.toList<;>exact zHe
 by_cases k9:kd=9
 .subst k9;cases z:Op.bytesLess c.C.toList n.s.toList<;>exact zHe
 by_cases k10:kd=10
 .subst k10;by_cases z:c.ts<n.lo<;>exact zHe
 by_cases k11:kd=11
 .subst k11;exact zHe
 by_cases k12:kd=12
 .subst k12;exact zHe
 have z2:=qn k2;have z4:=qn k4;have z5:=qn k5;have z6:=qn k6;have z8:=qn k8;have z9:=qn k9;have aa:=qn k10;have a9:=qn k11;have a8:=qn k12;exact zHe
abbrev MkP(g un:Nat)(i j:It)(w':Ww):Prop:=xk w' g ((un+1)*4) i.H/\xk w' g ((un+1)*4+1) i.strip/\xk w' g ((un+1)*4+2) (xi i.G.rank)/\xk w' g ((un+1)*4+3) i.G.txt/\xk w' g (un*4) j.H/\xk w' g (un*4+1) j.strip/\xk w' g (un*4+2) (xi j.G.rank)/\xk w' g (un*4+3) j.G.txt
theorem mkP{G:MchG}{L:LkG}{m:List It}{un:Nat}{X:Ww}{i j:It}(h:MkM G L v0 m g cp ks X)(hi:m[un+1]?=some i)(hj:m[un]?=some j):MkP g un i j X:=⟨h.stk.z yAd hi 0 qo,h.stk.z yAd hi 1 qo,h.stk.z yAd hi 2 qo,h.stk.z yAd hi 3 qo,h.stk.z yAd hj 0 qo,h.stk.z yAd hj 1 qo,h.stk.z yAd hj 2 qo,h.stk.z yAd hj 3 qo⟩
theorem zMkB (h:p:=by
 obtain⟨an,han⟩:∃an:Nat,x.a=(an:Int):=⟨x.a.toNat,qo⟩;obtain⟨bv,hbv⟩:∃bv,L.V[an]?=some bv:=qg (qw HG.2.2.1);obtain⟨bc,oc,hca,hcc,-,-⟩:=HJ.1.cnd an bv hbv;have hnc:(an:Int)<(L.nC:Int):=qv HG.2.2.1 hC.out
 have HBV:Hid (L.V[x.a.toNat]?=some bv):=by show _=_;rw[han];simpa using hbv
 rw[han]at y1;rw[ho]at y0;have HCA:=qH1 hca;rw[hca];clear hbv ha0 ha1 hca;have zb:((x.b.toNat:Nat):Int)=x.b:=qo
 cases bv
 .have HR:Hid (LkL L x.b.toNat m ks/\at_<x.b.toNat/\x.b.toNat<=L.N/\1<=m.length/\m.length<=250):=
   HL.2.next HG.2.1 hN.out (qw HL.1) HX.out (by unfold stepL;rw[iA qo,iA qo,iA qo,iA qo,iB ho,iB HBV.out]) (by unfold ways;rw[iB ho];simp) (by unfold more;rw[iA qo,iA qo];omega)
  have hr1:=HR.2.1;have hr2:=HR.2.2.1;go_wp2_with fail;(try rw[<-HCA.out]);exact xBt
 .have HR:Hid (LkL L (at_+1) m ks/\at_<at_+1/\at_+1<=L.N/\1<=m.length/\m.length<=250):=
   HL.2.next HG.2.1 hN.out (qw HL.1) HX.out (by unfold stepL;rw[iA qo,iA qo,iA qo,iA qo,iB ho,iA (by rw[HBV.out];simp)]) (by unfold ways;rw[iB ho];simp) (by unfold more;rw[iA qo,iA qo];omega)
  have hr2:=HR.2.2.1;go_wp2_with fail;(try rw[<-HCA.out]);go_roundw;case rel=>exact⟨at_+1,sn,g,cp,m,ks,hr2,hs1,hs2,rfl,by go_num,HJ.1,HL.1,HR.1⟩
  case measure=>simp[intOf];omega):p:=h
theorem zMkJ (h:p:=by
 have zb:((x.b.toNat:Nat):Int)=x.b:=qo
 have HR:Hid (LkL L x.b.toNat m ks/\at_<x.b.toNat/\x.b.toNat<=L.N/\1<=m.length/\m.length<=250):=
  HL.2.next HG.2.1 hN.out (qw HL.1) HX.out (by unfold stepL;rw[iA qo,iA qo,iA qo,iA qo,iA qo,iB ho]) (by unfold ways;rw[iA qo,iB ho];simp) (by unfold more;rw[iA qo,iA qo];omega)
 rw[ho]at y0;have hr1:=HR.2.1;have hr2:=HR.2.2.1;go_wp2_with fail;exact xBt):p:=h
theorem zMkD (h:p:=by
 obtain⟨i,hi⟩:∃i,m[tn]?=some i:=qg (qw HL.1);rw[ho]at y0;have t0:=HJ.1.stk.z yAd hi 0 qo;have t1:=HJ.1.stk.z yAd hi 1 qo;have t2:=HJ.1.stk.z yAd hi 2 qo;have t3:=HJ.1.stk.z yAd hi 3 qo;simp only[getElem?_cons_zero,getElem?_cons_succ,Nat.add_zero]at t0 t1 t2 t3;obtain⟨W3,hW3⟩:=qW (xw wr #[i.H,i.strip,xi i.G.rank,i.G.txt] 181);have HW3:Hid (MkM G L v0 m g cp ks W3/\(∀j u,i.four[j]?=some u->(xk W3 wr j u:Prop))):=by
  have hb3:=qN hW3
  exact⟨HJ.1.on HS.out hb3,by rw[hW3];exact yBj wr i.four _⟩
 have HI:=qH1 hi;have hgl:=HW3.1.stk.lt;have z3:=qS hW3
 clear hi;go_wp2_with (at_builtin;(try rw[<-hW3]);refine wpA rfl (apK (apGG ⟨underlying228,_,_,Tryz.infoIti,rfl,qj,qj⟩ yAd) rfl G.w0 m [i] rfl rfl HL.1 rfl HW3.1.stk (atG1 yHc HW3.2) (lN ?hl) ?hb ?_));case hl=>rw[<-HL.1];omega
 case hb=>have:=(HW3.1.all HS.out).size;exact this
 intro g' cp' w' hO' hgr hat';have hgr2:W3.grownBy w' (some g):=by first|exact hgr|(rw[hW3];exact hgr)
 have HR:Hid (LkL L (at_+1) (m++ [i]) ks/\at_<at_+1/\at_+1<=L.N/\1<=(m++ [i]).length/\(m++ [i]).length<=250):=
  HL.2.next HG.2.1 hN.out (qw HL.1) HX.out (by unfold stepL;rw[iA qo,iB ho,reverse_append,yDt HL.1 HI.out];rfl) (by unfold ways;rw[iA qo,iA qo];simp) (by unfold more;rw[iB ho];simp)
 have HR2:Hid (MkM G L v0 (m++ [i]) g' cp' ks w'/\tn+1+1=(m++ [i]).length):=
  ⟨HW3.1.grow HS.out hO' (by have:=HW3.1.res.lt;rcases hat' with q|q<;>omega) (Chg.M hgr2 (λk hk=>by cases hk;rfl)),by rw[length_append,<-HL.1];rfl⟩
 have hr2:=HR.2.2.1;have hr3:tn+1+1<=250:=qv HR.2.2.2.2 HR2.2
 clear hO' hgr hgr2 hat' hW3;refine zY ?_;exact⟨at_+1,tn+1+1,g',cp',m++ [i],ks,hr2,qo,hr3,rfl,by go_num,HR2.1,HR2.2,HR.1⟩):p:=h
theorem zMkL (h:p:=by
 obtain⟨tn,rfl⟩:∃tn,sn=tn+1:=⟨sn-1,qo⟩;obtain⟨i,hi⟩:∃i,m[tn]?=some i:=qg (qw HL.1);rw[ho]at y0;have HI:=qH1 hi;have HSS:Hid (∀(X:Ww)(ks:List Ctr),MkM G L v0 m g cp ks X->(λw':Ww=>xk w' g (tn*4) i.H/\xk w' g (tn*4+1) i.strip/\xk w' g (tn*4+2) (xi i.G.rank)/\xk w' g (tn*4+3) i.G.txt/\xk w' L.w 0 L.c.j/\xk w' L.w 1 L.c.E/\xk w' L.w 2 L.c.C/\xk w' L.w 3 (xu L.c.ts)/\xk w' L.w 4 L.c.val) X):=λX ks h1=>
  ⟨h1.stk.z yAd hi 0 qo,h1.stk.z yAd hi 1 qo,h1.stk.z yAd hi 2 qo,h1.stk.z yAd hi 3 qo,h1.cel.z (j:=0) rfl,h1.cel.z (j:=1) rfl,h1.cel.z (j:=2) rfl,h1.cel.z (j:=3) rfl,h1.cel.z (j:=4) rfl⟩
 have HD:=qH1 (HJ.1.on HS.out ((Below.refl _ _).drew));have hS0:=HSS.out wr.drew ks HD.out
 have HLf:Hid (Calls prog 156 #[.pointer (some ⟨G.p,at_*13,none⟩),.agg #[i.H,i.strip,xi i.G.rank,i.G.txt],.agg #[L.c.j,L.c.E,L.c.C,xu L.c.ts,L.c.val]] wr.drew (LfQ G x L.c i ks wr.drew)):=
  HS.ok.leaf at_ x i L.c ks wr.drew HX.out ho (HD.all HS.out) HD.ti HD.ctr HD.X HD.cb HRow.out
 obtain⟨iz,hiz⟩:=qE ((leafI pfxB x L.c i ks).1);obtain⟨kz,hkz⟩:=qE ((leafI pfxB x L.c i ks).2);have HIZ:=qH2 hiz hkz
 have HR:Hid (LkL L (at_+1) (m.set tn iz) kz/\at_<at_+1/\at_+1<=L.N/\1<=(m.set tn iz).length/\(m.set tn iz).length<=250):=
  HL.2.next HG.2.1 hN.out (qw HL.1) HX.out (by
   rw[yFt ho (yDt HL.1 HI.out),yMi HL.1,hiz,hkz]) (by unfold ways;rw[iA qo,iA qo];simp) (by unfold more;rw[iA qo,iA qo,length_set];omega)
 have hr2:=HR.2.2.1;have hgl:=HJ.1.stk.lt.2;have zt:(tn:Int)<(tn:Int)+1:=qo
 clear hi hiz hkz;go_upto_region 9 with fail;refine yCp [10] (λw':Ww=>xk w' g (tn*4) i.H/\xk w' g (tn*4+1) i.strip/\xk w' g (tn*4+2) (xi i.G.rank)/\xk w' g (tn*4+3) i.G.txt/\xk w' L.w 0 L.c.j/\xk w' L.w 1 L.c.E/\xk w' L.w 2 L.c.C/\xk w' L.w 3 (xu L.c.ts)/\xk w' L.w 4 L.c.val) qk ?_;refine txa 0 hS0 ?_;iterate 7 refine txb hS0 ?_
 refine yA1 (i:=8) qk rfl (λK hK=>?_);go_simp;refine HLf.mono ?_;rintro e w4 ⟨rfl,H4⟩;rw[<-HIZ.1];have HW4:Hid (MkM G L v0 m g cp kz w4):=by obtain⟨k1,k2,k3,k4⟩:=H4.out;rw[<-HIZ.2]at k1 k2;exact HD.leaf HS.out k1 (by rw[HIZ.2];exact yXv _ _ _ _ _) k2 k3 k4
 have hS4:=HSS.out w4 kz HW4.out;clear H4 HLf HD hS0;refine hK.out _ _ (.inr hS4) (jS ?_);clear hK;refine txb hS4 ?_;obtain⟨d0,d1,d2,d3,-,-,-,-,-⟩:=hS4;have fz:∀k,w4.frozen? (xd g k)=false:=λk=>World.ownsRow.frozenAt HW4.stk k;have g0:=fz (tn*4);have g1:=fz (tn*4+1);have g2:=fz (tn*4+2);have g3:=fz (tn*4+3);obtain⟨W5,hW5⟩:=qW (setCs w4 g (tn*4) iz.four);have HW5:Hid (MkM G L v0 (m.set tn iz) g cp kz W5/\tn+1=(m.set tn iz).length):=by have hm:=HL.1;exact⟨HW4.grow HS.out (by rw[hW5];exact HW4.stk.setAll yAd (i:=tn) (e:=iz) qo) (.inl rfl) (by rw[hW5];exact yAo (S:=λk=>k=g) g rfl _ _ _),by rw[length_set];exact hm⟩
 simp only[setCs]at hW5;clear fz;refine yA1 (i:=10) qk rfl (λK hK=>?_);go_simp;rw[<-hW5];refine hK.out _ _ (.inl qj) (jS ?_);clear hK hW5 d0 d1 d2 d3 g0 g1 g2 g3;refine yEe qk ?_;refine zY ?_;exact⟨at_+1,tn+1,g,cp,m.set tn iz,kz,hr2,hs1,hs2,rfl,by go_num,HW5.1,HW5.2,HR.1⟩):p:=h
theorem zMkS (h:p:=by
 obtain⟨un,rfl⟩:∃un,tn=un+1:=⟨tn-1,by rw[ho]at hle;unfold least at hle;rw[iB qo]at hle;omega⟩;obtain⟨i,hi⟩:∃i,m[un+1]?=some i:=qg (qw HL.1);obtain⟨j,hj⟩:∃j,m[un]?=some j:=qg (qw HL.1);rw[ho]at y0;have HI:=qH2 hi hj;have HD:=qH1 (HJ.1.on HS.out ((Below.refl _ _).drew));have hS0:=mkP HD.out hi hj;have hgl:=HJ.1.stk.lt.2;have z0:(0:Int)<=(un:Int)+1:=qo
 have z1:(un:Int)<(un:Int)+1:=qo
 have z2:(un:Int)<(un:Int)+1+1:=qo
 have hwu:IntKind.i64.wrap ((un:Nat):Int)=(un:Int):=by rw[IntKind.wrap_i64];omega
 have hnn:0<=(un:Int):=qo
 clear hi hj;go_upto_region 13 with fail;refine yCp [3,4,15,16,17] (MkP g un i j) qk ?_;generalize wr.drew=WD at HD hS0|-;refine txna 3 (.inl qj) (λ_ _ _=>qj) ?_;refine txna 4 (.inl qj) (λ_ _ _=>qj) ?_;refine txa 0 hS0 ?_;iterate 2 refine txb hS0 ?_
 refine txa 5 hS0 ?_;iterate 9 refine txb hS0 ?_
 obtain⟨t0,t1,t2,t3,s0,s1,s2,s3⟩:=hS0;have fz:∀k,WD.frozen? (xd g k)=false:=λk=>World.ownsRow.frozenAt HD.stk k;have e0:=fz (un*4);have e1:=fz (un*4+1);have e2:=fz (un*4+2);have e3:=fz (un*4+3);obtain⟨W6,hW6⟩:=qW (setCs WD g (un*4) i.four);have HW6:Hid (xBi W6 G.w0 g cp (m.set un i)/\Chg (λk=>k=g) WD W6):=by have hm:=HL.1;exact⟨by rw[hW6];exact HD.stk.setAll yAd (i:=un) (e:=i) qo,by rw[hW6];exact yAo (S:=λk=>k=g) g rfl _ _ _⟩
 simp only[setCs]at hW6;refine yA1 (i:=15) qk rfl (λK hK=>?_);go_simp;rw[<-hW6];refine hK.out _ _ (.inl qj) (jS ?_);clear hK hW6 fz t0 t1 t2 t3 s0 s1 s2 s3 e0 e1 e2 e3;refine yA1 (i:=16) qk rfl (λK hK=>?_);go_simp;refine hK.out _ _ (.inl qj) (jS ?_);clear hK;have hi6:(m.set un i)[un+1]?=some i:=by rw[getElem?_set_ne qo];exact HI.1
 have t0:=HW6.1.z yAd hi6 0 qo;have t1:=HW6.1.z yAd hi6 1 qo;have t2:=HW6.1.z yAd hi6 2 qo;have t3:=HW6.1.z yAd hi6 3 qo;simp only[getElem?_cons_zero,getElem?_cons_succ,Nat.add_zero]at t0 t1 t2 t3;have fz:∀k,W6.frozen? (xd g k)=false:=λk=>World.ownsRow.frozenAt HW6.1 k;have f0:=fz ((un+1)*4);have f1:=fz ((un+1)*4+1);have f2:=fz ((un+1)*4+2);have f3:=fz ((un+1)*4+3);obtain⟨W9,hW9⟩:=qW (setCs W6 g ((un+1)*4) j.four);have HR2:Hid (MkM G L v0 (m.take un++ [i,j]) g cp ks W9/\un+1+1=(m.take un++ [i,j]).length):=by have hm:=HL.1;have o1:=HW6.1.setAll yAd (i:=un+1) (e:=j) (by rw[length_set];omega);rw[set_comm _ _ qo,yN7 HL.1 HI.1 HI.2,<-hW9]at o1;exact⟨HD.grow HS.out o1 (.inl rfl) (HW6.2.trans (by rw[hW9];exact yAo (S:=λk=>k=g) g rfl _ _ _)),by rw[length_append,length_take];simp;omega⟩
 have HR:Hid (LkL L (at_+1) (m.take un++ [i,j]) ks/\at_<at_+1/\at_+1<=L.N/\1<=(m.take un++ [i,j]).length/\(m.take un++ [i,j]).length<=250):=
  HL.2.next HG.2.1 hN.out (qw HL.1) HX.out (by unfold stepL;rw[iA qo,iA qo,iB ho];rw[yMs HL.1 HI.1 HI.2,reverse_append];rfl) (by unfold ways;rw[iA qo,iA qo];simp) (by unfold more;rw[iA qo,iA qo,<-HR2.2,<-HL.1];omega)
 have hr2:=HR.2.2.1;simp only[setCs]at hW9;refine yA1 (i:=17) qk rfl (λK hK=>?_);go_simp;rw[<-hW9];refine hK.out _ _ (.inl qj) (jS ?_);clear hK hW9 fz hi6 t0 t1 t2 t3 f0 f1 f2 f3;refine yEe qk ?_;refine zY ?_;exact⟨at_+1,un+1+1,g,cp,m.take un++ [i,j],ks,hr2,qo,hs2,rfl,by go_num,HR2.1,HR2.2,HR.1⟩):p:=h
theorem zMkI (h:p:=by
 obtain⟨un,rfl⟩:∃un,tn=un+1:=⟨tn-1,by rw[ho]at hle;unfold least at hle;rw[iB qo]at hle;omega⟩;obtain⟨i,hi⟩:∃i,m[un+1]?=some i:=qg (qw HL.1);obtain⟨j,hj⟩:∃j,m[un]?=some j:=qg (qw HL.1);rw[ho]at y0;have HI:=qH2 hi hj;have HSS:Hid (∀X:Ww,MkM G L v0 m g cp ks X->MkP g un i j X):=λX h=>mkP h hi hj;have HD:=qH1 (HJ.1.on HS.out ((Below.refl _ _).drew));have hS0:=HSS.out _ HD.out;have hgl:=HJ.1.stk.lt.2;have z0:(0:Int)<=(un:Int)+1:=qo
 have z1:(un:Int)<(un:Int)+1:=qo
 have z2:(un:Int)<(un:Int)+1+1:=qo
 have hcap:=HJ.1.stk.caps;rw[<-HL.1]at hcap;have hwu:IntKind.i64.wrap ((un:Nat):Int)=(un:Int):=by rw[IntKind.wrap_i64];omega
 have hcu:(un:Int)<=(cp:Int):=qo
 have hnn:0<=(un:Int):=qo
 have HUN:Hid (un<=m.length):=by have:=HL.1;show un<=_;omega
 obtain⟨it,hit⟩:=qE (yRp j i);have HJn:Hid (∀X:Ww,(xf 157 #[.agg #[j.H,j.strip,xi j.G.rank,j.G.txt],.agg #[i.H,i.strip,xi i.G.rank,i.G.txt]] X it.v:Prop)):=λX=>by rw[hit];exact yRo j i X
 have HIT:=qH1 hit;clear hi hj hit;go_upto_region 15 with fail;refine yCp [15,16] (MkP g un i j) qk ?_;refine txa 0 hS0 ?_;iterate 12 refine txb hS0 ?_
 refine yA1 (i:=13) qk rfl (λK hK=>?_);go_simp;refine(HJn.out _).mono ?_;rintro e w4 ⟨rfl,hb4⟩;have HW4:=qH1 (HD.on HS.out hb4);have hS4:=HSS.out _ HW4.out;clear hb4 hS0;refine hK.out _ _ (.inr hS4) (jS ?_);clear hK;obtain⟨W5,hW5⟩:=qW (xw w4 #[it.H,it.strip,xi it.G.rank,it.G.txt] 181);have HW5:Hid (MkM G L v0 m g cp ks W5/\(∀j u,it.four[j]?=some u->(xk W5 w4 j u:Prop))):=by
  have k5:=qN hW5
  exact⟨HW4.on HS.out k5,by rw[hW5];exact yBj w4 it.four _⟩
 have hS5:=HSS.out _ HW5.1;refine yA1 (i:=14) qk rfl (λK hK=>?_);go_simp;rw[<-hW5];refine hK.out _ _ (.inr hS5) (jS ?_);clear hK hW5 hS4;refine yA1 (i:=15) qk rfl (λK hK=>?_);refine stA rfl (apK (apGG ⟨underlying228,_,_,Tryz.infoIti,rfl,qj,qj⟩ yAd) rfl G.w0 (m.take un) [it] rfl rfl (by rw[length_take,Nat.min_eq_left HUN.out]) rfl (HW5.1.stk.take yAd HUN.out) (atG1 yHc HW5.2) (lN (by rw[length_take];omega)) (by have:=(HW5.1.all HS.out).size;exact this) ?_);intro g' cp' w' hO' hgr hat';have hlen:(m.take un++ [it]).length=un+1:=by rw[length_append,length_take,Nat.min_eq_left HUN.out];rfl
 have HR:Hid (LkL L (at_+1) (m.take un++ [it]) ks/\at_<at_+1/\at_+1<=L.N/\1<=(m.take un++ [it]).length/\(m.take un++ [it]).length<=250):=
  HL.2.next HG.2.1 hN.out (qw HL.1) HX.out (by unfold stepL;rw[iA qo,iA qo,iA qo,iB ho,yMs HL.1 HI.1 HI.2,reverse_append,HIT.out];rfl) (by unfold ways;rw[iA qo,iA qo];simp) (by unfold more;rw[iA qo,iB ho,hlen,<-HL.1];omega)
 have HR2:Hid (MkM G L v0 (m.take un++ [it]) g' cp' ks w'/\un+1=(m.take un++ [it]).length):=
  ⟨HW5.1.grow HS.out hO' (by have:=HW5.1.res.lt;rcases hat' with q|q<;>omega) (Chg.M hgr (λk hk=>by cases hk;rfl)),hlen.symm⟩
 have hr2:=HR.2.2.1;clear hO' hgr hat' hlen hS5;refine hK.out _ _ (.inl qj) (jS ?_);clear hK;refine yA1 (i:=16) qk rfl (λK hK=>?_);go_simp;refine hK.out _ _ (.inl qj) (jS ?_);clear hK;refine yEe qk ?_;refine zY ?_;exact⟨at_+1,un+1,g',cp',m.take un++ [it],ks,hr2,qo,qo,rfl,by go_num,HR2.1,HR2.2,HR.1⟩):p:=h
theorem zMkZ (h:p:=by
 have t0:=HM.stk.z yAd (i:=0) (e:=i) rfl 0 qo;have t1:=HM.stk.z yAd (i:=0) (e:=i) rfl 1 qo;have t2:=HM.stk.z yAd (i:=0) (e:=i) rfl 2 qo;have t3:=HM.stk.z yAd (i:=0) (e:=i) rfl 3 qo;simp only[getElem?_cons_zero,getElem?_cons_succ,Nat.zero_mul,Nat.zero_add]at t0 t1 t2 t3;have m2:=HM.A.z (j:=2) rfl;have e2:=HM.A.frozen 2;have hgm:¬g=G.mb:=qv HM.stk.lt HS.ok.ml
 have hrm:¬L.w.heap.size+1=G.mb:=qo
 have hgr:¬g=L.w.heap.size+1:=qw HM.gsn
 obtain⟨W8,hW8⟩:=qW (xt wr G.mb 2 (xg g 1 cp));have HW8:Hid (yA W8 G.O 230 3 G.mb [xg G.p L.N L.N,xg G.g G.nk G.cap,xg g 1 cp]/\Chg (λq=>q=G.mb) wr W8):=by rw[hW8];exact⟨HM.A.set 2 _,Chg.D _ _ _ _ rfl⟩
 have hr8:=HM.res.i HW8.2 hrm;obtain⟨v1,v2,v3,v4⟩:=hr8.c4;obtain⟨f0,f1,f2,f3⟩:=hr8.f4;have hs8:=HM.stk.i HW8.2 hgm;obtain⟨u0,u1,u2,u3⟩:=And.intro (hs8.z yAd (i:=0) (e:=i) rfl 0 qo) (And.intro (hs8.z yAd (i:=0) (e:=i) rfl 1 qo) (And.intro (hs8.z yAd (i:=0) (e:=i) rfl 2 qo) (hs8.z yAd (i:=0) (e:=i) rfl 3 qo)));simp only[getElem?_cons_zero,getElem?_cons_succ,Nat.zero_mul,Nat.zero_add]at u0 u1 u2 u3;obtain⟨W9,hW9⟩:=qW (setCs W8 (L.w+1) 0 i.four);obtain⟨b9,c9⟩:=yEx hr8 hW9;have HR:Hid (LooP G L v0 (.returned i.v) W9):=by
  have ok:=HS.ok;have hw:=HS.i.size;have h8:=HW8.out;have h9:=ok.ml;have h7:=ok.gl;have hgl:=HM.stk.lt;refine⟨i,ks,xg g 1 cp,HLR.out,rfl,⟨?_,?_,?_,HM.X,HM.cb,h8.1.i c9 (λq=>hrm q.symm),⟨[i],?_⟩⟩,?_,?_⟩
  .exact((HM.all HS.out).trans (h8.2.mono (λq z=>by subst z;exact ok.mS))).absorb c9 (λq z=>.inr qo)
  .exact ok.ti (λq=>q=L.w.heap.size+1) W8 W9 (ok.ti (λq=>q=G.mb) wr W8 HM.ti h8.2 (λq z=>.inr (.inl z))) c9 (λq z=>.inr (.inr qo))
  .exact(HM.ctr.i h8.2 (λq=>ok.gm q)).i c9 qo
  .exact hs8.i c9 hgr
  .exact((HM.i.mono (λq z=>z.elim .inl (λz=>.inr (.inr z)))).trans (h8.2.mono (λq z=>.inr (.inl z)))).absorb c9 (λq z=>.inr qo)
  .rcases HM.gsn with q|q
   .exact .inr ⟨g,rfl,qo⟩
   .exact .inl (by rw[q.1];rfl)
 obtain⟨q0,q1,q2,q3⟩:=b9.c4;simp only[setCs,Nat.zero_add,Nat.reduceAdd]at hW9;clear b9 c9 hr8 hs8;go_upto_region 22 with fail;rw[<-hW8];clear hW8 t0 t1 t2 t3 m2 e2;go_wp2;rw[<-hW9];exact bodyPost_ret (v:=i.v) (by simp[results,results104,go_sem,q0,q1,q2,q3]) rfl (by have h9:=HR.out;rw[HV0.out]at h9;exact h9)):p:=h
theorem yOy(G:MchG)(L:LkG)(v0:Vv)(nc:Nat)(hB:yB1 L.l L.cnt nc)(hD:yVy L.l L.d)(hnc:nc<=L.V.length)(cc:Nat)(hN:Hid (L.N=L.l.length))(hC:Hid (L.nC=L.V.length))(hK:(G.nk:Int)=L.cnt)
  (hS:MaOk G L.l) (hI:McI G L.N L.cs0 v0 L.w) (hrow:¬L.c.j=⟨#[]⟩)
  (hcd:∀(i:Nat)(b:Bool),L.V[i]?=some b->∃bc oc,L.ca=some ⟨bc,oc,none⟩/\xk L.w bc (oc+i) b/\bc<L.w.heap.size/\¬bc=G.g/\¬G.T bc/\¬v0.ownBlock=some bc):
  Calls prog 104 #[xp G.mb,L.c.c,.slice L.ca L.nC cc] L.w (LooP G L v0):=by
 obtain⟨m0,a4⟩:=hI.stk;obtain⟨a0,n0,c0,a2⟩:∃a n c,v0=.slice a n c:=by
  rcases a4.cases with⟨q,_⟩|⟨g,cp,q,_⟩
  .exact⟨_,_,_,q⟩
  .exact⟨_,_,_,q⟩
 subst a2;have ai:L.N<=4000:=qv hB.2.1 hN.out
 have HG:=qH4 hB hD hnc hK;have HRow:=qH1 hrow;have HS:Hid (MaS G L (.slice a0 n0 c0)):=by
  refine⟨hS,hI.i,λk hk=>?_⟩;rcases a4.cases with⟨q,_⟩|⟨g,cp,q,hO⟩
  .rw[q]at hk;simp[AE]at hk
  .rw[q]at hk;simp[AE]at hk;subst hk;exact hO.lt
 have a5:RowS L.w G.w0 (.slice a0 0 c0) []:=by
  rcases a4.cases with⟨q,_⟩|⟨g,cp,q,hO⟩
  .cases q;exact⟨rfl,.inl ⟨rfl,rfl⟩⟩
  .cases q;exact hO.take yAd (AG _)
 have c2:=hI.A.z (j:=2) rfl;have ag:=hI.A.lt.2;obtain⟨W1,a1⟩:=qW (xw ((L.w.alloc (AC #[L.c.j,L.c.E,L.c.C,xu L.c.ts,L.c.val] 70)).alloc (AC #[false,false,xi 0,xe] 181)) #[true,false,xi 0,xe] 181);have H1:Hid (yA W1 L.w 70 5 L.w L.c.five/\yA W1 L.w 181 4 (L.w+1) (yBg noH).four/\Below L.w L.w W1/\(∀j u,newI.four[j]?=some u->(xk W1 (L.w+1+1) j u:Prop))/\RowS W1 G.w0 (.slice a0 0 c0) []/\W1.heap.size=L.w.heap.size+1+1+1):=by
  obtain⟨X,hX⟩:=qW (xw L.w #[L.c.j,L.c.E,L.c.C,xu L.c.ts,L.c.val] 70);rw[<-hX]at a1;obtain⟨Y,hY⟩:=qW (xw X #[false,false,xi 0,xe] 181);rw[<-hY]at a1;have zx:=qS hX
  have zy:Y.heap.size=L.w.heap.size+1+1:=by rw[hY];simp;omega
  have k1:=qN hX
  have k2:=qN hY
  have k3:=qN a1
  have k9:=(k1.trans (k2.mono qo)).trans (k3.mono qo);have b1:yA X L.w 70 5 L.w L.c.five:=by rw[hX];exact yAa L.w _ qr rfl
  have b2:yA Y L.w 181 4 (L.w+1) (yBg noH).four:=by rw[hY,<-zx];exact yAa X _ qo rfl
  exact⟨(b1.k k2).k k3,b2.k k3,k9,by rw[a1,<-zy];exact yBj Y newI.four _,yAg a5 (S:=λ_=>False) (Chg.h k9) (λ_ _ q=>q),by rw[a1];simp;omega⟩
 have HI:=qH1 hI;have a9:=qH1 hcd;clear hB hD hnc hK hS hI hrow hcd a5 a4;go_enter func104,ntmps104;go_wp2_with (at_builtin;(try rw[<-a1]);refine wpA rfl (apGV ⟨underlying228,_,_,Tryz.infoIti,rfl,qj,qj⟩ yAd yHc rfl G.w0 [] newI rfl rfl rfl H1.2.2.2.2.1 H1.2.2.2.1 (AG _) ?hb ?_));case hb=>have:=HI.i.size;have:=H1.2.2.2.2.2;omega
 intro g' cp' w' hO' hgr hat';have hgr2:W1.grownBy w' (AH a0 0 c0).ownBlock:=by first|exact hgr|(rw[a1];exact hgr)
 have HM:Hid (MkM G L (.slice a0 n0 c0) [newI] g' cp' L.cs0 w'):=by
  obtain⟨b1,b2,k9,_,_,hz⟩:=H1.out;have aa:(AH a0 0 c0).ownBlock=(AH a0 n0 c0).ownBlock:=by cases a0<;>rfl
  rw[aa]at hgr2 hat';have hv:=HS.v0;have hc:=Chg.M hgr2 (λk hk=>hk);have a3:=(Chg.h k9).trans hc;have hi:=HI.out;have ok:=HS.ok;have hw:=HS.i.size;refine⟨b1.i hc (λq=>qw (hv _ q)),b2.i hc (λq=>qw (hv _ q)),hO',?_,?_,?_,hi.X,hi.cb,?_,?_,a3.mono (λk q=>.inr (.inr q))⟩
  .rcases hat' with q|q
   .exact .inr ⟨q,(hv _ q).2⟩
   .exact .inl (by first|omega|(rw[<-a1]at q;omega))
  .exact ok.ti _ L.w w' hi.ti a3 (λq z=>.inr (.inr (hv _ z).1))
  .exact hi.ctr.i a3 (λq=>qv (hv _ q) ok.gl)
  .exact hi.A.i a3 (λq=>qv (hv _ q) ok.ml)
  .intro i b ac;obtain⟨bc,oc,h1,h2,h3,h4,h5,h6⟩:=a9.out i b ac;exact⟨bc,oc,h1,(a3.z (p:=(xd bc (oc+i))) h3 h6).trans h2,h3,h4,h5,h6⟩
 obtain⟨v0,a2⟩:=qE (.slice a0 n0 c0:Vv);rw[<-a2]at HS HM|-;have HV0:=qH1 a2;clear hO' hgr hgr2 hat' a1 H1 HI a9 c2 a2;go_wp2;go_loopw[7,8] (λsv kv wr=>∃(at_ sn g cp:Nat)(m:List It)(ks:List Ctr),at_<=L.N/\1<=sn/\sn<=250/\sv=(xg g sn cp)/\kv=(xi at_)/\Hid (MkM G L v0 m g cp ks wr/\sn=m.length/\LkL L at_ m ks)) (λ_ kv _=>L.N-(intOf kv).toNat);case atStart=>exact⟨0,1,g',cp',[newI],L.cs0,AG _,AA _,qo,rfl,rfl,HM.out,rfl,HG.2.1.start.symm,AG _,λr h=>h⟩
 case round=>
  clear HM;obtain⟨at_,sn,g,cp,m,ks,af,hs1,hs2,rfl,rfl,HJ⟩:=hrel;have ak:=HJ.1.A.z (j:=0) rfl;by_cases hlt:at_<L.N
  .obtain⟨x,hx⟩:∃x,L.l[at_]?=some x:=qg (qw hN.out);obtain⟨y0,y1,y2⟩:=HJ.1.step HS.out hx;have HX:=qH1 hx;clear hx;have z:(at_:Int)<(L.N:Int):=qo
   have HL:=qH1 HJ.2;have a8:=yB5 HG.1 HX.out;have hle:=HL.2.least HG.2.1 (qw HL.1) HX.out;rw[<-HL.1]at hle;rw[<-hN.out]at a8;rcases a8 with⟨ho,ah,ae,aj⟩|⟨ho,a6,ha0,ha1,ab,ad⟩|⟨ho,a6,ha0,ab,ad⟩|⟨ho,a6,ha0,ae⟩
   .as_aux_lemma=>exact zMkL
   .as_aux_lemma=>exact zMkB
   .as_aux_lemma=>exact zMkJ
   .obtain⟨tn,rfl⟩:∃tn,sn=tn+1:=⟨sn-1,qo⟩;rcases ho with ho|ho|ho
    .as_aux_lemma=>exact zMkD
    .as_aux_lemma=>exact zMkS
    .as_aux_lemma=>exact zMkI
  .have z:¬(at_:Int)<(L.N:Int):=qo
   have a7:m.length=1:=by
    have h1:=HJ.2.2.1;have h2:at_=L.l.length:=qw hN.out
    rw[h2,HG.2.1.last]at h1;exact h1
   obtain⟨i,rfl⟩:∃i,m= [i]:=List.length_eq_one_iff.1 a7;obtain rfl:sn=1:=HJ.2.1;have HLR:=qH1 (HJ.2.2.2.2 _ (.fin (by have:=hN.out;show¬at_<_;omega) rfl));have HM:=qH1 HJ.1;clear HJ a7 af hlt;as_aux_lemma=>exact zMkZ
theorem yUi{h:Hn}{c:Ent}(hc:∀e∈es,yAr (putE c) (putE e)= -1)(ho:es.Pairwise λa b=>yAr (putE a) (putE b)= -1)
  (i j:Nat) ei ej (hij:i<=j) (hi:es[i]?=some ei) (hj:es[j]?=some ej) (hs:yAz h c ej=true):yAz h c ei=true:=by
 obtain⟨li,rfl⟩:=AI.1 hi;obtain⟨lj,rfl⟩:=AI.1 hj;refine yUa (LeC.of_key (hc _ (getElem_mem li))) ?_ hs;by_cases e:i=j
 .subst e;exact LeC.refl _
 .exact LeC.of_key (List.pairwise_iff_getElem.1 ho i j li lj qo)
theorem yNm(t:CT):EmC t:=by
 induction t with
 |leaf n=>exact yYl n
 |chain n a b ha hb=>exact yVh n a b ha hb
 |inter n a b ha hb=>exact yVg n a b ha hb
 |cond n a b c ha hb hc=>exact yYm n a b c hb hc
def BeP(w:Ww)(eb:Nat)(v:Vv)(L:List Ix)(s:Bool)(r:Ending)(w':Ww):Prop:=∃v',r=.returned s/\EmTo w w' eb v v' (absG 0 0 L) (cntL L)
def xI1(w:Ww)(R:Nat->Prop)(k:FuncId)(cs:Array Vv)(L:List Ix)(s:Bool):Prop:=EntF k/\∀(wx:Ww)(eb:Nat)(v:Vv),Chg (λb=>¬R b) w wx->w.heap.size<=eb->EmAt wx eb v [] 0->Calls prog k (#[ptrV eb]++cs) wx (BeP wx eb v L s)
def Bef(w:Ww)(R:Nat->Prop)(fv:Vv)(L:List Ix)(s:Bool):Prop:=∃k cs,fv=.func (AD k) #[] cs/\xI1 w R k cs L s
variable {R:Nat->Prop} {L:List Ix} {s:Bool}
theorem Bef.K{fv:Vv}(h:Bef w R fv L s)(hc:Chg (λb=>¬R b) w w')(hR:∀b,R b->R' b):Bef w' R' fv L s:=
 let ⟨k,cs,h1,h2,h3⟩:=h
 ⟨k,cs,h1,h2,λwx eb v hx he hE=>h3 wx eb v (hc.trans (hx.mono (λb hb q=>hb (hR b q)))) (AK hc.size he) hE⟩
theorem Bef.k{fv:Vv}(h:Bef w R fv L s)(hb:Below w w w'):Bef w' R fv L s:=h.K (Chg.h hb) (λ_ q=>q)
structure CoAt(w:Ww)(cb:Nat)(cv:Vv)(X:List (List Ix))(bs:List Bk):Prop where
 A:yA w cb 34 3 cb [cv,xh,xi 0]
 j:RowB w (cb+1) cv bs
 each:Eac w (cb+1) bs
 view:bs.map Bk.vw=X.map yC9
 apart:bs.Pairwise (λx y=>x.v.ownBlock≠y.v.ownBlock)
 some:∀x∈bs,x.l≠ []
variable {cb:Nat}
theorem CoAt.X{X:List (List Ix)}(h:CoAt w cb v X bs):bs.length=X.length:=by have:=congrArg AQ h.view;simpa using this
theorem CoAt.lt{X:List (List Ix)}(h:CoAt w cb v X bs):cb<w.heap.size:=h.A.lt.2
theorem CoAt.i{X:List (List Ix)}(h:CoAt w cb v X bs)(hc:Chg S w w')(h1:¬S cb)(h2:∀k,v.ownBlock=.some k->¬S k)(h3:∀x∈bs,∀k,x.v.ownBlock=.some k->¬S k):CoAt w' cb v X bs:=
 ⟨h.A.i hc h1,h.j.i hc h2,λx hx=>(h.each x hx).i hc (h3 x hx),h.view,h.apart,h.some⟩
theorem CoAt.k{X:List (List Ix)}(h:CoAt w cb v X bs)(hb:Below w w w'):CoAt w' cb v X bs:=
 h.i (S:=λ_=>False) (Chg.h hb) (λq=>q) (λ_ _ q=>q) (λ_ _ _ _ q=>q)
def AdS(lo hi cb:Nat)(cv:Vv)(b:Nat):Prop:=(lo<=b/\b<hi)\/b=cb\/cv.ownBlock=some b
structure AdF(w w':Ww)(lo hi cb:Nat)(cv cv':Vv):Prop where
 i:Chg (AdS lo hi cb cv) w w'
 new:∀k,cv'.ownBlock=some k->cv.ownBlock=some k\/w.heap.size<=k
variable {w1:Ww} {lo hi:Nat}
theorem AdF.trans(h:AdF w w1 lo hi cb cv cv1)(k:AdF w1 w2 lo hi cb cv1 cv2):AdF w w2 lo hi cb cv cv2:=by
 refine⟨⟨k.i.os.trans h.i.os,k.i.tape.trans h.i.tape,k.i.output.trans h.i.output,AK h.i.size k.i.size,λi hi hn=>?_⟩,λi hi=>?_⟩
 .refine(k.i.block i (Nat.lt_of_lt_of_le hi h.i.size) ?_).trans (h.i.block i hi hn);rintro(q|q|q)
  .exact hn (.inl q)
  .exact hn (.inr (.inl q))
  .rcases h.new i q with q|q
   .exact hn (.inr (.inr q))
   .omega
 .exact xFd
variable {lo' hi':Nat}
theorem AdF.mono(h:AdF w w1 lo' hi' cb cv cv1)(h1:lo<=lo')(h2:hi'<=hi):AdF w w1 lo hi cb cv cv1:=
 ⟨h.i.mono (λk hk=>by rcases hk with⟨q1,q2⟩|q|q;exact .inl ⟨qo,qo⟩;exact .inr (.inl q);exact .inr (.inr q)),h.new⟩
theorem AdF.h(hb:Below w w w'):AdF w w' lo hi cb cv cv:=⟨Chg.h hb,λk hk=>.inl hk⟩
theorem yNz{X:List (List Ix)}(hC:CoAt w cb cv X bs)(hb:b<cb)(hn:¬(lo<=b/\b<hi)):¬AdS lo hi cb cv b:=by
 rintro(q|q|q)
 .exact hn q
 .omega
 .have:=(hC.j.blk q).1;omega
theorem TrAt.adf{p:Nat}{X:List (List Ix)}(h:TrAt w t lo hi p f)(hC:CoAt w cb cv X bs)(hF:AdF w w' lo' hi' cb cv cv')(hh:hi<=cb)(hd:hi<=lo'\/hi'<=lo):TrAt w' t lo hi p f:=
 h.i hF.i (λb h1 h2=>yNz hC qo qo)
structure AdTo(w w':Ww)(t:CT)(lo hi p cb:Nat)(cv cv':Vv)(X Y:List (List Ix))(bs':List Bk):Prop where
 tree:TrAt w' t lo hi p (some X.length)
 code:CoAt w' cb cv' (X++Y) bs'
 fr:AdF w w' lo hi cb cv cv'
def AdP(w:Ww)(t:CT)(lo hi p cb:Nat)(cv:Vv)(X:List (List Ix))(L:List Ix)(s:Bool)(r:Ending)(w':Ww):Prop:=r=.returned (.tuple #[])/\∃cv' bs',AdTo w w' t lo hi p cb cv cv' X (t.V L s X.length) bs'
structure yKk(w:Ww)(R:Nat->Prop)(lo hi cb:Nat)(cv:Vv):Prop where
 lt:∀b,R b->b<w.heap.size
 off:∀b,R b->¬AdS lo hi cb cv b
theorem yKk.K(h:yKk w R lo hi cb cv)(hs:w.heap.size<=w'.heap.size)(hn:∀k,cv'.ownBlock=some k->cv.ownBlock=some k\/w.heap.size<=k)(h1:lo<=lo')(h2:hi'<=hi):yKk w' R lo' hi' cb cv':=by
 refine⟨λb hb=>qw (h.lt b hb),λb hb q=>?_⟩;have hoff:=h.off b hb;rcases q with⟨q1,q2⟩|q|q
 .exact hoff (.inl ⟨qo,qo⟩)
 .exact hoff (.inr (.inl q))
 .rcases hn b q with q|q
  .exact hoff (.inr (.inr q))
  .have:=h.lt b hb;omega
theorem Bef.adf{fv:Vv}(h:Bef w R fv L s)(hR:yKk w R lo hi cb cv)(hF:AdF w w' lo hi cb cv cv'):Bef w' R fv L s:=h.K (hF.i.mono (λb hb q=>hR.off b q hb)) (λ_ q=>q)
def AdC(t:CT):Prop:=∀(w:Ww)(lo hi p cb:Nat)(cv:Vv)(X:List (List Ix))(bs:List Bk)(fv:Vv)(R:Nat->Prop)(L:List Ix)(s:Bool),TrAt w t lo hi p none->CoAt w cb cv X bs->hi<=cb->Bef w R fv L s->yKk w R lo hi cb cv->L.length+3*t.size<=10000->cntL L+t.size<=10000->X.length+t.J<=1000->
 Calls prog 37 #[ptrV cb,ptrV p,fv] w (AdP w t lo hi p cb cv X L s)
theorem yZa(w:Ww)(R:Nat->Prop):Bef w R (.func (AD 38) #[] #[]) [] false:=by refine⟨_,_,rfl,yDl func38 qk rfl,λwx eb v hx he hE=>?_⟩;have HR:Hid (BeP wx eb v [] false (.returned false) wx):=⟨v,rfl,EmTo.h hE (Below.refl _ _)⟩;clear hE;go_enter func38,ntmps38;go_wp2;go_ret;exact HR.out
def RC(R:Nat->Prop)(lo m p1 p2:Nat)(b:Nat):Prop:=R b\/(lo<=b/\b<m)\/b=p1\/b=p2
variable {eb:Nat}
theorem EmTo.gen{f:Nat}{v1 v2:Vv}(h:EmTo w w1 eb v v1 (absG 0 0 L) (cntL L))(k:EmTo w1 w2 eb v1 v2 (absG 0 0 L++absG (absG 0 0 L).length (cntL L) (a.gen s f)) (cntL L+cntL (a.gen s f))):EmTo w w2 eb v v2 (absG 0 0 (L++a.gen s f)) (cntL (L++a.gen s f)):=by have h9:=h.trans k;rw[yCc,yA2,AO,AO];rwa [yAj]at h9
variable {m:Nat}
theorem yY3{pa f p2:Nat}{fv:Vv}(hB1:yA w p1 71 1 p1 [ptrV pa])(hB2:yA w p2 77 1 p2 [fv])(hT:TrAt w a lo m pa (some f))(hBf:Bef w R fv L s)(hm:m<=w.heap.size)(hl:L.length+3*a.size<=20000)(hc:cntL L+a.size<=20000)(hf:f+a.J<=20000):
  Bef w (RC R lo m p1 p2) (.func (AD 84) #[] #[ptrV p1,ptrV p2]) (L++a.gen s f) (s || a.passes):=by
 refine⟨_,_,rfl,yDl func84 qk rfl,λwx eb v hx he hE=>?_⟩;obtain⟨fk,fs,rfl,hE0,hbf⟩:=hBf;have hx2:=hx.trans (Chg.h ((Below.refl wx wx).drew));have HE:=qH1 hE0;have HB:=hidO (hbf wx.drew eb v (hx2.mono (λb hb q=>hb (.inl q))) he (hE.k ((Below.refl _ _).drew)));have hq1:=hB1.lt.2;have hq2:=hB2.lt.2;have HS:Hid (∀wy,Below eb wx.drew wy->xk wy p1 0 (ptrV pa)/\xk wy p2 0 (.func (AD fk) #[] fs)/\∀v1,EmAt wy eb v1 (absG 0 0 L) (cntL L)->Calls prog 39 #[ptrV pa,ptrV eb,s] wy (EmP wy eb (cntL L) v1 (absG 0 0 L) a s f)):=λwy hy=>by have h4:Chg (λb=>eb<=b) wx.drew wy:=⟨hy.os,hy.tape,hy.output,hy.size,λk _ hk=>hy.block k qo⟩;exact⟨((hB1.i hx2 (λq=>q (.inr (.inr (.inl rfl))))).i h4 qo).z (j:=0) rfl,((hB2.i hx2 (λq=>q (.inr (.inr (.inr rfl))))).i h4 qo).z (j:=0) rfl,λv1 h=>yNm a wy lo m pa f eb (cntL L) v1 (absG 0 0 L) s (((hT.i hx2 (λb h1 h2 q=>q (.inr (.inl ⟨h1,h2⟩))))).i h4 (λb _ _ q=>qo)) h qo (by rw[yAj];omega) qo qo⟩
 have HT:Hid (∀w1 v1,EmTo wx.drew w1 eb v v1 (absG 0 0 L) (cntL L)->Below eb wx.drew w1/\EmTo wx w1 eb v v1 (absG 0 0 L) (cntL L)):=λw1 v1 h=>⟨h.k (hE.k ((Below.refl _ _).drew)),(EmTo.h hE ((Below.refl _ _).drew)).trans h⟩;have hS0:SW (λw':Ww=>xk w' p1 0 (ptrV pa)/\xk w' p2 0 (.func (AD fk) #[] fs)) wx.drew:=⟨(HS.out _ (Below.refl _ _)).1,(HS.out _ (Below.refl _ _)).2.1⟩;have hc1:=hS0.1;have hc2:=hS0.2;clear hx hx2 hB1 hB2 hT hbf hE0 hE;show Calls prog 84 #[ptrV eb,ptrV p1,ptrV p2] wx _;go_enter func84,ntmps84;go_upto_region 1 with fail;refine wpR 99 hS0 ?_;refine ja 0 hS0 ?_;iterate 3 refine jb hS0 ?_
 refine qO 4 rfl λK hK=>?_;go_simp;rw[HE.out];go_simp;refine HB.mono ?_;rintro r w1 ⟨v1,rfl,hT1⟩;obtain⟨hb1,HT1⟩:=HT.out _ _ hT1;have HC:=hidO ((HS.out _ hb1).2.2 _ HT1.U);refine hK.out _ _ (.inr ⟨(HS.out _ hb1).1,(HS.out _ hb1).2.1⟩) (jS ?_);clear hK hT1 HB;refine qO 5 rfl λK hK=>?_;go_simp;go_at_call 39;refine HC.mono ?_;rintro r w2 ⟨v2,rfl,hT2⟩;have hb2:=HS.out w2 (hb1.trans (hT2.k HT1.U));have HR:Hid (BeP wx eb v (L++a.gen s f) (s || a.passes) (.returned (s || a.passes)) w2):=⟨v2,rfl,HT1.gen hT2⟩;clear hT2 HC HT1;refine hK.out _ _ (.inr ⟨hb2.1,hb2.2.1⟩) (jS ?_);clear hK;refine qO 6 rfl λK hK=>?_;go_simp;refine hK.out _ _ (.inr ⟨hb2.1,hb2.2.1⟩) (jS ?_);clear hK;refine qD ?_;go_wp2;go_ret;exact HR.out
section
structure Acg where
 n:Nd
 t:Nat->CT
 lo:Nat->Nat
 pp:Nat->Nat
 m:Nat
 hi:Nat
 q:Nat
 cq:Nat
 p:Nat
 cb:Nat
 p2:Nat
 fk:FuncId
 fs:Array Vv
 W:Ww
 c0:Vv
 R:Nat->Prop
 L:List Ix
 s:Bool
abbrev Acg.fv(G:Acg):Vv:=.func (AD G.fk) #[] G.fs
structure AcS(G:Acg):Prop where
 mo:∀i j,i<=j->G.lo i<=G.lo j
 hh:G.hi<=G.cb
 hp:G.lo G.m<=G.p/\G.p<G.hi
 hq:G.lo G.m<=G.q/\G.q<G.hi
 h2:G.cb<G.p2
structure AcI(G:Acg)(w:Ww)(f:Nat->Option Nat)(k:Int)(cv:Vv)(X:List (List Ix))(bs:List Bk):Prop where
 tr:∀j,j<G.m->TrAt w (G.t j) (G.lo j) (G.lo (j+1)) (G.pp j) (f j)
 bx:BoxT w (G.lo G.m) G.p G.n (xg G.q G.m G.cq) k
 pr:w.ownsRow (G.lo G.m) 71 1 (xg G.q G.m G.cq) G.m ((AR G.m).map λj=>ptrV (G.pp j))
 b2:yA w G.p2 77 1 G.p2 [G.fv]
 co:CoAt w G.cb cv X bs
 fr:AdF G.W w (G.lo 0) G.hi G.cb G.c0 cv
 bf:Bef w G.R G.fv G.L G.s
 ra:yKk w G.R (G.lo 0) G.hi G.cb cv
variable {G:Acg} {f f':Nat->Option Nat} {kz kz':Int} {X X' Y:List (List Ix)} {bs':List Bk} {j:Nat}
theorem AcI.any(h:AcI G w f kz cv X bs)(hc:Chg S w w')(F:AdF w w' (G.lo 0) G.hi G.cb cv cv')(n2:¬S G.q)(n3:¬S G.p2)(tr:∀j,j<G.m->TrAt w' (G.t j) (G.lo j) (G.lo (j+1)) (G.pp j) (f' j))(bx:BoxT w' (G.lo G.m) G.p G.n (xg G.q G.m G.cq) kz')(co:CoAt w' G.cb cv' X' bs'):AcI G w' f' kz' cv' X' bs':=
 ⟨tr,bx,yAg h.pr hc (λkz q=>by cases q;exact n2),h.b2.i hc n3,co,h.fr.trans F,h.bf.adf h.ra F,h.ra.K F.i.size F.new qr qr⟩
theorem AcI.k(h:AcI G w f kz cv X bs)(a:AcS G)(hb:Below w w w'):AcI G w' f kz cv X bs:=
 h.any (S:=λ_=>False) (Chg.h hb) (AdF.h hb) id id (λj hj=>(h.tr j hj).k hb (qv h.bx.lt (a.mo (j+1) G.m hj)) qr) (yA.k h.bx hb) (h.co.k hb)
theorem AcI.off(h:AcI G w f kz cv X bs)(a:AcS G)(lo hi:Nat)(h1:hi<=G.lo G.m):¬AdS lo hi G.cb cv G.p/\¬AdS lo hi G.cb cv G.q/\(hi<=G.cb->¬AdS lo hi G.cb cv G.p2):=by
 have:=a.hp;have:=a.hq;have:=a.hh;have:=a.h2;refine⟨yNz h.co qo qo,yNz h.co qo qo,λ_=>?_⟩;rintro(q|q|q)
 .omega
 .omega
 .exact yAb h.b2 h.co.j qj _ rfl q
theorem AcI.call(h:AcI G w f kz cv X bs)(a:AcS G)(hj:j<G.m)(hA:AdTo w w' (G.t j) (G.lo j) (G.lo (j+1)) (G.pp j) G.cb cv cv' X Y bs'):AcI G w' (λi=>if i=j then some X.length else f i) kz cv' (X++Y) bs':=by
 have h1:=a.mo (j+1) G.m hj;have h2:=a.mo 0 j (AG _);have:=a.hp;have:=a.hh;have⟨o1,o2,o3⟩:=h.off a (G.lo j) _ h1;refine h.any hA.fr.i (hA.fr.mono h2 qo) o2 (o3 qo) (λi hi=>?_) (yA.i h.bx hA.fr.i o1) hA.code;by_cases hij:i=j
 .subst hij;simpa using hA.tree
 .have h3:=a.mo (i+1) G.m hi;simp only[hij,if_false];apply (h.tr i hi).adf h.co hA.fr qo;rcases Nat.lt_or_gt_of_ne hij with q|q
  .exact .inl (a.mo _ _ q)
  .exact .inr (a.mo _ _ q)
theorem AcI.go(h:AcI G w f kz cv X bs)(a:AcS G)(hb:Below w w w')(j:Nat)(hj:j<G.m)(Ha:AdC (G.t j))(hf:f j=none)(h1:G.L.length+3*(G.t j).size<=10000)(h2:cntL G.L+(G.t j).size<=10000)(h3:X.length+(G.t j).J<=1000):
  Hid (Calls prog 37 #[ptrV G.cb,ptrV (G.pp j),G.fv] w' (λr w2=>r=.returned (.tuple #[])/\∃cv' bs',AcI G w2 (λi=>if i=j then some X.length else f i) kz cv' (X++(G.t j).V G.L G.s X.length) bs'/\Chg (AdS (G.lo j) (G.lo (j+1)) G.cb cv) w' w2)):=by
 have h0:=h.k a hb;have:=a.mo (j+1) G.m hj;have:=a.mo 0 j (AG _);have:=a.hp;have:=a.hh;refine(Ha w' _ _ _ _ cv X bs _ G.R _ _ (hf▸h0.tr j hj) h0.co qo h0.bf (h0.ra.K qr (λ_=>.inl) qo qo) h1 h2 h3).mono ?_;rintro r w2 ⟨q,cv',bs',z⟩;exact⟨q,cv',bs',h0.call a hj z,z.fr.i⟩
abbrev AcC(G:Acg)(m i:Nat)(w:Ww):Prop:=xk w G.p 7 (xg G.q m G.cq)/\xk w G.q 0 (ptrV (G.pp 0))/\xk w G.q 1 (ptrV (G.pp 1))/\xk w G.q i (ptrV (G.pp i))/\xk w G.p2 0 G.fv
theorem AcI.ch(h:AcI G w f kz cv X bs)(hj:j<G.m):(xk w G.q j (ptrV (G.pp j)):Prop):=by rw[World.ownsRow.cellAt h.pr j qo];simp[hj]
theorem AcI.cs(h:AcI G w f kz cv X bs){i:Nat}(hm:G.m=m)(h2:1<m/\i<m):AcC G m i w:=by subst hm;exact⟨yA.z h.bx (j:=7) rfl,h.ch qo,h.ch qo,h.ch qo,h.b2.z (j:=0) rfl⟩
theorem AcI.num(h:AcI G w f kz cv X bs)(a:AcS G)(kz':Int):AcI G (xt w G.p 8 (xi kz')) f kz' cv X bs:=by have:=a.hp;have:=a.hh;have:=a.h2;have hc:Chg (λb=>b=G.p) w (xt w G.p 8 (xi kz')):=Chg.D _ _ _ _ rfl;have:=a.mo 0 G.m (AG _);refine h.any hc ⟨hc.mono λb q=>.inl qo,λ_=>.inl⟩ (λq=>yAb h.pr h.bx (by decide) _ rfl (by rw[q];rfl)) (by omega) (λj hj=>(h.tr j hj).i hc λb _ _ q=>qw (a.mo (j+1) G.m hj)) (yA.set h.bx 8 _) (h.co.i hc (by omega) (λj hj q=>qw ((h.co.j.blk hj).1)) (λx hx j hj q=>qw (((h.co.each x hx).blk hj).1)))
theorem AcI.fin(h:AcI G w f kz cv X bs)(hm:G.m=m):BoxT w (G.lo m) G.p G.n (xg G.q m G.cq) kz/\w.ownsRow (G.lo m) 71 1 (xg G.q m G.cq) m ((AR m).map λj=>ptrV (G.pp j)):=by subst hm;exact⟨h.bx,h.pr⟩
theorem xHt(t:CT):∀(s:Bool)(f:Nat),t.gen s f≠ []:=by
 induction t with
 |leaf n=>intro s f;simp[CT.gen]
 |chain n a b ha hb=>intro s f;simp only[CT.gen];intro q;exact ha s f (AJ.1 q).1
 |inter n a b ha hb|cond n a b c ha hb hc=>intro s f;simp[CT.gen]
variable {l:List Ix}
theorem xE4(kz c:Nat)(h:l≠ []):absG kz c l≠ []:=λq=>h (by have:=congrArg AQ q;rw[yAj]at this;exact List.length_eq_zero_iff.1 this)
theorem CoAt.app{X:List (List Ix)}(h:CoAt w cb cv X bs)(hR:RowX w O v (absG 0 0 l))(hb:cb+1<=O)(hap:∀x∈bs,x.v.ownBlock≠v.ownBlock)(hne:l≠ [])(hA:AppB w w' (cb+1) cv cv' bs [⟨v,(cntL l:Nat),absG 0 0 l⟩]):
  CoAt (xt w' cb 0 cv') cb cv' (X++ [l]) (bs++ [⟨v,(cntL l:Nat),absG 0 0 l⟩]):=by
 have hch:=Chg.M hA.grown (λkz hk=>hk);have hne':¬cv.ownBlock=.some cb:=λq=>qw ((h.j.blk q).1)
 have hset:Chg (λb=>b=cb) w' (xt w' cb 0 cv'):=Chg.D _ _ _ _ rfl;have hE:Eac w' (cb+1) bs:=h.each.grown h.j hA.grown;have hR':RowX w' (cb+1) v (absG 0 0 l):=(hR.low hb).i hch (λkz hk q=>yOk hR h.j kz hk q);refine⟨?_,hA.Z.i hset (λkz hk q=>qw ((hA.Z.blk hk).1)),λx hx=>?_,?_,?_,λx hx=>?_⟩
 .have:=(h.A.i hch hne').set 0 cv';simpa using this
 .rcases AM.1 hx with hx|hx
  .exact(hE x hx).i hset (λkz hk q=>qw (((hE x hx).blk hk).1))
  .simp only[AF]at hx;subst hx;exact hR'.i hset (λkz hk q=>qw ((hR'.blk hk).1))
 .rw[AN,AN,h.view];rfl
 .refine List.pairwise_append.2 ⟨h.apart,List.pairwise_singleton _ _,λx hx y hy=>?_⟩;simp only[AF]at hy;subst hy;exact hap x hx
 .rcases AM.1 hx with hx|hx
  .exact h.some x hx
  .simp only[AF]at hx;subst hx;exact xE4 0 0 hne
theorem EmAt.off(h:EmAt w eb v l c)(hc:Chg S w w')(hs:∀b,eb<=b->S b->False):EmAt w' eb v l c:=
 ⟨h.A.i hc (hs _ qr),h.j.i hc λkz hk=>hs kz (qw ((h.j.blk hk).1))⟩
theorem AcI.s9(h:AcI G w f kz cv X bs)(hE:EmAt w eb v l c)(hA:AppB w w' (G.cb+1) cv cv' bs Z):yA w' G.cb 34 3 G.cb [cv,xh,xi 0]/\yA w' eb 79 2 eb [v,xi c]:=by have hg:=Chg.M hA.grown (λkz hk=>hk);exact⟨h.co.A.i hg (λq=>qw ((h.co.j.blk q).1)),hE.A.i hg (λq=>yAb hE.A h.co.j qj _ rfl q)⟩
theorem AcI.app(h:AcI G w f kz cv X bs)(a:AcS G)(hE:EmAt w eb v (absG 0 0 l) c)(he:G.cb<eb)(hx:∀x∈bs,∀kz,x.v.ownBlock=some kz->kz<eb)(hne:l≠ [])(hA:AppB w w' (G.cb+1) cv cv' bs [⟨v,(cntL l:Nat),absG 0 0 l⟩]):AcI G (xt w' G.cb 0 cv') f kz cv' (X++ [l]) (bs++ [⟨v,(cntL l:Nat),absG 0 0 l⟩]):=by
 have hg:Chg (λkz=>cv.ownBlock=some kz\/kz=G.cb) w w':=Chg.M hA.grown (λkz hk=>.inl hk);have hc:=hg.trans (Chg.D w' G.cb 0 cv' (.inr rfl));have hr:∀kz,cv.ownBlock=some kz->G.cb<kz:=λkz hk=>(h.co.j.blk hk).1;have:=a.hp;have:=a.hq;have:=a.hh;have:=a.h2;have off:∀b,b<G.cb->(cv.ownBlock=some b\/b=G.cb)->False:=λb hb q=>by rcases q with q|q;have:=hr b q;omega;omega
 refine h.any hc ⟨hc.mono λb q=>by rcases q with q|q;exact .inr (.inr q);exact .inr (.inl q),λj hj=>?_⟩ (off _ qo) ?_ (λj hj=>(h.tr j hj).i hc λb _ _=>off b (qw (a.mo (j+1) G.m hj))) (yA.i h.bx hc (off _ (by omega))) (h.co.app (hE.j.low (by omega)) qr (λx hx' q=>?_) hne hA)
 .rcases hA.U with q|q
  .rw[q]at hj;exact .inl hj
  .rw[q]at hj;cases hj;exact .inr qr
 .rintro(q|q)
  .exact yAb h.b2 h.co.j (by decide) _ rfl q
  .omega
 .rcases hz:v.ownBlock with _|j
  .rw[hz]at q;rcases(h.co.each x hx').cases with⟨_,h6⟩|⟨g6,c6,h6,_⟩
   .exact h.co.some x hx' h6
   .rw[h6]at q;simp[AE]at q
  .rw[hz]at q;have:=hx x hx' j q;have:=(hE.j.blk hz).1;omega
end
theorem zAd (k:q) (h:q->p:=by
  intro z
  first
   |(refine yAf 99 (AcC G 2 1) qk ?_;refine ja 0 hS ?_)
   |(refine yAf 99 (AcC G 3 1) qk ?_;refine ja 0 hS ?_)
   |(refine yAf 99 (AcC G 3 2) qk ?_;refine ja 0 hS ?_)
  iterate 7 refine jb hS ?_
  refine qO 8 rfl λK hK=>?_;go_simp;go_at_call 37;refine C.out.mono ?_;rintro r w3 ⟨rfl,cv3,bs3,I3,-⟩;refine hK.out _ _ (.inr (I3.cs gm qj)) (jS ?_);refine qD ?_;revert I3 bs3 cv3 w3;exact z):p:=h k
theorem zAe(h:p:=by go_wp2_with fail;refine bodyPost_end (results_none rfl _ _ _) rfl ?_;exact Z):p:=h
theorem ySc{G:Acg}{k:Int}{X:List (List Ix)}(g1:AcS G)(I0:AcI G G.W (λ_=>none) k G.c0 X bs)(hW:w.alloc (AC #[.func (AD G.fk) #[] G.fs] 77)=G.W)(hp:w.heap.size=G.p2)(hk:G.n.f=14/\G.m=2/\t=.chain G.n (G.t 0) (G.t 1)\/G.n.f=15/\G.m=2/\t=.inter G.n (G.t 0) (G.t 1)\/G.n.f=16/\G.m=3/\t=.cond G.n (G.t 0) (G.t 1) (G.t 2))(IH:∀u:CT,u.size<t.size->AdC u)(hl:G.L.length+3*t.size<=10000)(hc:cntL G.L+t.size<=10000)(hx:X.length+t.J<=1000):
  Calls prog 37 #[ptrV G.cb,ptrV G.p,.func (AD G.fk) #[] G.fs] w (AdP w t (G.lo 0) G.hi G.p G.cb G.c0 X G.L G.s):=by
 have hb0:Below w w G.W:=by rw[<-hW];exact qB
 have HE:Hid (∀w' cv' bs',AdF G.W w' (G.lo 0) G.hi G.cb G.c0 cv'->TrAt w' t (G.lo 0) G.hi G.p (some X.length)->CoAt w' G.cb cv' (X++t.V G.L G.s X.length) bs'->AdP w t (G.lo 0) G.hi G.p G.cb G.c0 X G.L G.s (.returned (.tuple #[])) w'):=λw' cv' bs' h2 h3 h4=>⟨rfl,cv',bs',h3,h4,(AdF.h hb0).trans h2⟩;have d0:=yA.z I0.bx (j:=0) rfl;clear hb0;go_enter func37,ntmps37;go_upto_region 1 with fail;clear hW hp;have z1:=yBw (G.t 0) G.L G.s X.length;rcases hk with⟨h0,gm,rfl⟩|⟨h0,gm,rfl⟩|⟨h0,gm,rfl⟩<;>simp only[CT.size,CT.J]at IH hl hc hx
 .have z14:(G.n.f==14)=true:=by rw[beq_iff_eq];exact h0
  have L1:=g1.mo 0 1 qo;have L2:=g1.mo 1 2 qo;have L3:=gm▸g1.hp;have L4:=g1.hh;have L5:=g1.h2;have z3:=yBp (G.t 0) G.s X.length;have z4:=yEt (G.t 0) G.s X.length;obtain⟨V1,hV1⟩:=qE ((G.W.alloc (AC #[.pointer none] 71)).drew:Ww);obtain⟨p1,hp1⟩:=qE G.W;have hb1:Below G.W.heap.size G.W V1:=by rw[hV1];exact(qB).drew
  have B1:yA V1 p1 71 1 p1 [.pointer none]:=by rw[hV1,hp1];exact(yAa G.W _ (AA _) rfl).k ((Below.refl _ _).drew)
  obtain⟨V2,hV2⟩:=qE (V1.setCell ⟨p1,0,none⟩ (ptrV (G.pp 0)):Ww);have hb2:Below G.W.heap.size G.W V2:=by rw[hV2];exact yAc hb1 (by rw[hp1];exact AA _) _ _
  have B2:yA V2 p1 71 1 p1 [ptrV (G.pp 0)]:=by rw[hV2];exact B1.set 0 _
  have hS0:AcC G 2 1 G.W.drew:=(I0.k g1 ((Below.refl _ _).drew)).cs gm qj;have hS1:=(I0.k g1 hb1).cs gm (i:=1) qj;have I2:=I0.k g1 hb2;have hS2:=I2.cs gm (i:=1) qj;have C1:=I2.go g1 (Below.refl _ _) 0 qo (IH _ qo) rfl qo qo qo;have hcw:=hp1▸I0.co.lt;go_upto_region 3 with fail;refine yAf 99 (AcC G 2 1) qk ?_;refine ja 0 hS0 ?_;iterate 11 refine jb hS0 ?_
  refine qO 12 rfl λK hK=>?_;go_simp;rw[<-hV1,<-hp1];refine hK.out _ _ (.inr hS1) (jS ?_);clear hK hV1 hp1;have x0:=B1.z (j:=0) rfl;have y0:=B1.frozen 0;refine qO 13 rfl λK hK=>?_;go_simp;rw[<-hV2];refine hK.out _ _ (.inr hS2) (jS ?_);clear hK hV2 x0 y0;refine qO 14 rfl λK hK=>?_;go_simp;refine hK.out _ _ (.inr hS2) (jS ?_);clear hK;refine qD ?_;have e1:=B2.z (j:=0) rfl;have e2:=I2.b2.z (j:=0) rfl;clear hS0 hS1 hS2 hb1 hb2 d0;go_wp2_with fail;refine C1.out.mono ?_;rintro r w3 ⟨rfl,cv3,bs3,I3,c3⟩;have L6:G.lo (0+1)=G.lo 1:=rfl;have L7:G.lo (1+1)=G.lo 2:=rfl;have B3:=B2.i c3 (by rintro(q|q|q);omega;omega;exact yAb B2 I2.co.j qj _ rfl q);have HCl:=yY3 B3 I3.b2 (I3.tr 0 qo) I3.bf (by have:=I3.co.lt;omega) qo qo qo;have RB:yKk w3 (RC G.R (G.lo 0) (G.lo 1) p1 G.p2) (G.lo 1) (G.lo 2) G.cb cv3:=by
   have gR:=I3.ra;have:=I3.co.lt;refine⟨λb hb=>?_,λb hb=>?_⟩
   .rcases hb with q|q|rfl|rfl
    .exact gR.lt b q
    .omega
    .exact B3.lt.2
    .exact I3.b2.lt.2
   .rcases hb with q|q|rfl|rfl
    .intro h;exact gR.off b q (h.imp_left λz=>⟨qo,qo⟩)
    .exact yNz I3.co qo qo
    .rintro(h|h|h)
     .omega
     .omega
     .exact yAb B3 I3.co.j qj _ rfl h
    .rintro(h|h|h)
     .omega
     .omega
     .exact yAb I3.b2 I3.co.j qj _ rfl h
  have C2:=hidO (IH (G.t 1) qo w3 _ _ _ G.cb cv3 _ bs3 _ _ _ _ (I3.tr 1 qo) I3.co qo HCl RB (by rw[AB];omega) (by rw[yA2];omega) (by rw[AB];omega));clear C1 e1 e2 HCl RB;go_wp2_with fail;refine C2.out.mono ?_;rintro r w4 ⟨rfl,cv4,bs4,hA4⟩;have I4:=I3.call g1 (j:=1) qo hA4;have Z:=HE.out w4 cv4 bs4 I4.fr ⟨h0,G.lo 1,G.lo 2,_,_,_,_,_,I4.tr 0 qo,by simpa [z1]using I4.tr 1 qo,g1.mo _ _ qo,g1.mo _ _ qo,(I4.fin gm).1,(I4.fin gm).2,g1.hp.2,g1.hq.2⟩ (by simpa [CT.V,z1]using I4.co);clear hA4 C2;exact zAe
 .have z14:(G.n.f==14)=false:=by rw[iC];omega
  have z15:(G.n.f==15)=true:=by rw[beq_iff_eq];exact h0
  have hS:AcC G 2 1 G.W.drew:=(I0.k g1 ((Below.refl _ _).drew)).cs gm qj;have C:=I0.go g1 ((Below.refl _ _).drew) 0 qo (IH _ qo) rfl qo qo qo;go_upto_region 7 with fail;refine zAd ?_;intro w3 cv3 bs3 I3;clear C hS;have hS:AcC G 2 1 w3.drew:=(I3.k g1 ((Below.refl _ _).drew)).cs gm qj;have C:=I3.go g1 ((Below.refl _ _).drew) 1 qo (IH _ qo) rfl qo qo (by rw[AB];omega);go_upto_region 8 with fail;refine zAd ?_;intro w4 cv4 bs4 I4;clear C hS;have Z:=HE.out w4 cv4 bs4 I4.fr ⟨h0,G.lo 1,G.lo 2,_,_,_,_,_,I4.tr 0 qo,by simpa [z1]using I4.tr 1 qo,g1.mo _ _ qo,g1.mo _ _ qo,(I4.fin gm).1,(I4.fin gm).2,g1.hp.2,g1.hq.2⟩ (by simpa [CT.V,z1]using I4.co);exact zAe
 .have z14:(G.n.f==14)=false:=by rw[iC];omega
  have z15:(G.n.f==15)=false:=by rw[iC];omega
  have z16:(G.n.f==16)=true:=by rw[beq_iff_eq];exact h0
  have L1:=g1.mo 0 3 qo;have L3:=gm▸g1.hp;have L4:=g1.hh;have L5:=g1.h2;have z2:=yBw (G.t 1) G.L G.s (X.length+(G.t 0).J+1);obtain⟨c0,c1,-,-,c4⟩:=I0.cs gm (i:=1) qj;have C1:=I0.go g1 (Below.refl _ _) 0 qo (IH _ qo) rfl qo qo qo;go_wp2_with fail;refine C1.out.mono ?_;rintro r w3 ⟨rfl,cv3,bs3,I3,-⟩;obtain⟨ca,cc,hcv⟩:=I3.co.j.slice;obtain⟨cn,hcn⟩:=qE bs3.length;rw[<-hcn]at hcv;subst hcv;have HN:=qH2 (by rw[hcn,I3.co.X,AB,z1]:cn=X.length+(G.t 0).J) hcn;clear hcn;obtain⟨W4,hW4⟩:=qE (w3.alloc (AC #[.slice none 0 0,.int .i64 0] 79):Ww);obtain⟨eb,heb⟩:=qE w3.heap.size;have hb4:Below w3.heap.size w3 W4:=by rw[hW4];exact qB
  have E4:EmAt W4 eb (.slice none 0 0) [] 0:=⟨by rw[hW4,heb];exact yAa w3 _ (AA _) rfl,yMr _ _⟩;have I4:=I3.k g1 hb4;have e2:=I4.b2.z (j:=0) rfl;have hce:=heb▸I3.co.lt;obtain⟨fk,fs,hfv,hE0,hbf⟩:=I3.bf;cases hfv
  have HF:=hidO hE0;have HB:=hidO (hbf W4 eb (.slice none 0 0) (Chg.h hb4) (AP heb.symm) E4);have HW:Hid (∀v w6 l c,EmTo W4 w6 eb (.slice none 0 0) v l c->Below w3.heap.size w3 w6/\eb=w3.heap.size):=λv w6 l c h=>⟨hb4.trans (heb▸h.k E4),heb⟩;have HEm:Hid (∀w5 v5,EmTo W4 w5 eb (.slice none 0 0) v5 (absG 0 0 G.L) (cntL G.L)->Calls prog 39 #[ptrV (G.pp 0),ptrV eb,.bool G.s] w5 (EmP w5 eb (cntL G.L) v5 (absG 0 0 G.L) (G.t 0) G.s X.length)):=λw5 v5 h=>
   yNm (G.t 0) w5 _ _ _ X.length eb _ v5 _ G.s ((I3.k g1 (HW.out _ _ _ _ h).1).tr 0 qo) h.U (by have:=g1.mo (0+1) 3 qo;omega) (by rw[yAj];omega) qo qo
  clear hE0 hbf c0 c1 c4 C1;go_upto_region 13 with fail;rw[<-hW4,<-heb];clear hW4 heb;go_wp2_with fail;rw[HF.out];refine HB.mono ?_;rintro r w5 ⟨v5,rfl,hT5⟩;have HT5:=hidO hT5;have C2:=hidO (HEm.out _ _ hT5);clear hT5 HB e2 I4 HF;go_wp2_with fail;refine C2.out.mono ?_;rintro r w6 ⟨v6,rfl,hT6⟩;obtain⟨M,hM⟩:=qE (G.L++(G.t 0).gen G.s X.length);have T6:EmTo W4 w6 eb (.slice none 0 0) v6 (absG 0 0 M) (cntL M):=by rw[hM];exact HT5.gen hT6
  obtain⟨b6,heb⟩:=HW.out _ _ _ _ T6;have I6:=I3.k g1 b6;obtain⟨va,vc,hv6⟩:=T6.U.j.slice;obtain⟨vn,hvn⟩:=qE ((absG 0 0 M).length);rw[<-hvn]at hv6;subst hv6;have HX:=qH2 heb hM;obtain⟨ct,hct⟩:∃ct:Int,Hid (ct=((cntL M:Nat):Int)):=⟨_,rfl⟩;have E6:=T6.U;obtain⟨W7,hW7⟩:=qE (w6.setCell ⟨G.p,8,none⟩ (.int .i64 (cn:Int)):Ww);have I7:=hW7▸I6.num g1 cn;have E7:EmAt W7 eb _ _ _:=E6.off (S:=λb=>b=G.p) (by rw[hW7];exact Chg.D _ _ _ _ rfl) (λb h q=>qo);have g8:=yA.z I6.bx (j:=8) rfl;have f8:=yA.frozen I6.bx 8;have x0:=I6.co.A.z (j:=0) rfl;clear hT6 C2 HT5 hvn hM heb T6 HEm;go_upto_region 15 with fail;rw[<-hW7];have E7b:=E7.A;have hS:SW (λw':Ww=>w'.cell? ⟨G.cb,0,none⟩=some (.slice ca cn cc)/\w'.cell? ⟨eb,0,none⟩=some (.slice va vn vc)/\w'.cell? ⟨eb,1,none⟩=some (.int .i64 ct)) W7.drew:=⟨I7.co.A.z (j:=0) rfl,E7b.z (j:=0) rfl,hct.out▸E7b.z (j:=1) rfl⟩;clear hW7 g8 f8 x0 E7b I6 E6;refine wpR 11 hS ?_;refine ja 0 hS ?_;iterate 6 refine jb hS ?_
  obtain⟨V8,hV8⟩:=qE ((W7.alloc (AC #[.slice va vn vc,.int .i64 ct] 32)).drew:Ww);obtain⟨G8,hG8⟩:=qE W7.heap.size;have b8:Below W7.heap.size W7 V8:=by rw[hV8];exact(qB).drew
  have I8:=I7.k g1 b8;have E8:=E7.k b8;have BC:yP9 V8 G8 0 [⟨.slice va vn vc,ct,absG 0 0 M⟩]:=by
   rw[hV8,hG8];intro i x hx;match i,hx with
   |0,hx=>cases hx;exact⟨by simp[go_sem],by simp[go_sem]⟩
  have hS8:=SWm hS V8 <|⟨I8.co.A.z (j:=0) rfl,E8.A.z (j:=0) rfl,hct.out▸E8.A.z (j:=1) rfl⟩;have HLn:=qH2 (by have:=HN.out;omega:bs3.length+1<=2^30) I8.co.lt;refine qO 7 rfl λK hK=>?_;go_simp;rw[<-hV8,<-hG8];clear hV8 hG8;refine hK.out _ _ (.inr hS8) (jS ?_);clear hK hS I7 E7 b8;refine qO 8 rfl λK hK=>?_;refine yFb _ rfl _ _ rfl (G.cb+1) (.slice ca cn cc) G8 0 1 1 bs3 [⟨.slice va vn vc,ct,absG 0 0 M⟩] rfl rfl rfl I8.co.j BC (λx hx=>by simp only[AF]at hx;subst hx;rfl) HLn.1 HLn.2 ?_;intro cv9 w9 hA9;have B9:=I8.s9 E8 hA9;have I10:=I8.app g1 E8 hce (λx hx k q=>by rw[HX.1];exact((I3.co.each x hx).blk q).2) (by rw[HX.2];intro q;exact xHt _ _ _ (AJ.1 q).2) (hct.out▸hA9);obtain⟨a9,c9,hv9⟩:=hA9.Z.slice;clear hA9;generalize (bs3++ [(⟨.slice va vn vc,ct,absG 0 0 M⟩:Bk)]).length=n9 at hv9;subst hv9;have hS9:=SWm hS8 w9 <|⟨B9.1.z (j:=0) rfl,B9.2.z (j:=0) rfl,hct.out▸B9.2.z (j:=1) rfl⟩;refine hK.out _ _ (.inr hS9) (jS ?_);clear hK;refine qO 9 rfl λK hK=>?_;go_simp;refine hK.out _ _ (.inr hS9) (jS ?_);clear hK;refine qO 10 rfl λK hK=>?_;go_simp;refine hK.out _ _ (.inr hS9) (jS ?_);clear hK;have z0:=B9.1.frozen 0;have e0:=B9.1.z (j:=0) rfl;obtain⟨W10,hW10⟩:=qE (w9.setCell ⟨G.cb,0,none⟩ (.slice a9 n9 c9):Ww);rw[<-hW10]at I10;refine qO 11 rfl λK hK=>?_;go_simp;rw[<-hW10];refine hK.out _ _ (.inl rfl) (jS ?_);clear hK hW10 z0 e0 hS8 hS9 I8 E8 BC B9 b6;refine qD ?_;obtain⟨XX,hXX⟩:=qE (X++(G.t 0).V G.L G.s X.length++ [M]);rw[<-hXX]at I10;have HXX:=qH2 hXX (by rw[hXX,AB,AB,z1];rfl:XX.length=X.length+(G.t 0).J+1);clear hXX;have hS:AcC G 3 1 W10.drew:=(I10.k g1 ((Below.refl _ _).drew)).cs gm qj;have C:=I10.go g1 ((Below.refl _ _).drew) 1 qo (IH _ qo) rfl qo qo (by have:=HXX.2;omega);go_upto_region 16 with fail;refine zAd ?_;intro w12 cv12 bs12 I12;clear C hS;have hS:AcC G 3 2 w12.drew:=(I12.k g1 ((Below.refl _ _).drew)).cs gm qj;have HL:Hid ((XX++(G.t 1).V G.L G.s XX.length).length=X.length+(G.t 0).J+1+(G.t 1).J):=by show _=_;rw[AB,yBw,HXX.2]
  have C:=I12.go g1 ((Below.refl _ _).drew) 2 qo (IH _ qo) rfl qo qo (by rw[HL.out];omega);go_upto_region 17 with fail;refine zAd ?_;intro w14 cv14 bs14 I14;clear C hS;have Z:=HE.out w14 cv14 bs14 I14.fr ⟨h0,G.lo 1,G.lo 2,G.lo 3,_,_,_,_,_,cn,I14.tr 0 qo,by simpa [HXX.2]using I14.tr 1 qo,by simpa [HL.out]using I14.tr 2 qo,g1.mo _ _ qo,g1.mo _ _ qo,g1.mo _ _ qo,(I14.fin gm).1,(I14.fin gm).2,g1.hp.2,g1.hq.2,λf0 hf0=>by cases hf0;rw[HN.1]⟩ (by
   have h9:=I14.co
   rw[HL.out,HXX.2,HXX.1,HX.2]at h9
   simpa [CT.V]using h9)
  exact zAe
theorem zAo (h:p:=by
  refine⟨λi j hij=>?_,hh,⟨hb.lt.1,hp⟩,⟨hr.lt.1,hq⟩,hcl⟩;dsimp only;repeat' split
  all_goals omega):p:=h
theorem xE2:∀(N:Nat)(t:CT),t.size<=N->AdC t:=by
 intro N;induction N with
 |zero=>intro t ht;cases t<;>simp[CT.size]at ht
 |succ N IH=>
 intro t ht w lo hi p cb cv X bs fv R L s hT hC hh hBf hRA hl hc hx;obtain⟨fk,fcs,rfl,hB9⟩:=id hBf;have hb0:Below w w (xw w #[.func (AD fk) #[] fcs] 77):=qB;have HP:=yAa w (O:=w.heap.size) (t:=77) (sz:=1) #[.func (AD fk) #[] fcs] qr rfl;have hcl:=hC.lt;have HC:=hC.k hb0;have HB:=hBf.k hb0;have HR:=hRA.K hb0.size (λ_=>.inl) (AA _) (AA _);have hT0:=hT.k hb0 qo (AA _);have IH':∀u:CT,u.size<t.size->AdC u:=λu hu=>IH u qo;cases t with
 |leaf n=>
  have⟨h0,vv,k,hb,hp⟩:=id hT0;have z:∀i:Int,yAl i≠0->(n.f==i)=false:=λi hi=>by rw[iC];rintro rfl;exact hi h0
  have z14:=z 14 qj;have z15:=z 15 qj;have z16:=z 16 qj;have d0:=yA.z hb (j:=0) rfl;have Z:AdP w (.leaf n) lo hi p cb cv X L s (.returned (.tuple #[])) _:=⟨rfl,cv,bs,⟨h0,vv,k,hb,hp⟩,by simpa [CT.V]using HC,AdF.h hb0⟩;clear hT hT0 hb h0 z;go_enter func37,ntmps37;exact zAe
 |chain n a b=>
  have⟨h0,m,m2,pa,pb,q,cq,k,hA,hB,l1,l2,hb,hr,hp,hq⟩:=hT0;exact ySc (G:=⟨n,λj=>if j=0 then a else b,λj=>if j=0 then lo else if j=1 then m else m2,λj=>if j=0 then pa else pb,2,hi,q,cq,p,cb,_,fk,fcs,_,cv,R,L,s⟩) zAo ⟨λj hj=>match j,hj with|0,_=>hA|1,_=>hB,hb,hr,HP,HC,AdF.h (Below.refl _ _),HB,HR⟩ rfl rfl (.inl ⟨h0,rfl,rfl⟩) IH' hl hc hx
 |inter n a b=>
  have⟨h0,m,m2,pa,pb,q,cq,k,hA,hB,l1,l2,hb,hr,hp,hq⟩:=hT0;exact ySc (G:=⟨n,λj=>if j=0 then a else b,λj=>if j=0 then lo else if j=1 then m else m2,λj=>if j=0 then pa else pb,2,hi,q,cq,p,cb,_,fk,fcs,_,cv,R,L,s⟩) zAo ⟨λj hj=>match j,hj with|0,_=>hA|1,_=>hB,hb,hr,HP,HC,AdF.h (Below.refl _ _),HB,HR⟩ rfl rfl (.inr (.inl ⟨h0,rfl,rfl⟩)) IH' hl hc hx
 |cond n a b d=>
  have⟨h0,m,m2,m3,pa,pb,pc,q,cq,k,hA,hB,hD,l1,l2,l3,hb,hr,hp,hq,_⟩:=hT0;exact ySc (G:=⟨n,λj=>if j=0 then a else if j=1 then b else d,λj=>if j=0 then lo else if j=1 then m else if j=2 then m2 else m3,λj=>if j=0 then pa else if j=1 then pb else pc,3,hi,q,cq,p,cb,_,fk,fcs,_,cv,R,L,s⟩) zAo ⟨λj hj=>match j,hj with|0,_=>hA|1,_=>hB|2,_=>hD,hb,hr,HP,HC,AdF.h (Below.refl _ _),HB,HR⟩ rfl rfl (.inr (.inr ⟨h0,rfl,rfl⟩)) IH' hl hc hx
theorem xH5(t:CT):AdC t:=xE2 _ t qr
structure Apt(bs:List Bk)(mv:Vv):Prop where
 pw:bs.Pairwise (λx y=>x.v.ownBlock≠y.v.ownBlock)
 main:∀x∈bs,x.v.ownBlock≠mv.ownBlock
 some:∀x∈bs,x.l≠ []
def CmpI(xs:List Nd)(w:Ww)(r:Ending)(w':Ww):Prop:=∃(a:Option Addr)(n c:Nat)(a':Option Addr)(n' c':Nat)(cnt:Int)(X:List (List Ix))(M:List Ix)(bs:List Bk),r=.returned (.agg #[.slice a n c,.slice a' n' c',xi cnt])/\CdU w w' (.slice a n c) (.slice a' n' c') cnt X M bs/\yLg xs X M/\Apt bs (.slice a' n' c')
theorem yYx{X:List (List Ix)}(hC:CoAt w cb cv X bs)(hE:EmAt w eb mv (absG 0 0 M) c)(hc:c=cntL M)(hb:Below w0 w0 w)(h1:w0<=p1)(h2:p1<cb)(h3:cb<eb)(u0 u1 u2 v1 v2:Vv):
  CdU w0 (xt ((((w.setCell (xd cb 1) v1).setCell (xd cb 2) v2).setCell (xd p1 0) u0).setCell (xd p1 1) u1) p1 2 u2) cv mv ((c:Nat):Int) X M bs:=by
 have hch:Chg (λb=>b<=cb) w (xt ((((w.setCell (xd cb 1) v1).setCell (xd cb 2) v2).setCell (xd p1 0) u0).setCell (xd p1 1) u1) p1 2 u2):=
  ((((Chg.D (S:=λb=>b<=cb) w cb 1 v1 (AA cb)).trans (Chg.D (S:=λb=>b<=cb) _ cb 2 v2 (AA cb))).trans (Chg.D (S:=λb=>b<=cb) _ p1 0 u0 (AL h2))).trans (Chg.D (S:=λb=>b<=cb) _ p1 1 u1 (AL h2))).trans (Chg.D (S:=λb=>b<=cb) _ p1 2 u2 (AL h2))
 refine⟨⟨(hC.j.i hch (λk hk q=>qw ((hC.j.blk hk).1))).low qo,λx hx=>((hC.each x hx).i hch (λk hk q=>qw (((hC.each x hx).blk hk).1))).low qo,hC.view,?_⟩,(hE.j.i hch (λk hk q=>qw ((hE.j.blk hk).1))).low qo,by rw[hc]⟩;exact yAc (yAc (yAc (yAc (yAc hb qo _ _) qo _ _) h1 _ _) h1 _ _) h1 _ _
theorem yJ0(h:WdN w g o cp xs)(hG:yB9 xs):Calls prog 7 #[.agg #[(xy g o xs.length cp)]] w (CmpI xs w):=by
 have HO:=qH2 h hG;have hgl:=h.lt;have hcp:=h.caps;have⟨n,hn⟩:=qE xs.length;have HN:=qH1 hn;have⟨W0,hW0⟩:=qW (xw (w.alloc (AC #[(xy g o n cp)] 25)) #[xh,xh,xi 0] 34);have hb0:Below w w W0:=hW0▸((qB).alloc (by simp) _)
 have hz0:W0.heap.size=w+1+1:=by rw[hW0];simp
 have HK:Hid (∀wx,Below W0 W0 wx->xk wx w 0 (xy g o n cp)/\yA wx (w+1) 34 3 (w+1) [xh,xh,xi 0]/\WdN wx g o cp xs/\Below w w wx/\w.heap.size+2<=wx):=by
  intro wx hx;refine⟨?_,?_,(HO.1.k hb0 hgl).k hx qo,hb0.trans (hx.mono qo),qw hx.size⟩
  .rw[hx.cell (p:=(xd w 0)) (by show w.heap.size<_;omega),hW0];simp[go_sem]
  .refine yA.k ?_ hx;rw[hW0];have z1:(w.alloc (AC #[(xy g o n cp)] 25)).heap.size=w+1:=by simp
   have hb2:=yAa (xw w #[(xy g o n cp)] 25) (O:=w.heap.size+1) (t:=34) (sz:=3) #[xh,xh,xi 0] (z1▸AA _) rfl;rw[z1]at hb2;exact hb2
 have HF:Hid (Calls prog 34 #[.agg #[(xy g o n cp)]] W0 λr w'=>r=.returned true/\Below W0 W0 w'):=hn▸(yGd (HK.out W0 (Below.refl _ _)).2.2.1 hG)
 rw[<-hn];clear h hn;have c0:=(HK W0 (Below.refl _ _)).1;go_enter func7,ntmps7;go_upto_region 1 with fail;rw[<-hW0];clear hW0;go_wp2_with fail;apply HF.mono;rintro e w1 ⟨rfl,hb1⟩;clear c0 HF;have c0:=(HK w1 hb1).1
 have⟨t,ht⟩:=yPh hG;have HT:=qH4 hG ht (by rw[ht.size];exact hG.1:t.size<=200) (by rw[<-ht.J];exact AK (yNf xs) hG.1:t.J<=200);have HFo:Hid (Calls prog 35 #[(xy g o n cp),.func (AD 36) #[] #[]] w1 (yZp t w1)):=by rw[HN];exact yNg (HK w1 hb1).2.2.1.at (HK w1 hb1).2.2.1.lt ht hG.1
 clear hG ht;go_wp2_with fail;apply HFo.mono;rintro e w2 ⟨p,rfl,hT2,hb2⟩;have s2:=hb2.size;have HT2:=qH1 hT2;have k2:=hb1.trans (hb2.mono hb1.size);clear hT2 HFo c0;have⟨W3,hW3⟩:=qE (w2.alloc (AC #[.slice none 0 0,.slice none 0 0,.int .i64 0] 34):Ww);have⟨cb,hcb⟩:=qE w2.heap.size;have hb3:Below w2 w2 W3:=hW3▸qB
 have HC3:Hid (CoAt W3 cb (.slice none 0 0) [] []/\cb=w2):=by refine⟨⟨?_,xAd _ _,(λx hx=>by cases hx),rfl,List.Pairwise.nil,(λx hx=>by cases hx)⟩,hcb⟩;rw[hW3,hcb];exact yAa w2 _ (AA _) rfl
 have HAd:Hid (Calls prog 37 #[ptrV cb,ptrV p,.func (AD 38) #[] #[]] W3 (AdP W3 t w1.heap.size w2.heap.size p cb (.slice none 0 0) [] [] false)):=by
  refine xH5 t W3 w1.heap.size w2.heap.size p cb (.slice none 0 0) [] [] _ (λ_=>False) [] false (HT2.k hb3 (AA _) (AA _)) HC3.1 (AP hcb.symm) (yZa _ _) ⟨λb q=>q.elim,λb q=>q.elim⟩ ?_ ?_ ?_
  .have:=HT.2.2.1;simp;omega
  .have:=HT.2.2.1;simp[cntL];omega
  .have:=HT.2.2.2;simp;omega
 have k3:=k2.trans (hb3.mono k2.size);go_upto_region 5 with fail;rw[<-hW3,<-hcb];clear hW3 hcb;go_wp2_with fail;apply HAd.mono;rintro e w4 ⟨rfl,cv4,bs4,hA4⟩;have⟨ca,cc,hcv⟩:=hA4.code.j.slice;have⟨cn,hcn⟩:=qE bs4.length;rw[<-hcn]at hcv;clear hcn;subst hcv;have HA4:=qH2 hA4.tree hA4.code;have k4:Below W0.heap.size W0 w4:=by
  refine Chg.k k3 hA4.fr.i k3.size (λb hb=>?_);have g1:=k2.size;have g2:=hb1.size;have g3:=HC3.2;rcases hb with q|q|q
  .omega
  .omega
  .simp[AE]at q
 have hc4:=hA4.code.lt;clear hA4 HAd;have⟨W5,hW5⟩:=qE (w4.alloc (AC #[.slice none 0 0,.int .i64 0] 79):Ww);have⟨eb,heb⟩:=qE w4.heap.size;have hb5:Below w4 w4 W5:=hW5▸qB
 have HE5:Hid (EmAt W5 eb (.slice none 0 0) [] 0/\eb=w4):=by refine⟨⟨?_,yMr _ _⟩,heb⟩;rw[hW5,heb];exact yAa w4 _ (AA _) rfl
 have HEm:Hid (Calls prog 39 #[ptrV p,ptrV eb,.bool false] W5 (EmP W5 eb 0 (.slice none 0 0) [] t false 0)):=by
  refine yNm t W5 w1.heap.size w2.heap.size p 0 eb 0 (.slice none 0 0) [] false (HA4.1.k hb5 (by have:=HC3.2;omega) (AA _)) HE5.1 (by have:=HC3.2;omega) ?_ ?_ ?_
  .have:=HT.2.2.1;simp;omega
  .have:=HT.2.2.1;omega
  .have:=HT.2.2.2;omega
 have k5:=k4.trans (hb5.mono k4.size);have hbe:Hid (Below eb W5 W5/\cb<eb/\W0<=eb/\W0<=cb):=⟨Below.refl _ _,qo,by rw[heb];exact k4.size,by rw[HC3.2];exact k2.size⟩;have HC5:=qH1 (HA4.2.k hb5);go_upto_region 7 with fail;rw[<-hW5,<-heb];clear hW5 heb;go_wp2_with fail;apply HEm.mono;rintro e w6 ⟨v6,rfl,hT6⟩;have⟨M,hM⟩:=qE (t.gen false 0);have hE6:EmAt w6 eb v6 (absG 0 0 M) (cntL M):=by have h9:=hT6.U;rw[hM];simpa using h9
 have⟨va,vc,hv6⟩:=hE6.j.slice;have⟨vn,hvn⟩:=qE ((absG 0 0 M).length);rw[<-hvn]at hv6;clear hvn;subst hv6;have hx6:=hT6.k HE5.1;have k6:=k5.trans (hx6.mono hbe.2.2.1);have HC6:Hid (CoAt w6 cb (.slice ca cn cc) (t.V [] false 0) bs4):=by
  refine HC5.i (S:=λb=>eb<=b) ⟨hx6.os,hx6.tape,hx6.output,hx6.size,λk hk hn=>hx6.block k qo⟩ (by have:=hbe.2.1;omega) (λk hk q=>?_) (λx hx k hk q=>?_)
  .have:=(HA4.2.j.blk hk).2;have:=HE5.2;omega
  .have:=((HA4.2.each x hx).blk hk).2;have:=HE5.2;omega
 have⟨ct,hct⟩:=qE (((cntL M:Nat):Int):Int);have HE6:=qH3 hE6 hct hM;have HApt:Hid (Apt bs4 (.slice va vn vc)):=by
  refine⟨HC6.apart,λx hx q=>?_,HC6.some⟩;rcases hz:(AH va vn vc).ownBlock with _|j
  .rw[hz]at q;rcases(HA4.2.each x hx).cases with⟨_,h6⟩|⟨g6,c6,h6,_⟩
   .exact HC6.some x hx h6
   .rw[h6]at q;simp[AE]at q
  .rw[hz]at q;have h1:=((HA4.2.each x hx).blk q).2;have h2:=(hE6.j.blk hz).1;have h3:=HE5.2;omega
 have a0:=hE6.A.z (j:=0) rfl;have a1:(xk w6 eb 1 (xi ct):Prop):=hct▸(hE6.A.z (j:=1) rfl)
 have b1:=HC6.A.z (j:=1) rfl;have b2:=HC6.A.z (j:=2) rfl;have g1:=HC6.A.frozen 1;have g2:=HC6.A.frozen 2;have⟨W7,hW7⟩:=qE (xt (w6.setCell (xd cb 1) (.slice va vn vc)) cb 2 (xi ct):Ww);have HB7:Hid (yA W7 cb 34 3 cb [.slice ca cn cc,.slice va vn vc,xi ct]):=hW7▸((HC6.A.set 1 _).set 2 _)
 have HP7:Hid (yA W7 (w+1) 34 3 (w+1) [xh,xh,xi 0]):=by rw[hW7];exact(((HK w6 k6).2.1).Q (by have:=hbe.2.2.2;omega) _ _).Q (by have:=hbe.2.2.2;omega) _ _
 have HG:Hid (CmpI xs w (.returned (.agg #[.slice ca cn cc,.slice va vn vc,xi ct])) (xt ((W7.setCell (xd (w+1) 0) (.slice ca cn cc)).setCell (xd (w+1) 1) (.slice va vn vc)) (w+1) 2 (xi ct))):=by refine⟨_,_,_,_,_,_,_,t.V [] false 0,M,bs4,rfl,?_,⟨t,HT.2.1,rfl,hM⟩,HApt⟩;rw[hW7];have h9:=yYx (w0:=w) (p1:=w.heap.size+1) HC6 hE6 rfl (HK w6 k6).2.2.2.1 qo (by have:=hbe.2.2.2;omega) hbe.2.1 (.slice ca cn cc) (.slice va vn vc) (xi ct) (.slice va vn vc) (xi ct);rw[<-hct]at h9;exact h9
 clear hT6 hE6 hx6 hM hct;go_upto_region 9 with fail;rw[<-hW7];clear hW7 a0 a1 b1 b2 g1 g2;have⟨d0,d1,d2⟩:=HB7.c3;have⟨f0,f1,f2⟩:=HP7.c3;have⟨z0,z1,z2⟩:=HP7.f3;have HB:Hid (yA (xt ((W7.setCell (xd (w+1) 0) (.slice ca cn cc)).setCell (xd (w+1) 1) (.slice va vn vc)) (w+1) 2 (xi ct)) (w+1) 34 3 (w+1) [.slice ca cn cc,.slice va vn vc,xi ct]):=((HP7.set 0 _).set 1 _).set 2 _;go_wp2_with fail;have⟨e0,e1,e2⟩:=HB.c3;exact bodyPost_ret (v:=.agg #[.slice ca cn cc,.slice va vn vc,xi ct]) (by simp[results,results7,go_sem,e0,e1,e2]) rfl HG
end Go.Proofs.YtnnagkfoiganfaaGreatDoor
