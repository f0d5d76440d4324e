import Derived.Test.YtnnagkfoiganfaaGreatDoorFkAK
namespace Go.Proofs.YtnnagkfoiganfaaGreatDoor
open Go.ChangeShapes Go.WideShapes Go.ChangeAt Go.RowKit Go.Deep XD XI XU XG XP XK XW XT XF XE XH XY _root_.List _root_.Nat Go.Shelf Go.Proofs.Tryz
open _root_.Go renaming wp_region_noPanic->AD,wpIn_wide->AG,NoPanic->AI
open _root_.Go.Value renaming ownBlock->AB,slice->AE
open _root_.Nat renaming le_refl->AA,zero_le->AC,le_of_lt->AF,le_succ_of_le->AH
set_option linter.unusedVariables false
set_option linter.unusedSimpArgs false
set_option maxRecDepth 100000
set_option maxHeartbeats 64000000
variable {ks:List Ctr} {g un off:Nat} {m:List It} {v0 v:Vv} {G:MchG} {c:Ent} {h:Hn} {L X:List Ent} {n:Nd} {S:Nat->Prop}
abbrev MkP(g un:Nat)(i j:It)(w':Ww):Prop:=xk w' g ((un+1)*4) i.H/\xk w' g ((un+1)*4+1) i.strip/\xk w' g ((un+1)*4+2) (xi i.G.rank)/\xk w' g ((un+1)*4+3) i.G.txt/\xk w' g (un*4) j.H/\xk w' g (un*4+1) j.strip/\xk w' g (un*4+2) (xi j.G.rank)/\xk w' g (un*4+3) j.G.txt
variable {cp:Nat}
theorem mkP{L:LkG}{X:Ww}{i j:It}(h:MkM G L v0 m g cp ks X)(hi:m[un+1]?=some i)(hj:m[un]?=some j):MkP g un i j X:=⟨h.stk.z yAm hi 0 qo,h.stk.z yAm hi 1 qo,h.stk.z yAm hi 2 qo,h.stk.z yAm hi 3 qo,h.stk.z yAm hj 0 qo,h.stk.z yAm hj 1 qo,h.stk.z yAm hj 2 qo,h.stk.z yAm hj 3 qo⟩
variable {p:Prop}
theorem zMkB (h:p:=by
 obtain⟨an,han⟩:∃an:Nat,x.a=(an:Int):=⟨x.a.toNat,qo⟩;obtain⟨bv,hbv⟩:∃bv,L.V[an]?=some bv:=qg (qw HG.2.2.1);obtain⟨bc,oc,hca,hcc,-,-⟩:=HJ.1.cnd an bv hbv;have hnc:(an:Int)<(L.nC:Int):=qv HG.2.2.1 hC.out
 have HBV:Hid (L.V[x.a.toNat]?=some bv):=by show _=_;rw[han];simpa using hbv
 rw[han]at y1;rw[ho]at y0;have HCA:=qH1 hca;rw[hca];clear hbv ha0 ha1 hca;have zb:((x.b.toNat:Nat):Int)=x.b:=qo
 cases bv
 .have HR:Hid (LkL L x.b.toNat m ks/\at_<x.b.toNat/\x.b.toNat<=L.N/\1<=m.length/\m.length<=250):=
   HL.2.next HG.2.1 hN.out (qw HL.1) HX.out (by unfold stepL;rw[iA qo,iA qo,iA qo,iA qo,iB ho,iB HBV.out]) (by unfold ways;rw[iB ho];simp) (by unfold more;rw[iA qo,iA qo];omega)
  have hr1:=HR.2.1;have hr2:=HR.2.2.1;go_wp2_with fail;(try rw[<-HCA.out]);exact xF
 .have HR:Hid (LkL L (at_+1) m ks/\at_<at_+1/\at_+1<=L.N/\1<=m.length/\m.length<=250):=
   HL.2.next HG.2.1 hN.out (qw HL.1) HX.out (by unfold stepL;rw[iA qo,iA qo,iA qo,iA qo,iB ho,iA (by rw[HBV.out];simp)]) (by unfold ways;rw[iB ho];simp) (by unfold more;rw[iA qo,iA qo];omega)
  have hr2:=HR.2.2.1;go_wp2_with fail;(try rw[<-HCA.out]);go_roundw;case rel=>exact⟨at_+1,sn,g,cp,m,ks,hr2,hs1,hs2,rfl,by go_num,HJ.1,HL.1,HR.1⟩
  case measure=>simp[intOf];omega):p:=h
theorem zMkJ (h:p:=by
 have zb:((x.b.toNat:Nat):Int)=x.b:=qo
 have HR:Hid (LkL L x.b.toNat m ks/\at_<x.b.toNat/\x.b.toNat<=L.N/\1<=m.length/\m.length<=250):=
  HL.2.next HG.2.1 hN.out (qw HL.1) HX.out (by unfold stepL;rw[iA qo,iA qo,iA qo,iA qo,iA qo,iB ho]) (by unfold ways;rw[iA qo,iB ho];simp) (by unfold more;rw[iA qo,iA qo];omega)
 rw[ho]at y0;have hr1:=HR.2.1;have hr2:=HR.2.2.1;go_wp2_with fail;exact xF):p:=h
theorem zMkD (h:p:=by
 obtain⟨i,hi⟩:∃i,m[tn]?=some i:=qg (qw HL.1);rw[ho]at y0;have t0:=HJ.1.stk.z yAm hi 0 qo;have t1:=HJ.1.stk.z yAm hi 1 qo;have t2:=HJ.1.stk.z yAm hi 2 qo;have t3:=HJ.1.stk.z yAm hi 3 qo;simp only[getElem?_cons_zero,getElem?_cons_succ,Nat.add_zero]at t0 t1 t2 t3;obtain⟨W3,hW3⟩:=qW (xw wr #[i.H,i.strip,xi i.G.rank,i.G.txt] 181);have HW3:Hid (MkM G L v0 m g cp ks W3/\(∀j u,i.four[j]?=some u->(xk W3 wr j u:Prop))):=by
  have hb3:=qN hW3
  exact⟨HJ.1.on HS.out hb3,by rw[hW3];exact yEa wr i.four _⟩
 have HI:=qH1 hi;have hgl:=HW3.1.stk.lt;have z3:=qS hW3
 clear hi;go_wp2_with (at_builtin;(try rw[<-hW3]);refine wpA rfl (apK (apGG ⟨underlying228,_,_,Tryz.infoIti,rfl,qj,qj⟩ yAm) rfl G.w0 m [i] rfl rfl HL.1 rfl HW3.1.stk (atG1 yO1 HW3.2) (lN ?hl) ?hb ?_));case hl=>rw[<-HL.1];omega
 case hb=>have:=(HW3.1.all HS.out).size;exact this
 intro g' cp' w' hO' hgr hat';have hgr2:W3.grownBy w' (some g):=by first|exact hgr|(rw[hW3];exact hgr)
 have HR:Hid (LkL L (at_+1) (m++ [i]) ks/\at_<at_+1/\at_+1<=L.N/\1<=(m++ [i]).length/\(m++ [i]).length<=250):=
  HL.2.next HG.2.1 hN.out (qw HL.1) HX.out (by unfold stepL;rw[iA qo,iB ho,reverse_append,yN9 HL.1 HI.out];rfl) (by unfold ways;rw[iA qo,iA qo];simp) (by unfold more;rw[iB ho];simp)
 have HR2:Hid (MkM G L v0 (m++ [i]) g' cp' ks w'/\tn+1+1=(m++ [i]).length):=
  ⟨HW3.1.grow HS.out hO' (by have:=HW3.1.res.lt;rcases hat' with q|q<;>omega) (Chg.M hgr2 (λk hk=>by cases hk;rfl)),by rw[length_append,<-HL.1];rfl⟩
 have hr2:=HR.2.2.1;have hr3:tn+1+1<=250:=qv HR.2.2.2.2 HR2.2
 clear hO' hgr hgr2 hat' hW3;refine zY ?_;exact⟨at_+1,tn+1+1,g',cp',m++ [i],ks,hr2,qo,hr3,rfl,by go_num,HR2.1,HR2.2,HR.1⟩):p:=h
theorem zMkL (h:p:=by
 obtain⟨tn,rfl⟩:∃tn,sn=tn+1:=⟨sn-1,qo⟩;obtain⟨i,hi⟩:∃i,m[tn]?=some i:=qg (qw HL.1);rw[ho]at y0;have HI:=qH1 hi;have HSS:Hid (∀(X:Ww)(ks:List Ctr),MkM G L v0 m g cp ks X->(λw':Ww=>xk w' g (tn*4) i.H/\xk w' g (tn*4+1) i.strip/\xk w' g (tn*4+2) (xi i.G.rank)/\xk w' g (tn*4+3) i.G.txt/\xk w' L.w 0 L.c.j/\xk w' L.w 1 L.c.E/\xk w' L.w 2 L.c.C/\xk w' L.w 3 (xu L.c.ts)/\xk w' L.w 4 L.c.val) X):=λX ks h1=>
  ⟨h1.stk.z yAm hi 0 qo,h1.stk.z yAm hi 1 qo,h1.stk.z yAm hi 2 qo,h1.stk.z yAm hi 3 qo,h1.cel.z (j:=0) rfl,h1.cel.z (j:=1) rfl,h1.cel.z (j:=2) rfl,h1.cel.z (j:=3) rfl,h1.cel.z (j:=4) rfl⟩
 have HD:=qH1 (HJ.1.on HS.out ((Below.refl _ _).drew));have hS0:=HSS.out wr.drew ks HD.out
 have HLf:Hid (Calls prog 156 #[.pointer (some ⟨G.p,at_*13,none⟩),.agg #[i.H,i.strip,xi i.G.rank,i.G.txt],.agg #[L.c.j,L.c.E,L.c.C,xu L.c.ts,L.c.val]] wr.drew (LfQ G x L.c i ks wr.drew)):=
  HS.ok.leaf at_ x i L.c ks wr.drew HX.out ho (HD.all HS.out) HD.ti HD.ctr HD.X HD.cb HRow.out
 obtain⟨iz,hiz⟩:=qE ((leafI pfxB x L.c i ks).1);obtain⟨kz,hkz⟩:=qE ((leafI pfxB x L.c i ks).2);have HIZ:=qH2 hiz hkz
 have HR:Hid (LkL L (at_+1) (m.set tn iz) kz/\at_<at_+1/\at_+1<=L.N/\1<=(m.set tn iz).length/\(m.set tn iz).length<=250):=
  HL.2.next HG.2.1 hN.out (qw HL.1) HX.out (by
   rw[yWl ho (yN9 HL.1 HI.out),xG9 HL.1,hiz,hkz]) (by unfold ways;rw[iA qo,iA qo];simp) (by unfold more;rw[iA qo,iA qo,length_set];omega)
 have hr2:=HR.2.2.1;have hgl:=HJ.1.stk.lt.2;have zt:(tn:Int)<(tn:Int)+1:=qo
 clear hi hiz hkz;go_upto_region 9 with fail;refine yEx [10] (λw':Ww=>xk w' g (tn*4) i.H/\xk w' g (tn*4+1) i.strip/\xk w' g (tn*4+2) (xi i.G.rank)/\xk w' g (tn*4+3) i.G.txt/\xk w' L.w 0 L.c.j/\xk w' L.w 1 L.c.E/\xk w' L.w 2 L.c.C/\xk w' L.w 3 (xu L.c.ts)/\xk w' L.w 4 L.c.val) qk ?_;refine txa 0 hS0 ?_;iterate 7 refine txb hS0 ?_
 refine yB9 (i:=8) qk rfl (λK hK=>?_);go_simp;refine HLf.mono ?_;rintro e w4 ⟨rfl,H4⟩;rw[<-HIZ.1];have HW4:Hid (MkM G L v0 m g cp kz w4):=by obtain⟨k1,k2,k3,k4⟩:=H4.out;rw[<-HIZ.2]at k1 k2;exact HD.leaf HS.out k1 (by rw[HIZ.2];exact yQr _ _ _ _ _) k2 k3 k4
 have hS4:=HSS.out w4 kz HW4.out;clear H4 HLf HD hS0;refine hK.out _ _ (.inr hS4) (jS ?_);clear hK;refine txb hS4 ?_;obtain⟨d0,d1,d2,d3,-,-,-,-,-⟩:=hS4;have fz:∀k,w4.frozen? (xd g k)=false:=λk=>World.ownsRow.frozenAt HW4.stk k;have g0:=fz (tn*4);have g1:=fz (tn*4+1);have g2:=fz (tn*4+2);have g3:=fz (tn*4+3);obtain⟨W5,hW5⟩:=qW (setCs w4 g (tn*4) iz.four);have HW5:Hid (MkM G L v0 (m.set tn iz) g cp kz W5/\tn+1=(m.set tn iz).length):=by have hm:=HL.1;exact⟨HW4.grow HS.out (by rw[hW5];exact HW4.stk.setAll yAm (i:=tn) (e:=iz) qo) (.inl rfl) (by rw[hW5];exact yA1 (S:=λk=>k=g) g rfl _ _ _),by rw[length_set];exact hm⟩
 simp only[setCs]at hW5;clear fz;refine yB9 (i:=10) qk rfl (λK hK=>?_);go_simp;rw[<-hW5];refine hK.out _ _ (.inl qj) (jS ?_);clear hK hW5 d0 d1 d2 d3 g0 g1 g2 g3;refine yHz qk ?_;refine zY ?_;exact⟨at_+1,tn+1,g,cp,m.set tn iz,kz,hr2,hs1,hs2,rfl,by go_num,HW5.1,HW5.2,HR.1⟩):p:=h
theorem zMkS (h:p:=by
 obtain⟨un,rfl⟩:∃un,tn=un+1:=⟨tn-1,by rw[ho]at hle;unfold least at hle;rw[iB qo]at hle;omega⟩;obtain⟨i,hi⟩:∃i,m[un+1]?=some i:=qg (qw HL.1);obtain⟨j,hj⟩:∃j,m[un]?=some j:=qg (qw HL.1);rw[ho]at y0;have HI:=qH2 hi hj;have HD:=qH1 (HJ.1.on HS.out ((Below.refl _ _).drew));have hS0:=mkP HD.out hi hj;have hgl:=HJ.1.stk.lt.2;have z0:(0:Int)<=(un:Int)+1:=qo
 have z1:(un:Int)<(un:Int)+1:=qo
 have z2:(un:Int)<(un:Int)+1+1:=qo
 have hwu:IntKind.i64.wrap ((un:Nat):Int)=(un:Int):=by rw[IntKind.wrap_i64];omega
 have hnn:0<=(un:Int):=qo
 clear hi hj;go_upto_region 13 with fail;refine yEx [3,4,15,16,17] (MkP g un i j) qk ?_;generalize wr.drew=WD at HD hS0|-;refine txna 3 (.inl qj) (λ_ _ _=>qj) ?_;refine txna 4 (.inl qj) (λ_ _ _=>qj) ?_;refine txa 0 hS0 ?_;iterate 2 refine txb hS0 ?_
 refine txa 5 hS0 ?_;iterate 9 refine txb hS0 ?_
 obtain⟨t0,t1,t2,t3,s0,s1,s2,s3⟩:=hS0;have fz:∀k,WD.frozen? (xd g k)=false:=λk=>World.ownsRow.frozenAt HD.stk k;have e0:=fz (un*4);have e1:=fz (un*4+1);have e2:=fz (un*4+2);have e3:=fz (un*4+3);obtain⟨W6,hW6⟩:=qW (setCs WD g (un*4) i.four);have HW6:Hid (xE2 W6 G.w0 g cp (m.set un i)/\Chg (λk=>k=g) WD W6):=by have hm:=HL.1;exact⟨by rw[hW6];exact HD.stk.setAll yAm (i:=un) (e:=i) qo,by rw[hW6];exact yA1 (S:=λk=>k=g) g rfl _ _ _⟩
 simp only[setCs]at hW6;refine yB9 (i:=15) qk rfl (λK hK=>?_);go_simp;rw[<-hW6];refine hK.out _ _ (.inl qj) (jS ?_);clear hK hW6 fz t0 t1 t2 t3 s0 s1 s2 s3 e0 e1 e2 e3;refine yB9 (i:=16) qk rfl (λK hK=>?_);go_simp;refine hK.out _ _ (.inl qj) (jS ?_);clear hK;have hi6:(m.set un i)[un+1]?=some i:=by rw[getElem?_set_ne qo];exact HI.1
 have t0:=HW6.1.z yAm hi6 0 qo;have t1:=HW6.1.z yAm hi6 1 qo;have t2:=HW6.1.z yAm hi6 2 qo;have t3:=HW6.1.z yAm hi6 3 qo;simp only[getElem?_cons_zero,getElem?_cons_succ,Nat.add_zero]at t0 t1 t2 t3;have fz:∀k,W6.frozen? (xd g k)=false:=λk=>World.ownsRow.frozenAt HW6.1 k;have f0:=fz ((un+1)*4);have f1:=fz ((un+1)*4+1);have f2:=fz ((un+1)*4+2);have f3:=fz ((un+1)*4+3);obtain⟨W9,hW9⟩:=qW (setCs W6 g ((un+1)*4) j.four);have HR2:Hid (MkM G L v0 (m.take un++ [i,j]) g cp ks W9/\un+1+1=(m.take un++ [i,j]).length):=by have hm:=HL.1;have o1:=HW6.1.setAll yAm (i:=un+1) (e:=j) (by rw[length_set];omega);rw[set_comm _ _ qo,yYy HL.1 HI.1 HI.2,<-hW9]at o1;exact⟨HD.grow HS.out o1 (.inl rfl) (HW6.2.trans (by rw[hW9];exact yA1 (S:=λk=>k=g) g rfl _ _ _)),by rw[length_append,length_take];simp;omega⟩
 have HR:Hid (LkL L (at_+1) (m.take un++ [i,j]) ks/\at_<at_+1/\at_+1<=L.N/\1<=(m.take un++ [i,j]).length/\(m.take un++ [i,j]).length<=250):=
  HL.2.next HG.2.1 hN.out (qw HL.1) HX.out (by unfold stepL;rw[iA qo,iA qo,iB ho];rw[yZf HL.1 HI.1 HI.2,reverse_append];rfl) (by unfold ways;rw[iA qo,iA qo];simp) (by unfold more;rw[iA qo,iA qo,<-HR2.2,<-HL.1];omega)
 have hr2:=HR.2.2.1;simp only[setCs]at hW9;refine yB9 (i:=17) qk rfl (λK hK=>?_);go_simp;rw[<-hW9];refine hK.out _ _ (.inl qj) (jS ?_);clear hK hW9 fz hi6 t0 t1 t2 t3 f0 f1 f2 f3;refine yHz qk ?_;refine zY ?_;exact⟨at_+1,un+1+1,g,cp,m.take un++ [i,j],ks,hr2,qo,hs2,rfl,by go_num,HR2.1,HR2.2,HR.1⟩):p:=h
theorem zMkI (h:p:=by
 obtain⟨un,rfl⟩:∃un,tn=un+1:=⟨tn-1,by rw[ho]at hle;unfold least at hle;rw[iB qo]at hle;omega⟩;obtain⟨i,hi⟩:∃i,m[un+1]?=some i:=qg (qw HL.1);obtain⟨j,hj⟩:∃j,m[un]?=some j:=qg (qw HL.1);rw[ho]at y0;have HI:=qH2 hi hj;have HSS:Hid (∀X:Ww,MkM G L v0 m g cp ks X->MkP g un i j X):=λX h=>mkP h hi hj;have HD:=qH1 (HJ.1.on HS.out ((Below.refl _ _).drew));have hS0:=HSS.out _ HD.out;have hgl:=HJ.1.stk.lt.2;have z0:(0:Int)<=(un:Int)+1:=qo
 have z1:(un:Int)<(un:Int)+1:=qo
 have z2:(un:Int)<(un:Int)+1+1:=qo
 have hcap:=HJ.1.stk.caps;rw[<-HL.1]at hcap;have hwu:IntKind.i64.wrap ((un:Nat):Int)=(un:Int):=by rw[IntKind.wrap_i64];omega
 have hcu:(un:Int)<=(cp:Int):=qo
 have hnn:0<=(un:Int):=qo
 have HUN:Hid (un<=m.length):=by have:=HL.1;show un<=_;omega
 obtain⟨it,hit⟩:=qE (yE5 j i);have HJn:Hid (∀X:Ww,(xf 157 #[.agg #[j.H,j.strip,xi j.G.rank,j.G.txt],.agg #[i.H,i.strip,xi i.G.rank,i.G.txt]] X it.v:Prop)):=λX=>by rw[hit];exact yTm j i X
 have HIT:=qH1 hit;clear hi hj hit;go_upto_region 15 with fail;refine yEx [15,16] (MkP g un i j) qk ?_;refine txa 0 hS0 ?_;iterate 12 refine txb hS0 ?_
 refine yB9 (i:=13) qk rfl (λK hK=>?_);go_simp;refine(HJn.out _).mono ?_;rintro e w4 ⟨rfl,hb4⟩;have HW4:=qH1 (HD.on HS.out hb4);have hS4:=HSS.out _ HW4.out;clear hb4 hS0;refine hK.out _ _ (.inr hS4) (jS ?_);clear hK;obtain⟨W5,hW5⟩:=qW (xw w4 #[it.H,it.strip,xi it.G.rank,it.G.txt] 181);have HW5:Hid (MkM G L v0 m g cp ks W5/\(∀j u,it.four[j]?=some u->(xk W5 w4 j u:Prop))):=by
  have k5:=qN hW5
  exact⟨HW4.on HS.out k5,by rw[hW5];exact yEa w4 it.four _⟩
 have hS5:=HSS.out _ HW5.1;refine yB9 (i:=14) qk rfl (λK hK=>?_);go_simp;rw[<-hW5];refine hK.out _ _ (.inr hS5) (jS ?_);clear hK hW5 hS4;refine yB9 (i:=15) qk rfl (λK hK=>?_);refine stA rfl (apK (apGG ⟨underlying228,_,_,Tryz.infoIti,rfl,qj,qj⟩ yAm) rfl G.w0 (m.take un) [it] rfl rfl (by rw[length_take,Nat.min_eq_left HUN.out]) rfl (HW5.1.stk.take yAm HUN.out) (atG1 yO1 HW5.2) (lN (by rw[length_take];omega)) (by have:=(HW5.1.all HS.out).size;exact this) ?_);intro g' cp' w' hO' hgr hat';have hlen:(m.take un++ [it]).length=un+1:=by rw[length_append,length_take,Nat.min_eq_left HUN.out];rfl
 have HR:Hid (LkL L (at_+1) (m.take un++ [it]) ks/\at_<at_+1/\at_+1<=L.N/\1<=(m.take un++ [it]).length/\(m.take un++ [it]).length<=250):=
  HL.2.next HG.2.1 hN.out (qw HL.1) HX.out (by unfold stepL;rw[iA qo,iA qo,iA qo,iB ho,yZf HL.1 HI.1 HI.2,reverse_append,HIT.out];rfl) (by unfold ways;rw[iA qo,iA qo];simp) (by unfold more;rw[iA qo,iB ho,hlen,<-HL.1];omega)
 have HR2:Hid (MkM G L v0 (m.take un++ [it]) g' cp' ks w'/\un+1=(m.take un++ [it]).length):=
  ⟨HW5.1.grow HS.out hO' (by have:=HW5.1.res.lt;rcases hat' with q|q<;>omega) (Chg.M hgr (λk hk=>by cases hk;rfl)),hlen.symm⟩
 have hr2:=HR.2.2.1;clear hO' hgr hat' hlen hS5;refine hK.out _ _ (.inl qj) (jS ?_);clear hK;refine yB9 (i:=16) qk rfl (λK hK=>?_);go_simp;refine hK.out _ _ (.inl qj) (jS ?_);clear hK;refine yHz qk ?_;refine zY ?_;exact⟨at_+1,un+1,g',cp',m.take un++ [it],ks,hr2,qo,qo,rfl,by go_num,HR2.1,HR2.2,HR.1⟩):p:=h
theorem zMkZ (h:p:=by
 have t0:=HM.stk.z yAm (i:=0) (e:=i) rfl 0 qo;have t1:=HM.stk.z yAm (i:=0) (e:=i) rfl 1 qo;have t2:=HM.stk.z yAm (i:=0) (e:=i) rfl 2 qo;have t3:=HM.stk.z yAm (i:=0) (e:=i) rfl 3 qo;simp only[getElem?_cons_zero,getElem?_cons_succ,Nat.zero_mul,Nat.zero_add]at t0 t1 t2 t3;have m2:=HM.A.z (j:=2) rfl;have e2:=HM.A.frozen 2;have hgm:¬g=G.mb:=qv HM.stk.lt HS.ok.ml
 have hrm:¬L.w.heap.size+1=G.mb:=qo
 have hgr:¬g=L.w.heap.size+1:=qw HM.gsn
 obtain⟨W8,hW8⟩:=qW (xt wr G.mb 2 (xg g 1 cp));have HW8:Hid (yA W8 G.O 230 3 G.mb [xg G.p L.N L.N,xg G.g G.nk G.cap,xg g 1 cp]/\Chg (λq=>q=G.mb) wr W8):=by rw[hW8];exact⟨HM.A.set 2 _,Chg.D _ _ _ _ rfl⟩
 have hr8:=HM.res.i HW8.2 hrm;obtain⟨v1,v2,v3,v4⟩:=hr8.c4;obtain⟨f0,f1,f2,f3⟩:=hr8.f4;have hs8:=HM.stk.i HW8.2 hgm;obtain⟨u0,u1,u2,u3⟩:=And.intro (hs8.z yAm (i:=0) (e:=i) rfl 0 qo) (And.intro (hs8.z yAm (i:=0) (e:=i) rfl 1 qo) (And.intro (hs8.z yAm (i:=0) (e:=i) rfl 2 qo) (hs8.z yAm (i:=0) (e:=i) rfl 3 qo)));simp only[getElem?_cons_zero,getElem?_cons_succ,Nat.zero_mul,Nat.zero_add]at u0 u1 u2 u3;obtain⟨W9,hW9⟩:=qW (setCs W8 (L.w+1) 0 i.four);obtain⟨b9,c9⟩:=xEy hr8 hW9;have HR:Hid (LooP G L v0 (.returned i.v) W9):=by
  have ok:=HS.ok;have hw:=HS.i.size;have h8:=HW8.out;have h9:=ok.ml;have h7:=ok.gl;have hgl:=HM.stk.lt;refine⟨i,ks,xg g 1 cp,HLR.out,rfl,⟨?_,?_,?_,HM.X,HM.cb,h8.1.i c9 (λq=>hrm q.symm),⟨[i],?_⟩⟩,?_,?_⟩
  .exact((HM.all HS.out).trans (h8.2.mono (λq z=>by subst z;exact ok.mS))).absorb c9 (λq z=>.inr qo)
  .exact ok.ti (λq=>q=L.w.heap.size+1) W8 W9 (ok.ti (λq=>q=G.mb) wr W8 HM.ti h8.2 (λq z=>.inr (.inl z))) c9 (λq z=>.inr (.inr qo))
  .exact(HM.ctr.i h8.2 (λq=>ok.gm q)).i c9 qo
  .exact hs8.i c9 hgr
  .exact((HM.i.mono (λq z=>z.elim .inl (λz=>.inr (.inr z)))).trans (h8.2.mono (λq z=>.inr (.inl z)))).absorb c9 (λq z=>.inr qo)
  .rcases HM.gsn with q|q
   .exact .inr ⟨g,rfl,qo⟩
   .exact .inl (by rw[q.1];rfl)
 obtain⟨q0,q1,q2,q3⟩:=b9.c4;simp only[setCs,Nat.zero_add,Nat.reduceAdd]at hW9;clear b9 c9 hr8 hs8;go_upto_region 22 with fail;rw[<-hW8];clear hW8 t0 t1 t2 t3 m2 e2;go_wp2;rw[<-hW9];exact bodyPost_ret (v:=i.v) (by simp[results,results104,go_sem,q0,q1,q2,q3]) rfl (by have h9:=HR.out;rw[HV0.out]at h9;exact h9)):p:=h
theorem yQm(G:MchG)(L:LkG)(v0:Vv)(nc:Nat)(hB:yCc L.l L.cnt nc)(hD:xCl L.l L.d)(hnc:nc<=L.V.length)(cc:Nat)(hN:Hid (L.N=L.l.length))(hC:Hid (L.nC=L.V.length))(hK:(G.nk:Int)=L.cnt)
  (hS:MaOk G L.l) (hI:McI G L.N L.cs0 v0 L.w) (hrow:¬L.c.j=⟨#[]⟩)
  (hcd:∀(i:Nat)(b:Bool),L.V[i]?=some b->∃bc oc,L.ca=some ⟨bc,oc,none⟩/\xk L.w bc (oc+i) b/\bc<L.w.heap.size/\¬bc=G.g/\¬G.T bc/\¬v0.ownBlock=some bc):
  Calls prog 104 #[xp G.mb,L.c.c,.slice L.ca L.nC cc] L.w (LooP G L v0):=by
 obtain⟨m0,a4⟩:=hI.stk;obtain⟨a0,n0,c0,a2⟩:∃a n c,v0=.slice a n c:=by
  rcases a4.cases with⟨q,_⟩|⟨g,cp,q,_⟩
  .exact⟨_,_,_,q⟩
  .exact⟨_,_,_,q⟩
 subst a2;have ai:L.N<=4000:=qv hB.2.1 hN.out
 have HG:=qH4 hB hD hnc hK;have HRow:=qH1 hrow;have HS:Hid (MaS G L (.slice a0 n0 c0)):=by
  refine⟨hS,hI.i,λk hk=>?_⟩;rcases a4.cases with⟨q,_⟩|⟨g,cp,q,hO⟩
  .rw[q]at hk;simp[AB]at hk
  .rw[q]at hk;simp[AB]at hk;subst hk;exact hO.lt
 have a5:RowS L.w G.w0 (.slice a0 0 c0) []:=by
  rcases a4.cases with⟨q,_⟩|⟨g,cp,q,hO⟩
  .cases q;exact⟨rfl,.inl ⟨rfl,rfl⟩⟩
  .cases q;exact hO.take yAm (AC _)
 have c2:=hI.A.z (j:=2) rfl;have ag:=hI.A.lt.2;obtain⟨W1,a1⟩:=qW (xw ((L.w.alloc (Obj.cells #[L.c.j,L.c.E,L.c.C,xu L.c.ts,L.c.val] 70)).alloc (Obj.cells #[false,false,xi 0,xe] 181)) #[true,false,xi 0,xe] 181);have H1:Hid (yA W1 L.w 70 5 L.w L.c.five/\yA W1 L.w 181 4 (L.w+1) (yC5 noH).four/\Below L.w L.w W1/\(∀j u,newI.four[j]?=some u->(xk W1 (L.w+1+1) j u:Prop))/\RowS W1 G.w0 (.slice a0 0 c0) []/\W1.heap.size=L.w.heap.size+1+1+1):=by
  obtain⟨X,hX⟩:=qW (xw L.w #[L.c.j,L.c.E,L.c.C,xu L.c.ts,L.c.val] 70);rw[<-hX]at a1;obtain⟨Y,hY⟩:=qW (xw X #[false,false,xi 0,xe] 181);rw[<-hY]at a1;have zx:=qS hX
  have zy:Y.heap.size=L.w.heap.size+1+1:=by rw[hY];simp;omega
  have k1:=qN hX
  have k2:=qN hY
  have k3:=qN a1
  have k9:=(k1.trans (k2.mono qo)).trans (k3.mono qo);have b1:yA X L.w 70 5 L.w L.c.five:=by rw[hX];exact yAa L.w _ qr rfl
  have b2:yA Y L.w 181 4 (L.w+1) (yC5 noH).four:=by rw[hY,<-zx];exact yAa X _ qo rfl
  exact⟨(b1.k k2).k k3,b2.k k3,k9,by rw[a1,<-zy];exact yEa Y newI.four _,yAh a5 (S:=λ_=>False) (Chg.h k9) (λ_ _ q=>q),by rw[a1];simp;omega⟩
 have HI:=qH1 hI;have a9:=qH1 hcd;clear hB hD hnc hK hS hI hrow hcd a5 a4;go_enter func104,ntmps104;go_wp2_with (at_builtin;(try rw[<-a1]);refine wpA rfl (apGV ⟨underlying228,_,_,Tryz.infoIti,rfl,qj,qj⟩ yAm yO1 rfl G.w0 [] newI rfl rfl rfl H1.2.2.2.2.1 H1.2.2.2.1 (AC _) ?hb ?_));case hb=>have:=HI.i.size;have:=H1.2.2.2.2.2;omega
 intro g' cp' w' hO' hgr hat';have hgr2:W1.grownBy w' (AE a0 0 c0).ownBlock:=by first|exact hgr|(rw[a1];exact hgr)
 have HM:Hid (MkM G L (.slice a0 n0 c0) [newI] g' cp' L.cs0 w'):=by
  obtain⟨b1,b2,k9,_,_,hz⟩:=H1.out;have aa:(AE a0 0 c0).ownBlock=(AE a0 n0 c0).ownBlock:=by cases a0<;>rfl
  rw[aa]at hgr2 hat';have hv:=HS.v0;have hc:=Chg.M hgr2 (λk hk=>hk);have a3:=(Chg.h k9).trans hc;have hi:=HI.out;have ok:=HS.ok;have hw:=HS.i.size;refine⟨b1.i hc (λq=>qw (hv _ q)),b2.i hc (λq=>qw (hv _ q)),hO',?_,?_,?_,hi.X,hi.cb,?_,?_,a3.mono (λk q=>.inr (.inr q))⟩
  .rcases hat' with q|q
   .exact .inr ⟨q,(hv _ q).2⟩
   .exact .inl (by first|omega|(rw[<-a1]at q;omega))
  .exact ok.ti _ L.w w' hi.ti a3 (λq z=>.inr (.inr (hv _ z).1))
  .exact hi.ctr.i a3 (λq=>qv (hv _ q) ok.gl)
  .exact hi.A.i a3 (λq=>qv (hv _ q) ok.ml)
  .intro i b ac;obtain⟨bc,oc,h1,h2,h3,h4,h5,h6⟩:=a9.out i b ac;exact⟨bc,oc,h1,(a3.z (p:=(xd bc (oc+i))) h3 h6).trans h2,h3,h4,h5,h6⟩
 obtain⟨v0,a2⟩:=qE (.slice a0 n0 c0:Vv);rw[<-a2]at HS HM|-;have HV0:=qH1 a2;clear hO' hgr hgr2 hat' a1 H1 HI a9 c2 a2;go_wp2;go_loopw[7,8] (λsv kv wr=>∃(at_ sn g cp:Nat)(m:List It)(ks:List Ctr),at_<=L.N/\1<=sn/\sn<=250/\sv=(xg g sn cp)/\kv=(xi at_)/\Hid (MkM G L v0 m g cp ks wr/\sn=m.length/\LkL L at_ m ks)) (λ_ kv _=>L.N-(intOf kv).toNat);case atStart=>exact⟨0,1,g',cp',[newI],L.cs0,AC _,AA _,qo,rfl,rfl,HM.out,rfl,HG.2.1.start.symm,AC _,λr h=>h⟩
 case round=>
  clear HM;obtain⟨at_,sn,g,cp,m,ks,af,hs1,hs2,rfl,rfl,HJ⟩:=hrel;have ak:=HJ.1.A.z (j:=0) rfl;by_cases hlt:at_<L.N
  .obtain⟨x,hx⟩:∃x,L.l[at_]?=some x:=qg (qw hN.out);obtain⟨y0,y1,y2⟩:=HJ.1.step HS.out hx;have HX:=qH1 hx;clear hx;have z:(at_:Int)<(L.N:Int):=qo
   have HL:=qH1 HJ.2;have a8:=yCf HG.1 HX.out;have hle:=HL.2.least HG.2.1 (qw HL.1) HX.out;rw[<-HL.1]at hle;rw[<-hN.out]at a8;rcases a8 with⟨ho,ah,ae,aj⟩|⟨ho,a6,ha0,ha1,ab,ad⟩|⟨ho,a6,ha0,ab,ad⟩|⟨ho,a6,ha0,ae⟩
   .as_aux_lemma=>exact zMkL
   .as_aux_lemma=>exact zMkB
   .as_aux_lemma=>exact zMkJ
   .obtain⟨tn,rfl⟩:∃tn,sn=tn+1:=⟨sn-1,qo⟩;rcases ho with ho|ho|ho
    .as_aux_lemma=>exact zMkD
    .as_aux_lemma=>exact zMkS
    .as_aux_lemma=>exact zMkI
  .have z:¬(at_:Int)<(L.N:Int):=qo
   have a7:m.length=1:=by
    have h1:=HJ.2.2.1;have h2:at_=L.l.length:=qw hN.out
    rw[h2,HG.2.1.last]at h1;exact h1
   obtain⟨i,rfl⟩:∃i,m= [i]:=List.length_eq_one_iff.1 a7;obtain rfl:sn=1:=HJ.2.1;have HLR:=qH1 (HJ.2.2.2.2 _ (.fin (by have:=hN.out;show¬at_<_;omega) rfl));have HM:=qH1 HJ.1;clear HJ a7 af hlt;as_aux_lemma=>exact zMkZ
variable {es:List Ent}
theorem yWt(hc:∀e∈es,yAf (putE c) (putE e)= -1)(ho:es.Pairwise λa b=>yAf (putE a) (putE b)= -1)
  (i j:Nat) ei ej (hij:i<=j) (hi:es[i]?=some ei) (hj:es[j]?=some ej) (hs:yAy h c ej=true):yAy h c ei=true:=by
 obtain⟨li,rfl⟩:=List.getElem?_eq_some_iff.1 hi;obtain⟨lj,rfl⟩:=List.getElem?_eq_some_iff.1 hj;refine yWm (LeC.of_key (hc _ (getElem_mem li))) ?_ hs;by_cases e:i=j
 .subst e;exact LeC.refl _
 .exact LeC.of_key (List.pairwise_iff_getElem.1 ho i j li lj qo)
structure LfJ(w:Ww)(n:Nd)(b off cap:Nat)(es:List Ent)(g cp:Nat)(L:List Ent)(wr:Ww):Prop where
 Z:OwnC wr w g cp L
 A:yA wr w 83 7 w n.seven
 j:CSl wr b off cap es
 low:b<w.heap.size
 k:Below w w wr
variable {w:Ww} {b cap:Nat}
theorem LfJ.set{X:Ww}(h:LfJ w n b off cap es g cp L X){k:Nat}(hk:w.heap.size<k)(hg:¬g=k)(j:Nat)(u:Vv):LfJ w n b off cap es g cp L (xt X k j u):=by have hc:Chg (λq=>q=k) X (xt X k j u):=Chg.D _ _ _ _ rfl;have a0:=h.low;have hs:=h.k.size;exact⟨yAh h.Z hc (λq z=>by simp[AB]at z;subst z;exact hg),h.A.i hc qo,h.j.i hc (by omega),a0,Chg.k h.k hc hs (λq z=>by omega)⟩
def yDj(es:List Ent)(i k:Nat):Bool:=(es[k]?.map λx=>x.j.toList)==(es[i]?.map λx=>x.j.toList)
def yL8(es:List Ent)(i:Nat):Nat->Nat->Nat
 |0,j=>j
 |f+1,j=>if j<es.length then(if yDj es i j then yL8 es i f (j+1)else j)else j
def rEnd(es:List Ent)(i:Nat):Nat:=yL8 es i (es.length-i) i
structure yF8(es:List Ent)(i j:Nat):Prop where
 lt:i<j
 le:j<=es.length
 same:∀k,i<=k->k<j->yDj es i k=true
 other:j<es.length->yDj es i j=false
variable {j:Nat}
theorem yVc{i:Nat}(h:yF8 es i j):∀(f k:Nat),i<=k->k<=j->j-k<=f->yL8 es i f k=j
 |0,k,_,hk,hf=>by unfold yL8;omega
 |f+1,k,h1,hk,hf=>by
  unfold yL8
  by_cases hkj:k=j
  .subst hkj
   by_cases hl:k<es.length
   .rw[iB hl,h.other hl];rfl
   .rw[iA hl]
  .have hlt:k<j:=qo
   rw[iB (qw h.le),h.same k h1 hlt,iB rfl]
   exact yVc h f (k+1) qo qo qo
theorem xHn{i:Nat}(h:yF8 es i j):rEnd es i=j:=yVc h _ i qr (AF h.lt) (qw h.le)
def yJn(es:List Ent):Nat->Nat->List (Nat×Nat)
 |0,_=> []
 |f+1,i=>if i<es.length then(i,rEnd es i)::yJn es f (rEnd es i)else []
def allC(es:List Ent)(i:Nat):List (Nat×Nat):=yJn es (es.length-i) i
theorem yNi(hE:∀i,i<es.length->i<rEnd es i):∀(f g i:Nat),es.length-i<=f->es.length-i<=g->yJn es f i=yJn es g i
 |0,0,i,_,_=>rfl
 |0,g+1,i,h1,_|f+1,0,i,_,h2=>by unfold yJn;rw[iA qo]
 |f+1,g+1,i,h1,h2=>by
  unfold yJn
  by_cases hi:i<es.length
  .rw[iB hi,iB hi]
   have:=hE i hi
   rw[yNi hE f g (rEnd es i) qo qo]
  .rw[iA hi,iA hi]
theorem yVb es (i:Nat):∀(f k:Nat),k<=yL8 es i f k
 |0,k=>AA _
 |f+1,k=>by
  unfold yL8
  split
  .split
   .exact Nat.le_trans (le_succ k) (yVb es i f (k+1))
   .exact AA _
  .exact AA _
theorem yZg{i:Nat}(hi:i<es.length):i<rEnd es i:=by unfold rEnd;obtain⟨f,hf⟩:∃f,es.length-i=f+1:=⟨es.length-i-1,qo⟩;rw[hf];unfold yL8;rw[iB hi,show yDj es i i=true by simp[yDj],iB rfl];exact yVb es i f (i+1)
theorem yF4{i:Nat}(h:yF8 es i j):allC es i=(i,j)::allC es j:=by
 have hi:i<es.length:=qv h.lt h.le
 unfold allC;obtain⟨f,hf⟩:∃f,es.length-i=f+1:=⟨es.length-i-1,qo⟩;rw[hf];conv=>lhs;unfold yJn
 rw[iB hi,xHn h];rw[yNi (λi hi=>yZg hi) f (es.length-j) j (qw h.lt) qr]
theorem yEv{i:Nat}(h:es.length<=i):allC es i= []:=by unfold allC;rw[show es.length-i=0 by omega];rfl
def segE(es:List Ent)(p:Nat×Nat):List Ent:=(es.take p.2).drop p.1
theorem CSl.seg(h:CSl w b off cap es){i:Nat}(hij:i<=j)(hj:j<=es.length):CSl w b (off+i*5) (cap-i) (segE es (i,j)):=(h.take hj).drop (by rw[length_take];omega)
theorem yJs{i:Nat}(hj:j<=es.length):(segE es (i,j)).length=j-i:=by unfold segE;rw[length_drop,length_take];simp only;omega
def segV(b off cap:Nat)(p:Nat×Nat):Vv:=(xy b (off+p.1*5) (p.2-p.1) (cap-p.1))
def yGq(w:Ww)(O g cp:Nat)(us:List Vv):Prop:=w.ownsRow O 26 1 (xg g us.length cp) us.length us
variable {O:Nat} {us:List Vv}
theorem yGq.lt(h:yGq w O g cp us):O<=g/\g<w:=World.ownsRow.lt h g rfl
variable {w':Ww}
theorem yGq.k(h:yGq w O g cp us)(hb:Below w w w'):yGq w' O g cp us:=yAh h (Chg.h hb) (S:=λ_=>False) (λk q z=>z)
theorem yGq.z(h:yGq w O g cp us)(hv:us[j]?=some v):(xk w g j v:Prop):=by have:=World.ownsRow.cellAt h j (by have:=qf hv;omega);rw[this,hv]
theorem yZu(w:Ww)(hb:O<=w):yGq (xw w #[] 26) O w 0 []:=
 World.ownsRow_made w #[] 0 hb (AC _) (by simp)
theorem Tryz.infoCs:(prog.info? 26).map (λi=>(i.zero,i.size,i.bytes))=some (some (.slice none 0 0),1,24):=qk
theorem apCs:ApT 185 26 1 (λl=>l) yGq AtV:=apTV ⟨underlying185,_,_,Tryz.infoCs,rfl,qj,qj⟩ Iff.rfl
theorem yTc(h:CSl w b off cap es)(hl:es.length<=1048576):Calls prog 107 #[(xy b off es.length cap)] w λe w'=>∃g cp,e=.returned (xg g (allC es 0).length cp)/\yGq w' w g cp ((allC es 0).map (segV b off cap))/\Below w w w':=by
 have⟨N,hN⟩:=qE es.length;have HL:=qH2 h hN;have am:N<=cap:=hN▸h.X
 have al:cap<=9223372036854775807:=by have:=h.cap;unfold maxLen at this;omega
 have⟨A,hA⟩:=qE (allC es 0);have HA:=qH1 hA;rw[<-hN,<-hA];rw[<-hN]at hl;have a9:Hid (yGq (xw w #[] 26) w w 0 []/\Below w w (xw w #[] 26)):=⟨yZu w qr,qB⟩;clear h hN hA;go_enter func107,ntmps107;go_wp2;go_loopw[3,4] (λo iv wr=>∃(i g cp m:Nat),i<=N/\iv=(xi i)/\o=(xg g m cp)/\m<=i/\Hid (∃P,A=P++allC es i/\m=P.length/\yGq wr w g cp (P.map (segV b off cap))/\Below w w wr)) (λ_ iv _=>N-(intOf iv).toNat);case atStart=>exact⟨0,w,0,0,AC _,rfl,rfl,AA _,[],HA.out,rfl,a9.1,a9.2⟩
 case round=>
  obtain⟨i,g,cp,m,ak,rfl,rfl,ai,HJ⟩:=hrel;by_cases hlt:i<N
  .have zi:(i:Int)<(N:Int):=qo
   obtain⟨c,hc⟩:∃c,es[i]?=some c:=qg (qw HL.2);have aa:=qH1 hc;have⟨P,hP⟩:=HJ.out;have HP:=qH1 hP;clear hP HJ hc;obtain⟨wo,ac⟩:=qW wr;subst ac;go_wp2;go_loopw[5] (λjv wx=>∃j:Nat,i<=j/\j<=N/\jv=(xi j)/\Hid ((∀k,i<=k->k<j->yDj es i k=true)/\Below wo wo wx)) (λjv _=>N-(intOf jv).toNat);case atStart=>exact⟨i,AA _,qo,rfl,λk h1 h2=>qo,Below.refl _ _⟩
   case round=>
    obtain⟨j,hij,aj,rfl,HQ⟩:=hrel;have ab:=qH1 (HP.2.2.2.trans (HQ.2.mono HP.2.2.2.size));by_cases hjl:j<N
    .have zj:(j:Int)<(N:Int):=qo
     obtain⟨x,hx⟩:∃x,es[j]?=some x:=qg (qw HL.2);have f0:=((HL.1.k ab.out).U j x hx).1;have f1:=((HL.1.k ab.out).U i c aa.out).1;have a1:(λw':Ww=>xk w' b (off+j*5) x.j/\xk w' b (off+i*5) c.j) wr.drew:=⟨f0,f1⟩;have a0:=qH1 (HQ.2.trans (((Below.refl _ _).drew).mono HQ.2.size));have a8:Hid (yDj es i j=(x.j.toList==c.j.toList)):=by show yDj es i j=_;unfold yDj;rw[hx,aa.out];rfl
     clear f0 f1 hx;cases hr:(x.j.toList==c.j.toList)
     .have HE:Hid (yF8 es i j):=by
       have h0:=a8.out;rw[hr]at h0;have ah:¬i=j:=λq=>by subst q;rw[show yDj es i i=true by simp[yDj]]at h0;cases h0
       exact⟨qo,by rw[<-HL.2];omega,HQ.1,λ_=>h0⟩
      go_upto_region 5 with fail;refine yAe 99 (λw':Ww=>xk w' b (off+j*5) x.j/\xk w' b (off+i*5) c.j) qk ?_;refine ja 0 a1 ?_;iterate 16 refine jb a1 ?_
      refine qD ?_;have HX:Hid (A=(P++ [(i,j)])++allC es j):=by show _=_;rw[HP.1,yF4 HE.out];simp
      have ae:=hij;have a7:Hid (m=(P.map (segV b off cap)).length):=by rw[length_map];exact HP.2.1
      have a3:=HP.2.2.2.size;have ad:=HP.2.2.1.lt;have af:=a0.size;go_wp2_with (at_builtin;refine wpA rfl (apK apCs rfl w (P.map (segV b off cap)) [segV b off cap (i,j)] rfl rfl a7.out rfl ?hO (atV1 ?hc ?hy) (lN ?hl) ?hb ?_));case hO=>exact(HP.2.2.1.k a0.out).k (qB)
      case hc=>simp[go_sem,segV]
      case hy=>rfl
      case hl=>(have h9:=HP.2.1;simp;omega)
      case hb=>exact AH (HP.2.2.2.trans (a0.mono a3)).size
      intro g' a5 w' a4 a2 a6;exact zzU2
     .have ag:Hid (∀k,i<=k->k<j+1->yDj es i k=true):=λk h1 h2=>by
       by_cases hk:k=j
       .rw[hk,a8.out];exact hr
       .exact HQ.1 k h1 (by omega)
      go_upto_region 5 with fail;refine yAe 99 (λw':Ww=>xk w' b (off+j*5) x.j/\xk w' b (off+i*5) c.j) (by kernel_rfl) ?_;refine ja 0 a1 ?_;iterate 16 refine jb a1 ?_
      refine qD ?_;go_wp2;go_roundw;case rel=>exact⟨j+1,by omega,by omega,by go_num,ag.out,a0.out⟩
      case measure=>go_light;simp[intOf];omega
    .obtain rfl:j=N:=by omega
     have zj:¬(j:Int)<(j:Int):=by omega
     have a0:Hid (Below wo wo wr.drew):=HQ.2.trans (((Below.refl _ _).drew).mono HQ.2.size);have HE:Hid (yF8 es i j):=⟨hlt,by rw[<-HL.2];omega,HQ.1,λq=>by rw[<-HL.2]at q;omega⟩;have a1:(λ_:Ww=>True) wr.drew:=trivial;go_upto_region 5 with fail;refine yAe 99 (λ_:Ww=>True) (by kernel_rfl) ?_;refine ja 0 a1 ?_;iterate 16 refine jb a1 ?_
     refine qD ?_;have HX:Hid (A=(P++ [(i,j)])++allC es j):=by show _=_;rw[HP.1,yF4 HE.out];simp
     have ae:i<=j:=hij;have a7:Hid (m=(P.map (segV b off cap)).length):=by rw[length_map];exact HP.2.1
     have a3:=HP.2.2.2.size;have ad:=HP.2.2.1.lt;have af:=a0.size;go_wp2_with (at_builtin;refine wpA rfl (apK apCs rfl w (P.map (segV b off cap)) [segV b off cap (i,j)] rfl rfl a7.out rfl ?hO (atV1 ?hc ?hy) (lN ?hl) ?hb ?_));case hO=>exact(HP.2.2.1.k a0.out).k (qB)
     case hc=>simp[go_sem,segV]
     case hy=>rfl
     case hl=>(have h9:=HP.2.1;simp;omega)
     case hb=>exact AH (HP.2.2.2.trans (a0.mono a3)).size
     intro g' a5 w' a4 a2 a6;exact zzU2
  .obtain rfl:i=N:=by omega
   have zi:¬(i:Int)<(i:Int):=by omega
   obtain⟨P,hP⟩:=HJ.out;have HE:Hid (A=P/\m=P.length/\yGq wr w g cp (P.map (segV b off cap))/\Below w w wr):=⟨by rw[hP.1,yEv (by rw[<-HL.2];omega),append_nil],hP.2⟩;clear hP HJ;go_wp2;go_ret;refine⟨g,cp,?_,?_,HE.2.2.2⟩
   .rw[HE.1,<-HE.2.1];rfl
   .rw[HE.1];exact HE.2.2.1
theorem yRl es:∀(f i:Nat),(yJn es f i).length<=f
 |0,i=>AA _
 |f+1,i=>by
  unfold yJn
  split
  .have:=yRl es f (rEnd es i)
   simp
   omega
  .simp
theorem yVa(es:List Ent)(i:Nat):∀(f k:Nat),k<=es.length->yL8 es i f k<=es.length
 |0,k,h=>h
 |f+1,k,h=>by
  unfold yL8
  split
  .split
   .exact yVa es i f (k+1) qo
   .exact h
  .exact h
theorem yRk(es:List Ent):∀(f i:Nat)(p:Nat×Nat),p∈yJn es f i->p.1<=p.2/\p.2<=es.length
 |0,i,p,h=>by simp[yJn]at h
 |f+1,i,p,h=>by
  unfold yJn at h
  split at h
  .rename_i hi
   rcases mem_cons.1 h with rfl|h
   .exact⟨AF (yZg hi),yVa es i _ i (AF hi)⟩
   .exact yRk es f _ p h
  .simp at h
def RowC(w:Ww)(O:Nat)(v:Vv)(es:List Ent):Prop:=w.ownsRow O 70 5 v es.length (yEt es)
theorem RowC.cases(h:RowC w O v es):(v=xh/\es= [])\/∃g cp,v=(xg g es.length cp)/\OwnC w O g cp es:=by
 rcases h.2 with⟨h0,h1⟩|⟨g',a0,cur,hv,rest⟩
 .refine .inl ⟨h0,?_⟩;have:es.length=0:=h1;exact length_eq_zero_iff.1 this
 .subst hv;exact .inr ⟨g',a0,rfl,h⟩
theorem xDf(w:Ww)(O:Nat):RowC w O xh []:=⟨rfl,.inl ⟨rfl,rfl⟩⟩
theorem RowC.i(h:RowC w O v X)(hc:Chg S w w')(hn:∀k,v.ownBlock=some k->¬S k):RowC w' O v X:=yAh h hc hn
theorem RowC.k(h:RowC w O v X)(hb:Below w w w'):RowC w' O v X:=h.i (S:=λ_=>False) (Chg.h hb) (λ_ _ q=>q)
theorem RowC.blk(h:RowC w O v X){k:Nat}(hk:v.ownBlock=some k):O<=k/\k<w.heap.size:=by exact xFb
theorem yJu(hk:∀e∈es,e.f=0):es.map putE=es:=by
 conv=>rhs;rw[<-map_id es]
 refine map_congr_left λe he=>?_;have:=hk e he;cases e
 simp only[putE,id]at*;subst this;rfl
structure RwI2(p b off cap:Nat)(es:List Ent)(W:Ww):Prop where
 A:(xk W p 0 (xy b off es.length cap):Prop)
 sl:CSl W b off cap es
theorem xDc(es:List Ent)(p b off cap:Nat)(hN0:es.length<=10000)(l m:Nat)(hm:1<=m)(J:Nat->Ww->Prop)
  (hY:∀i j W,J i W->yF8 es i j->YieldAt Fence.wide (m-1) prog l #[segV b off cap (i,j)] W λe W'=>e=.returned true/\J j W')
  (hJd:∀k W,J k W->J k W.drew) (hJr:∀k W,J k W->RwI2 p b off cap es W) (W:Ww) (h0:J 0 W):
  CallsIn Fence.wide m prog 199 #[.func (.yield l) #[] #[],xp p] W λe W'=>(∃v,e=.returned v)/\J es.length W':=by
 have⟨N,hN⟩:=qE es.length;have HN:Hid (N=es.length):=hN;have a8:Hid (J 0 W):=h0;have HR:Hid (∀k W,J k W->xk W p 0 (xy b off N cap)/\CSl W b off cap es):=λk W h=>hN▸⟨(hJr k W h).A,(hJr k W h).sl⟩
 have a6:=(hJr 0 W h0).sl.X;have ab:cap<=9223372036854775807:=by have:=(hJr 0 W h0).sl.cap;unfold maxLen at this;omega
 have HY:Hid (∀i j W,J i W->yF8 es i j->YieldAt Fence.wide (m-1) prog l #[segV b off cap (i,j)] W λe W'=>e=.returned true/\J j W'):=hY;rw[<-hN]at hN0 a6|-;clear hN h0 hJr hY;refine callsIn_of_wp func199 rfl trivial ?_ rfl;simp only[ntmps199,size_toArray,length_cons,length_nil,Nat.reduceAdd,Nat.reduceSub,Array.replicate_succ,Array.replicate_zero,push_toArray,append_toArray,nil_append,cons_append];gi_wp2;gi_loopw [3] (λiv wr=>∃i:Nat,i<=N/\iv=(xi i)/\Hid (J i wr)) (λiv _=>N-(intOf iv).toNat);case atStart=>exact⟨0,AC _,rfl,a8.out⟩
 case round=>
  obtain⟨i,aa,rfl,HJ⟩:=hrel;have x0:=(HR.out i wr HJ.out).1;by_cases hlt:i<N
  .have zi:(i:Int)<(N:Int):=by omega
   obtain⟨c,hc⟩:∃c,es[i]?=some c:=qg (qw HN.out);have a3:Hid (es[i]?=some c):=hc;obtain⟨wo,a4⟩:=qW wr;subst a4;gi_wp2;clear x0;gi_loopw [4] (λjv wx=>∃j:Nat,i<j/\j<=N/\jv=(xi j)/\Hid ((∀k,i<=k->k<j->yDj es i k=true)/\J i wx)) (λjv _=>N-(intOf jv).toNat);case atStart=>exact⟨i+1,by omega,by omega,by go_num,λk h1 h2=>by rw[show k=i by omega];simp[yDj],HJ.out⟩
   case round=>
    obtain⟨j,hij,a9,rfl,HQ⟩:=hrel;have a1:=HR.out i wr HQ.2;by_cases hjl:j<N
    .have zj:(j:Int)<(N:Int):=qo
     obtain⟨x,hx⟩:∃x,es[j]?=some x:=qg (qw HN.out);have f0:=(a1.2.U j x hx).1;have f1:=(a1.2.U i c a3.out).1;have a0:SW (λw':Ww=>xk w' p 0 (xy b off N cap)/\xk w' b (off+j*5) x.j/\xk w' b (off+i*5) c.j) wr.drew:=⟨a1.1,f0,f1⟩;have HJd:=qH1 (hJd _ _ HQ.2);have a2:Hid (yDj es i j=(x.j.toList==c.j.toList)):=by show yDj es i j=_;unfold yDj;rw[hx,a3.out];rfl
     clear f0 f1 hx a1;cases hr:(x.j.toList==c.j.toList)
     .have HE:Hid (yF8 es i j):=by have h0:=a2.out;rw[hr]at h0;exact⟨hij,by rw[<-HN.out];omega,HQ.1,λ_=>h0⟩
      gi_wp2;refine AG.2 ?_;refine AD ?_;refine wpR 99 a0 ?_;refine ja 0 a0 ?_;iterate 16 refine jb a0 ?_
      refine qD ?_;dsimp only[AI];clear a0;exact xKj
     .have a7:Hid (∀k,i<=k->k<j+1->yDj es i k=true):=λk h1 h2=>by
       by_cases hk:k=j
       .rw[hk,a2.out];exact hr
       .exact HQ.1 k h1 qo
      gi_wp2;refine AG.2 ?_;refine AD ?_;refine yAe 99 (λw':Ww=>xk w' p 0 (xy b off N cap)/\xk w' b (off+j*5) x.j/\xk w' b (off+i*5) c.j) (by kernel_rfl) ?_;refine ja 0 a0 ?_;iterate 16 refine jb a0 ?_
      refine qD ?_;dsimp only[AI];clear a0;gi_wp2;go_roundw;case rel=>exact⟨j+1,by omega,by omega,by go_num,a7.out,HJd.out⟩
      case measure=>simp[intOf];omega
    .have zj:¬(j:Int)<(N:Int):=by omega
     have hd:decide ((j:Int)<(N:Int))=false:=by simp;omega
     have HE:Hid (yF8 es i j):=⟨hij,by rw[<-HN.out];omega,HQ.1,λq=>by rw[<-HN.out]at q;omega⟩;have HJd:Hid (J i wr.drew):=hJd _ _ HQ.2;have a0:SW (λw':Ww=>xk w' p 0 (xy b off N cap)) wr.drew:=a1.1;clear a1;gi_wp2;refine AG.2 ?_;refine AD ?_;refine wpR 99 a0 ?_;refine ja 0 a0 ?_;iterate 16 refine jb a0 ?_
     refine qD ?_;dsimp only[AI];clear a0 zj hd;exact xKj
  .have a5:i=N:=by omega
   have zi:¬(i:Int)<(N:Int):=by omega
   have HF:Hid (J N wr):=by rw[<-a5];exact HJ.out
   clear HJ;gi_wp2;go_end0;exact⟨⟨_,rfl⟩,HF.out⟩
end Go.Proofs.YtnnagkfoiganfaaGreatDoor
