import Derived.Test.YtnnagkfoiganfaaGreatDoorRkAK
import Derived.Test.YtnnagkfoiganfaaGreatDoorRkAJ
namespace Go.Proofs.YtnnagkfoiganfaaGreatDoor
open Go.ChangeShapes Go.WideShapes Go.ChangeAt Go.RowKit Go.Deep XD XI XU XG XP XK XW XT XF XE XH _root_.List _root_.Nat Go.Proofs.Tryz
set_option linter.unusedVariables false
set_option linter.unusedSimpArgs false
set_option maxRecDepth 100000
set_option maxHeartbeats 40000000
variable {p:Prop}
theorem zMkB (h:p:=by
 obtain⟨an,han⟩:∃an:Nat,x.a=(an:Int):=⟨x.a.toNat,qo⟩;obtain⟨bv,hbv⟩:∃bv,L.conds[an]?=some bv:=qg (qw HG.2.2.1);obtain⟨bc,oc,hca,hcc,-,-⟩:=HJ.1.cnd an bv hbv;have hnc:(an:Int)<(L.nC:Int):=qv HG.2.2.1 hC.out
 have HBV:Hid (L.conds[x.a.toNat]?=some bv):=by show _=_;rw[han];simpa using hbv
 rw[han]at y1;rw[ho]at y0;have HCA:=qH1 hca;rw[hca];clear hbv ha0 ha1 hca;have zb:((x.b.toNat:Nat):Int)=x.b:=qo
 cases bv
 .have HR:Hid (LkL L x.b.toNat m ks/\at_<x.b.toNat/\x.b.toNat<=L.N/\1<=m.length/\m.length<=250):=
   HL.2.next HG.2.1 hN.out (qw HL.1) HX.out (by unfold stepL;rw[if_neg qo,if_neg qo,if_neg qo,if_neg qo,if_pos ho,if_pos HBV.out]) (by unfold ways;rw[if_pos ho];simp) (by unfold more;rw[if_neg qo,if_neg qo];omega)
  have hr1:=HR.2.1;have hr2:=HR.2.2.1;go_wp2_with fail;(try rw[<-HCA.out]);exact xCr
 .have HR:Hid (LkL L (at_+1) m ks/\at_<at_+1/\at_+1<=L.N/\1<=m.length/\m.length<=250):=
   HL.2.next HG.2.1 hN.out (qw HL.1) HX.out (by unfold stepL;rw[if_neg qo,if_neg qo,if_neg qo,if_neg qo,if_pos ho,if_neg (by rw[HBV.out];simp)]) (by unfold ways;rw[if_pos ho];simp) (by unfold more;rw[if_neg qo,if_neg qo];omega)
  have hr2:=HR.2.2.1;go_wp2_with fail;(try rw[<-HCA.out]);go_roundw;case rel=>exact⟨at_+1,sn,g,cp,m,ks,hr2,hs1,hs2,rfl,by go_num,HJ.1,HL.1,HR.1⟩
  case measure=>simp[intOf];omega):p:=h
theorem zMkJ (h:p:=by
 have zb:((x.b.toNat:Nat):Int)=x.b:=qo
 have HR:Hid (LkL L x.b.toNat m ks/\at_<x.b.toNat/\x.b.toNat<=L.N/\1<=m.length/\m.length<=250):=
  HL.2.next HG.2.1 hN.out (qw HL.1) HX.out (by unfold stepL;rw[if_neg qo,if_neg qo,if_neg qo,if_neg qo,if_neg qo,if_pos ho]) (by unfold ways;rw[if_neg qo,if_pos ho];simp) (by unfold more;rw[if_neg qo,if_neg qo];omega)
 rw[ho]at y0;have hr1:=HR.2.1;have hr2:=HR.2.2.1;go_wp2_with fail;exact xCr):p:=h
theorem zMkD (h:p:=by
 obtain⟨i,hi⟩:∃i,m[tn]?=some i:=qg (qw HL.1);rw[ho]at y0;have t0:=HJ.1.stk.cell yAd hi 0 qo;have t1:=HJ.1.stk.cell yAd hi 1 qo;have t2:=HJ.1.stk.cell yAd hi 2 qo;have t3:=HJ.1.stk.cell yAd hi 3 qo;simp only[getElem?_cons_zero,getElem?_cons_succ,Nat.add_zero]at t0 t1 t2 t3;obtain⟨W3,hW3⟩:=qW (xw wr #[i.alive,i.strip,xi i.hint.rank,i.hint.txt] 181);have HW3:Hid (MkM G L v0 m g cp ks W3/\(∀j u,i.four[j]?=some u->(xk W3 wr j u:Prop))):=by
  have hb3:=qN hW3
  exact⟨HJ.1.on HS.out hb3,by rw[hW3];exact yBm wr i.four _⟩
 have HI:=qH1 hi;have hgl:=HW3.1.stk.lt;have z3:=qS hW3
 clear hi;go_wp2_with (at_builtin;(try rw[<-hW3]);refine yDb yAd _ rfl _ _ 228 rfl underlying228 Tryz.infoIti rfl qj qj yG2 G.w0 g cp (tn+1) wr 1 m i rfl rfl HL.1 HW3.1.stk HW3.2 ?hl ?hb ?_);case hl=>rw[<-HL.1];omega
 case hb=>have:=(HW3.1.all HS.out).size;exact this
 intro g' cp' w' hO' hgr hat';have hgr2:W3.grownBy w' (some g):=by first|exact hgr|(rw[hW3];exact hgr)
 have HR:Hid (LkL L (at_+1) (m++ [i]) ks/\at_<at_+1/\at_+1<=L.N/\1<=(m++ [i]).length/\(m++ [i]).length<=250):=
  HL.2.next HG.2.1 hN.out (qw HL.1) HX.out (by unfold stepL;rw[if_neg qo,if_pos ho,reverse_append,yDr HL.1 HI.out];rfl) (by unfold ways;rw[if_neg qo,if_neg qo];simp) (by unfold more;rw[if_pos ho];simp)
 have HR2:Hid (MkM G L v0 (m++ [i]) g' cp' ks w'/\tn+1+1=(m++ [i]).length):=
  ⟨HW3.1.grow HS.out hO' (by have:=HW3.1.res.lt;rcases hat' with q|q<;>omega) (Chg.of_grown hgr2 (λk hk=>by cases hk;rfl)),by rw[length_append,<-HL.1];rfl⟩
 have hr2:=HR.2.2.1;have hr3:tn+1+1<=250:=qv HR.2.2.2.2 HR2.2
 clear hO' hgr hgr2 hat' hW3;refine zY ?_;exact⟨at_+1,tn+1+1,g',cp',m++ [i],ks,hr2,qo,hr3,rfl,by go_num,HR2.1,HR2.2,HR.1⟩):p:=h
theorem zMkL (h:p:=by
 obtain⟨tn,rfl⟩:∃tn,sn=tn+1:=⟨sn-1,qo⟩;obtain⟨i,hi⟩:∃i,m[tn]?=some i:=qg (qw HL.1);rw[ho]at y0;have HI:=qH1 hi;have HSS:Hid (∀(X:World)(ks:List Ctr),MkM G L v0 m g cp ks X->(λw':World=>xk w' g (tn*4) i.alive/\xk w' g (tn*4+1) i.strip/\xk w' g (tn*4+2) (xi i.hint.rank)/\xk w' g (tn*4+3) i.hint.txt/\xk w' L.w 0 L.c.row/\xk w' L.w 1 L.c.fam/\xk w' L.w 2 L.c.qual/\xk w' L.w 3 (xu L.c.ts)/\xk w' L.w 4 L.c.val) X):=λX ks h1=>
  ⟨h1.stk.cell yAd hi 0 qo,h1.stk.cell yAd hi 1 qo,h1.stk.cell yAd hi 2 qo,h1.stk.cell yAd hi 3 qo,h1.cel.cell (j:=0) rfl,h1.cel.cell (j:=1) rfl,h1.cel.cell (j:=2) rfl,h1.cel.cell (j:=3) rfl,h1.cel.cell (j:=4) rfl⟩
 have HD:=qH1 (HJ.1.on HS.out ((Below.refl _ _).drew));have hS0:=HSS.out wr.drew ks HD.out
 have HLf:Hid (Calls prog 156 #[.pointer (some ⟨G.p,at_*13,none⟩),.agg #[i.alive,i.strip,xi i.hint.rank,i.hint.txt],.agg #[L.c.row,L.c.fam,L.c.qual,xu L.c.ts,L.c.val]] wr.drew (LfQ G x L.c i ks wr.drew)):=
  HS.ok.leaf at_ x i L.c ks wr.drew HX.out ho (HD.all HS.out) HD.ti HD.ctr HD.len HD.cb HRow.out
 obtain⟨iz,hiz⟩:=qE ((leafI pfxB x L.c i ks).1);obtain⟨kz,hkz⟩:=qE ((leafI pfxB x L.c i ks).2);have HIZ:=qH2 hiz hkz
 have HR:Hid (LkL L (at_+1) (m.set tn iz) kz/\at_<at_+1/\at_+1<=L.N/\1<=(m.set tn iz).length/\(m.set tn iz).length<=250):=
  HL.2.next HG.2.1 hN.out (qw HL.1) HX.out (by
   rw[yFm ho (yDr HL.1 HI.out),yNe HL.1,hiz,hkz]) (by unfold ways;rw[if_neg qo,if_neg qo];simp) (by unfold more;rw[if_neg qo,if_neg qo,length_set];omega)
 have hr2:=HR.2.2.1;have hgl:=HJ.1.stk.lt.2;have zt:(tn:Int)<(tn:Int)+1:=qo
 clear hi hiz hkz;go_upto_region 9 with fail;refine yCq [10] (λw':World=>xk w' g (tn*4) i.alive/\xk w' g (tn*4+1) i.strip/\xk w' g (tn*4+2) (xi i.hint.rank)/\xk w' g (tn*4+3) i.hint.txt/\xk w' L.w 0 L.c.row/\xk w' L.w 1 L.c.fam/\xk w' L.w 2 L.c.qual/\xk w' L.w 3 (xu L.c.ts)/\xk w' L.w 4 L.c.val) qk ?_;refine txa 0 hS0 ?_;iterate 7 refine txb hS0 ?_
 refine yA3 (i:=8) qk rfl (λK hK=>?_);go_simp;refine HLf.mono ?_;rintro e w4 ⟨rfl,H4⟩;rw[<-HIZ.1];have HW4:Hid (MkM G L v0 m g cp kz w4):=by obtain⟨k1,k2,k3,k4⟩:=H4.out;rw[<-HIZ.2]at k1 k2;exact HD.leaf HS.out k1 (by rw[HIZ.2];exact yZe _ _ _ _ _) k2 k3 k4
 have hS4:=HSS.out w4 kz HW4.out;clear H4 HLf HD hS0;refine hK.out _ _ (.inr hS4) ?_;clear hK;refine jS ?_;refine txb hS4 ?_;obtain⟨d0,d1,d2,d3,-,-,-,-,-⟩:=hS4;have fz:∀k,w4.frozen? (xd g k)=false:=λk=>World.ownsRow.frozenAt HW4.stk k;have g0:=fz (tn*4);have g1:=fz (tn*4+1);have g2:=fz (tn*4+2);have g3:=fz (tn*4+3);obtain⟨W5,hW5⟩:=qW (setCs w4 g (tn*4) iz.four);have HW5:Hid (MkM G L v0 (m.set tn iz) g cp kz W5/\tn+1=(m.set tn iz).length):=by have hm:=HL.1;exact⟨HW4.grow HS.out (by rw[hW5];exact HW4.stk.setAll yAd (i:=tn) (e:=iz) qo) (.inl rfl) (by rw[hW5];exact yAl (S:=λk=>k=g) g rfl _ _ _),by rw[length_set];exact hm⟩
 simp only[setCs]at hW5;clear fz;refine yA3 (i:=10) qk rfl (λK hK=>?_);go_simp;rw[<-hW5];refine hK.out _ _ (.inl qj) ?_;clear hK hW5 d0 d1 d2 d3 g0 g1 g2 g3;refine jS ?_;refine yD6 qk ?_;refine zY ?_;exact⟨at_+1,tn+1,g,cp,m.set tn iz,kz,hr2,hs1,hs2,rfl,by go_num,HW5.1,HW5.2,HR.1⟩):p:=h
theorem zMkS (h:p:=by
 obtain⟨un,rfl⟩:∃un,tn=un+1:=⟨tn-1,by rw[ho]at hle;unfold least at hle;rw[if_pos qo]at hle;omega⟩;obtain⟨i,hi⟩:∃i,m[un+1]?=some i:=qg (qw HL.1);obtain⟨j,hj⟩:∃j,m[un]?=some j:=qg (qw HL.1);rw[ho]at y0;have HI:=qH2 hi hj;have HD:=qH1 (HJ.1.on HS.out ((Below.refl _ _).drew));have hS0:(λw':World=>xk w' g ((un+1)*4) i.alive/\xk w' g ((un+1)*4+1) i.strip/\xk w' g ((un+1)*4+2) (xi i.hint.rank)/\xk w' g ((un+1)*4+3) i.hint.txt/\xk w' g (un*4) j.alive/\xk w' g (un*4+1) j.strip/\xk w' g (un*4+2) (xi j.hint.rank)/\xk w' g (un*4+3) j.hint.txt) wr.drew:=⟨HD.stk.cell yAd hi 0 qo,HD.stk.cell yAd hi 1 qo,HD.stk.cell yAd hi 2 qo,HD.stk.cell yAd hi 3 qo,HD.stk.cell yAd hj 0 qo,HD.stk.cell yAd hj 1 qo,HD.stk.cell yAd hj 2 qo,HD.stk.cell yAd hj 3 qo⟩;have hgl:=HJ.1.stk.lt.2;have z0:(0:Int)<=(un:Int)+1:=qo
 have z1:(un:Int)<(un:Int)+1:=qo
 have z2:(un:Int)<(un:Int)+1+1:=qo
 have hwu:IntKind.i64.wrap ((un:Nat):Int)=(un:Int):=by rw[IntKind.wrap_i64];omega
 have hnn:0<=(un:Int):=qo
 clear hi hj;go_upto_region 13 with fail;refine yCq [3,4,15,16,17] (λw':World=>xk w' g ((un+1)*4) i.alive/\xk w' g ((un+1)*4+1) i.strip/\xk w' g ((un+1)*4+2) (xi i.hint.rank)/\xk w' g ((un+1)*4+3) i.hint.txt/\xk w' g (un*4) j.alive/\xk w' g (un*4+1) j.strip/\xk w' g (un*4+2) (xi j.hint.rank)/\xk w' g (un*4+3) j.hint.txt) qk ?_;generalize wr.drew=WD at HD hS0|-;refine txna 3 (.inl qj) (λ_ _ _=>qj) ?_;refine txna 4 (.inl qj) (λ_ _ _=>qj) ?_;refine txa 0 hS0 ?_;iterate 2 refine txb hS0 ?_
 refine txa 5 hS0 ?_;iterate 9 refine txb hS0 ?_
 obtain⟨t0,t1,t2,t3,s0,s1,s2,s3⟩:=hS0;have fz:∀k,WD.frozen? (xd g k)=false:=λk=>World.ownsRow.frozenAt HD.stk k;have e0:=fz (un*4);have e1:=fz (un*4+1);have e2:=fz (un*4+2);have e3:=fz (un*4+3);obtain⟨W6,hW6⟩:=qW (setCs WD g (un*4) i.four);have HW6:Hid (xCd W6 G.w0 g cp (m.set un i)/\Chg (λk=>k=g) WD W6):=by have hm:=HL.1;exact⟨by rw[hW6];exact HD.stk.setAll yAd (i:=un) (e:=i) qo,by rw[hW6];exact yAl (S:=λk=>k=g) g rfl _ _ _⟩
 simp only[setCs]at hW6;refine yA3 (i:=15) qk rfl (λK hK=>?_);go_simp;rw[<-hW6];refine hK.out _ _ (.inl qj) ?_;clear hK hW6 fz t0 t1 t2 t3 s0 s1 s2 s3 e0 e1 e2 e3;refine jS ?_;refine yA3 (i:=16) qk rfl (λK hK=>?_);go_simp;refine hK.out _ _ (.inl qj) ?_;clear hK;refine jS ?_;have hi6:(m.set un i)[un+1]?=some i:=by rw[getElem?_set_ne qo];exact HI.1
 have t0:=HW6.1.cell yAd hi6 0 qo;have t1:=HW6.1.cell yAd hi6 1 qo;have t2:=HW6.1.cell yAd hi6 2 qo;have t3:=HW6.1.cell yAd hi6 3 qo;simp only[getElem?_cons_zero,getElem?_cons_succ,Nat.add_zero]at t0 t1 t2 t3;have fz:∀k,W6.frozen? (xd g k)=false:=λk=>World.ownsRow.frozenAt HW6.1 k;have f0:=fz ((un+1)*4);have f1:=fz ((un+1)*4+1);have f2:=fz ((un+1)*4+2);have f3:=fz ((un+1)*4+3);obtain⟨W9,hW9⟩:=qW (setCs W6 g ((un+1)*4) j.four);have HR2:Hid (MkM G L v0 (m.take un++ [i,j]) g cp ks W9/\un+1+1=(m.take un++ [i,j]).length):=by have hm:=HL.1;have o1:=HW6.1.setAll yAd (i:=un+1) (e:=j) (by rw[length_set];omega);rw[set_comm _ _ qo,yPb HL.1 HI.1 HI.2,<-hW9]at o1;exact⟨HD.grow HS.out o1 (.inl rfl) (HW6.2.trans (by rw[hW9];exact yAl (S:=λk=>k=g) g rfl _ _ _)),by rw[length_append,length_take];simp;omega⟩
 have HR:Hid (LkL L (at_+1) (m.take un++ [i,j]) ks/\at_<at_+1/\at_+1<=L.N/\1<=(m.take un++ [i,j]).length/\(m.take un++ [i,j]).length<=250):=
  HL.2.next HG.2.1 hN.out (qw HL.1) HX.out (by unfold stepL;rw[if_neg qo,if_neg qo,if_pos ho];rw[yNm HL.1 HI.1 HI.2,reverse_append];rfl) (by unfold ways;rw[if_neg qo,if_neg qo];simp) (by unfold more;rw[if_neg qo,if_neg qo,<-HR2.2,<-HL.1];omega)
 have hr2:=HR.2.2.1;simp only[setCs]at hW9;refine yA3 (i:=17) qk rfl (λK hK=>?_);go_simp;rw[<-hW9];refine hK.out _ _ (.inl qj) ?_;clear hK hW9 fz hi6 t0 t1 t2 t3 f0 f1 f2 f3;refine jS ?_;refine yD6 qk ?_;refine zY ?_;exact⟨at_+1,un+1+1,g,cp,m.take un++ [i,j],ks,hr2,qo,hs2,rfl,by go_num,HR2.1,HR2.2,HR.1⟩):p:=h
theorem zMkI (h:p:=by
 obtain⟨un,rfl⟩:∃un,tn=un+1:=⟨tn-1,by rw[ho]at hle;unfold least at hle;rw[if_pos qo]at hle;omega⟩;obtain⟨i,hi⟩:∃i,m[un+1]?=some i:=qg (qw HL.1);obtain⟨j,hj⟩:∃j,m[un]?=some j:=qg (qw HL.1);rw[ho]at y0;have HI:=qH2 hi hj;have HSS:Hid (∀X:World,MkM G L v0 m g cp ks X->(λw':World=>xk w' g ((un+1)*4) i.alive/\xk w' g ((un+1)*4+1) i.strip/\xk w' g ((un+1)*4+2) (xi i.hint.rank)/\xk w' g ((un+1)*4+3) i.hint.txt/\xk w' g (un*4) j.alive/\xk w' g (un*4+1) j.strip/\xk w' g (un*4+2) (xi j.hint.rank)/\xk w' g (un*4+3) j.hint.txt) X):=λX h=>⟨h.stk.cell yAd hi 0 qo,h.stk.cell yAd hi 1 qo,h.stk.cell yAd hi 2 qo,h.stk.cell yAd hi 3 qo,h.stk.cell yAd hj 0 qo,h.stk.cell yAd hj 1 qo,h.stk.cell yAd hj 2 qo,h.stk.cell yAd hj 3 qo⟩;have HD:=qH1 (HJ.1.on HS.out ((Below.refl _ _).drew));have hS0:=HSS.out _ HD.out;have hgl:=HJ.1.stk.lt.2;have z0:(0:Int)<=(un:Int)+1:=qo
 have z1:(un:Int)<(un:Int)+1:=qo
 have z2:(un:Int)<(un:Int)+1+1:=qo
 have hcap:=HJ.1.stk.caps;rw[<-HL.1]at hcap;have hwu:IntKind.i64.wrap ((un:Nat):Int)=(un:Int):=by rw[IntKind.wrap_i64];omega
 have hcu:(un:Int)<=(cp:Int):=qo
 have hnn:0<=(un:Int):=qo
 have HUN:Hid (un<=m.length):=by have:=HL.1;show un<=_;omega
 obtain⟨it,hit⟩:=qE (yTh j i);have HJn:Hid (∀X:World,(xf 157 #[.agg #[j.alive,j.strip,xi j.hint.rank,j.hint.txt],.agg #[i.alive,i.strip,xi i.hint.rank,i.hint.txt]] X it.v:Prop)):=λX=>by rw[hit];exact yTg j i X
 have HIT:=qH1 hit;clear hi hj hit;go_upto_region 15 with fail;refine yCq [15,16] (λw':World=>xk w' g ((un+1)*4) i.alive/\xk w' g ((un+1)*4+1) i.strip/\xk w' g ((un+1)*4+2) (xi i.hint.rank)/\xk w' g ((un+1)*4+3) i.hint.txt/\xk w' g (un*4) j.alive/\xk w' g (un*4+1) j.strip/\xk w' g (un*4+2) (xi j.hint.rank)/\xk w' g (un*4+3) j.hint.txt) qk ?_;refine txa 0 hS0 ?_;iterate 12 refine txb hS0 ?_
 refine yA3 (i:=13) qk rfl (λK hK=>?_);go_simp;refine(HJn.out _).mono ?_;rintro e w4 ⟨rfl,hb4⟩;have HW4:=qH1 (HD.on HS.out hb4);have hS4:=HSS.out _ HW4.out;clear hb4 hS0;refine hK.out _ _ (.inr hS4) ?_;clear hK;refine jS ?_;obtain⟨W5,hW5⟩:=qW (xw w4 #[it.alive,it.strip,xi it.hint.rank,it.hint.txt] 181);have HW5:Hid (MkM G L v0 m g cp ks W5/\(∀j u,it.four[j]?=some u->(xk W5 w4 j u:Prop))):=by
  have k5:=qN hW5
  exact⟨HW4.on HS.out k5,by rw[hW5];exact yBm w4 it.four _⟩
 have hS5:=HSS.out _ HW5.1;refine yA3 (i:=14) qk rfl (λK hK=>?_);go_simp;rw[<-hW5];refine hK.out _ _ (.inr hS5) ?_;clear hK hW5 hS4;refine jS ?_;refine yA3 (i:=15) qk rfl (λK hK=>?_);refine yE yAd W5 rfl _ _ 228 rfl underlying228 Tryz.infoIti rfl qj qj yG2 G.w0 g cp un w4 1 (m.take un) it rfl rfl (by rw[length_take,Nat.min_eq_left HUN.out]) (HW5.1.stk.take yAd HUN.out) HW5.2 (by rw[length_take];omega) (by have:=(HW5.1.all HS.out).size;exact this) ?_;intro g' cp' w' hO' hgr hat';have hlen:(m.take un++ [it]).length=un+1:=by rw[length_append,length_take,Nat.min_eq_left HUN.out];rfl
 have HR:Hid (LkL L (at_+1) (m.take un++ [it]) ks/\at_<at_+1/\at_+1<=L.N/\1<=(m.take un++ [it]).length/\(m.take un++ [it]).length<=250):=
  HL.2.next HG.2.1 hN.out (qw HL.1) HX.out (by unfold stepL;rw[if_neg qo,if_neg qo,if_neg qo,if_pos ho,yNm HL.1 HI.1 HI.2,reverse_append,HIT.out];rfl) (by unfold ways;rw[if_neg qo,if_neg qo];simp) (by unfold more;rw[if_neg qo,if_pos ho,hlen,<-HL.1];omega)
 have HR2:Hid (MkM G L v0 (m.take un++ [it]) g' cp' ks w'/\un+1=(m.take un++ [it]).length):=
  ⟨HW5.1.grow HS.out hO' (by have:=HW5.1.res.lt;rcases hat' with q|q<;>omega) (Chg.of_grown hgr (λk hk=>by cases hk;rfl)),hlen.symm⟩
 have hr2:=HR.2.2.1;clear hO' hgr hat' hlen hS5;refine hK.out _ _ (.inl qj) ?_;clear hK;refine jS ?_;refine yA3 (i:=16) qk rfl (λK hK=>?_);go_simp;refine hK.out _ _ (.inl qj) ?_;clear hK;refine jS ?_;refine yD6 qk ?_;refine zY ?_;exact⟨at_+1,un+1,g',cp',m.take un++ [it],ks,hr2,qo,qo,rfl,by go_num,HR2.1,HR2.2,HR.1⟩):p:=h
theorem zMkZ (h:p:=by
 have t0:=HM.stk.cell yAd (i:=0) (e:=i) rfl 0 qo;have t1:=HM.stk.cell yAd (i:=0) (e:=i) rfl 1 qo;have t2:=HM.stk.cell yAd (i:=0) (e:=i) rfl 2 qo;have t3:=HM.stk.cell yAd (i:=0) (e:=i) rfl 3 qo;simp only[getElem?_cons_zero,getElem?_cons_succ,Nat.zero_mul,Nat.zero_add]at t0 t1 t2 t3;have m2:=HM.box.cell (j:=2) rfl;have e2:=HM.box.frozen 2;have hgm:¬g=G.mb:=qv HM.stk.lt HS.ok.ml
 have hrm:¬L.w.heap.size+1=G.mb:=qo
 have hgr:¬g=L.w.heap.size+1:=qw HM.gsn
 obtain⟨W8,hW8⟩:=qW (xt wr G.mb 2 (xg g 1 cp));have HW8:Hid (yA W8 G.base 230 3 G.mb [xg G.p L.N L.N,xg G.g G.nk G.cap,xg g 1 cp]/\Chg (λq=>q=G.mb) wr W8):=by rw[hW8];exact⟨HM.box.set 2 _,Chg.of_set _ _ _ _ rfl⟩
 have hr8:=HM.res.chg HW8.2 hrm;obtain⟨v1,v2,v3,v4⟩:=hr8.c4;obtain⟨f0,f1,f2,f3⟩:=hr8.f4;have hs8:=HM.stk.chg HW8.2 hgm;obtain⟨u0,u1,u2,u3⟩:=And.intro (hs8.cell yAd (i:=0) (e:=i) rfl 0 qo) (And.intro (hs8.cell yAd (i:=0) (e:=i) rfl 1 qo) (And.intro (hs8.cell yAd (i:=0) (e:=i) rfl 2 qo) (hs8.cell yAd (i:=0) (e:=i) rfl 3 qo)));simp only[getElem?_cons_zero,getElem?_cons_succ,Nat.zero_mul,Nat.zero_add]at u0 u1 u2 u3;obtain⟨W9,hW9⟩:=qW (setCs W8 (L.w+1) 0 i.four);obtain⟨b9,c9⟩:=yEo hr8 hW9;have HR:Hid (LooP G L v0 (.returned i.v) W9):=by
  have ok:=HS.ok;have hw:=HS.chg.size;have h8:=HW8.out;have h9:=ok.ml;have h7:=ok.gl;have hgl:=HM.stk.lt;refine⟨i,ks,xg g 1 cp,HLR.out,rfl,⟨?_,?_,?_,HM.len,HM.cb,h8.1.chg c9 (λq=>hrm q.symm),⟨[i],?_⟩⟩,?_,?_⟩
  .exact((HM.all HS.out).trans (h8.2.mono (λq z=>by subst z;exact ok.mS))).absorb c9 (λq z=>.inr qo)
  .exact ok.ti (λq=>q=L.w.heap.size+1) W8 W9 (ok.ti (λq=>q=G.mb) wr W8 HM.ti h8.2 (λq z=>.inr (.inl z))) c9 (λq z=>.inr (.inr qo))
  .exact(HM.ctr.chg h8.2 (λq=>ok.gm q)).chg c9 qo
  .exact hs8.chg c9 hgr
  .exact((HM.chg.mono (λq z=>z.elim .inl (λz=>.inr (.inr z)))).trans (h8.2.mono (λq z=>.inr (.inl z)))).absorb c9 (λq z=>.inr qo)
  .rcases HM.gsn with q|q
   .exact .inr ⟨g,rfl,qo⟩
   .exact .inl (by rw[q.1];rfl)
 obtain⟨q0,q1,q2,q3⟩:=b9.c4;simp only[setCs,Nat.zero_add,Nat.reduceAdd]at hW9;clear b9 c9 hr8 hs8;go_upto_region 22 with fail;rw[<-hW8];clear hW8 t0 t1 t2 t3 m2 e2;go_wp2;rw[<-hW9];exact bodyPost_ret (v:=i.v) (by simp[results,results104,go_sem,q0,q1,q2,q3]) rfl (by have h9:=HR.out;rw[HV0.out]at h9;exact h9)):p:=h
theorem yP2(G:MchG)(L:LkG)(v0:Value)(nc:Nat)(hB:yBe L.l L.cnt nc)(hD:yUc L.l L.d)(hnc:nc<=L.conds.length)(cc:Nat)(hN:Hid (L.N=L.l.length))(hC:Hid (L.nC=L.conds.length))(hK:(G.nk:Int)=L.cnt)
  (hS:MaOk G L.l) (hI:McI G L.N L.cs0 v0 L.w) (hrow:¬L.c.row=⟨#[]⟩)
  (hcd:∀(i:Nat)(b:Bool),L.conds[i]?=some b->∃bc oc,L.ca=some ⟨bc,oc,none⟩/\xk L.w bc (oc+i) b/\bc<L.w.heap.size/\¬bc=G.g/\¬G.T bc/\¬v0.ownBlock=some bc):
  Calls prog 104 #[xp G.mb,L.c.c,.slice L.ca L.nC cc] L.w (LooP G L v0):=by
 obtain⟨m0,a4⟩:=hI.stk;obtain⟨a0,n0,c0,a2⟩:∃a n c,v0=.slice a n c:=by
  rcases a4.cases with⟨q,_⟩|⟨g,cp,q,_⟩
  .exact⟨_,_,_,q⟩
  .exact⟨_,_,_,q⟩
 subst a2;have ai:L.N<=4000:=qv hB.2.1 hN.out
 have HG:=qH4 hB hD hnc hK;have HRow:=qH1 hrow;have HS:Hid (MaS G L (.slice a0 n0 c0)):=by
  refine⟨hS,hI.chg,λk hk=>?_⟩;rcases a4.cases with⟨q,_⟩|⟨g,cp,q,hO⟩
  .rw[q]at hk;simp[Value.ownBlock]at hk
  .rw[q]at hk;simp[Value.ownBlock]at hk;subst hk;exact hO.lt
 have a5:RowS L.w G.w0 (.slice a0 0 c0) []:=by
  rcases a4.cases with⟨q,_⟩|⟨g,cp,q,hO⟩
  .cases q;exact⟨rfl,.inl ⟨rfl,rfl⟩⟩
  .cases q;exact hO.take yAd (zero_le _)
 have c2:=hI.box.cell (j:=2) rfl;have ag:=hI.box.lt.2;obtain⟨W1,a1⟩:=qW (xw ((L.w.alloc (Obj.cells #[L.c.row,L.c.fam,L.c.qual,xu L.c.ts,L.c.val] 70)).alloc (Obj.cells #[false,false,xi 0,xe] 181)) #[true,false,xi 0,xe] 181);have H1:Hid (yA W1 L.w 70 5 L.w L.c.five/\yA W1 L.w 181 4 (L.w+1) (yBl noH).four/\Below L.w L.w W1/\(∀j u,newI.four[j]?=some u->(xk W1 (L.w+1+1) j u:Prop))/\RowS W1 G.w0 (.slice a0 0 c0) []/\W1.heap.size=L.w.heap.size+1+1+1):=by
  obtain⟨X,hX⟩:=qW (xw L.w #[L.c.row,L.c.fam,L.c.qual,xu L.c.ts,L.c.val] 70);rw[<-hX]at a1;obtain⟨Y,hY⟩:=qW (xw X #[false,false,xi 0,xe] 181);rw[<-hY]at a1;have zx:=qS hX
  have zy:Y.heap.size=L.w.heap.size+1+1:=by rw[hY];simp;omega
  have k1:=qN hX
  have k2:=qN hY
  have k3:=qN a1
  have k9:=(k1.trans (k2.mono qo)).trans (k3.mono qo);have b1:yA X L.w 70 5 L.w L.c.five:=by rw[hX];exact yAa L.w _ qr rfl
  have b2:yA Y L.w 181 4 (L.w+1) (yBl noH).four:=by rw[hY,<-zx];exact yAa X _ qo rfl
  exact⟨(b1.below k2).below k3,b2.below k3,k9,by rw[a1,<-zy];exact yBm Y newI.four _,yAh a5 (S:=λ_=>False) (Chg.of_below k9) (λ_ _ q=>q),by rw[a1];simp;omega⟩
 have HI:=qH1 hI;have a9:=qH1 hcd;clear hB hD hnc hK hS hI hrow hcd a5 a4;go_enter func104,ntmps104;go_wp2_with (at_builtin;(try rw[<-a1]);refine yIn yAd _ rfl _ _ 228 rfl underlying228 Tryz.infoIti rfl qj qj yG2 G.w0 (.slice a0 0 c0) (L.w+1+1) 1 [] newI rfl rfl H1.2.2.2.2.1 H1.2.2.2.1 (zero_le _) ?hb ?_);case hb=>have:=HI.chg.size;have:=H1.2.2.2.2.2;omega
 intro g' cp' w' hO' hgr hat';have hgr2:W1.grownBy w' (Value.slice a0 0 c0).ownBlock:=by first|exact hgr|(rw[a1];exact hgr)
 have HM:Hid (MkM G L (.slice a0 n0 c0) [newI] g' cp' L.cs0 w'):=by
  obtain⟨b1,b2,k9,_,_,hz⟩:=H1.out;have aa:(Value.slice a0 0 c0).ownBlock=(Value.slice a0 n0 c0).ownBlock:=by cases a0<;>rfl
  rw[aa]at hgr2 hat';have hv:=HS.v0;have hc:=Chg.of_grown hgr2 (λk hk=>hk);have a3:=(Chg.of_below k9).trans hc;have hi:=HI.out;have ok:=HS.ok;have hw:=HS.chg.size;refine⟨b1.chg hc (λq=>qw (hv _ q)),b2.chg hc (λq=>qw (hv _ q)),hO',?_,?_,?_,hi.len,hi.cb,?_,?_,a3.mono (λk q=>.inr (.inr q))⟩
  .rcases hat' with q|q
   .exact .inr ⟨q,(hv _ q).2⟩
   .exact .inl (by first|omega|(rw[<-a1]at q;omega))
  .exact ok.ti _ L.w w' hi.ti a3 (λq z=>.inr (.inr (hv _ z).1))
  .exact hi.ctr.chg a3 (λq=>qv (hv _ q) ok.gl)
  .exact hi.box.chg a3 (λq=>qv (hv _ q) ok.ml)
  .intro i b ac;obtain⟨bc,oc,h1,h2,h3,h4,h5,h6⟩:=a9.out i b ac;exact⟨bc,oc,h1,(a3.cell (p:=(xd bc (oc+i))) h3 h6).trans h2,h3,h4,h5,h6⟩
 obtain⟨v0,a2⟩:=qE (.slice a0 n0 c0:Value);rw[<-a2]at HS HM|-;have HV0:=qH1 a2;clear hO' hgr hgr2 hat' a1 H1 HI a9 c2 a2;go_wp2;go_loopw[7,8] (λsv kv wr=>∃(at_ sn g cp:Nat)(m:List It)(ks:List Ctr),at_<=L.N/\1<=sn/\sn<=250/\sv=(xg g sn cp)/\kv=(xi at_)/\Hid (MkM G L v0 m g cp ks wr/\sn=m.length/\LkL L at_ m ks)) (λ_ kv _=>L.N-(intOf kv).toNat);case atStart=>exact⟨0,1,g',cp',[newI],L.cs0,zero_le _,Nat.le_refl _,qo,rfl,rfl,HM.out,rfl,HG.2.1.start.symm,zero_le _,λr h=>h⟩
 case round=>
  clear HM;obtain⟨at_,sn,g,cp,m,ks,af,hs1,hs2,rfl,rfl,HJ⟩:=hrel;have ak:=HJ.1.box.cell (j:=0) rfl;by_cases hlt:at_<L.N
  .obtain⟨x,hx⟩:∃x,L.l[at_]?=some x:=qg (qw hN.out);obtain⟨y0,y1,y2⟩:=HJ.1.step HS.out hx;have HX:=qH1 hx;clear hx;have z:(at_:Int)<(L.N:Int):=qo
   have HL:=qH1 HJ.2;have a8:=yC3 HG.1 HX.out;have hle:=HL.2.least HG.2.1 (qw HL.1) HX.out;rw[<-HL.1]at hle;rw[<-hN.out]at a8;rcases a8 with⟨ho,ah,ae,aj⟩|⟨ho,a6,ha0,ha1,ab,ad⟩|⟨ho,a6,ha0,ab,ad⟩|⟨ho,a6,ha0,ae⟩
   .as_aux_lemma=>exact zMkL
   .as_aux_lemma=>exact zMkB
   .as_aux_lemma=>exact zMkJ
   .obtain⟨tn,rfl⟩:∃tn,sn=tn+1:=⟨sn-1,qo⟩;rcases ho with ho|ho|ho
    .as_aux_lemma=>exact zMkD
    .as_aux_lemma=>exact zMkS
    .as_aux_lemma=>exact zMkI
  .have z:¬(at_:Int)<(L.N:Int):=qo
   have a7:m.length=1:=by
    have h1:=HJ.2.2.1;have h2:at_=L.l.length:=qw hN.out
    rw[h2,HG.2.1.last]at h1;exact h1
   obtain⟨i,rfl⟩:∃i,m= [i]:=List.length_eq_one_iff.1 a7;obtain rfl:sn=1:=HJ.2.1;have HLR:=qH1 (HJ.2.2.2.2 _ (.fin (by have:=hN.out;show¬at_<_;omega) rfl));have HM:=qH1 HJ.1;clear HJ a7 af hlt;as_aux_lemma=>exact zMkZ
inductive RowR(l:List Ix)(conds:List Bool):List Ent->List Ctr->List Ent->Prop
 |nil (cs:List Ctr):RowR l conds [] cs []
 |cons {c:Ent} {r:List Ent} {cs cs':List Ctr} {i:It} {out:List Ent} (h:LkR pfxB l c conds ⟨0,[newI],cs⟩ (i,cs')) (hr:RowR l conds r cs' out):RowR l conds (c::r) cs (if i.alive=true then yB i c::out else out)
variable {cs:List Ctr} {o o':List Ent}
theorem RowR.one{l:List Ix}{conds:List Bool}{row:List Ent}(h:RowR l conds row cs o)(k:RowR l conds row cs o'):o=o':=by
 induction h generalizing o' with
 |nil cs=>cases k;rfl
 |cons h _ ih=>cases k with
  |cons h' k'=>
   have:=h.one h';simp only[Prod.mk.injEq]at this;obtain⟨rfl,rfl⟩:=this;rw[ih k']
variable {out:List Ent} {cs0:List Ctr} {n:Nat}
theorem RowR.step{l:List Ix}{conds:List Bool}{row:List Ent}{cs':List Ctr}{c:Ent}{i:It}
  (h:∀o,RowR l conds (row.drop n) cs o->RowR l conds row cs0 (out++o)) (hc:row[n]?=some c) (hl:LkR pfxB l c conds ⟨0,[newI],cs⟩ (i,cs')):
  ∀o,RowR l conds (row.drop (n+1)) cs' o->RowR l conds row cs0 ((if i.alive=true then out++ [yB i c]else out)++o):=by
 intro o ho;obtain⟨hn,hv⟩:=List.getElem?_eq_some_iff.1 hc;have hd:row.drop n=c::row.drop (n+1):=by rw[drop_eq_getElem_cons hn,hv]
 have h1:=h _ (by rw[hd];exact .cons hl ho);cases ha:i.alive
 .rw[ha]at h1;simpa using h1
 .rw[ha]at h1;simpa using h1
theorem RowR.done{l:List Ix}{conds:List Bool}{row:List Ent}(h:∀o,RowR l conds (row.drop n) cs o->RowR l conds row cs0 (out++o))(hn:row.length<=n):RowR l conds row cs0 out:=by have:=h [] (by rw[drop_eq_nil_of_le hn];exact .nil _);rwa [append_nil]at this
variable {w:World} {es:List Ent}
theorem yA4.flat{b off:Nat}(h:yA4 w b off es):∀(j:Nat)(u:Value),(yBs es)[j]?=some u->(xk w b (off+j) u:Prop):=by
 intro j u hu;have hl:=qf hu;rw[yCi]at hl;have hk:j/5<es.length:=by omega
 obtain⟨e,he⟩:∃e,es[j/5]?=some e:=qg hk;have h5:=yHw es (j/5) e he (j%5) (by omega);rw[show j/5*5+j%5=j by omega,hu]at h5;obtain⟨h0,h1,h2,h3,h4⟩:=h (j/5) e he;have hm:j%5<5:=by omega
 have hj:off+j=off+j/5*5+j%5:=by omega
 rw[hj];generalize j%5=r at h5 hm;match r,hm,h5 with
 |0,_,h5=>cases h5;exact h0
 |1,_,h5=>cases h5;exact h1
 |2,_,h5=>cases h5;exact h2
 |3,_,h5=>cases h5;exact h3
 |4,_,h5=>cases h5;exact h4
theorem yOf es:∀u∈yBs es,u.oneCell'=true:=by intro u hu;unfold yBs at hu;rw[mem_flatMap]at hu;obtain⟨e,_,h⟩:=hu;simp at h;rcases h with rfl|rfl|rfl|rfl|rfl<;>rfl
theorem yQ2 es:∀(f i:Nat),(yFx es f i).length<=f
 |0,i=>Nat.le_refl _
 |f+1,i=>by
  unfold yFx
  split
  .have:=yQ2 es f (rEnd es i)
   simp
   omega
  .simp
theorem yNp(es:List Ent)(i:Nat):∀(f k:Nat),k<=es.length->yLe es i f k<=es.length
 |0,k,h=>h
 |f+1,k,h=>by
  unfold yLe
  split
  .split
   .exact yNp es i f (k+1) qo
   .exact h
  .exact h
theorem yQ1(es:List Ent):∀(f i:Nat)(p:Nat×Nat),p∈yFx es f i->p.1<=p.2/\p.2<=es.length
 |0,i,p,h=>by simp[yFx]at h
 |f+1,i,p,h=>by
  unfold yFx at h
  split at h
  .rename_i hi
   rcases mem_cons.1 h with rfl|h
   .exact⟨Nat.le_of_lt (ySj hi),yNp es i _ i (Nat.le_of_lt hi)⟩
   .exact yQ1 es f _ p h
  .simp at h
inductive MvR(l:List Ix)(hints:Bool):List Ent->List Ctr->List Ent->Nat->Prop
 |nil (cs:List Ctr):MvR l hints [] cs [] 0
 |cons {c:Ent} {r:List Ent} {cs cs':List Ctr} {i:It} {out:List Ent} {n:Nat} (h:LkR pfxB l c [] ⟨0,[newI],cs⟩ (i,cs')) (hr:MvR l hints (if i.alive=false/\hints=true then r.dropWhile (yAz i.hint c)else r) cs' out n):MvR l hints (c::r) cs (if i.alive=true then yB i c::out else out) (n+1)
theorem MvR.one{l:List Ix}{hints:Bool}{row:List Ent}{n':Nat}(h:MvR l hints row cs o n)(k:MvR l hints row cs o' n'):o=o'/\n=n':=by
 induction h generalizing o' n' with
 |nil cs=>cases k;exact⟨rfl,rfl⟩
 |cons h _ ih=>cases k with
  |cons h' k'=>
   have:=h.one h';simp only[Prod.mk.injEq]at this;obtain⟨rfl,rfl⟩:=this;obtain⟨rfl,rfl⟩:=ih k';exact⟨rfl,rfl⟩
theorem MvR.le{l:List Ix}{hints:Bool}{row:List Ent}(h:MvR l hints row cs o n):n<=row.length/\o.length<=n:=by
 induction h with
 |nil cs=>simp
 |cons h hr ih=>
  rename_i c r cs cs' i out n;have h1:(if i.alive=false/\hints=true then r.dropWhile (yAz i.hint c)else r).length<=r.length:=by
   split
   .exact(dropWhile_sublist _).length_le
   .exact Nat.le_refl _
  rw[length_cons];constructor
  .omega
  .split
   .rw[length_cons];omega
   .omega
theorem yZx{p:Ent->Bool}:∀(es:List Ent),es.drop (es.takeWhile p).length=es.dropWhile p
 | []=>rfl
 |a::es=>by
  rw[takeWhile_cons,dropWhile_cons]
  split
  .rw[length_cons,drop_succ_cons];exact yZx es
  .rfl
theorem MvR.step{l:List Ix}{hints:Bool}{row:List Ent}{cs':List Ctr}{j m:Nat}{c:Ent}{i:It}
  (h:∀o k,MvR l hints (row.drop n) cs o k->MvR l hints row cs0 (out++o) (m+k)) (hc:row[n]?=some c) (hl:LkR pfxB l c [] ⟨0,[newI],cs⟩ (i,cs'))
  (hj:j=if i.alive=false/\hints=true then n+1+((row.drop (n+1)).takeWhile (yAz i.hint c)).length else n+1):
  ∀o k,MvR l hints (row.drop j) cs' o k->MvR l hints row cs0 ((if i.alive=true then out++ [yB i c]else out)++o) (m+1+k):=by
 intro o k ho;obtain⟨hn,hv⟩:=List.getElem?_eq_some_iff.1 hc;have hd:row.drop n=c::row.drop (n+1):=by rw[drop_eq_getElem_cons hn,hv]
 have a0:row.drop j=(if i.alive=false/\hints=true then(row.drop (n+1)).dropWhile (yAz i.hint c)else row.drop (n+1)):=by
  rw[hj];split
  .rw[<-yZx,drop_drop]
  .rfl
 rw[a0]at ho;have h1:=h _ _ (by rw[hd];exact .cons hl ho);rw[show m+(k+1)=m+1+k by omega]at h1;cases ha:i.alive
 .rw[ha]at h1;simpa using h1
 .rw[ha]at h1;simpa using h1
theorem MvR.done{l:List Ix}{hints:Bool}{row:List Ent}{m:Nat}(h:∀o k,MvR l hints (row.drop n) cs o k->MvR l hints row cs0 (out++o) (m+k))(hn:row.length<=n):MvR l hints row cs0 out m:=by have:=h [] 0 (by rw[drop_eq_nil_of_le hn];exact .nil _);rwa [append_nil]at this
inductive CdR(row:List Ent):List (Int×List Ix)->List Bool->List Bool->Prop
 |nil (bs:List Bool):CdR row [] bs bs
 |cons {x:Int×List Ix} {Bs:List (Int×List Ix)} {bs r:List Bool} {o:List Ent} (h:RowR x.2 bs row (List.replicate x.1.toNat newC) o) (k:CdR row Bs (bs++ [decide (0<o.length)]) r):CdR row (x::Bs) bs r
variable {Bs:List (Int×List Ix)} {bs:List Bool}
theorem CdR.one{row:List Ent}{r r':List Bool}(h:CdR row Bs bs r)(k:CdR row Bs bs r'):r=r':=by
 induction h with
 |nil bs=>cases k;rfl
 |cons h _ ih=>cases k with
  |cons h' k'=>
   have:=h.one h';subst this;exact ih k'
theorem CdR.len{row:List Ent}{r:List Bool}(h:CdR row Bs bs r):r.length=bs.length+Bs.length:=by
 induction h with
 |nil bs=>simp
 |cons h _ ih=>rw[ih];simp;omega
theorem CdR.step{row:List Ent}{x:Int×List Ix}(h:∀r,CdR row (Bs.drop n) bs r->CdR row Bs [] r)(hx:Bs[n]?=some x)(ho:RowR x.2 bs row (List.replicate x.1.toNat newC) o):
  ∀r,CdR row (Bs.drop (n+1)) (bs++ [decide (0<o.length)]) r->CdR row Bs [] r:=by
 intro r hr;obtain⟨hn,hv⟩:=List.getElem?_eq_some_iff.1 hx;refine h r ?_;rw[drop_eq_getElem_cons hn,hv];exact .cons ho hr
theorem CdR.done{row:List Ent}(h:∀r,CdR row (Bs.drop n) bs r->CdR row Bs [] r)(hn:Bs.length<=n):CdR row Bs [] bs:=h bs (by rw[drop_eq_nil_of_le hn];exact .nil _)
inductive RwsR(m:Int×List Ix)(Bs:List (Int×List Ix)):List (List Ent)->List Ent->Prop
 |nil:RwsR m Bs [] []
 |cons {row:List Ent} {rs:List (List Ent)} {bs:List Bool} {o out:List Ent} (h:CdR row Bs [] bs) (k:RowR m.2 bs row (List.replicate m.1.toNat newC) o) (hr:RwsR m Bs rs out):RwsR m Bs (row::rs) (o++out)
variable {m:Int×List Ix} {rs:List (List Ent)}
theorem RwsR.one(h:RwsR m Bs rs o)(k:RwsR m Bs rs o'):o=o':=by
 induction h generalizing o' with
 |nil=>cases k;rfl
 |cons h1 h2 _ ih=>cases k with
  |cons k1 k2 k3=>
   have:=h1.one k1;subst this;have:=h2.one k2;subst this;rw[ih k3]
theorem RwsR.step{row:List Ent}(h:∀r,RwsR m Bs (rs.drop n) r->RwsR m Bs rs (out++r))(hx:rs[n]?=some row)(hc:CdR row Bs [] bs)(ho:RowR m.2 bs row (List.replicate m.1.toNat newC) o):
  ∀r,RwsR m Bs (rs.drop (n+1)) r->RwsR m Bs rs ((out++o)++r):=by
 intro r hr;obtain⟨hn,hv⟩:=List.getElem?_eq_some_iff.1 hx;rw[append_assoc];refine h _ ?_;rw[drop_eq_getElem_cons hn,hv];exact .cons hc ho hr
theorem RwsR.done(h:∀r,RwsR m Bs (rs.drop n) r->RwsR m Bs rs (out++r))(hn:rs.length<=n):RwsR m Bs rs out:=by have:=h [] (by rw[drop_eq_nil_of_le hn];exact .nil);rwa [append_nil]at this
theorem RowR.len{l:List Ix}{conds:List Bool}{row:List Ent}(h:RowR l conds row cs o):o.length<=row.length:=by
 induction h with
 |nil cs=>simp
 |cons h _ ih=>
  rw[length_cons];split
  .rw[length_cons];omega
  .omega
variable {oo:Oper} {a:Act} {K:Act->World->Prop} {Q:Exit->Act->World->Prop} {E:Prop}
theorem yIp{ops:Array Oper}(w:World)(hgd:oo.guard=none) s x
  (ho:oo.op=.call {callee:=.builtin .append,args:=#[s,x],argTypes:=#[26,26]})
  (base g cp n b off m cx:Nat) (fs es:List Ent) (hs:a.eval s=(xg g n cp)) (hx:a.eval x=.slice (some ⟨b,off,none⟩) m cx) (hn:n=fs.length) (hm:m=es.length) (hO:OwnC w base g cp fs)
  (hc:yA4 w b off es) (hlen:fs.length+es.length<=2^30) (hbase:base<=w.heap.size)
  (h:∀g' cp' w',OwnC w' base g' cp' (fs++es)->w.grownBy w' (some g)->(g'=g\/g'=w.heap.size)->K (a.put oo.dst (xg g' (n+m) cp')) w'):if Region.wanted oo (yielded ops a.tmps)=true then Oper.wp prog oo a w K Q else E:=by
 have hw:Region.wanted oo (yielded ops a.tmps)=true:=by simp[Region.wanted,hgd]
 rw[if_pos hw];subst hn;subst hm;obtain⟨i,hi,a4,a3,a2⟩:=info_parts Tryz.infoCel;obtain⟨v',w',hr,a0,a7,a5,a1⟩:=run_append_own_at (P:=prog) w base 26 oo.type 70 i _ 5 72 underlying26 hi a4 a3 a2 rfl qj (xg g fs.length cp) fs.length (yBs fs) hO (xd b off) es.length cx (yBs es) (yCi es) (λj u hu=>by rw[Addr.add_mid];exact hc.flat j u hu) (yOf es) (by unfold maxLen;omega) qo hbase;rw[<-yEl]at a0;have a6:(fs++es).length=fs.length+es.length:=by simp
 rcases a0.2 with⟨hv,_⟩|⟨g',a9,cur,hv,h1,h2,h3⟩
 .have:=(a5.1 hv).1;simp at this
 .subst hv;have a8:=h g' a9 w' (by unfold OwnC;rw[a6];exact a0) a7 (by simp[Value.ownBlock]at a1;exact a1);unfold Oper.wp;simp[execOp,ho,resolve,invoke,builtin,hs,hx,hr,Result.andThen];exact a8
theorem yGn{ops:Array Oper}(w:World)(hgd:oo.guard=none) x (ho:oo.op=.buildSlice 26 1 #[(0,x)]) (e:Ent) (hx:a.eval x=e.c)
  (h:K (a.put oo.dst (xg w 1 1)) (xw w #[e.row,e.fam,e.qual,xu e.ts,e.val] 70)):if Region.wanted oo (yielded ops a.tmps)=true then Oper.wp prog oo a w K Q else E:=by
 have hw:Region.wanted oo (yielded ops a.tmps)=true:=by simp[Region.wanted,hgd]
 rw[if_pos hw];obtain⟨i,hi,a1,a0,a2⟩:=info_parts Tryz.infoCel;refine wp_buildSlice 26 70 1 #[(0,x)] ho _ i _ underlying26 hi a1 (by rw[a0];decide) (by rw[a0];decide) ?_ h;rw[a0,show(Array.map (λx=>(x.1,a.eval x.2)) #[(0,x)]).toList= [(0,a.eval x)]from by simp,hx];kernel_rfl
def RowC(w:World)(base:Nat)(v:Value)(es:List Ent):Prop:=w.ownsRow base 70 5 v es.length (yBs es)
variable {base:Nat}
theorem RowC.cases{v:Value}(h:RowC w base v es):(v=xh/\es= [])\/∃g cp,v=(xg g es.length cp)/\OwnC w base g cp es:=by
 rcases h.2 with⟨h0,h1⟩|⟨g',a0,cur,hv,rest⟩
 .refine .inl ⟨h0,?_⟩;have:es.length=0:=h1;exact length_eq_zero_iff.1 this
 .subst hv;exact .inr ⟨g',a0,rfl,h⟩
theorem yGq(w:World)(base:Nat):RowC w base xh []:=⟨rfl,.inl ⟨rfl,rfl⟩⟩
variable {w':World} {X:List Ent}
theorem RowC.chg{S:Nat->Prop}{v:Value}(h:RowC w base v X)(hc:Chg S w w')(hn:∀k,v.ownBlock=some k->¬S k):RowC w' base v X:=yAh h hc hn
theorem RowC.below{v:Value}(h:RowC w base v X)(hb:Below w w w'):RowC w' base v X:=h.chg (S:=λ_=>False) (Chg.of_below hb) (λ_ _ q=>q)
theorem RowC.blk{v:Value}(h:RowC w base v X){k:Nat}(hk:v.ownBlock=some k):base<=k/\k<w.heap.size:=by exact xCt
theorem yDz{ops:Array Oper}(w:World)(hgd:oo.guard=none) s x
  (ho:oo.op=.call {callee:=.builtin .append,args:=#[s,x],argTypes:=#[26,26]})
  (base:Nat) (a0:Option Addr) (n c0 b off m cx:Nat) (fs es:List Ent) (hs:a.eval s=.slice a0 n c0) (hx:a.eval x=.slice (some ⟨b,off,none⟩) m cx) (hn:n=fs.length) (hm:m=es.length) (hO:RowC w base (.slice a0 n c0) fs)
  (hc:yA4 w b off es) (hlen:fs.length+es.length<=2^30) (hbase:base<=w.heap.size)
  (h:∀a' c' w',RowC w' base (.slice a' (n+m) c') (fs++es)->w.grownBy w' (Value.slice a0 n c0).ownBlock->((Value.slice a' (n+m) c').ownBlock=(Value.slice a0 n c0).ownBlock\/(Value.slice a' (n+m) c').ownBlock=some w.heap.size)->K (a.put oo.dst (.slice a' (n+m) c')) w'):if Region.wanted oo (yielded ops a.tmps)=true then Oper.wp prog oo a w K Q else E:=by
 have hw:Region.wanted oo (yielded ops a.tmps)=true:=by simp[Region.wanted,hgd]
 rw[if_pos hw];subst hn;subst hm;obtain⟨i,hi,a5,a4,a3⟩:=info_parts Tryz.infoCel;obtain⟨v',w',hr,a2,a6,a9,a8⟩:=run_append_own_at (P:=prog) w base 26 oo.type 70 i _ 5 72 underlying26 hi a5 a4 a3 rfl qj (.slice a0 fs.length c0) fs.length (yBs fs) hO (xd b off) es.length cx (yBs es) (yCi es) (λj u hu=>by rw[Addr.add_mid];exact hc.flat j u hu) (yOf es) (by unfold maxLen;omega) qo hbase;rw[<-yEl]at a2;have a1:(fs++es).length=fs.length+es.length:=by simp
 have hR:RowC w' base v' (fs++es):=by unfold RowC;rw[a1];exact a2
 obtain⟨a',c',rfl⟩:∃a' c',v'=.slice a' (fs.length+es.length) c':=by
  rcases hR.cases with⟨q,q2⟩|⟨g,cp,q,_⟩
  .have h9:(fs++es).length=0:=by rw[q2];rfl
   rw[a1]at h9;exact⟨none,0,by rw[h9];exact q⟩
  .exact⟨_,_,by rw[<-a1];exact q⟩
 have a7:=h a' c' w' hR a6 a8;unfold Oper.wp;simp[execOp,ho,resolve,invoke,builtin,hs,hx,hr,Result.andThen];exact a7
variable {P:ByteArray->ByteArray}
theorem yX4{c:Ent}{conds:List Bool}{x:Ix}{s:Lk}(h:least x.op<=(s.st.length:Int)):
  (((stepL P c conds x s).st.length:Nat):Int)=s.st.length+more x.op/\(stepL P c conds x s).at_∈ways s.at_ x:=by
 obtain⟨at_,st,cs⟩:=s;unfold stepL least more ways at*;simp only at h|-;by_cases h1:x.op=1
 .simp only[h1,if_pos,if_true,show¬((1:Int)=3\/(1:Int)=4)by omega,if_false]at h|-;cases st with
  |nil=>simp at h
  |cons i r=>simp
 by_cases h2:x.op=2
 .simp only[h2,show¬((2:Int)=3\/(2:Int)=4)by omega,if_false]at h|-;cases st with
  |nil=>simp at h
  |cons i r=>simp
 by_cases h3:x.op=3
 .simp only[h3]at h|-;match st,h with
  | [],h=>simp at h
  | [i],h=>simp at h
  |i::j::r,h=>simp
 by_cases h4:x.op=4
 .simp only[h4]at h|-;match st,h with
  | [],h=>simp at h
  | [i],h=>simp at h
  |i::j::r,h=>simp;omega
 by_cases h5:x.op=5
 .simp only[h5];by_cases hc:conds[x.a.toNat]?=some false
  .simp[hc]
  .simp[hc]
 by_cases h6:x.op=6
 .simp[h6]
 .simp[h1,h2,h3,h4,h5,h6]
theorem lkR_ex'{l:List Ix}{c:Ent}{conds:List Bool}{d:Nat->Nat}(hD:yUc l d):∀(n:Nat)(s:Lk),l.length-s.at_<=n->s.at_<=l.length->s.st.length=d s.at_->1<=s.st.length->∃r,LkR P l c conds s r:=by
 intro n;induction n with
 |zero=>
  intro s h1 h2 h3 h4;have h5:s.at_=l.length:=qo
  rw[h5,hD.last]at h3;obtain⟨i,hi⟩:=List.length_eq_one_iff.1 h3;exact⟨_,.fin qo hi⟩
 |succ n ih=>
  intro s h1 h2 h3 h4;by_cases hlt:s.at_<l.length
  .obtain⟨x,hx⟩:∃x,l[s.at_]?=some x:=qg hlt;obtain⟨a,b,e⟩:=hD.step _ x hx qo;rw[<-h3]at a b e;obtain⟨k1,k2⟩:=yX4 (P:=P) (c:=c) (conds:=conds) a;obtain⟨e1,e2,e3⟩:=e _ k2;have hm:1<=(s.st.length:Int)+more x.op:=by unfold least at a;unfold more;split at a<;>split<;>(try split)<;>omega
   obtain⟨r,hr⟩:=ih (stepL P c conds x s) qo e3 qo qo;exact⟨r,.step hx hr⟩
  .have h5:s.at_=l.length:=qo
   rw[h5,hD.last]at h3;obtain⟨i,hi⟩:=List.length_eq_one_iff.1 h3;exact⟨_,.fin qo hi⟩
variable {cnt:Int} {nc:Nat}
theorem xHx{l:List Ix}(h:yBe l cnt nc) c (conds:List Bool) cs:∃r,LkR P l c conds ⟨0,[newI],cs⟩ r:=by obtain⟨d,hD⟩:=yIz h;exact lkR_ex' hD l.length ⟨0,[newI],cs⟩ (by simp) (zero_le _) (by simp[hD.start]) (by simp)
theorem yYe{l:List Ix}(h:yBe l cnt nc)(conds:List Bool):∀(row:List Ent)(cs:List Ctr),∃o,RowR l conds row cs o
 | [],cs=>⟨_,.nil cs⟩
 |c::r,cs=>by
  obtain⟨⟨i,cs'⟩,h1⟩:=xHx (P:=pfxB) h c conds cs
  obtain⟨o,h2⟩:=yYe h conds r cs'
  exact⟨_,.cons h1 h2⟩
theorem yZ{l:List Ix}(h:yBe l cnt nc){c:Ent}{b b':List Bool}(hb:∀i,i<nc->b[i]?=b'[i]?){s:Lk}{r:It×List Ctr}(hk:LkR P l c b s r):LkR P l c b' s r:=by
 induction hk with
 |fin h hs=>exact .fin h hs
 |step hx _ ih=>
  rename_i s x r _;refine .step hx ?_;have:stepL P c b' x s=stepL P c b x s:=by
   by_cases h5:x.op=5
   .have hi:b[x.a.toNat]?=b'[x.a.toNat]?:=by
     refine hb _ ?_;rcases yC3 h hx with q|q|q|q
     .have:=q.1;omega
     .have:=q.2.2.1;have:=q.2.2.2.1;omega
     .have:=q.1;omega
     .have:=q.1;omega
    simp[stepL,h5,hi]
   .simp[stepL,h5]
  rw[this];exact ih
theorem yNr(hk:∀e∈es,e.kind=0):es.map putE=es:=by
 conv=>rhs;rw[<-map_id es]
 refine map_congr_left λe he=>?_;have:=hk e he;cases e
 simp only[putE,id]at*;subst this;rfl
theorem yQv(a a':Option Addr)(cap cap':Nat)(w:World):
  (xf 23 #[.slice a 0 cap,.slice a' 0 cap'] w true:Prop):=by
 go_enter func23,ntmps23;exact xD2
theorem yLf(a:Option Addr)(cap:Nat)(k:Int) w:
  Calls prog 25 #[.slice a 0 cap,xi k] w λe w'=>e=.returned (xi k)/\w'=w:=by
 go_enter func25,ntmps25;go_wp2;go_loopw[1,5] (λc i wr=>c=(xi k)/\i=(xi 0)/\wr=w) (λ_ i _=>0);case atStart=>exact⟨rfl,rfl,rfl⟩
 case round=>obtain⟨rfl,rfl,rfl⟩:=hrel;go_wp2;go_ret;exact⟨rfl,rfl⟩
theorem yLn(a:Option Addr)(cap:Nat)(k:Int)(w:World):
  (xf 70 #[.slice a 0 cap,xi k] w (xi k):Prop):=by
 go_enter func70,ntmps70;exact xD4
theorem RowC.sl{v:Value}(h:RowC w base v es)(hne:¬es= []):∃g cp,v=(xg g es.length cp)/\OwnC w base g cp es:=by
 rcases h.cases with⟨_,q⟩|q
 .exact absurd q hne
 .exact q
variable {a:Option Addr}
theorem yQx{base':Nat}{a':Option Addr}{c c':Nat}(h:RowC w base (.slice a n c) es)(h':RowC w base' (.slice a' n c') es)(hn:n=es.length):
  (xf 23 #[.slice a n c,.slice a' n c'] w true:Prop):=by
 by_cases he:es= []
 .subst he;subst hn;exact yQv a a' c c' w
 .obtain⟨g,cp,q,hO⟩:=h.sl he;obtain⟨g',a1,q',a0⟩:=h'.sl he;rw[q,q'];exact yKd hO a0
theorem yLg{c:Nat}(h:RowC w base (.slice a n c) es)(hn:n=es.length)(hl:es.length<=1048576):
  Calls prog 25 #[.slice a n c,xi 1] w λe w'=>∃fs,e=.returned (xi (1+(n:Int)*5))/\RowC w' base (.slice a n c) fs/\fs.length=es.length/\yEd 1 fs fs.length/\w.grownBy w' (Value.slice a n c).ownBlock:=by
 by_cases he:es= []
 .subst he;subst hn;refine(yLf a c 1 w).mono ?_;rintro e w' ⟨rfl,rfl⟩;exact⟨[],by simp,h,rfl,λj hj=>by simp at hj,⟨rfl,rfl,rfl,Nat.le_refl _,λ_ _ _=>rfl⟩⟩
 .obtain⟨g,cp,q,hO⟩:=h.sl he;rw[q];refine(yF7 base g cp es 1 w hO qj qj hl).mono ?_;rintro e w' ⟨fs,he,h1,h2,h3,h4⟩;have a0:RowC w' base (xg g fs.length cp) fs:=h1;rw[h2]at a0;exact⟨fs,by rw[he,hn],a0,h2,by rw[h2];exact h3,h4⟩
theorem yLo{c:Nat}(h:RowC w base (.slice a n c) es)(hn:n=es.length)(hl:es.length<=1048576)(hm:yEd 1 es es.length):
  (xf 70 #[.slice a n c,xi 1] w (xi (1+(n:Int)*5)):Prop):=by
 by_cases he:es= []
 .subst he;subst hn;refine(yLn a c 1 w).mono ?_;rintro e w' ⟨rfl,hb⟩;exact⟨by simp,hb⟩
 .obtain⟨g,cp,q,hO⟩:=h.sl he;rw[q,hn];exact yLp g 0 cp es 1 w hO.at hm hO.lt.2 qj qj hl
theorem yDw{base':Nat}{ok:Bool}{a':Option Addr}{n' c c' ops:Nat}(h:RowC w base (.slice a n c) es)(hn:n=es.length)(h':RowC w base' (.slice a' n' c') es)(hn':n'=es.length):
  (xf 21 #[.agg #[ok,.slice a n c,xi ops],.agg #[ok,.slice a' n' c',xi ops]] w true:Prop):=by
 obtain rfl:n'=n:=qo
 obtain⟨W,hW⟩:=qW (xw (w.alloc (Obj.cells #[ok,.slice a n' c,xi ops] 39)) #[ok,.slice a' n' c',xi ops] 39);have hb:Below w w W:=by rw[hW];exact(qB).alloc (by simp) _
 have hz:W.heap.size=w.heap.size+1+1:=by rw[hW];simp
 have HB:Hid (∀X,Below W W X->xk X w 2 (xi ops)/\xk X (w+1) 2 (xi ops)):=λX hX=>by rw[hX.cell (p:=(xd w 2)) (by show w.heap.size<W.heap.size;omega),hX.cell (p:=(xd (w+1) 2)) (by show w.heap.size+1<W.heap.size;omega),hW];exact⟨by simp[go_sem],by simp[go_sem]⟩
 have HC:=qH1 (yQx (h.below hb) (h'.below hb) hn);clear h h' hn hn';go_enter func21,ntmps21;go_wp2_with fail;rw[<-hW];refine HC.mono ?_;rintro e w1 ⟨rfl,a0⟩;obtain⟨z1,z2⟩:=HB.out w1 a0;clear hW;go_wp2;go_ret;exact⟨rfl,hb.trans (a0.mono hb.size)⟩
theorem yJx{ok:Bool}{c ops:Nat}(h:RowC w base (.slice a n c) es)(hn:n=es.length)(hl:es.length<=1048576):
  Calls prog 26 #[.agg #[ok,.slice a n c,xi ops],xi 1] w λe w'=>∃fs,e=.returned (xi (1+(n:Int)*5))/\RowC w' base (.slice a n c) fs/\fs.length=es.length/\yEd 1 fs fs.length/\Chg (λk=>(Value.slice a n c).ownBlock=some k) w w':=by
 obtain⟨W,hW⟩:=qW (xw w #[ok,.slice a n c,xi ops] 39);have hb:=qN hW
 have HC:=yLg (h.below hb) hn hl;have a0:=qH1 HC;clear h hn HC;go_enter func26,ntmps26;go_wp2_with fail;rw[<-hW];refine a0.mono ?_;rintro e w1 ⟨fs,rfl,h1,h2,h3,h4⟩;have HE:=qH4 h1 h2 h3 ((Chg.of_below hb).trans (Chg.of_grown h4 (λk q=>q)));clear hW h1 h2 h3 h4;go_wp2;go_ret;exact⟨fs,rfl,HE.out⟩
theorem yJ7{ok:Bool}{c ops:Nat}(h:RowC w base (.slice a n c) es)(hn:n=es.length)(hl:es.length<=1048576)(hm:yEd 1 es es.length):
  (xf 27 #[.agg #[ok,.slice a n c,xi ops],xi 1] w (xi (1+(n:Int)*5)):Prop):=by
 obtain⟨W,hW⟩:=qW (xw w #[ok,.slice a n c,xi ops] 39);have hb:=qN hW
 have HC:=qH1 (yLo (h.below hb) hn hl hm);have hk:¬(1+(n:Int)*5<0):=qo
 clear h hn;go_enter func27,ntmps27;go_wp2_with fail;rw[<-hW];refine HC.mono ?_;rintro e w1 ⟨rfl,a0⟩;clear hW;go_wp2;go_ret;exact⟨rfl,hb.trans (a0.mono hb.size)⟩
def cdB(cv mv:Value)(bs:List Bk)(k:Nat):Prop:=cv.ownBlock=some k\/mv.ownBlock=some k\/∃x∈bs,x.v.ownBlock=some k
variable {cv:Value} {bs:List Bk} {M:List Ix}
theorem CdO.blk{mv:Value}(h:CdO w base cv mv bs M){k:Nat}(hk:cdB cv mv bs k):base<=k/\k<w.heap.size:=by
 rcases hk with q|q|⟨x,hx,q⟩
 .exact h.row.blk q
 .exact h.main.blk q
 .exact(h.each x hx).blk q
theorem CdO.below{mv:Value}(h:CdO w base cv mv bs M)(hb:Below w w w'):CdO w' base cv mv bs M:=⟨h.row.below hb,h.each.below hb,h.main.below hb,h.pw,h.apt⟩
theorem yP1{mv:Value}(h:CdO w base cv mv bs M)(k:Int)(h0:0<k)(h1:k<=2^28)(ht:yA6 bs<=2^28)(he:∀x∈bs,x.l.length<=1048576)(hml:M.length<=1048576):
  Calls prog 24 #[.agg #[cv,mv,xi cnt],xi k] w λe w'=>e=.returned (xi (k+yA6 bs+M.length*11))/\Chg (cdB cv mv bs) w w':=by
 obtain⟨ca,cc,a9⟩:=h.row.slice;obtain⟨ma,mc,a6⟩:=h.main.slice;obtain⟨cn,aa⟩:=qE bs.length;obtain⟨mn,a0⟩:=qE M.length;rw[<-aa]at a9;rw[<-a0]at a6;subst a9 a6;clear aa;obtain⟨W0,a2⟩:=qW (xw w #[.slice ca cn cc,.slice ma mn mc,xi cnt] 34);have ab:=qN a2
 have ad:Hid (yA W0 w 34 3 w [.slice ca cn cc,.slice ma mn mc,xi cnt]):=by rw[a2];exact yAa w _ qr rfl
 have HU:=qH3 (h.below ab) h a0;have HC:=qH1 (yLh _ _ bs k W0 HU.1.row HU.1.each h.pw h0 h1 ht he);have ah:k+(yA6 bs:Int)<=2^29:=qo
 have q0:=ad.cell (j:=0) rfl;rw[<-a0];rw[<-a0]at hml;clear h a0 he;obtain⟨tl,a3⟩:=qE (yA6 bs);have al:=qH1 a3;rw[<-a3]at ah ht|-;clear a3;go_enter func24,ntmps24;go_upto_region 1 with fail;rw[<-a2];clear a2;go_wp2_with fail;refine HC.mono ?_;rintro e w1 ⟨fs,rfl,aj,ak,af,ag,a1⟩;rw[<-al.out];have a4:∀j,MkS (.slice ca cn cc) (bs.map Bk.v) j->cdB (.slice ca cn cc) (.slice ma mn mc) bs j:=λj hj=>by
  rcases hj with q|⟨v,hv,q⟩
  .exact .inl q
  .obtain⟨x,hx,rfl⟩:=List.mem_map.1 hv;exact .inr (.inr ⟨x,hx,q⟩)
 have a5:¬MkS (.slice ca cn cc) (bs.map Bk.v) w.heap.size:=λq=>qw ((HU.2.1.blk (a4 _ q)).2)
 have ac:=qH1 (ad.chg a1 a5);have a7:RowX w1 base (.slice ma mn mc) M:=HU.1.main.chg a1 (λj hj q=>by
  rcases q with q|⟨v,hv,q⟩
  .exact yE6 HU.1.main HU.1.row j hj q
  .obtain⟨x,hx,rfl⟩:=List.mem_map.1 hv
   exact HU.2.1.apt x hx (q.trans hj.symm))
 have H1:=qH1 ((Chg.of_below ab).trans (a1.mono a4));have am:Hid (Calls prog 68 #[.agg #[.slice ma mn mc,xi cnt],xi (k+(tl:Int))] w1 λe w'=>
   ∃R',e=.returned (xi (k+(tl:Int)+(mn:Int)*11))/\RowX w' base (.slice ma mn mc) R'/\R'.length=M.length/\yCt (k+(tl:Int)) R' R'.length/\w1.grownBy w' (Value.slice ma mn mc).ownBlock):=by
  rw[HU.2.2];have h9:=yN5 base (.slice ma mn mc) cnt M (k+(tl:Int)) w1 a7 qo qo (by rw[<-HU.2.2];exact hml);rw[HU.2.2]at h9;exact h9
 clear aj ak af ag a1 a5 a7 a4 q0;have q1:=ac.cell (j:=1) rfl;have q2:=ac.cell (j:=2) rfl;go_wp2_with fail;refine am.mono ?_;rintro e w2 ⟨R,rfl,ai,hl2,ae,a8⟩;have HR:=qH1 (H1.trans (Chg.of_grown a8 (λj hj=>.inr (.inl hj))));clear ai hl2 ae a8;go_wp2;go_ret;exact⟨rfl,HR.out⟩
end Go.Proofs.YtnnagkfoiganfaaGreatDoor
