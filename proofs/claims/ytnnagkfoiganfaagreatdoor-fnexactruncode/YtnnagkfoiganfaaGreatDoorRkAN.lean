import Derived.Test.YtnnagkfoiganfaaGreatDoorRkAK
namespace Go.Proofs.YtnnagkfoiganfaaGreatDoor
open Go.ChangeShapes Go.WideShapes Go.ChangeAt Go.RowKit Go.Deep XD XI XU XG XP XK XW XT XF XE XH _root_.List _root_.Nat Go.Shelf Go.Proofs.Tryz
set_option linter.unusedVariables false
set_option linter.unusedSimpArgs false
set_option maxRecDepth 100000
set_option maxHeartbeats 40000000
variable {p:Prop}
theorem zLkF (h:p:=by
 have t0:=HZ.1.stk.cell yAd HI.out 0 (by omega);have t1:=HZ.1.stk.cell yAd HI.out 1 (by omega);have t2:=HZ.1.stk.cell yAd HI.out 2 (by omega);have t3:=HZ.1.stk.cell yAd HI.out 3 (by omega);simp only[getElem?_cons_zero,getElem?_cons_succ,Nat.add_zero]at t0 t1 t2 t3;have fz:∀k,WZ.frozen? (xd g k)=false:=λk=>World.ownsRow.frozenAt HZ.1.stk k;have g0:=fz (tn*4);have g1:=fz (tn*4+1);have g2:=fz (tn*4+2);have g3:=fz (tn*4+3);obtain⟨p0,p1,p2,p3⟩:=HZ.2.c4;obtain⟨WY,hWY⟩:=qE (setCs WZ g (tn*4) iz.four:World);have HY:Hid (LkM G (m.set tn iz) g cp cz WY/\tn+1=(m.set tn iz).length):=by have hm:=HL.1;exact⟨HZ.1.grow (by rw[hWY];exact HZ.1.stk.setAll yAd (i:=tn) (e:=iz) (by omega)) HZ.1.gne (by rw[hWY];exact yAl (S:=λk=>k=g) g rfl _ _ _),by rw[length_set];exact hm⟩
 simp only[setCs]at hWY;have hrz:=HRz.2.2.1;clear fz;go_upto_region 45 with fail;rw[<-hWY];clear hWY;go_wp2;go_roundw;case rel=>exact⟨at_+1,tn+1,g,cp,m.set tn iz,cz,hrz,hs1,hs2,rfl,by go_num,HY.1,HY.2,HRz.1⟩
 case measure=>simp[intOf];omega):p:=h
theorem zLkT (h:p:=by
 have a4:=HWQ.2.1.cell (j:=4) rfl;obtain⟨p0,p1,p2,p3⟩:=HWQ.2.2.c4;rw[HAL.out]at p0;rw[hst]at p1;obtain⟨f0,f1,f2,f3⟩:=HWQ.2.2.f4;obtain⟨i2,hi2⟩:=qE (⟨true,i.strip || (x.leaf.kind==3),i.hint⟩:It);have HI2:Hid (i2=⟨true,i.strip || (x.leaf.kind==3),i.hint⟩):=hi2;obtain⟨W8,hW8⟩:=qE (xt wq W2 1 i2.strip:World);have HW8:Hid (LkM G m g cp cq W8/\yA W8 G.w 153 11 wr x.ten/\yA W8 G.w 115 4 W2 i2.four):=by
  have hc8:Chg (λk=>k=W2.heap.size) wq W8:=by rw[hW8];exact Chg.of_set _ _ _ _ rfl
  have h1:=HWQ.2.2.set 1 i2.strip;rw[<-hW8]at h1;refine⟨HWQ.1.side ⟨by have:=HWQ.1.gne;omega,by omega⟩ hc8,HWQ.2.1.chg hc8 (by omega),?_⟩;have h2:i.four.set 1 i2.strip=i2.four:=by rw[hi2];unfold It.four;simp[HAL.out]
  rw[<-h2];exact h1
 simp only[hi2,hst,Bool.false_or,Bool.true_or]at hW8;go_upto_region 20 with fail;rw[<-hW8];clear hW8 hi2 p0 p1 p2 p3 f0 f1 f2 f3;cases tb
 .obtain⟨p0,p1,p2,p3⟩:=HW8.2.2.c4;obtain⟨f0,f1,f2,f3⟩:=HW8.2.2.f4;obtain⟨W10,hW10⟩:=qE (setCs W8 W2 0 (yBl noH).four:World);have HW10:Hid (LkM G m g cp cq W10/\yA W10 G.w 153 11 wr x.ten/\yA W10 G.w 115 4 W2 (yBl noH).four):=by obtain⟨q1,q2⟩:=yEo HW8.2.2 hW10;exact⟨HW8.1.side ⟨by have:=HW8.1.gne;omega,by omega⟩ q2,HW8.2.1.chg q2 (by omega),q1⟩
  have hs10:W10.heap.size=W8.heap.size:=by rw[hW10];simp[setCs]
  simp only[setCs,yBl,noH,Nat.zero_add,Nat.reduceAdd]at hW10;have HLI:Hid (leafI pfxB x G.c i cs=(yBl (if x.free=true then yB4 (pfxB x.leaf.s) x.leaf G.c else noH),cq)):=by show _=_;rw[HQ.out,if_neg (by simp)]
  go_upto_region 22 with fail;rw[<-hW10];clear hW10 p0 p1 p2 p3 f0 f1 f2 f3 hs10;have a3:=HW10.2.1.cell (j:=3) rfl;obtain⟨cz,hcz⟩:=qE cq;cases hfr:x.free
  .rw[hfr]at a3;obtain⟨WZ,hWZ⟩:=qE W10;obtain⟨iz,hiz⟩:=qE (yBl noH);have HZ:Hid (LkM G m g cp cz WZ/\yA WZ G.w 115 4 W2 iz.four):=by rw[hWZ,hiz,hcz];exact⟨HW10.1,HW10.2.2⟩
   have HRz:Hid (LkL G (at_+1) (m.set tn iz) cz/\at_<at_+1/\at_+1<=G.N/\1<=(m.set tn iz).length/\(m.set tn iz).length<=250):=
    HL.2.next HG.2.1 hN.out (by have:=HL.1;omega) HX.out (by
     rw[yFm ho (yDr HL.1 HI.out),HLI.out,yNe HL.1,hfr,if_neg (by simp),hiz,hcz]) (by unfold ways;rw[if_neg (by omega),if_neg (by omega)];simp) (by unfold more;rw[if_neg (by omega),if_neg (by omega),length_set];omega)
   rw[<-hWZ]at a3|-;clear hWZ hiz hcz hfr;exact zLkF
  .rw[hfr]at a3;have a4:=HW10.2.1.cell (j:=4) rfl;have a5:=HW10.2.1.cell (j:=5) rfl;have a6:=HW10.2.1.cell (j:=6) rfl;have a7:=HW10.2.1.cell (j:=7) rfl;have a8:=HW10.2.1.cell (j:=8) rfl;have a9:=HW10.2.1.cell (j:=9) rfl;have a10:=HW10.2.1.cell (j:=10) rfl;obtain⟨c0,c1,c2,c3,c4⟩:=HW10.1.cel.c5;go_wp2_with fail;refine(yTl x.leaf G.c W10 hsx).mono ?_;rintro e w11 ⟨rfl,hb11⟩;obtain⟨hx,hhx⟩:=qE (yB4 (pfxB x.leaf.s) x.leaf G.c);rw[<-hhx];have HHX:Hid (hx=yB4 (pfxB x.leaf.s) x.leaf G.c):=hhx;have HW11:Hid (LkM G m g cp cq w11/\yA w11 G.w 115 4 W2 (yBl noH).four):=⟨HW10.1.on hb11,HW10.2.2.below hb11⟩;clear hhx hb11 a3 a4 a5 a6 a7 a8 a9 a10 c0 c1 c2 c3 c4;have p2:=HW11.2.cell (j:=2) rfl;have p3:=HW11.2.cell (j:=3) rfl;have f2:=HW11.2.frozen 2;have f3:=HW11.2.frozen 3;obtain⟨WZ,hWZ⟩:=qE (xt (w11.setCell (xd W2 2) (xi hx.rank)) W2 3 hx.txt:World);obtain⟨iz,hiz⟩:=qE (yBl hx);have HZ:Hid (LkM G m g cp cz WZ/\yA WZ G.w 115 4 W2 iz.four):=by
    have b1:=(HW11.2.set 2 (xi hx.rank)).set 3 hx.txt;rw[<-hWZ]at b1;have hc:Chg (λk=>k=W2.heap.size) w11 WZ:=by rw[hWZ];exact(Chg.of_set (S:=λk=>k=W2.heap.size) _ _ _ _ rfl).trans (Chg.of_set (S:=λk=>k=W2.heap.size) _ _ _ _ rfl)
    rw[hiz,hcz];exact⟨HW11.1.side ⟨by have:=HW11.1.gne;omega,by omega⟩ hc,b1⟩
   have HRz:Hid (LkL G (at_+1) (m.set tn iz) cz/\at_<at_+1/\at_+1<=G.N/\1<=(m.set tn iz).length/\(m.set tn iz).length<=250):=
    HL.2.next HG.2.1 hN.out (by have:=HL.1;omega) HX.out (by
     rw[yFm ho (yDr HL.1 HI.out),HLI.out,yNe HL.1,hfr,if_pos rfl,hiz,hcz,HHX.out]) (by unfold ways;rw[if_neg (by omega),if_neg (by omega)];simp) (by unfold more;rw[if_neg (by omega),if_neg (by omega),length_set];omega)
   go_upto_region 24 with fail;rw[<-hWZ];clear hWZ hiz hcz hfr p2 p3 f2 f3;exact zLkF
 .obtain⟨WZ,hWZ⟩:=qE W8;obtain⟨iz,hiz⟩:=qE i2;obtain⟨cz,hcz⟩:=qE cq;have HZ:Hid (LkM G m g cp cz WZ/\yA WZ G.w 115 4 W2 iz.four):=by rw[hWZ,hiz,hcz];exact⟨HW8.1,HW8.2.2⟩
  have HRz:Hid (LkL G (at_+1) (m.set tn iz) cz/\at_<at_+1/\at_+1<=G.N/\1<=(m.set tn iz).length/\(m.set tn iz).length<=250):=
   HL.2.next HG.2.1 hN.out (by have:=HL.1;omega) HX.out (by
    rw[yFm ho (yDr HL.1 HI.out),HQ.out,yNe HL.1,if_pos rfl,hiz,HI2.out,hcz]) (by unfold ways;rw[if_neg (by omega),if_neg (by omega)];simp) (by unfold more;rw[if_neg (by omega),if_neg (by omega),length_set];omega)
  rw[<-hWZ];clear hWZ hiz hcz;exact zLkF):p:=h
theorem zRdL (h:p:=by
 obtain⟨tn,rfl⟩:∃tn,sn=tn+1:=⟨sn-1,by omega⟩;obtain⟨i,hi⟩:∃i,m[tn]?=some i:=qg (by have:=HL.1;omega);rw[ho]at y0;have t0:=HW2.1.stk.cell yAd hi 0 (by omega);have t1:=HW2.1.stk.cell yAd hi 1 (by omega);have t2:=HW2.1.stk.cell yAd hi 2 (by omega);have t3:=HW2.1.stk.cell yAd hi 3 (by omega);simp only[getElem?_cons_zero,getElem?_cons_succ,Nat.add_zero]at t0 t1 t2 t3;have HI:Hid (m[tn]?=some i):=hi;have hgl:=HW2.1.stk.lt.2;have hgn:=yF hlf x.leaf (by simp);have hsx:x.leaf.s.size<=maxLen:=by have:=hgn.1;unfold maxLen;omega
 clear hi;obtain⟨W3,hW3⟩:=qE (xw W2 #[i.alive,i.strip,xi i.hint.rank,i.hint.txt] 115:World);have HW3:Hid (LkM G m g cp cs W3/\yA W3 G.w 153 11 wr x.ten/\yA W3 G.w 115 4 W2 i.four/\W3.heap.size=W2.heap.size+1):=by
  have k3:=qN hW3
  exact⟨HW2.1.on k3,HW2.2.1.below k3,by rw[hW3];exact yAa W2 _ HW2.1.chg.size rfl,by rw[hW3];simp⟩
 go_upto_region 10 with fail;rw[<-hW3];clear hW3 t0 t1 t2 t3;obtain⟨p0,p1⟩:=HW3.2.2.1.c2;cases hal:i.alive
 .rw[hal]at p0
  have HR:Hid (LkL G (at_+1) m cs/\at_<at_+1/\at_+1<=G.N/\1<=m.length/\m.length<=250):=
   HL.2.next HG.2.1 hN.out (by have:=HL.1;omega) HX.out (by unfold stepL;rw[if_pos ho,yDr HL.1 HI.out];simp only[leafI,hal];rfl) (by unfold ways;rw[if_neg (by omega),if_neg (by omega)];simp) (by unfold more;rw[if_neg (by omega),if_neg (by omega)];omega)
  have hr2:=HR.2.2.1;clear hal;go_wp2;go_roundw;case rel=>exact⟨at_+1,tn+1,g,cp,m,cs,hr2,hs1,hs2,rfl,by go_num,HW3.1,HL.1,HR.1⟩
  case measure=>simp[intOf];omega
 .rw[hal]at p0;have HAL:Hid (i.alive=true):=hal;clear hal;obtain⟨c0,c1,c2,c3,c4⟩:=HW3.1.cel.c5;have hsr3:G.w.heap.size+1<W3.heap.size:=by have:=HW3.1.gne;have:=HW3.1.stk.lt;omega
  have hl3:W2.heap.size<W3.heap.size:=by have:=HW3.2.2.2;omega
  obtain⟨W5,hW5⟩:=qE (xw W3 #[G.c.row,G.c.fam,G.c.qual,xu G.c.ts,(yB i G.c).val] 70:World);obtain⟨c',hc'⟩:=qE (yB i G.c);have HC:Hid (c'=yB i G.c):=hc';have HW5:Hid (LkM G m g cp cs W5/\yA W5 G.w 153 11 wr x.ten/\yA W5 G.w 115 4 W2 i.four/\yA W5 G.w 70 5 W3 c'.five):=by
   have k5:=qN hW5
   have b5:yA W5 G.w 70 5 W3 (yB i G.c).five:=by rw[hW5,yX2];exact yAa W3 _ HW3.1.chg.size rfl
   exact⟨HW3.1.on k5,HW3.2.1.below k5,HW3.2.2.1.below k5,by rw[hc'];exact b5⟩
  obtain⟨d0,d1,d2,d3,d4⟩:=HW5.2.2.2.c5;have a4:=HW5.2.1.cell (j:=4) rfl;have a5:=HW5.2.1.cell (j:=5) rfl;have a6:=HW5.2.1.cell (j:=6) rfl;have a7:=HW5.2.1.cell (j:=7) rfl;have a8:=HW5.2.1.cell (j:=8) rfl;have a9:=HW5.2.1.cell (j:=9) rfl;have a10:=HW5.2.1.cell (j:=10) rfl;have hw23:W2.heap.size<W3.heap.size:=hl3;have hwr2:wr.heap.size<W2.heap.size:=HW2.2.1.lt.2;clear hc';cases hst:i.strip
  all_goals
   rw[hst]at p1
   go_upto_region 14 with fail
   simp only[yB,hst,if_true,if_false,Bool.false_eq_true]at hW5
   rw[<-hW5]
   clear hW5 c0 c1 c2 c3 c4 p0 p1
   go_wp2_with fail
   refine(yS7 x.leaf c' W5 hsx).mono ?_
   rintro e w6 ⟨rfl,hb6⟩
   obtain⟨tb,htb⟩:=qE (tstB x.leaf c')
   have HTB:Hid (tb=tstB x.leaf c'):=htb
   rw[<-htb]
   have HW6:Hid (LkM G m g cp cs w6/\yA w6 G.w 153 11 wr x.ten/\yA w6 G.w 115 4 W2 i.four):=⟨HW5.1.on hb6,HW5.2.1.below hb6,HW5.2.2.1.below hb6⟩
   have hs6:=hb6.size
   clear htb hb6 d0 d1 d2 d3 d4 a4 a5 a6 a7 a8 a9 a10
   have a4:=HW6.2.1.cell (j:=4) rfl
   have a5:=HW6.2.1.cell (j:=5) rfl
   have a6:=HW6.2.1.cell (j:=6) rfl
   have a7:=HW6.2.1.cell (j:=7) rfl
   have a8:=HW6.2.1.cell (j:=8) rfl
   have a9:=HW6.2.1.cell (j:=9) rfl
   have a10:=HW6.2.1.cell (j:=10) rfl
   go_wp2_with fail
   refine(yW0 x.leaf w6).mono ?_
   rintro e w7 ⟨rfl,hb7⟩
   have HW7:Hid (LkM G m g cp cs w7/\yA w7 G.w 153 11 wr x.ten/\yA w7 G.w 115 4 W2 i.four):=⟨HW6.1.on hb7,HW6.2.1.below hb7,HW6.2.2.below hb7⟩
   have hs7:=hb7.size
   clear hb7 a4 a5 a6 a7 a8 a9 a10
   rcases hab with⟨hck,hA0,hA1⟩|⟨hck,hA0⟩
   .have hn1:x.leaf.n<=1000:=by have h9:=hgn.2.2.2;unfold cntK at hck;rcases h9 with⟨q,_⟩|⟨q,_⟩|⟨q,_⟩|⟨_,_,_,q⟩|⟨q,_⟩<;>omega
    obtain⟨an,han⟩:∃an:Nat,x.a=(an:Int):=⟨x.a.toNat,by omega⟩;have hank:(an:Int)<(G.nk:Int):=by have:=hK.out;have:=HG.2.2.2;omega
    obtain⟨k,hk⟩:∃k,cs[an]?=some k:=qg (by have:=HW7.1.len;omega);have HK:Hid (cs[an]?=some k/\x.a=(an:Int)):=⟨hk,han⟩;have hct:yTk x.leaf.kind=true:=by unfold yTk;exact decide_eq_true hck
    rw[hct];obtain⟨W8,hW8⟩:=qE (xw w7 #[false,xe,xe,xe,xi 0] 198:World);have HW8:Hid (LkM G m g cp cs W8/\yA W8 G.w 153 11 wr x.ten/\yA W8 G.w 115 4 W2 i.four/\yA W8 G.w 198 5 w7 newC.five):=by
     have k8:=qN hW8
     exact⟨HW7.1.on k8,HW7.2.1.below k8,HW7.2.2.below k8,by rw[hW8];exact yAa w7 _ HW7.1.chg.size rfl⟩
    have HSS:Hid (∀X:World,LkM G m g cp cs X->yA X G.w 153 11 wr x.ten->(λw':World=>xk w' wr 4 (xi x.leaf.kind)/\xk w' wr 5 x.leaf.s/\xk w' wr 6 x.leaf.hi/\xk w' wr 7 x.leaf.t/\xk w' wr 8 (xu x.leaf.lo)/\xk w' wr 9 (xu x.leaf.up)/\xk w' wr 10 (xi x.leaf.n)/\xk w' wr 1 (xi an)/\xk w' G.gc (an*5) k.used/\xk w' G.gc (an*5+1) k.row/\xk w' G.gc (an*5+2) k.fam/\xk w' G.gc (an*5+3) k.qual/\xk w' G.gc (an*5+4) (xi k.count)/\xk w' (G.w+1) 0 G.c.row/\xk w' (G.w+1) 1 G.c.fam/\xk w' (G.w+1) 2 G.c.qual/\xk w' (G.w+1) 3 (xu G.c.ts)/\xk w' (G.w+1) 4 G.c.val) X):=λX h1 h2=>
     ⟨h2.cell (j:=4) rfl,h2.cell (j:=5) rfl,h2.cell (j:=6) rfl,h2.cell (j:=7) rfl,h2.cell (j:=8) rfl,h2.cell (j:=9) rfl,h2.cell (j:=10) rfl,by rw[<-han];exact h2.cell (j:=1) rfl,
      h1.ctr.cell yGe hk 0 (by omega),h1.ctr.cell yGe hk 1 (by omega),h1.ctr.cell yGe hk 2 (by omega),h1.ctr.cell yGe hk 3 (by omega),h1.ctr.cell yGe hk 4 (by omega),
      h1.cel.cell (j:=0) rfl,h1.cel.cell (j:=1) rfl,h1.cel.cell (j:=2) rfl,h1.cel.cell (j:=3) rfl,h1.cel.cell (j:=4) rfl⟩
    have hS0:=HSS.out W8.drew (HW8.1.on ((Below.refl _ _).drew)) (HW8.2.1.below ((Below.refl _ _).drew));have hkb:=HW8.1.cb k (mem_of_getElem? hk);clear hk han;go_upto_region 17 with fail;rw[<-hW8];clear hW8;refine yAf 99 (λw':World=>xk w' wr 4 (xi x.leaf.kind)/\xk w' wr 5 x.leaf.s/\xk w' wr 6 x.leaf.hi/\xk w' wr 7 x.leaf.t/\xk w' wr 8 (xu x.leaf.lo)/\xk w' wr 9 (xu x.leaf.up)/\xk w' wr 10 (xi x.leaf.n)/\xk w' wr 1 (xi an)/\xk w' G.gc (an*5) k.used/\xk w' G.gc (an*5+1) k.row/\xk w' G.gc (an*5+2) k.fam/\xk w' G.gc (an*5+3) k.qual/\xk w' G.gc (an*5+4) (xi k.count)/\xk w' (G.w+1) 0 G.c.row/\xk w' (G.w+1) 1 G.c.fam/\xk w' (G.w+1) 2 G.c.qual/\xk w' (G.w+1) 3 (xu G.c.ts)/\xk w' (G.w+1) 4 G.c.val) (by kernel_rfl) ?_;refine ja 0 hS0 ?_;iterate 7 refine jb hS0 ?_
    refine qO 8 rfl λK hK=>?_;go_simp;refine(yY6 x.leaf k G.c W8.drew hck ⟨hkb.1,by omega⟩).mono ?_;rintro e w9 ⟨rfl,hb9⟩;obtain⟨mb,hmb⟩:=qE ((yCh x.leaf k G.c).1);obtain⟨k2,hk2⟩:=qE ((yCh x.leaf k G.c).2);rw[<-hmb,<-hk2];have HM:Hid (mb=(yCh x.leaf k G.c).1/\k2=(yCh x.leaf k G.c).2):=⟨hmb,hk2⟩;have h89:Below W8 W8 w9:=((Below.refl _ _).drew).trans hb9;have HW9:Hid (LkM G m g cp cs w9/\yA w9 G.w 153 11 wr x.ten/\yA w9 G.w 115 4 W2 i.four/\yA w9 G.w 198 5 w7 newC.five):=⟨HW8.1.on h89,HW8.2.1.below h89,HW8.2.2.1.below h89,HW8.2.2.2.below h89⟩;have hS9:=HSS.out w9 HW9.1 HW9.2.1;obtain⟨v0,v1,v2,v3,v4⟩:=HW9.2.2.2.c5;obtain⟨f0,f1,f2,f3,f4⟩:=HW9.2.2.2.f5;clear hb9 h89 hmb hk2 hS0;refine hK.out _ _ (.inr hS9) ?_;clear hK;refine jS ?_;iterate 4 refine jb hS9 ?_
    obtain⟨W10,hW10⟩:=qE (setCs w9 w7 0 k2.five:World);have hg7:g<w7.heap.size:=HW7.1.stk.lt.2;have hw27:W2.heap.size<w7.heap.size:=HW7.2.2.lt.2;have hwr7:wr.heap.size<w7.heap.size:=HW7.2.1.lt.2;have HW10:Hid (LkM G m g cp cs W10/\yA W10 G.w 153 11 wr x.ten/\yA W10 G.w 115 4 W2 i.four/\yA W10 G.w 198 5 w7 k2.five):=by
     have hc:Chg (λq=>q=w7.heap.size) w9 W10:=by rw[hW10];exact yAl (S:=λq=>q=w7.heap.size) _ rfl _ _ _
     refine⟨HW9.1.side ⟨by have:=HW9.1.gne;omega,by omega⟩ hc,HW9.2.1.chg hc (by omega),HW9.2.2.1.chg hc (by omega),?_⟩;have:=HW9.2.2.2.setCs k2.five;rw[hW10];exact this
    have hS10:=HSS.out W10 HW10.1 HW10.2.1;simp only[setCs,Nat.zero_add,Nat.reduceAdd]at hW10;refine qO 13 rfl λK hK=>?_;go_simp;rw[<-hW10];refine hK.out _ _ (.inr hS10) ?_;clear hK hW10 hS9 v0 v1 v2 v3 v4 f0 f1 f2 f3 f4;refine jS ?_;refine qD ?_;obtain⟨v0,v1,v2,v3,v4⟩:=HW10.2.2.2.c5;obtain⟨-,-,-,-,-,-,-,b1,u0,u1,u2,u3,u4,-,-,-,-,-⟩:=hS10;have fz:∀q,W10.frozen? (xd G.gc q)=false:=λq=>World.ownsRow.frozenAt HW10.1.ctr q;have f0:=fz (an*5);have f1:=fz (an*5+1);have f2:=fz (an*5+2);have f3:=fz (an*5+3);have f4:=fz (an*5+4);obtain⟨wq,hwq⟩:=qE (setCs W10 G.gc (an*5) k2.five:World);obtain⟨cq,hcq⟩:=qE (cs.set an k2);have hgcl:=HW10.1.gcl;have HWQ:Hid (LkM G m g cp cq wq/\yA wq G.w 153 11 wr x.ten/\yA wq G.w 115 4 W2 i.four):=by
     have hc:Chg (λq=>q=G.gc) W10 wq:=by rw[hwq];exact yAl (S:=λq=>q=G.gc) _ rfl _ _ _
     have hl:=HW10.1.len;refine⟨HW10.1.ctrs (by rw[hwq,hcq];exact HW10.1.ctr.setAll yGe (i:=an) (e:=k2) (by omega)) (by rw[hcq,length_set];exact hl) (λq hq=>?_) hc,HW10.2.1.chg hc (by omega),HW10.2.2.1.chg hc (by omega)⟩;rw[hcq]at hq;rcases mem_or_eq_of_mem_set hq with z|z
     .exact HW10.1.cb q z
     .rw[z,HM.2];exact xF hkb hn1
    have HQ:Hid (leafI pfxB x G.c i cs=(if mb=true then⟨true,i.strip || (x.leaf.kind==3),i.hint⟩else yBl (if x.free=true then yB4 (pfxB x.leaf.s) x.leaf G.c else noH),cq)):=by show _=_;rw[yP7 HAL.out hck (by rw[HK.2];simpa using HK.1),<-HM.1,<-HM.2,hcq,HK.2];simp
    clear fz;simp only[setCs]at hwq;go_upto_region 19 with fail;rw[<-hwq];clear hwq hcq v0 v1 v2 v3 v4 f0 f1 f2 f3 f4 b1 u0 u1 u2 u3 u4;obtain⟨tb,htb⟩:=qE mb;rw[<-htb]at HQ|-;clear htb;exact zLkT
   .have hcf:yTk x.leaf.kind=false:=by unfold yTk;rw[decide_eq_false_iff_not];exact hck
    rw[hcf];obtain⟨wq,hwq⟩:=qE w7;obtain⟨cq,hcq⟩:=qE cs;have HWQ:Hid (LkM G m g cp cq wq/\yA wq G.w 153 11 wr x.ten/\yA wq G.w 115 4 W2 i.four):=by rw[hwq,hcq];exact HW7.out
    have HQ:Hid (leafI pfxB x G.c i cs=(if tb=true then⟨true,i.strip || (x.leaf.kind==3),i.hint⟩else yBl (if x.free=true then yB4 (pfxB x.leaf.s) x.leaf G.c else noH),cq)):=by show _=_;rw[yVa HAL.out hck,<-HC.out,<-HTB.out,hcq]
    rw[<-hwq]at hs7|-;clear hwq hcq;exact zLkT):p:=h
theorem zRdB (h:p:=by
 obtain⟨an,han⟩:∃an:Nat,x.a=(an:Int):=⟨x.a.toNat,by omega⟩;obtain⟨bv,hbv⟩:∃bv,G.conds[an]?=some bv:=qg (by have:=HG.2.2.1;omega);obtain⟨bc,oc,hca,hcc,-,-⟩:=HW2.1.cnd an bv hbv;have hnc:(an:Int)<(G.nC:Int):=by have:=HG.2.2.1;have:=hC.out;omega
 have HBV:Hid (G.conds[x.a.toNat]?=some bv):=by show _=_;rw[han];simpa using hbv
 rw[han]at y1;rw[ho]at y0;have HCA:Hid (G.ca=some ⟨bc,oc,none⟩):=hca;rw[hca];clear hbv ha0 ha1 hca;have zb:((x.b.toNat:Nat):Int)=x.b:=by omega
 cases bv
 .have HR:Hid (LkL G x.b.toNat m cs/\at_<x.b.toNat/\x.b.toNat<=G.N/\1<=m.length/\m.length<=250):=
   HL.2.next HG.2.1 hN.out (by have:=HL.1;omega) HX.out (by unfold stepL;rw[if_neg (by omega),if_neg (by omega),if_neg (by omega),if_neg (by omega),if_pos ho,if_pos HBV.out]) (by unfold ways;rw[if_pos ho];simp) (by unfold more;rw[if_neg (by omega),if_neg (by omega)];omega)
  have hr1:=HR.2.1;have hr2:=HR.2.2.1;go_wp2_with fail;rw[<-HCA.out];exact xCu
 .have HR:Hid (LkL G (at_+1) m cs/\at_<at_+1/\at_+1<=G.N/\1<=m.length/\m.length<=250):=
   HL.2.next HG.2.1 hN.out (by have:=HL.1;omega) HX.out (by unfold stepL;rw[if_neg (by omega),if_neg (by omega),if_neg (by omega),if_neg (by omega),if_pos ho,if_neg (by rw[HBV.out];simp)]) (by unfold ways;rw[if_pos ho];simp) (by unfold more;rw[if_neg (by omega),if_neg (by omega)];omega)
  have hr2:=HR.2.2.1;go_wp2_with fail;rw[<-HCA.out];go_roundw;case rel=>exact⟨at_+1,sn,g,cp,m,cs,hr2,hs1,hs2,rfl,by go_num,HW2.1,HL.1,HR.1⟩
  case measure=>simp[intOf];omega):p:=h
theorem zRdJ (h:p:=by
 have zb:((x.b.toNat:Nat):Int)=x.b:=by omega
 have HR:Hid (LkL G x.b.toNat m cs/\at_<x.b.toNat/\x.b.toNat<=G.N/\1<=m.length/\m.length<=250):=
  HL.2.next HG.2.1 hN.out (by have:=HL.1;omega) HX.out (by unfold stepL;rw[if_neg (by omega),if_neg (by omega),if_neg (by omega),if_neg (by omega),if_neg (by omega),if_pos ho]) (by unfold ways;rw[if_neg (by omega),if_pos ho];simp) (by unfold more;rw[if_neg (by omega),if_neg (by omega)];omega)
 rw[ho]at y0;have hr1:=HR.2.1;have hr2:=HR.2.2.1;go_wp2_with fail;exact xCu):p:=h
theorem zRdD (h:p:=by
 obtain⟨i,hi⟩:∃i,m[tn]?=some i:=qg (by have:=HL.1;omega);rw[ho]at y0;have t0:=HW2.1.stk.cell yAd hi 0 (by omega);have t1:=HW2.1.stk.cell yAd hi 1 (by omega);have t2:=HW2.1.stk.cell yAd hi 2 (by omega);have t3:=HW2.1.stk.cell yAd hi 3 (by omega);simp only[getElem?_cons_zero,getElem?_cons_succ,Nat.add_zero]at t0 t1 t2 t3;obtain⟨W3,hW3⟩:=qE (xw W2 #[i.alive,i.strip,xi i.hint.rank,i.hint.txt] 115:World);have HW3:Hid (LkM G m g cp cs W3/\(∀j u,i.four[j]?=some u->(xk W3 W2 j u:Prop))):=by
  have hb3:=qN hW3
  exact⟨HW2.1.on hb3,by rw[hW3];exact yBm W2 i.four _⟩
 have HI:Hid (m[tn]?=some i):=hi;have hgl:=HW3.1.stk.lt;have z3:=qS hW3
 clear hi;go_wp2_with (at_builtin;(try rw[<-hW3]);refine yDb yAd _ rfl _ _ 199 rfl underlying199 Tryz.infoItm rfl (by decide) (by decide) yG2 G.w g cp (tn+1) W2 1 m i rfl rfl HL.1 HW3.1.stk HW3.2 ?hl ?hb ?_);case hl=>rw[<-HL.1];omega
 case hb=>omega
 intro g' cp' w' hO' hgr hat';have hgr2:W3.grownBy w' (some g):=by first|exact hgr|(rw[hW3];exact hgr)
 have HR:Hid (LkL G (at_+1) (m++ [i]) cs/\at_<at_+1/\at_+1<=G.N/\1<=(m++ [i]).length/\(m++ [i]).length<=250):=
  HL.2.next HG.2.1 hN.out (by have:=HL.1;omega) HX.out (by unfold stepL;rw[if_neg (by omega),if_pos ho,reverse_append,yDr HL.1 HI.out];rfl) (by unfold ways;rw[if_neg (by omega),if_neg (by omega)];simp) (by unfold more;rw[if_pos ho];simp)
 have HR2:Hid (LkM G (m++ [i]) g' cp' cs w'/\tn+1+1=(m++ [i]).length):=
  ⟨HW3.1.grow hO' (by have:=HW3.1.gne;have:=HW3.1.chg.size;omega) (Chg.of_grown hgr2 (λk hk=>by cases hk;rfl)),by rw[length_append,<-HL.1];rfl⟩
 have hr2:=HR.2.2.1;have hr3:tn+1+1<=250:=by have:=HR.2.2.2.2;have:=HR2.2;omega
 clear hO' hgr hgr2 hat' hW3;go_wp2;go_roundw;case rel=>exact⟨at_+1,tn+1+1,g',cp',m++ [i],cs,hr2,by omega,hr3,rfl,by go_num,HR2.1,HR2.2,HR.1⟩
 case measure=>simp[intOf];omega):p:=h
theorem zRdS (h:p:=by
 obtain⟨un,rfl⟩:∃un,tn=un+1:=⟨tn-1,by rw[ho]at hle;unfold least at hle;rw[if_pos (by omega)]at hle;omega⟩;obtain⟨i,hi⟩:∃i,m[un+1]?=some i:=qg (by have:=HL.1;omega);obtain⟨j,hj⟩:∃j,m[un]?=some j:=qg (by have:=HL.1;omega);rw[ho]at y0;have t0:=HW2.1.stk.cell yAd hi 0 (by omega);have t1:=HW2.1.stk.cell yAd hi 1 (by omega);have t2:=HW2.1.stk.cell yAd hi 2 (by omega);have t3:=HW2.1.stk.cell yAd hi 3 (by omega);have s0:=HW2.1.stk.cell yAd hj 0 (by omega);have s1:=HW2.1.stk.cell yAd hj 1 (by omega);have s2:=HW2.1.stk.cell yAd hj 2 (by omega);have s3:=HW2.1.stk.cell yAd hj 3 (by omega);simp only[getElem?_cons_zero,getElem?_cons_succ,Nat.add_zero]at t0 t1 t2 t3 s0 s1 s2 s3;have HI:Hid (m[un+1]?=some i/\m[un]?=some j):=⟨hi,hj⟩;have hgl:=HW2.1.stk.lt.2;have fz:∀k,W2.frozen? (xd g k)=false:=λk=>World.ownsRow.frozenAt HW2.1.stk k;have f0:=fz ((un+1)*4);have f1:=fz ((un+1)*4+1);have f2:=fz ((un+1)*4+2);have f3:=fz ((un+1)*4+3);have e0:=fz (un*4);have e1:=fz (un*4+1);have e2:=fz (un*4+2);have e3:=fz (un*4+3);clear hi hj fz;go_upto_region 45 with fail;obtain⟨W9,hW9⟩:=qE (xw (setCs (setCs W2 g ((un+1)*4) j.four) g (un*4) i.four) #[i.alive,i.strip,xi i.hint.rank,i.hint.txt] 115:World);have HR2:Hid (LkM G (m.take un++ [i,j]) g cp cs W9/\un+1+1=(m.take un++ [i,j]).length):=by
  have hm:=HL.1;have o1:=(HW2.1.stk.setAll yAd (i:=un+1) (e:=j) (by omega)).setAll yAd (i:=un) (e:=i) (by rw[length_set];omega);rw[yPb HL.1 HI.1 HI.2]at o1;have k9:Below (setCs (setCs W2 g ((un+1)*4) j.four) g (un*4) i.four).heap.size (setCs (setCs W2 g ((un+1)*4) j.four) g (un*4) i.four) W9:=by rw[hW9];exact qB
  exact⟨HW2.1.grow (o1.below k9) HW2.1.gne (((yAl (S:=λk=>k=g) g rfl _ _ _).trans (yAl (S:=λk=>k=g) g rfl _ _ _)).trans (Chg.of_below k9)),by rw[length_append,length_take];simp;omega⟩
 have HR:Hid (LkL G (at_+1) (m.take un++ [i,j]) cs/\at_<at_+1/\at_+1<=G.N/\1<=(m.take un++ [i,j]).length/\(m.take un++ [i,j]).length<=250):=
  HL.2.next HG.2.1 hN.out (by have:=HL.1;omega) HX.out (by unfold stepL;rw[if_neg (by omega),if_neg (by omega),if_pos ho];rw[yNm HL.1 HI.1 HI.2,reverse_append];rfl) (by unfold ways;rw[if_neg (by omega),if_neg (by omega)];simp) (by unfold more;rw[if_neg (by omega),if_neg (by omega),<-HR2.2,<-HL.1];omega)
 have hr2:=HR.2.2.1;have hW9':W9=_:=hW9;simp only[setCs]at hW9';rw[<-hW9'];clear hW9 hW9';go_wp2;go_roundw;case rel=>exact⟨at_+1,un+1+1,g,cp,m.take un++ [i,j],cs,hr2,by omega,hs2,rfl,by go_num,HR2.1,HR2.2,HR.1⟩
 case measure=>simp[intOf];omega):p:=h
theorem zRdI (h:p:=by
 obtain⟨un,rfl⟩:∃un,tn=un+1:=⟨tn-1,by rw[ho]at hle;unfold least at hle;rw[if_pos (by omega)]at hle;omega⟩;obtain⟨i,hi⟩:∃i,m[un+1]?=some i:=qg (by have:=HL.1;omega);obtain⟨j,hj⟩:∃j,m[un]?=some j:=qg (by have:=HL.1;omega);rw[ho]at y0;have t0:=HW2.1.stk.cell yAd hi 0 (by omega);have t1:=HW2.1.stk.cell yAd hi 1 (by omega);have t2:=HW2.1.stk.cell yAd hi 2 (by omega);have t3:=HW2.1.stk.cell yAd hi 3 (by omega);have s0:=HW2.1.stk.cell yAd hj 0 (by omega);have s1:=HW2.1.stk.cell yAd hj 1 (by omega);have s2:=HW2.1.stk.cell yAd hj 2 (by omega);have s3:=HW2.1.stk.cell yAd hj 3 (by omega);simp only[getElem?_cons_zero,getElem?_cons_succ,Nat.add_zero]at t0 t1 t2 t3 s0 s1 s2 s3;have HI:Hid (m[un+1]?=some i/\m[un]?=some j):=⟨hi,hj⟩;have hgl:=HW2.1.stk.lt.2;clear hi hj;obtain⟨W3,hW3⟩:=qE (xw (W2.alloc (Obj.cells #[i.alive,i.strip,xi i.hint.rank,i.hint.txt] 115)) #[j.alive,j.strip,xi j.hint.rank,j.hint.txt] 115:World);have HW3:Hid (LkM G m g cp cs W3/\yA W3 G.w 115 4 W2 i.four/\yA W3 G.w 115 4 (W2+1) j.four/\W3.heap.size=W2.heap.size+1+1):=by
  obtain⟨X,hX⟩:=qE (xw W2 #[i.alive,i.strip,xi i.hint.rank,i.hint.txt] 115:World);rw[<-hX]at hW3;have zx:=qS hX
  have k1:=qN hX
  have k2:=qN hW3
  have sz:=HW2.1.chg.size;have b1:yA X G.w 115 4 W2 i.four:=by rw[hX];exact yAa W2 _ sz rfl
  exact⟨(HW2.1.on k1).on k2,b1.below k2,by rw[hW3,<-zx];exact yAa X _ (by omega) rfl,by rw[hW3];simp;omega⟩
 go_upto_region 34 with fail;rw[<-hW3];clear hW3 t0 t1 t2 t3 s0 s1 s2 s3;have t2:=HW3.2.1.cell (j:=2) rfl;have t3:=HW3.2.1.cell (j:=3) rfl;have s2:=HW3.2.2.1.cell (j:=2) rfl;have s3:=HW3.2.2.1.cell (j:=3) rfl;go_wp2_with fail;refine(ySy j.hint i.hint W3).mono ?_;rintro e w4 ⟨rfl,hb4⟩;obtain⟨hh,hhh⟩:=qE (yN7 j.hint i.hint);rw[<-hhh];have HH:Hid (hh=yN7 j.hint i.hint):=hhh;obtain⟨W5,hW5⟩:=qE (xw w4 #[false,false,xi hh.rank,hh.txt] 115:World);have HW5:Hid (LkM G m g cp cs W5/\yA W5 G.w 115 4 W2 i.four/\yA W5 G.w 115 4 (W2+1) j.four/\yA W5 G.w 115 4 w4 (yBl hh).four):=by
  have k5:=qN hW5
  have sz:=HW3.1.chg.size;have sb:=hb4.size;exact⟨(HW3.1.on hb4).on k5,(HW3.2.1.below hb4).below k5,(HW3.2.2.1.below hb4).below k5,by rw[hW5];exact yAa w4 _ (by omega) rfl⟩
 have hz4:W2.heap.size+1+1<=w4.heap.size:=by have:=hb4.size;have:=HW3.2.2.2;omega
 clear hhh hb4 t2 t3 s2 s3;obtain⟨t0,t1,t2,t3⟩:xk W5 W2 0 i.alive/\xk W5 W2 1 i.strip/\xk W5 W2 2 (xi i.hint.rank)/\xk W5 W2 3 i.hint.txt:=⟨HW5.2.1.cell (j:=0) rfl,HW5.2.1.cell (j:=1) rfl,HW5.2.1.cell (j:=2) rfl,HW5.2.1.cell (j:=3) rfl⟩;obtain⟨s0,s1,s2,s3⟩:xk W5 (W2+1) 0 j.alive/\xk W5 (W2+1) 1 j.strip/\xk W5 (W2+1) 2 (xi j.hint.rank)/\xk W5 (W2+1) 3 j.hint.txt:=⟨HW5.2.2.1.cell (j:=0) rfl,HW5.2.2.1.cell (j:=1) rfl,HW5.2.2.1.cell (j:=2) rfl,HW5.2.2.1.cell (j:=3) rfl⟩;obtain⟨f0,f1,f2,f3⟩:=HW5.2.2.2.f4;obtain⟨v0,v1,v2,v3⟩:=HW5.2.2.2.c4;go_upto_region 35 with fail;rw[<-hW5];clear hW5;obtain⟨ia,hia⟩:=qE i.alive;obtain⟨ja,hja⟩:=qE j.alive;rw[<-hia]at t0;rw[<-hja]at s0;have HIA:Hid (ia=i.alive/\ja=j.alive):=⟨hia,hja⟩;clear hia hja
 obtain⟨W7,it,hW7,HW7⟩:∃(W7:World)(it:It),W7=(if ja=true then setCs (if ia=true then setCs W5 w4 0 [true,i.strip,xi i.hint.rank,i.hint.txt]else W5) w4 0 [true,j.strip,xi j.hint.rank,j.hint.txt]else if ia=true then setCs W5 w4 0 [true,i.strip,xi i.hint.rank,i.hint.txt]else W5)/\
   Hid (LkM G m g cp cs W7/\yA W7 G.w 115 4 w4 it.four/\it=yTh j i):=by
  have hgn:¬w4.heap.size=g:=by omega
  have hgs:G.w.heap.size+1+1<w4.heap.size:=by have:=HW2.1.gne;omega
  obtain⟨h1,h2⟩:=HIA.out;have hi2:ia=true-> [Value.bool true,i.strip,xi i.hint.rank,i.hint.txt]=i.four:=λq=>by unfold It.four;rw[<-h1,q]
  have hj2:ja=true-> [Value.bool true,j.strip,xi j.hint.rank,j.hint.txt]=j.four:=λq=>by unfold It.four;rw[<-h2,q]
  obtain⟨W6,hW6⟩:=qE ((if ia=true then setCs W5 w4 0 [true,i.strip,xi i.hint.rank,i.hint.txt]else W5):World);have H6:∃i6:It,LkM G m g cp cs W6/\yA W6 G.w 115 4 w4 i6.four/\i6=(if i.alive=true then i else yBl hh):=by
   cases ia
   .rw[if_neg (by simp)]at hW6;rw[hW6];exact⟨yBl hh,HW5.1,HW5.2.2.2,by rw[<-h1];rfl⟩
   .rw[if_pos rfl,hi2 rfl]at hW6;obtain⟨q1,q2⟩:=yEo HW5.2.2.2 hW6;exact⟨i,HW5.1.side ⟨hgs,hgn⟩ q2,q1,by rw[<-h1];rfl⟩
  obtain⟨i6,l6,b6,e6⟩:=H6;rw[<-hW6];cases ja
  .refine⟨W6,i6,by simp,l6,b6,?_⟩;rw[e6];unfold yTh;rw[<-h2];simp[HH.out]
  .obtain⟨W7,hW7⟩:=qE (setCs W6 w4 0 j.four:World);obtain⟨q1,q2⟩:=yEo b6 hW7;refine⟨W7,j,by rw[if_pos rfl,hj2 rfl];exact hW7,l6.side ⟨hgs,hgn⟩ q2,q1,?_⟩;unfold yTh;rw[<-h2,if_pos rfl]
 have hsw:w4.heap.size<W7.heap.size:=HW7.2.1.lt.2;have hcap:=HW7.1.stk.caps;rw[<-HL.1]at hcap;have hwu:IntKind.i64.wrap ((un:Nat):Int)=(un:Int):=by rw[IntKind.wrap_i64];omega
 have hcu:(un:Int)<=(cp:Int):=by omega
 have hnn:0<=(un:Int):=by omega
 have HUN:Hid (un<=m.length):=by have:=HL.1;show un<=_;omega
 obtain⟨V8,hV8⟩:=qE ((W7.alloc (Obj.cells #[it.alive,it.strip,xi it.hint.rank,it.hint.txt] 115)).drew:World);have HV8:Hid (LkM G m g cp cs V8/\(∀j u,it.four[j]?=some u->(xk V8 W7 j u:Prop))/\yA V8 G.w 115 4 w4 it.four/\V8.heap.size=W7.heap.size+1):=by
  have k8:Below W7 W7 V8:=by rw[hV8];exact(qB).drew
  exact⟨HW7.1.on k8,by rw[hV8];exact yBm W7 it.four _,HW7.2.1.below k8,by rw[hV8];simp⟩
 have hS0:SW (λw':World=>xk w' w4 0 it.alive/\xk w' w4 1 it.strip/\xk w' w4 2 (xi it.hint.rank)/\xk w' w4 3 it.hint.txt) W7.drew:=⟨HW7.2.1.cell (j:=0) rfl,HW7.2.1.cell (j:=1) rfl,HW7.2.1.cell (j:=2) rfl,HW7.2.1.cell (j:=3) rfl⟩;have hS8:=SWm hS0 V8 <|⟨HV8.2.2.1.cell (j:=0) rfl,HV8.2.2.1.cell (j:=1) rfl,HV8.2.2.1.cell (j:=2) rfl,HV8.2.2.1.cell (j:=3) rfl⟩;cases ia<;>cases ja<;>simp only[Bool.false_eq_true,if_false,if_true,setCs,Nat.zero_add,Nat.reduceAdd]at hW7
 all_goals
  go_upto_region 39 with fail
  rw[<-hW7]
  clear hW7 t0 t1 t2 t3 s0 s1 s2 s3 f0 f1 f2 f3 v0 v1 v2 v3
  refine wpR 99 hS8 ?_
  refine ja 0 hS0 ?_
  iterate 4 refine jb hS0 ?_
  refine qO 5 rfl λK hK=>?_
  go_simp
  rw[<-hV8]
  refine hK.out _ _ (.inr hS8) ?_
  clear hK hV8
  refine jS ?_
  refine qO 6 rfl λK hK=>?_
  refine yE yAd _ rfl _ _ 199 rfl underlying199 Tryz.infoItm rfl (by decide) (by decide) yG2 G.w g cp un W7 1 (m.take un) it rfl rfl (by rw[length_take,Nat.min_eq_left HUN.out]) (HV8.1.stk.take yAd HUN.out) HV8.2.1 (by rw[length_take];omega) (by have:=HV8.1.chg.size;omega) ?_
  intro g' cp' w' hO' hgr hat'
  have hc9:Chg (λk=>k=g) V8 w':=Chg.of_grown hgr (λk hk=>by cases hk;rfl)
  have hlen:(m.take un++ [it]).length=un+1:=by rw[length_append,length_take,Nat.min_eq_left HUN.out];rfl
  have HR:Hid (LkL G (at_+1) (m.take un++ [it]) cs/\at_<at_+1/\at_+1<=G.N/\1<=(m.take un++ [it]).length/\(m.take un++ [it]).length<=250):=
   HL.2.next HG.2.1 hN.out (by have:=HL.1;omega) HX.out (by unfold stepL;rw[if_neg (by omega),if_neg (by omega),if_neg (by omega),if_pos ho,yNm HL.1 HI.1 HI.2,reverse_append,HW7.2.2];rfl) (by unfold ways;rw[if_neg (by omega),if_neg (by omega)];simp) (by unfold more;rw[if_neg (by omega),if_pos ho,hlen,<-HL.1];omega)
  have HR2:Hid (LkM G (m.take un++ [it]) g' cp' cs w'/\un+1=(m.take un++ [it]).length):=
   ⟨HV8.1.grow hO' (by have:=HV8.1.gne;have:=HV8.1.stk.lt;omega) hc9,hlen.symm⟩
  have b9:=HV8.2.2.1.chg hc9 (by omega)
  have hS9:=SWm hS8 w' <|⟨b9.cell (j:=0) rfl,b9.cell (j:=1) rfl,b9.cell (j:=2) rfl,b9.cell (j:=3) rfl⟩
  have hr2:=HR.2.2.1
  clear hO' hgr hat' hc9 b9 hlen
  refine hK.out _ _ (.inr hS9) ?_
  clear hK
  refine jS ?_
  refine qO 7 rfl λK hK=>?_
  go_simp
  refine hK.out _ _ (.inr hS9) ?_
  clear hK hS0 hS8 hS9
  refine jS ?_
  refine qD ?_
  go_wp2_with fail
  go_roundw
  case rel=>exact⟨at_+1,un+1,g',cp',m.take un++ [it],cs,hr2,by omega,by omega,rfl,by go_num,HR2.1,HR2.2,HR.1⟩
  case measure=>simp[intOf];omega):p:=h
theorem yS5(G:LkG)(nc:Nat)(hB:yBe G.l G.cnt nc)(hD:yUc G.l G.d)(hnc:nc<=G.conds.length)(hcn:(G.cs0.length:Int)=G.cnt)(cc:Nat)(hN:Hid (G.N=G.l.length))(hK:Hid (G.nk=G.cs0.length))(hC:Hid (G.nC=G.conds.length))
  (hI:yB5 G.w G.bI G.oI G.l) (hIl:G.bI<G.w.heap.size/\¬G.bI=G.gc) (hIc:G.N<=G.cI/\G.cI<=maxLen) (hO:yF0 G.w G.b0 G.gc G.cpc G.cs0) (hcb:∀k∈G.cs0,0<=k.count/\k.count<=1000)
  (hcd:∀(i:Nat)(b:Bool),G.conds[i]?=some b->∃bc oc,G.ca=some ⟨bc,oc,none⟩/\xk G.w bc (oc+i) b/\bc<G.w.heap.size/\¬bc=G.gc):
  Calls prog 58 #[.agg #[.slice (some ⟨G.bI,G.oI,none⟩) G.N G.cI,xi G.cnt],G.c.c,xg G.gc G.nk G.cpc,.slice G.ca G.nC cc] G.w (LkP G):=by
 obtain⟨W0,a0⟩:=qE (xw ((G.w.alloc (Obj.cells #[.slice (some ⟨G.bI,G.oI,none⟩) G.N G.cI,xi G.cnt] 32)).alloc (Obj.cells #[G.c.row,G.c.fam,G.c.qual,xu G.c.ts,G.c.val] 70)) #[false,false,xi 0,xe] 115:World);obtain⟨W1,a2⟩:=qE (xw W0 #[true,false,xi 0,xe] 115:World);have H1:Hid (LkM G [newI] (G.w+1+1+1) 1 G.cs0 W1):=by
  obtain⟨X,hX⟩:=qE (xw G.w #[.slice (some ⟨G.bI,G.oI,none⟩) G.N G.cI,xi G.cnt] 32:World);rw[<-hX]at a0;obtain⟨Y,hY⟩:=qE (xw X #[G.c.row,G.c.fam,G.c.qual,xu G.c.ts,G.c.val] 70:World);rw[<-hY]at a0;have zx:=qS hX
  have zy:Y.heap.size=G.w.heap.size+1+1:=by rw[hY];simp;omega
  have zz:W0.heap.size=G.w.heap.size+1+1+1:=by rw[a0];simp;omega
  have k1:=qN hX
  have k2:=qN hY
  have k3:=qN a0
  have k4:=qN a2
  have k9:Below G.w G.w W1:=((k1.trans (k2.mono (by omega))).trans (k3.mono (by omega))).trans (k4.mono (by omega));have b1:yA X G.w 32 2 G.w [.slice (some ⟨G.bI,G.oI,none⟩) G.N G.cI,xi G.cnt]:=by rw[hX];exact yAa G.w _ qr rfl
  have b2:yA Y G.w 70 5 (G.w+1) G.c.five:=by rw[hY,<-zx];exact yAa X _ (by omega) rfl
  have b3:yA W0 G.w 115 4 (G.w+1+1) (yBl noH).four:=by rw[a0,<-zy];exact yAa Y _ (by omega) rfl
  have b4:yA W1 G.w 115 4 (G.w+1+1+1) newI.four:=by rw[a2,<-zz];exact yAa W0 _ (by omega) rfl
  exact⟨((b1.below k2).below k3).below k4,(b2.below k3).below k4,b3.below k4,b4,by omega,hO.below k9,hO.lt.2,hIl,hI.below k9 hIl.1,
   λi b hi=>by
    obtain⟨bc,oc,h1,h2,h3,h4⟩:=hcd i b hi
    exact⟨bc,oc,h1,((Chg.of_below k9 (S:=λ_=>False)).cell (p:=(xd bc (oc+i))) h3 (λq=>q)).trans h2,h3,h4⟩,
   Chg.of_below k9,hK.out.symm,hcb⟩
 have ai:G.N<=4000:=by have:=hB.2.1;have:=hN.out;omega
 have HG:Hid (yBe G.l G.cnt nc/\yUc G.l G.d/\nc<=G.conds.length/\(G.cs0.length:Int)=G.cnt):=⟨hB,hD,hnc,hcn⟩;clear hB hD hnc hcn hI hO hcb hcd hIl;unfold maxLen at hIc;go_enter func58,ntmps58;go_upto_region 2 with fail;rw[<-a0,<-a2];clear a0 a2;go_wp2_with fail;go_loopw[10,11] (λsv kv wr=>∃(at_ sn g cp:Nat)(m:List It)(cs:List Ctr),at_<=G.N/\1<=sn/\sn<=250/\sv=(xg g sn cp)/\kv=(xi at_)/\Hid (LkM G m g cp cs wr/\sn=m.length/\LkL G at_ m cs)) (λ_ kv _=>G.N-(intOf kv).toNat);case atStart=>exact⟨0,1,_,1,[newI],G.cs0,zero_le _,Nat.le_refl _,by omega,rfl,rfl,H1.out,rfl,HG.2.1.start.symm,zero_le _,λr h=>h⟩
 case round=>
  clear H1;obtain⟨at_,sn,g,cp,m,cs,aj,hs1,hs2,rfl,rfl,HJ⟩:=hrel;have c0:=HJ.1.blk.cell (j:=0) rfl;by_cases hlt:at_<G.N
  .obtain⟨x,hx⟩:∃x,G.l[at_]?=some x:=qg (by have:=hN.out;omega);obtain⟨x0,x1,x2,x3,x4,x5,x6,x7,x8,x9,ad⟩:=HJ.1.ins at_ x hx;have HX:Hid (G.l[at_]?=some x):=hx;clear hx;have z:(at_:Int)<(G.N:Int):=by omega
   obtain⟨W2,a1⟩:=qE (xw wr #[xi x.op,xi x.a,xi x.b,x.free,xi x.leaf.kind,x.leaf.s,x.leaf.hi,x.leaf.t,xu x.leaf.lo,xu x.leaf.up,xi x.leaf.n] 153:World);have HW2:Hid (LkM G m g cp cs W2/\yA W2 G.w 153 11 wr x.ten/\Below wr wr W2):=by
    have hb:=qN a1
    exact⟨HJ.1.on hb,by rw[a1];exact yAa wr _ HJ.1.chg.size rfl,hb⟩
   have HL:Hid (sn=m.length/\LkL G at_ m cs):=HJ.2;have ac:yCy x at_ G.l.length G.cnt nc:=yC3 HG.1 HX.out;have hle:=HL.2.least HG.2.1 (by have:=HL.1;omega) HX.out;rw[<-HL.1]at hle;rw[<-hN.out]at ac;have ag:=HJ.1.chg.size;clear HJ;go_upto_region 5 with fail;rw[<-a1];clear a1 x0 x1 x2 x3 x4 x5 x6 x7 x8 x9 ad c0;obtain⟨y0,y1,y2⟩:=HW2.2.1.c3;rcases ac with⟨ho,hlf,af,hab⟩|⟨ho,aa,ha0,ha1,hkb,ae⟩|⟨ho,aa,ha0,hkb,ae⟩|⟨ho,aa,ha0,af⟩
   .as_aux_lemma=>exact zRdL
   .exact zRdB
   .exact zRdJ
   .obtain⟨tn,rfl⟩:∃tn,sn=tn+1:=⟨sn-1,by omega⟩;rcases ho with ho|ho|ho
    .exact zRdD
    .exact zRdS
    .exact zRdI
  .have z:¬(at_:Int)<(G.N:Int):=by omega
   have ab:m.length=1:=by
    have h1:=HJ.2.2.1;have h2:at_=G.l.length:=by have:=hN.out;omega
    rw[h2,HG.2.1.last]at h1;exact h1
   obtain⟨i,rfl⟩:∃i,m= [i]:=List.length_eq_one_iff.1 ab;obtain rfl:sn=1:=HJ.2.1;have t0:=HJ.1.stk.cell yAd (i:=0) (e:=i) rfl 0 (by omega);have t1:=HJ.1.stk.cell yAd (i:=0) (e:=i) rfl 1 (by omega);have t2:=HJ.1.stk.cell yAd (i:=0) (e:=i) rfl 2 (by omega);have t3:=HJ.1.stk.cell yAd (i:=0) (e:=i) rfl 3 (by omega);simp only[getElem?_cons_zero,getElem?_cons_succ,Nat.zero_mul,Nat.zero_add]at t0 t1 t2 t3;obtain⟨f0,f1,f2,f3⟩:=HJ.1.res.f4;obtain⟨v0,v1,v2,v3⟩:=HJ.1.res.c4;obtain⟨W9,hW9⟩:=qE (setCs wr (G.w+1+1) 0 i.four:World);obtain⟨b9,c9⟩:=yEo HJ.1.res hW9;have ah:=HJ.1.gcl
   have HR:Hid (LkP G (.returned (.tuple #[i.v,xg G.gc G.nk G.cpc])) W9):=
    ⟨i,cs,HJ.2.2.2.2 _ (.fin (by have:=hN.out;show¬at_<_;omega) rfl),rfl,HJ.1.len,HJ.1.ctr.chg c9 (by omega),HJ.1.cb,HJ.1.chg.absorb c9 (λj q=>.inr (by omega))⟩
   obtain⟨q0,q1,q2,q3⟩:=b9.c4;simp only[setCs,Nat.zero_add,Nat.reduceAdd]at hW9;clear b9 c9 HJ ab;go_wp2_with fail;rw[<-hW9];exact bodyPost_ret (v:=.tuple #[i.v,xg G.gc G.nk G.cpc]) (by simp[results,results58,go_sem,q0,q1,q2,q3]) rfl HR.out
theorem yV6{h:Hn}{c:Ent}{es:List Ent}(hc:∀e∈es,yAo (putE c) (putE e)= -1)(ho:es.Pairwise λa b=>yAo (putE a) (putE b)= -1)
  (i j:Nat) ei ej (hij:i<=j) (hi:es[i]?=some ei) (hj:es[j]?=some ej) (hs:yAz h c ej=true):yAz h c ei=true:=by
 obtain⟨li,rfl⟩:=List.getElem?_eq_some_iff.1 hi;obtain⟨lj,rfl⟩:=List.getElem?_eq_some_iff.1 hj;refine yVz (LeC.of_key (hc _ (getElem_mem li))) ?_ hs;by_cases e:i=j
 .subst e;exact LeC.refl _
 .exact LeC.of_key (List.pairwise_iff_getElem.1 ho i j li lj qo)
structure RwI2(p b off cap:Nat)(es:List Ent)(W:World):Prop where
 box:(xk W p 0 (.slice (some ⟨b,off,none⟩) es.length cap):Prop)
 sl:CSl W b off cap es
theorem xA7(es:List Ent)(p b off cap:Nat)(hN0:es.length<=10000)(l m:Nat)(hm:1<=m)(J:Nat->World->Prop)
  (hY:∀i j W,J i W->yIt es i j->YieldAt Fence.wide (m-1) prog l #[segV b off cap (i,j)] W λe W'=>e=.returned true/\J j W')
  (hJd:∀k W,J k W->J k W.drew) (hJr:∀k W,J k W->RwI2 p b off cap es W) (W:World) (h0:J 0 W):
  CallsIn Fence.wide m prog 199 #[.func (.yield l) #[] #[],xp p] W λe W'=>(∃v,e=.returned v)/\J es.length W':=by
 obtain⟨N,hN⟩:=qE es.length;have HN:Hid (N=es.length):=hN;have a8:Hid (J 0 W):=h0;have HR:Hid (∀k W,J k W->xk W p 0 (.slice (some ⟨b,off,none⟩) N cap)/\CSl W b off cap es):=λk W h=>by rw[hN];exact⟨(hJr k W h).box,(hJr k W h).sl⟩
 have a6:=(hJr 0 W h0).sl.len;have ab:cap<=9223372036854775807:=by have:=(hJr 0 W h0).sl.cap;unfold maxLen at this;omega
 have HY:Hid (∀i j W,J i W->yIt es i j->YieldAt Fence.wide (m-1) prog l #[segV b off cap (i,j)] W λe W'=>e=.returned true/\J j W'):=hY;rw[<-hN]at hN0 a6|-;clear hN h0 hJr hY;refine callsIn_of_wp func199 rfl trivial ?_ rfl;simp only[ntmps199,size_toArray,length_cons,length_nil,Nat.reduceAdd,Nat.reduceSub,Array.replicate_succ,Array.replicate_zero,push_toArray,append_toArray,nil_append,cons_append];gi_wp2;gi_loopw [3] (λiv wr=>∃i:Nat,i<=N/\iv=(xi i)/\Hid (J i wr)) (λiv _=>N-(intOf iv).toNat);case atStart=>exact⟨0,zero_le _,rfl,a8.out⟩
 case round=>
  obtain⟨i,aa,rfl,HJ⟩:=hrel;have x0:=(HR.out i wr HJ.out).1;by_cases hlt:i<N
  .have zi:(i:Int)<(N:Int):=by omega
   obtain⟨c,hc⟩:∃c,es[i]?=some c:=qg (qw HN.out);have a3:Hid (es[i]?=some c):=hc;clear hc;obtain⟨wo,a4⟩:=qW wr;subst a4;gi_wp2;clear x0;gi_loopw [4] (λjv wx=>∃j:Nat,i<j/\j<=N/\jv=(xi j)/\Hid ((∀k,i<=k->k<j->yE0 es i k=true)/\J i wx)) (λjv _=>N-(intOf jv).toNat);case atStart=>exact⟨i+1,by omega,by omega,by go_num,λk h1 h2=>by rw[show k=i by omega];simp[yE0],HJ.out⟩
   case round=>
    obtain⟨j,hij,a9,rfl,HQ⟩:=hrel;have a1:=HR.out i wr HQ.2;by_cases hjl:j<N
    .have zj:(j:Int)<(N:Int):=qo
     obtain⟨x,hx⟩:∃x,es[j]?=some x:=qg (qw HN.out);have f0:=(a1.2.at_ j x hx).1;have f1:=(a1.2.at_ i c a3.out).1;have a0:SW (λw':World=>xk w' p 0 (.slice (some ⟨b,off,none⟩) N cap)/\xk w' b (off+j*5) x.row/\xk w' b (off+i*5) c.row) wr.drew:=⟨a1.1,f0,f1⟩;have HJd:=qH1 (hJd _ _ HQ.2);have a2:Hid (yE0 es i j=(x.row.toList==c.row.toList)):=by show yE0 es i j=_;unfold yE0;rw[hx,a3.out];rfl
     clear f0 f1 hx a1;cases hr:(x.row.toList==c.row.toList)
     .have HE:Hid (yIt es i j):=by have h0:=a2.out;rw[hr]at h0;exact⟨hij,by rw[<-HN.out];omega,HQ.1,λ_=>h0⟩
      gi_wp2;refine wpIn_wide.2 ?_;refine wp_region_noPanic ?_;refine wpR 99 a0 ?_;refine ja 0 a0 ?_;iterate 16 refine jb a0 ?_
      refine qD ?_;dsimp only[NoPanic];clear a0;exact xGt
     .have a7:Hid (∀k,i<=k->k<j+1->yE0 es i k=true):=λk h1 h2=>by
       by_cases hk:k=j
       .rw[hk,a2.out];exact hr
       .exact HQ.1 k h1 qo
      gi_wp2;refine wpIn_wide.2 ?_;refine wp_region_noPanic ?_;refine yAf 99 (λw':World=>xk w' p 0 (.slice (some ⟨b,off,none⟩) N cap)/\xk w' b (off+j*5) x.row/\xk w' b (off+i*5) c.row) (by kernel_rfl) ?_;refine ja 0 a0 ?_;iterate 16 refine jb a0 ?_
      refine qD ?_;dsimp only[NoPanic];clear a0;gi_wp2;go_roundw;case rel=>exact⟨j+1,by omega,by omega,by go_num,a7.out,HJd.out⟩
      case measure=>simp[intOf];omega
    .have zj:¬(j:Int)<(N:Int):=by omega
     have hd:decide ((j:Int)<(N:Int))=false:=by simp;omega
     have HE:Hid (yIt es i j):=⟨hij,by rw[<-HN.out];omega,HQ.1,λq=>by rw[<-HN.out]at q;omega⟩;have HJd:Hid (J i wr.drew):=hJd _ _ HQ.2;have a0:SW (λw':World=>xk w' p 0 (.slice (some ⟨b,off,none⟩) N cap)) wr.drew:=a1.1;clear a1;gi_wp2;refine wpIn_wide.2 ?_;refine wp_region_noPanic ?_;refine wpR 99 a0 ?_;refine ja 0 a0 ?_;iterate 16 refine jb a0 ?_
     refine qD ?_;dsimp only[NoPanic];clear a0 zj hd;exact xGt
  .have a5:i=N:=by omega
   have zi:¬(i:Int)<(N:Int):=by omega
   have HF:Hid (J N wr):=by rw[<-a5];exact HJ.out
   clear HJ;gi_wp2;go_end0;exact⟨⟨_,rfl⟩,HF.out⟩
end Go.Proofs.YtnnagkfoiganfaaGreatDoor
