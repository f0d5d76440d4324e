import Derived.Test.YtnnagkfoiganfaaGreatDoorRkAE
namespace Go.Proofs.YtnnagkfoiganfaaGreatDoor
open Go.ChangeShapes Go.WideShapes Go.ChangeAt Go.RowKit Go.Deep XD XI XU XG XP XK XW XT XF XE XH _root_.List _root_.Nat Go.Shelf Go.Maps Go.Proofs.Tryz
set_option linter.unusedVariables false
set_option linter.unusedSimpArgs false
set_option maxRecDepth 100000
set_option maxHeartbeats 40000000
variable {p:Prop}
theorem zLkF (h:p:=by
 have t0:=HZ.1.stk.cell yAd HI.out 0 (by omega);have t1:=HZ.1.stk.cell yAd HI.out 1 (by omega);have t2:=HZ.1.stk.cell yAd HI.out 2 (by omega);have t3:=HZ.1.stk.cell yAd HI.out 3 (by omega);simp only[getElem?_cons_zero,getElem?_cons_succ,Nat.add_zero]at t0 t1 t2 t3;have fz:∀k,WZ.frozen? (xd g k)=false:=λk=>World.ownsRow.frozenAt HZ.1.stk k;have g0:=fz (tn*4);have g1:=fz (tn*4+1);have g2:=fz (tn*4+2);have g3:=fz (tn*4+3);obtain⟨p0,p1,p2,p3⟩:=HZ.2.c4;obtain⟨WY,hWY⟩:=qE (setCs WZ g (tn*4) iz.four:World);have HY:Hid (LkM G (m.set tn iz) g cp cz WY/\tn+1=(m.set tn iz).length):=by have hm:=HL.1;exact⟨HZ.1.grow (by rw[hWY];exact HZ.1.stk.setAll yAd (i:=tn) (e:=iz) (by omega)) HZ.1.gne (by rw[hWY];exact yAl (S:=λk=>k=g) g rfl _ _ _),by rw[length_set];exact hm⟩
 simp only[setCs]at hWY;have hrz:=HRz.2.2.1;clear fz;go_upto_region 45 with fail;rw[<-hWY];clear hWY;go_wp2;go_roundw;case rel=>exact⟨at_+1,tn+1,g,cp,m.set tn iz,cz,hrz,hs1,hs2,rfl,by go_num,HY.1,HY.2,HRz.1⟩
 case measure=>simp[intOf];omega):p:=h
theorem zLkT (h:p:=by
 have a4:=HWQ.2.1.cell (j:=4) rfl;obtain⟨p0,p1,p2,p3⟩:=HWQ.2.2.c4;rw[HAL.out]at p0;rw[hst]at p1;obtain⟨f0,f1,f2,f3⟩:=HWQ.2.2.f4;obtain⟨i2,hi2⟩:=qE (⟨true,i.strip || (x.leaf.kind==3),i.hint⟩:It);have HI2:Hid (i2=⟨true,i.strip || (x.leaf.kind==3),i.hint⟩):=hi2;obtain⟨W8,hW8⟩:=qE (xt wq W2 1 i2.strip:World);have HW8:Hid (LkM G m g cp cq W8/\yA W8 G.w 153 11 wr x.ten/\yA W8 G.w 115 4 W2 i2.four):=by
  have hc8:Chg (λk=>k=W2.heap.size) wq W8:=by rw[hW8];exact Chg.of_set _ _ _ _ rfl
  have h1:=HWQ.2.2.set 1 i2.strip;rw[<-hW8]at h1;refine⟨HWQ.1.side ⟨by have:=HWQ.1.gne;omega,by omega⟩ hc8,HWQ.2.1.chg hc8 (by omega),?_⟩;have h2:i.four.set 1 i2.strip=i2.four:=by rw[hi2];unfold It.four;simp[HAL.out]
  rw[<-h2];exact h1
 simp only[hi2,hst,Bool.false_or,Bool.true_or]at hW8;go_upto_region 20 with fail;rw[<-hW8];clear hW8 hi2 p0 p1 p2 p3 f0 f1 f2 f3;cases tb
 .obtain⟨p0,p1,p2,p3⟩:=HW8.2.2.c4;obtain⟨f0,f1,f2,f3⟩:=HW8.2.2.f4;obtain⟨W10,hW10⟩:=qE (setCs W8 W2 0 (yBl noH).four:World);have HW10:Hid (LkM G m g cp cq W10/\yA W10 G.w 153 11 wr x.ten/\yA W10 G.w 115 4 W2 (yBl noH).four):=by obtain⟨q1,q2⟩:=yEo HW8.2.2 hW10;exact⟨HW8.1.side ⟨by have:=HW8.1.gne;omega,by omega⟩ q2,HW8.2.1.chg q2 (by omega),q1⟩
  have hs10:W10.heap.size=W8.heap.size:=by rw[hW10];simp[setCs]
  simp only[setCs,yBl,noH,Nat.zero_add,Nat.reduceAdd]at hW10;have HLI:Hid (leafI pfxB x G.c i cs=(yBl (if x.free=true then yB4 (pfxB x.leaf.s) x.leaf G.c else noH),cq)):=by show _=_;rw[HQ.out,if_neg (by simp)]
  go_upto_region 22 with fail;rw[<-hW10];clear hW10 p0 p1 p2 p3 f0 f1 f2 f3 hs10;have a3:=HW10.2.1.cell (j:=3) rfl;obtain⟨cz,hcz⟩:=qE cq;cases hfr:x.free
  .rw[hfr]at a3;obtain⟨WZ,hWZ⟩:=qE W10;obtain⟨iz,hiz⟩:=qE (yBl noH);have HZ:Hid (LkM G m g cp cz WZ/\yA WZ G.w 115 4 W2 iz.four):=by rw[hWZ,hiz,hcz];exact⟨HW10.1,HW10.2.2⟩
   have HRz:Hid (LkL G (at_+1) (m.set tn iz) cz/\at_<at_+1/\at_+1<=G.N/\1<=(m.set tn iz).length/\(m.set tn iz).length<=250):=
    HL.2.next HG.2.1 hN.out (by have:=HL.1;omega) HX.out (by
     rw[yFm ho (yDr HL.1 HI.out),HLI.out,yNe HL.1,hfr,if_neg (by simp),hiz,hcz]) (by unfold ways;rw[if_neg (by omega),if_neg (by omega)];simp) (by unfold more;rw[if_neg (by omega),if_neg (by omega),length_set];omega)
   rw[<-hWZ]at a3⊢;clear hWZ hiz hcz hfr;exact zLkF
  .rw[hfr]at a3;have a4:=HW10.2.1.cell (j:=4) rfl;have a5:=HW10.2.1.cell (j:=5) rfl;have a6:=HW10.2.1.cell (j:=6) rfl;have a7:=HW10.2.1.cell (j:=7) rfl;have a8:=HW10.2.1.cell (j:=8) rfl;have a9:=HW10.2.1.cell (j:=9) rfl;have a10:=HW10.2.1.cell (j:=10) rfl;obtain⟨c0,c1,c2,c3,c4⟩:=HW10.1.cel.c5;go_wp2_with fail;refine(yTl x.leaf G.c W10 hsx).mono ?_;rintro e w11 ⟨rfl,hb11⟩;obtain⟨hx,hhx⟩:=qE (yB4 (pfxB x.leaf.s) x.leaf G.c);rw[<-hhx];have HHX:Hid (hx=yB4 (pfxB x.leaf.s) x.leaf G.c):=hhx;have HW11:Hid (LkM G m g cp cq w11/\yA w11 G.w 115 4 W2 (yBl noH).four):=⟨HW10.1.on hb11,HW10.2.2.below hb11⟩;clear hhx hb11 a3 a4 a5 a6 a7 a8 a9 a10 c0 c1 c2 c3 c4;have p2:=HW11.2.cell (j:=2) rfl;have p3:=HW11.2.cell (j:=3) rfl;have f2:=HW11.2.frozen 2;have f3:=HW11.2.frozen 3;obtain⟨WZ,hWZ⟩:=qE (xt (w11.setCell (xd W2 2) (xi hx.rank)) W2 3 hx.txt:World);obtain⟨iz,hiz⟩:=qE (yBl hx);have HZ:Hid (LkM G m g cp cz WZ/\yA WZ G.w 115 4 W2 iz.four):=by
    have b1:=(HW11.2.set 2 (xi hx.rank)).set 3 hx.txt;rw[<-hWZ]at b1;have hc:Chg (λk=>k=W2.heap.size) w11 WZ:=by rw[hWZ];exact(Chg.of_set (S:=λk=>k=W2.heap.size) _ _ _ _ rfl).trans (Chg.of_set (S:=λk=>k=W2.heap.size) _ _ _ _ rfl)
    rw[hiz,hcz];exact⟨HW11.1.side ⟨by have:=HW11.1.gne;omega,by omega⟩ hc,b1⟩
   have HRz:Hid (LkL G (at_+1) (m.set tn iz) cz/\at_<at_+1/\at_+1<=G.N/\1<=(m.set tn iz).length/\(m.set tn iz).length<=250):=
    HL.2.next HG.2.1 hN.out (by have:=HL.1;omega) HX.out (by
     rw[yFm ho (yDr HL.1 HI.out),HLI.out,yNe HL.1,hfr,if_pos rfl,hiz,hcz,HHX.out]) (by unfold ways;rw[if_neg (by omega),if_neg (by omega)];simp) (by unfold more;rw[if_neg (by omega),if_neg (by omega),length_set];omega)
   go_upto_region 24 with fail;rw[<-hWZ];clear hWZ hiz hcz hfr p2 p3 f2 f3;exact zLkF
 .obtain⟨WZ,hWZ⟩:=qE W8;obtain⟨iz,hiz⟩:=qE i2;obtain⟨cz,hcz⟩:=qE cq;have HZ:Hid (LkM G m g cp cz WZ/\yA WZ G.w 115 4 W2 iz.four):=by rw[hWZ,hiz,hcz];exact⟨HW8.1,HW8.2.2⟩
  have HRz:Hid (LkL G (at_+1) (m.set tn iz) cz/\at_<at_+1/\at_+1<=G.N/\1<=(m.set tn iz).length/\(m.set tn iz).length<=250):=
   HL.2.next HG.2.1 hN.out (by have:=HL.1;omega) HX.out (by
    rw[yFm ho (yDr HL.1 HI.out),HQ.out,yNe HL.1,if_pos rfl,hiz,HI2.out,hcz]) (by unfold ways;rw[if_neg (by omega),if_neg (by omega)];simp) (by unfold more;rw[if_neg (by omega),if_neg (by omega),length_set];omega)
  rw[<-hWZ];clear hWZ hiz hcz;exact zLkF):p:=h
theorem zRdL (h:p:=by
 obtain⟨tn,rfl⟩:∃tn,sn=tn+1:=⟨sn-1,by omega⟩;obtain⟨i,hi⟩:∃i,m[tn]?=some i:=qg (by have:=HL.1;omega);rw[ho]at y0;have t0:=HW2.1.stk.cell yAd hi 0 (by omega);have t1:=HW2.1.stk.cell yAd hi 1 (by omega);have t2:=HW2.1.stk.cell yAd hi 2 (by omega);have t3:=HW2.1.stk.cell yAd hi 3 (by omega);simp only[getElem?_cons_zero,getElem?_cons_succ,Nat.add_zero]at t0 t1 t2 t3;have HI:Hid (m[tn]?=some i):=hi;have hgl:=HW2.1.stk.lt.2;have hgn:=yF hlf x.leaf (by simp);have hsx:x.leaf.s.size<=maxLen:=by have:=hgn.1;unfold maxLen;omega
 clear hi;obtain⟨W3,hW3⟩:=qE (xw W2 #[i.alive,i.strip,xi i.hint.rank,i.hint.txt] 115:World);have HW3:Hid (LkM G m g cp cs W3/\yA W3 G.w 153 11 wr x.ten/\yA W3 G.w 115 4 W2 i.four/\W3.heap.size=W2.heap.size+1):=by
  have k3:=qN hW3
  exact⟨HW2.1.on k3,HW2.2.1.below k3,by rw[hW3];exact yAa W2 _ HW2.1.chg.size rfl,by rw[hW3];simp⟩
 go_upto_region 10 with fail;rw[<-hW3];clear hW3 t0 t1 t2 t3;obtain⟨p0,p1⟩:=HW3.2.2.1.c2;cases hal:i.alive
 .rw[hal]at p0
  have HR:Hid (LkL G (at_+1) m cs/\at_<at_+1/\at_+1<=G.N/\1<=m.length/\m.length<=250):=
   HL.2.next HG.2.1 hN.out (by have:=HL.1;omega) HX.out (by unfold stepL;rw[if_pos ho,yDr HL.1 HI.out];simp only[leafI,hal];rfl) (by unfold ways;rw[if_neg (by omega),if_neg (by omega)];simp) (by unfold more;rw[if_neg (by omega),if_neg (by omega)];omega)
  have hr2:=HR.2.2.1;clear hal;go_wp2;go_roundw;case rel=>exact⟨at_+1,tn+1,g,cp,m,cs,hr2,hs1,hs2,rfl,by go_num,HW3.1,HL.1,HR.1⟩
  case measure=>simp[intOf];omega
 .rw[hal]at p0;have HAL:Hid (i.alive=true):=hal;clear hal;obtain⟨c0,c1,c2,c3,c4⟩:=HW3.1.cel.c5;have hsr3:G.w.heap.size+1<W3.heap.size:=by have:=HW3.1.gne;have:=HW3.1.stk.lt;omega
  have hl3:W2.heap.size<W3.heap.size:=by have:=HW3.2.2.2;omega
  obtain⟨W5,hW5⟩:=qE (xw W3 #[G.c.row,G.c.fam,G.c.qual,xu G.c.ts,(yB i G.c).val] 70:World);obtain⟨c',hc'⟩:=qE (yB i G.c);have HC:Hid (c'=yB i G.c):=hc';have HW5:Hid (LkM G m g cp cs W5/\yA W5 G.w 153 11 wr x.ten/\yA W5 G.w 115 4 W2 i.four/\yA W5 G.w 70 5 W3 c'.five):=by
   have k5:=qN hW5
   have b5:yA W5 G.w 70 5 W3 (yB i G.c).five:=by rw[hW5,yX2];exact yAa W3 _ HW3.1.chg.size rfl
   exact⟨HW3.1.on k5,HW3.2.1.below k5,HW3.2.2.1.below k5,by rw[hc'];exact b5⟩
  obtain⟨d0,d1,d2,d3,d4⟩:=HW5.2.2.2.c5;have a4:=HW5.2.1.cell (j:=4) rfl;have a5:=HW5.2.1.cell (j:=5) rfl;have a6:=HW5.2.1.cell (j:=6) rfl;have a7:=HW5.2.1.cell (j:=7) rfl;have a8:=HW5.2.1.cell (j:=8) rfl;have a9:=HW5.2.1.cell (j:=9) rfl;have a10:=HW5.2.1.cell (j:=10) rfl;have hw23:W2.heap.size<W3.heap.size:=hl3;have hwr2:wr.heap.size<W2.heap.size:=HW2.2.1.lt.2;clear hc';cases hst:i.strip
  all_goals
   rw[hst]at p1
   go_upto_region 14 with fail
   simp only[yB,hst,if_true,if_false,Bool.false_eq_true]at hW5
   rw[<-hW5]
   clear hW5 c0 c1 c2 c3 c4 p0 p1
   go_wp2_with fail
   refine(yS7 x.leaf c' W5 hsx).mono ?_
   rintro e w6 ⟨rfl,hb6⟩
   obtain⟨tb,htb⟩:=qE (tstB x.leaf c')
   have HTB:Hid (tb=tstB x.leaf c'):=htb
   rw[<-htb]
   have HW6:Hid (LkM G m g cp cs w6/\yA w6 G.w 153 11 wr x.ten/\yA w6 G.w 115 4 W2 i.four):=⟨HW5.1.on hb6,HW5.2.1.below hb6,HW5.2.2.1.below hb6⟩
   have hs6:=hb6.size
   clear htb hb6 d0 d1 d2 d3 d4 a4 a5 a6 a7 a8 a9 a10
   have a4:=HW6.2.1.cell (j:=4) rfl
   have a5:=HW6.2.1.cell (j:=5) rfl
   have a6:=HW6.2.1.cell (j:=6) rfl
   have a7:=HW6.2.1.cell (j:=7) rfl
   have a8:=HW6.2.1.cell (j:=8) rfl
   have a9:=HW6.2.1.cell (j:=9) rfl
   have a10:=HW6.2.1.cell (j:=10) rfl
   go_wp2_with fail
   refine(yW0 x.leaf w6).mono ?_
   rintro e w7 ⟨rfl,hb7⟩
   have HW7:Hid (LkM G m g cp cs w7/\yA w7 G.w 153 11 wr x.ten/\yA w7 G.w 115 4 W2 i.four):=⟨HW6.1.on hb7,HW6.2.1.below hb7,HW6.2.2.below hb7⟩
   have hs7:=hb7.size
   clear hb7 a4 a5 a6 a7 a8 a9 a10
   rcases hab with⟨hck,hA0,hA1⟩|⟨hck,hA0⟩
   .have hn1:x.leaf.n<=1000:=by have h9:=hgn.2.2.2;unfold cntK at hck;rcases h9 with⟨q,_⟩|⟨q,_⟩|⟨q,_⟩|⟨_,_,_,q⟩|⟨q,_⟩<;>omega
    obtain⟨an,han⟩:∃an:Nat,x.a=(an:Int):=⟨x.a.toNat,by omega⟩;have hank:(an:Int)<(G.nk:Int):=by have:=hK.out;have:=HG.2.2.2;omega
    obtain⟨k,hk⟩:∃k,cs[an]?=some k:=qg (by have:=HW7.1.len;omega);have HK:Hid (cs[an]?=some k/\x.a=(an:Int)):=⟨hk,han⟩;have hct:yTk x.leaf.kind=true:=by unfold yTk;exact decide_eq_true hck
    rw[hct];obtain⟨W8,hW8⟩:=qE (xw w7 #[false,xe,xe,xe,xi 0] 198:World);have HW8:Hid (LkM G m g cp cs W8/\yA W8 G.w 153 11 wr x.ten/\yA W8 G.w 115 4 W2 i.four/\yA W8 G.w 198 5 w7 newC.five):=by
     have k8:=qN hW8
     exact⟨HW7.1.on k8,HW7.2.1.below k8,HW7.2.2.below k8,by rw[hW8];exact yAa w7 _ HW7.1.chg.size rfl⟩
    have HSS:Hid (∀X:World,LkM G m g cp cs X->yA X G.w 153 11 wr x.ten->(λw':World=>xk w' wr 4 (xi x.leaf.kind)/\xk w' wr 5 x.leaf.s/\xk w' wr 6 x.leaf.hi/\xk w' wr 7 x.leaf.t/\xk w' wr 8 (xu x.leaf.lo)/\xk w' wr 9 (xu x.leaf.up)/\xk w' wr 10 (xi x.leaf.n)/\xk w' wr 1 (xi an)/\xk w' G.gc (an*5) k.used/\xk w' G.gc (an*5+1) k.row/\xk w' G.gc (an*5+2) k.fam/\xk w' G.gc (an*5+3) k.qual/\xk w' G.gc (an*5+4) (xi k.count)/\xk w' (G.w+1) 0 G.c.row/\xk w' (G.w+1) 1 G.c.fam/\xk w' (G.w+1) 2 G.c.qual/\xk w' (G.w+1) 3 (xu G.c.ts)/\xk w' (G.w+1) 4 G.c.val) X):=λX h1 h2=>
     ⟨h2.cell (j:=4) rfl,h2.cell (j:=5) rfl,h2.cell (j:=6) rfl,h2.cell (j:=7) rfl,h2.cell (j:=8) rfl,h2.cell (j:=9) rfl,h2.cell (j:=10) rfl,by rw[<-han];exact h2.cell (j:=1) rfl,
      h1.ctr.cell yGe hk 0 (by omega),h1.ctr.cell yGe hk 1 (by omega),h1.ctr.cell yGe hk 2 (by omega),h1.ctr.cell yGe hk 3 (by omega),h1.ctr.cell yGe hk 4 (by omega),
      h1.cel.cell (j:=0) rfl,h1.cel.cell (j:=1) rfl,h1.cel.cell (j:=2) rfl,h1.cel.cell (j:=3) rfl,h1.cel.cell (j:=4) rfl⟩
    have hS0:=HSS.out W8.drew (HW8.1.on ((Below.refl _ _).drew)) (HW8.2.1.below ((Below.refl _ _).drew));have hkb:=HW8.1.cb k (mem_of_getElem? hk);clear hk han;go_upto_region 17 with fail;rw[<-hW8];clear hW8;refine yAf 99 (λw':World=>xk w' wr 4 (xi x.leaf.kind)/\xk w' wr 5 x.leaf.s/\xk w' wr 6 x.leaf.hi/\xk w' wr 7 x.leaf.t/\xk w' wr 8 (xu x.leaf.lo)/\xk w' wr 9 (xu x.leaf.up)/\xk w' wr 10 (xi x.leaf.n)/\xk w' wr 1 (xi an)/\xk w' G.gc (an*5) k.used/\xk w' G.gc (an*5+1) k.row/\xk w' G.gc (an*5+2) k.fam/\xk w' G.gc (an*5+3) k.qual/\xk w' G.gc (an*5+4) (xi k.count)/\xk w' (G.w+1) 0 G.c.row/\xk w' (G.w+1) 1 G.c.fam/\xk w' (G.w+1) 2 G.c.qual/\xk w' (G.w+1) 3 (xu G.c.ts)/\xk w' (G.w+1) 4 G.c.val) (by kernel_rfl) ?_;refine ja 0 hS0 ?_;iterate 7 refine jb hS0 ?_
    refine qO 8 rfl λK hK=>?_;go_simp;refine(yY6 x.leaf k G.c W8.drew hck ⟨hkb.1,by omega⟩).mono ?_;rintro e w9 ⟨rfl,hb9⟩;obtain⟨mb,hmb⟩:=qE ((yCh x.leaf k G.c).1);obtain⟨k2,hk2⟩:=qE ((yCh x.leaf k G.c).2);rw[<-hmb,<-hk2];have HM:Hid (mb=(yCh x.leaf k G.c).1/\k2=(yCh x.leaf k G.c).2):=⟨hmb,hk2⟩;have h89:Below W8 W8 w9:=((Below.refl _ _).drew).trans hb9;have HW9:Hid (LkM G m g cp cs w9/\yA w9 G.w 153 11 wr x.ten/\yA w9 G.w 115 4 W2 i.four/\yA w9 G.w 198 5 w7 newC.five):=⟨HW8.1.on h89,HW8.2.1.below h89,HW8.2.2.1.below h89,HW8.2.2.2.below h89⟩;have hS9:=HSS.out w9 HW9.1 HW9.2.1;obtain⟨v0,v1,v2,v3,v4⟩:=HW9.2.2.2.c5;obtain⟨f0,f1,f2,f3,f4⟩:=HW9.2.2.2.f5;clear hb9 h89 hmb hk2 hS0;refine hK.out _ _ (.inr hS9) ?_;clear hK;refine jS ?_;iterate 4 refine jb hS9 ?_
    obtain⟨W10,hW10⟩:=qE (setCs w9 w7 0 k2.five:World);have hg7:g<w7.heap.size:=HW7.1.stk.lt.2;have hw27:W2.heap.size<w7.heap.size:=HW7.2.2.lt.2;have hwr7:wr.heap.size<w7.heap.size:=HW7.2.1.lt.2;have HW10:Hid (LkM G m g cp cs W10/\yA W10 G.w 153 11 wr x.ten/\yA W10 G.w 115 4 W2 i.four/\yA W10 G.w 198 5 w7 k2.five):=by
     have hc:Chg (λq=>q=w7.heap.size) w9 W10:=by rw[hW10];exact yAl (S:=λq=>q=w7.heap.size) _ rfl _ _ _
     refine⟨HW9.1.side ⟨by have:=HW9.1.gne;omega,by omega⟩ hc,HW9.2.1.chg hc (by omega),HW9.2.2.1.chg hc (by omega),?_⟩;have:=HW9.2.2.2.setCs k2.five;rw[hW10];exact this
    have hS10:=HSS.out W10 HW10.1 HW10.2.1;simp only[setCs,Nat.zero_add,Nat.reduceAdd]at hW10;refine qO 13 rfl λK hK=>?_;go_simp;rw[<-hW10];refine hK.out _ _ (.inr hS10) ?_;clear hK hW10 hS9 v0 v1 v2 v3 v4 f0 f1 f2 f3 f4;refine jS ?_;refine qD ?_;obtain⟨v0,v1,v2,v3,v4⟩:=HW10.2.2.2.c5;obtain⟨-,-,-,-,-,-,-,b1,u0,u1,u2,u3,u4,-,-,-,-,-⟩:=hS10;have fz:∀q,W10.frozen? (xd G.gc q)=false:=λq=>World.ownsRow.frozenAt HW10.1.ctr q;have f0:=fz (an*5);have f1:=fz (an*5+1);have f2:=fz (an*5+2);have f3:=fz (an*5+3);have f4:=fz (an*5+4);obtain⟨wq,hwq⟩:=qE (setCs W10 G.gc (an*5) k2.five:World);obtain⟨cq,hcq⟩:=qE (cs.set an k2);have hgcl:=HW10.1.gcl;have HWQ:Hid (LkM G m g cp cq wq/\yA wq G.w 153 11 wr x.ten/\yA wq G.w 115 4 W2 i.four):=by
     have hc:Chg (λq=>q=G.gc) W10 wq:=by rw[hwq];exact yAl (S:=λq=>q=G.gc) _ rfl _ _ _
     have hl:=HW10.1.len;refine⟨HW10.1.ctrs (by rw[hwq,hcq];exact HW10.1.ctr.setAll yGe (i:=an) (e:=k2) (by omega)) (by rw[hcq,length_set];exact hl) (λq hq=>?_) hc,HW10.2.1.chg hc (by omega),HW10.2.2.1.chg hc (by omega)⟩;rw[hcq]at hq;rcases mem_or_eq_of_mem_set hq with z|z
     .exact HW10.1.cb q z
     .rw[z,HM.2];exact xF hkb hn1
    have HQ:Hid (leafI pfxB x G.c i cs=(if mb=true then⟨true,i.strip || (x.leaf.kind==3),i.hint⟩else yBl (if x.free=true then yB4 (pfxB x.leaf.s) x.leaf G.c else noH),cq)):=by show _=_;rw[yP7 HAL.out hck (by rw[HK.2];simpa using HK.1),<-HM.1,<-HM.2,hcq,HK.2];simp
    clear fz;simp only[setCs]at hwq;go_upto_region 19 with fail;rw[<-hwq];clear hwq hcq v0 v1 v2 v3 v4 f0 f1 f2 f3 f4 b1 u0 u1 u2 u3 u4;obtain⟨tb,htb⟩:=qE mb;rw[<-htb]at HQ⊢;clear htb;exact zLkT
   .have hcf:yTk x.leaf.kind=false:=by unfold yTk;rw[decide_eq_false_iff_not];exact hck
    rw[hcf];obtain⟨wq,hwq⟩:=qE w7;obtain⟨cq,hcq⟩:=qE cs;have HWQ:Hid (LkM G m g cp cq wq/\yA wq G.w 153 11 wr x.ten/\yA wq G.w 115 4 W2 i.four):=by rw[hwq,hcq];exact HW7.out
    have HQ:Hid (leafI pfxB x G.c i cs=(if tb=true then⟨true,i.strip || (x.leaf.kind==3),i.hint⟩else yBl (if x.free=true then yB4 (pfxB x.leaf.s) x.leaf G.c else noH),cq)):=by show _=_;rw[yVa HAL.out hck,<-HC.out,<-HTB.out,hcq]
    rw[<-hwq]at hs7⊢;clear hwq hcq;exact zLkT):p:=h
theorem zRdB (h:p:=by
 obtain⟨an,han⟩:∃an:Nat,x.a=(an:Int):=⟨x.a.toNat,by omega⟩;obtain⟨bv,hbv⟩:∃bv,G.conds[an]?=some bv:=qg (by have:=HG.2.2.1;omega);obtain⟨bc,oc,hca,hcc,-,-⟩:=HW2.1.cnd an bv hbv;have hnc:(an:Int)<(G.nC:Int):=by have:=HG.2.2.1;have:=hC.out;omega
 have HBV:Hid (G.conds[x.a.toNat]?=some bv):=by show _=_;rw[han];simpa using hbv
 rw[han]at y1;rw[ho]at y0;have HCA:Hid (G.ca=some ⟨bc,oc,none⟩):=hca;rw[hca];clear hbv ha0 ha1 hca;have zb:((x.b.toNat:Nat):Int)=x.b:=by omega
 cases bv
 .have HR:Hid (LkL G x.b.toNat m cs/\at_<x.b.toNat/\x.b.toNat<=G.N/\1<=m.length/\m.length<=250):=
   HL.2.next HG.2.1 hN.out (by have:=HL.1;omega) HX.out (by unfold stepL;rw[if_neg (by omega),if_neg (by omega),if_neg (by omega),if_neg (by omega),if_pos ho,if_pos HBV.out]) (by unfold ways;rw[if_pos ho];simp) (by unfold more;rw[if_neg (by omega),if_neg (by omega)];omega)
  have hr1:=HR.2.1;have hr2:=HR.2.2.1;go_wp2_with fail;rw[<-HCA.out];exact xCu
 .have HR:Hid (LkL G (at_+1) m cs/\at_<at_+1/\at_+1<=G.N/\1<=m.length/\m.length<=250):=
   HL.2.next HG.2.1 hN.out (by have:=HL.1;omega) HX.out (by unfold stepL;rw[if_neg (by omega),if_neg (by omega),if_neg (by omega),if_neg (by omega),if_pos ho,if_neg (by rw[HBV.out];simp)]) (by unfold ways;rw[if_pos ho];simp) (by unfold more;rw[if_neg (by omega),if_neg (by omega)];omega)
  have hr2:=HR.2.2.1;go_wp2_with fail;rw[<-HCA.out];go_roundw;case rel=>exact⟨at_+1,sn,g,cp,m,cs,hr2,hs1,hs2,rfl,by go_num,HW2.1,HL.1,HR.1⟩
  case measure=>simp[intOf];omega):p:=h
theorem zRdJ (h:p:=by
 have zb:((x.b.toNat:Nat):Int)=x.b:=by omega
 have HR:Hid (LkL G x.b.toNat m cs/\at_<x.b.toNat/\x.b.toNat<=G.N/\1<=m.length/\m.length<=250):=
  HL.2.next HG.2.1 hN.out (by have:=HL.1;omega) HX.out (by unfold stepL;rw[if_neg (by omega),if_neg (by omega),if_neg (by omega),if_neg (by omega),if_neg (by omega),if_pos ho]) (by unfold ways;rw[if_neg (by omega),if_pos ho];simp) (by unfold more;rw[if_neg (by omega),if_neg (by omega)];omega)
 rw[ho]at y0;have hr1:=HR.2.1;have hr2:=HR.2.2.1;go_wp2_with fail;exact xCu):p:=h
theorem zRdD (h:p:=by
 obtain⟨i,hi⟩:∃i,m[tn]?=some i:=qg (by have:=HL.1;omega);rw[ho]at y0;have t0:=HW2.1.stk.cell yAd hi 0 (by omega);have t1:=HW2.1.stk.cell yAd hi 1 (by omega);have t2:=HW2.1.stk.cell yAd hi 2 (by omega);have t3:=HW2.1.stk.cell yAd hi 3 (by omega);simp only[getElem?_cons_zero,getElem?_cons_succ,Nat.add_zero]at t0 t1 t2 t3;obtain⟨W3,hW3⟩:=qE (xw W2 #[i.alive,i.strip,xi i.hint.rank,i.hint.txt] 115:World);have HW3:Hid (LkM G m g cp cs W3/\(∀j u,i.four[j]?=some u->(xk W3 W2 j u:Prop))):=by
  have hb3:=qN hW3
  exact⟨HW2.1.on hb3,by rw[hW3];exact yBm W2 i.four _⟩
 have HI:Hid (m[tn]?=some i):=hi;have hgl:=HW3.1.stk.lt;have z3:=qS hW3
 clear hi;go_wp2_with (at_builtin;(try rw[<-hW3]);refine yDb yAd _ rfl _ _ 199 rfl underlying199 Tryz.infoItm rfl (by decide) (by decide) yG2 G.w g cp (tn+1) W2 1 m i rfl rfl HL.1 HW3.1.stk HW3.2 ?hl ?hb ?_);case hl=>rw[<-HL.1];omega
 case hb=>omega
 intro g' cp' w' hO' hgr hat';have hgr2:W3.grownBy w' (some g):=by first|exact hgr|(rw[hW3];exact hgr)
 have HR:Hid (LkL G (at_+1) (m++ [i]) cs/\at_<at_+1/\at_+1<=G.N/\1<=(m++ [i]).length/\(m++ [i]).length<=250):=
  HL.2.next HG.2.1 hN.out (by have:=HL.1;omega) HX.out (by unfold stepL;rw[if_neg (by omega),if_pos ho,reverse_append,yDr HL.1 HI.out];rfl) (by unfold ways;rw[if_neg (by omega),if_neg (by omega)];simp) (by unfold more;rw[if_pos ho];simp)
 have HR2:Hid (LkM G (m++ [i]) g' cp' cs w'/\tn+1+1=(m++ [i]).length):=
  ⟨HW3.1.grow hO' (by have:=HW3.1.gne;have:=HW3.1.chg.size;omega) (Chg.of_grown hgr2 (λk hk=>by cases hk;rfl)),by rw[length_append,<-HL.1];rfl⟩
 have hr2:=HR.2.2.1;have hr3:tn+1+1<=250:=by have:=HR.2.2.2.2;have:=HR2.2;omega
 clear hO' hgr hgr2 hat' hW3;go_wp2;go_roundw;case rel=>exact⟨at_+1,tn+1+1,g',cp',m++ [i],cs,hr2,by omega,hr3,rfl,by go_num,HR2.1,HR2.2,HR.1⟩
 case measure=>simp[intOf];omega):p:=h
theorem zRdS (h:p:=by
 obtain⟨un,rfl⟩:∃un,tn=un+1:=⟨tn-1,by rw[ho]at hle;unfold least at hle;rw[if_pos (by omega)]at hle;omega⟩;obtain⟨i,hi⟩:∃i,m[un+1]?=some i:=qg (by have:=HL.1;omega);obtain⟨j,hj⟩:∃j,m[un]?=some j:=qg (by have:=HL.1;omega);rw[ho]at y0;have t0:=HW2.1.stk.cell yAd hi 0 (by omega);have t1:=HW2.1.stk.cell yAd hi 1 (by omega);have t2:=HW2.1.stk.cell yAd hi 2 (by omega);have t3:=HW2.1.stk.cell yAd hi 3 (by omega);have s0:=HW2.1.stk.cell yAd hj 0 (by omega);have s1:=HW2.1.stk.cell yAd hj 1 (by omega);have s2:=HW2.1.stk.cell yAd hj 2 (by omega);have s3:=HW2.1.stk.cell yAd hj 3 (by omega);simp only[getElem?_cons_zero,getElem?_cons_succ,Nat.add_zero]at t0 t1 t2 t3 s0 s1 s2 s3;have HI:Hid (m[un+1]?=some i/\m[un]?=some j):=⟨hi,hj⟩;have hgl:=HW2.1.stk.lt.2;have fz:∀k,W2.frozen? (xd g k)=false:=λk=>World.ownsRow.frozenAt HW2.1.stk k;have f0:=fz ((un+1)*4);have f1:=fz ((un+1)*4+1);have f2:=fz ((un+1)*4+2);have f3:=fz ((un+1)*4+3);have e0:=fz (un*4);have e1:=fz (un*4+1);have e2:=fz (un*4+2);have e3:=fz (un*4+3);clear hi hj fz;go_upto_region 45 with fail;obtain⟨W9,hW9⟩:=qE (xw (setCs (setCs W2 g ((un+1)*4) j.four) g (un*4) i.four) #[i.alive,i.strip,xi i.hint.rank,i.hint.txt] 115:World);have HR2:Hid (LkM G (m.take un++ [i,j]) g cp cs W9/\un+1+1=(m.take un++ [i,j]).length):=by
  have hm:=HL.1;have o1:=(HW2.1.stk.setAll yAd (i:=un+1) (e:=j) (by omega)).setAll yAd (i:=un) (e:=i) (by rw[length_set];omega);rw[yPb HL.1 HI.1 HI.2]at o1;have k9:Below (setCs (setCs W2 g ((un+1)*4) j.four) g (un*4) i.four).heap.size (setCs (setCs W2 g ((un+1)*4) j.four) g (un*4) i.four) W9:=by rw[hW9];exact qB
  exact⟨HW2.1.grow (o1.below k9) HW2.1.gne (((yAl (S:=λk=>k=g) g rfl _ _ _).trans (yAl (S:=λk=>k=g) g rfl _ _ _)).trans (Chg.of_below k9)),by rw[length_append,length_take];simp;omega⟩
 have HR:Hid (LkL G (at_+1) (m.take un++ [i,j]) cs/\at_<at_+1/\at_+1<=G.N/\1<=(m.take un++ [i,j]).length/\(m.take un++ [i,j]).length<=250):=
  HL.2.next HG.2.1 hN.out (by have:=HL.1;omega) HX.out (by unfold stepL;rw[if_neg (by omega),if_neg (by omega),if_pos ho];rw[yNm HL.1 HI.1 HI.2,reverse_append];rfl) (by unfold ways;rw[if_neg (by omega),if_neg (by omega)];simp) (by unfold more;rw[if_neg (by omega),if_neg (by omega),<-HR2.2,<-HL.1];omega)
 have hr2:=HR.2.2.1;have hW9':W9=_:=hW9;simp only[setCs]at hW9';rw[<-hW9'];clear hW9 hW9';go_wp2;go_roundw;case rel=>exact⟨at_+1,un+1+1,g,cp,m.take un++ [i,j],cs,hr2,by omega,hs2,rfl,by go_num,HR2.1,HR2.2,HR.1⟩
 case measure=>simp[intOf];omega):p:=h
theorem zRdI (h:p:=by
 obtain⟨un,rfl⟩:∃un,tn=un+1:=⟨tn-1,by rw[ho]at hle;unfold least at hle;rw[if_pos (by omega)]at hle;omega⟩;obtain⟨i,hi⟩:∃i,m[un+1]?=some i:=qg (by have:=HL.1;omega);obtain⟨j,hj⟩:∃j,m[un]?=some j:=qg (by have:=HL.1;omega);rw[ho]at y0;have t0:=HW2.1.stk.cell yAd hi 0 (by omega);have t1:=HW2.1.stk.cell yAd hi 1 (by omega);have t2:=HW2.1.stk.cell yAd hi 2 (by omega);have t3:=HW2.1.stk.cell yAd hi 3 (by omega);have s0:=HW2.1.stk.cell yAd hj 0 (by omega);have s1:=HW2.1.stk.cell yAd hj 1 (by omega);have s2:=HW2.1.stk.cell yAd hj 2 (by omega);have s3:=HW2.1.stk.cell yAd hj 3 (by omega);simp only[getElem?_cons_zero,getElem?_cons_succ,Nat.add_zero]at t0 t1 t2 t3 s0 s1 s2 s3;have HI:Hid (m[un+1]?=some i/\m[un]?=some j):=⟨hi,hj⟩;have hgl:=HW2.1.stk.lt.2;clear hi hj;obtain⟨W3,hW3⟩:=qE (xw (W2.alloc (Obj.cells #[i.alive,i.strip,xi i.hint.rank,i.hint.txt] 115)) #[j.alive,j.strip,xi j.hint.rank,j.hint.txt] 115:World);have HW3:Hid (LkM G m g cp cs W3/\yA W3 G.w 115 4 W2 i.four/\yA W3 G.w 115 4 (W2+1) j.four/\W3.heap.size=W2.heap.size+1+1):=by
  obtain⟨X,hX⟩:=qE (xw W2 #[i.alive,i.strip,xi i.hint.rank,i.hint.txt] 115:World);rw[<-hX]at hW3;have zx:=qS hX
  have k1:=qN hX
  have k2:=qN hW3
  have sz:=HW2.1.chg.size;have b1:yA X G.w 115 4 W2 i.four:=by rw[hX];exact yAa W2 _ sz rfl
  exact⟨(HW2.1.on k1).on k2,b1.below k2,by rw[hW3,<-zx];exact yAa X _ (by omega) rfl,by rw[hW3];simp;omega⟩
 go_upto_region 34 with fail;rw[<-hW3];clear hW3 t0 t1 t2 t3 s0 s1 s2 s3;have t2:=HW3.2.1.cell (j:=2) rfl;have t3:=HW3.2.1.cell (j:=3) rfl;have s2:=HW3.2.2.1.cell (j:=2) rfl;have s3:=HW3.2.2.1.cell (j:=3) rfl;go_wp2_with fail;refine(ySy j.hint i.hint W3).mono ?_;rintro e w4 ⟨rfl,hb4⟩;obtain⟨hh,hhh⟩:=qE (yN7 j.hint i.hint);rw[<-hhh];have HH:Hid (hh=yN7 j.hint i.hint):=hhh;obtain⟨W5,hW5⟩:=qE (xw w4 #[false,false,xi hh.rank,hh.txt] 115:World);have HW5:Hid (LkM G m g cp cs W5/\yA W5 G.w 115 4 W2 i.four/\yA W5 G.w 115 4 (W2+1) j.four/\yA W5 G.w 115 4 w4 (yBl hh).four):=by
  have k5:=qN hW5
  have sz:=HW3.1.chg.size;have sb:=hb4.size;exact⟨(HW3.1.on hb4).on k5,(HW3.2.1.below hb4).below k5,(HW3.2.2.1.below hb4).below k5,by rw[hW5];exact yAa w4 _ (by omega) rfl⟩
 have hz4:W2.heap.size+1+1<=w4.heap.size:=by have:=hb4.size;have:=HW3.2.2.2;omega
 clear hhh hb4 t2 t3 s2 s3;obtain⟨t0,t1,t2,t3⟩:xk W5 W2 0 i.alive/\xk W5 W2 1 i.strip/\xk W5 W2 2 (xi i.hint.rank)/\xk W5 W2 3 i.hint.txt:=⟨HW5.2.1.cell (j:=0) rfl,HW5.2.1.cell (j:=1) rfl,HW5.2.1.cell (j:=2) rfl,HW5.2.1.cell (j:=3) rfl⟩;obtain⟨s0,s1,s2,s3⟩:xk W5 (W2+1) 0 j.alive/\xk W5 (W2+1) 1 j.strip/\xk W5 (W2+1) 2 (xi j.hint.rank)/\xk W5 (W2+1) 3 j.hint.txt:=⟨HW5.2.2.1.cell (j:=0) rfl,HW5.2.2.1.cell (j:=1) rfl,HW5.2.2.1.cell (j:=2) rfl,HW5.2.2.1.cell (j:=3) rfl⟩;obtain⟨f0,f1,f2,f3⟩:=HW5.2.2.2.f4;obtain⟨v0,v1,v2,v3⟩:=HW5.2.2.2.c4;go_upto_region 35 with fail;rw[<-hW5];clear hW5;obtain⟨ia,hia⟩:=qE i.alive;obtain⟨ja,hja⟩:=qE j.alive;rw[<-hia]at t0;rw[<-hja]at s0;have HIA:Hid (ia=i.alive/\ja=j.alive):=⟨hia,hja⟩;clear hia hja
 obtain⟨W7,it,hW7,HW7⟩:∃(W7:World) (it:It),W7=(if ja=true then setCs (if ia=true then setCs W5 w4 0 [true,i.strip,xi i.hint.rank,i.hint.txt]else W5) w4 0 [true,j.strip,xi j.hint.rank,j.hint.txt]else if ia=true then setCs W5 w4 0 [true,i.strip,xi i.hint.rank,i.hint.txt]else W5)/\
   Hid (LkM G m g cp cs W7/\yA W7 G.w 115 4 w4 it.four/\it=yTh j i):=by
  have hgn:¬w4.heap.size=g:=by omega
  have hgs:G.w.heap.size+1+1<w4.heap.size:=by have:=HW2.1.gne;omega
  obtain⟨h1,h2⟩:=HIA.out;have hi2:ia=true-> [Value.bool true,i.strip,xi i.hint.rank,i.hint.txt]=i.four:=λq=>by unfold It.four;rw[<-h1,q]
  have hj2:ja=true-> [Value.bool true,j.strip,xi j.hint.rank,j.hint.txt]=j.four:=λq=>by unfold It.four;rw[<-h2,q]
  obtain⟨W6,hW6⟩:=qE ((if ia=true then setCs W5 w4 0 [true,i.strip,xi i.hint.rank,i.hint.txt]else W5):World);have H6:∃i6:It,LkM G m g cp cs W6/\yA W6 G.w 115 4 w4 i6.four/\i6=(if i.alive=true then i else yBl hh):=by
   cases ia
   .rw[if_neg (by simp)]at hW6;rw[hW6];exact⟨yBl hh,HW5.1,HW5.2.2.2,by rw[<-h1];rfl⟩
   .rw[if_pos rfl,hi2 rfl]at hW6;obtain⟨q1,q2⟩:=yEo HW5.2.2.2 hW6;exact⟨i,HW5.1.side ⟨hgs,hgn⟩ q2,q1,by rw[<-h1];rfl⟩
  obtain⟨i6,l6,b6,e6⟩:=H6;rw[<-hW6];cases ja
  .refine⟨W6,i6,by simp,l6,b6,?_⟩;rw[e6];unfold yTh;rw[<-h2];simp[HH.out]
  .obtain⟨W7,hW7⟩:=qE (setCs W6 w4 0 j.four:World);obtain⟨q1,q2⟩:=yEo b6 hW7;refine⟨W7,j,by rw[if_pos rfl,hj2 rfl];exact hW7,l6.side ⟨hgs,hgn⟩ q2,q1,?_⟩;unfold yTh;rw[<-h2,if_pos rfl]
 have hsw:w4.heap.size<W7.heap.size:=HW7.2.1.lt.2;have hcap:=HW7.1.stk.caps;rw[<-HL.1]at hcap;have hwu:IntKind.i64.wrap ((un:Nat):Int)=(un:Int):=by rw[IntKind.wrap_i64];omega
 have hcu:(un:Int)<=(cp:Int):=by omega
 have hnn:0<=(un:Int):=by omega
 have HUN:Hid (un<=m.length):=by have:=HL.1;show un<=_;omega
 obtain⟨V8,hV8⟩:=qE ((W7.alloc (Obj.cells #[it.alive,it.strip,xi it.hint.rank,it.hint.txt] 115)).drew:World);have HV8:Hid (LkM G m g cp cs V8/\(∀j u,it.four[j]?=some u->(xk V8 W7 j u:Prop))/\yA V8 G.w 115 4 w4 it.four/\V8.heap.size=W7.heap.size+1):=by
  have k8:Below W7 W7 V8:=by rw[hV8];exact(qB).drew
  exact⟨HW7.1.on k8,by rw[hV8];exact yBm W7 it.four _,HW7.2.1.below k8,by rw[hV8];simp⟩
 have hS0:SW (λw':World=>xk w' w4 0 it.alive/\xk w' w4 1 it.strip/\xk w' w4 2 (xi it.hint.rank)/\xk w' w4 3 it.hint.txt) W7.drew:=⟨HW7.2.1.cell (j:=0) rfl,HW7.2.1.cell (j:=1) rfl,HW7.2.1.cell (j:=2) rfl,HW7.2.1.cell (j:=3) rfl⟩;have hS8:=SWm hS0 V8 <|⟨HV8.2.2.1.cell (j:=0) rfl,HV8.2.2.1.cell (j:=1) rfl,HV8.2.2.1.cell (j:=2) rfl,HV8.2.2.1.cell (j:=3) rfl⟩;cases ia<;>cases ja<;>simp only[Bool.false_eq_true,if_false,if_true,setCs,Nat.zero_add,Nat.reduceAdd]at hW7
 all_goals
  go_upto_region 39 with fail
  rw[<-hW7]
  clear hW7 t0 t1 t2 t3 s0 s1 s2 s3 f0 f1 f2 f3 v0 v1 v2 v3
  refine wpR 99 hS8 ?_
  refine ja 0 hS0 ?_
  iterate 4 refine jb hS0 ?_
  refine qO 5 rfl λK hK=>?_
  go_simp
  rw[<-hV8]
  refine hK.out _ _ (.inr hS8) ?_
  clear hK hV8
  refine jS ?_
  refine qO 6 rfl λK hK=>?_
  refine yE yAd _ rfl _ _ 199 rfl underlying199 Tryz.infoItm rfl (by decide) (by decide) yG2 G.w g cp un W7 1 (m.take un) it rfl rfl (by rw[length_take,Nat.min_eq_left HUN.out]) (HV8.1.stk.take yAd HUN.out) HV8.2.1 (by rw[length_take];omega) (by have:=HV8.1.chg.size;omega) ?_
  intro g' cp' w' hO' hgr hat'
  have hc9:Chg (λk=>k=g) V8 w':=Chg.of_grown hgr (λk hk=>by cases hk;rfl)
  have hlen:(m.take un++ [it]).length=un+1:=by rw[length_append,length_take,Nat.min_eq_left HUN.out];rfl
  have HR:Hid (LkL G (at_+1) (m.take un++ [it]) cs/\at_<at_+1/\at_+1<=G.N/\1<=(m.take un++ [it]).length/\(m.take un++ [it]).length<=250):=
   HL.2.next HG.2.1 hN.out (by have:=HL.1;omega) HX.out (by unfold stepL;rw[if_neg (by omega),if_neg (by omega),if_neg (by omega),if_pos ho,yNm HL.1 HI.1 HI.2,reverse_append,HW7.2.2];rfl) (by unfold ways;rw[if_neg (by omega),if_neg (by omega)];simp) (by unfold more;rw[if_neg (by omega),if_pos ho,hlen,<-HL.1];omega)
  have HR2:Hid (LkM G (m.take un++ [it]) g' cp' cs w'/\un+1=(m.take un++ [it]).length):=
   ⟨HV8.1.grow hO' (by have:=HV8.1.gne;have:=HV8.1.stk.lt;omega) hc9,hlen.symm⟩
  have b9:=HV8.2.2.1.chg hc9 (by omega)
  have hS9:=SWm hS8 w' <|⟨b9.cell (j:=0) rfl,b9.cell (j:=1) rfl,b9.cell (j:=2) rfl,b9.cell (j:=3) rfl⟩
  have hr2:=HR.2.2.1
  clear hO' hgr hat' hc9 b9 hlen
  refine hK.out _ _ (.inr hS9) ?_
  clear hK
  refine jS ?_
  refine qO 7 rfl λK hK=>?_
  go_simp
  refine hK.out _ _ (.inr hS9) ?_
  clear hK hS0 hS8 hS9
  refine jS ?_
  refine qD ?_
  go_wp2_with fail
  go_roundw
  case rel=>exact⟨at_+1,un+1,g',cp',m.take un++ [it],cs,hr2,by omega,by omega,rfl,by go_num,HR2.1,HR2.2,HR.1⟩
  case measure=>simp[intOf];omega):p:=h
theorem yS5 (G:LkG) (nc:Nat) (hB:yBe G.l G.cnt nc) (hD:yUc G.l G.d) (hnc:nc<=G.conds.length) (hcn:(G.cs0.length:Int)=G.cnt) (cc:Nat) (hN:Hid (G.N=G.l.length)) (hK:Hid (G.nk=G.cs0.length)) (hC:Hid (G.nC=G.conds.length))
  (hI:yB5 G.w G.bI G.oI G.l) (hIl:G.bI<G.w.heap.size/\¬G.bI=G.gc) (hIc:G.N<=G.cI/\G.cI<=maxLen) (hO:yF0 G.w G.b0 G.gc G.cpc G.cs0) (hcb:∀k∈G.cs0,0<=k.count/\k.count<=1000)
  (hcd:∀(i:Nat) (b:Bool),G.conds[i]?=some b->∃bc oc,G.ca=some ⟨bc,oc,none⟩/\xk G.w bc (oc+i) b/\bc<G.w.heap.size/\¬bc=G.gc):
  Calls prog 58 #[.agg #[.slice (some ⟨G.bI,G.oI,none⟩) G.N G.cI,xi G.cnt],G.c.c,xg G.gc G.nk G.cpc,.slice G.ca G.nC cc] G.w (LkP G):=by
 obtain⟨W0,a0⟩:=qE (xw ((G.w.alloc (Obj.cells #[.slice (some ⟨G.bI,G.oI,none⟩) G.N G.cI,xi G.cnt] 32)).alloc (Obj.cells #[G.c.row,G.c.fam,G.c.qual,xu G.c.ts,G.c.val] 70)) #[false,false,xi 0,xe] 115:World);obtain⟨W1,a2⟩:=qE (xw W0 #[true,false,xi 0,xe] 115:World);have H1:Hid (LkM G [newI] (G.w+1+1+1) 1 G.cs0 W1):=by
  obtain⟨X,hX⟩:=qE (xw G.w #[.slice (some ⟨G.bI,G.oI,none⟩) G.N G.cI,xi G.cnt] 32:World);rw[<-hX]at a0;obtain⟨Y,hY⟩:=qE (xw X #[G.c.row,G.c.fam,G.c.qual,xu G.c.ts,G.c.val] 70:World);rw[<-hY]at a0;have zx:=qS hX
  have zy:Y.heap.size=G.w.heap.size+1+1:=by rw[hY];simp;omega
  have zz:W0.heap.size=G.w.heap.size+1+1+1:=by rw[a0];simp;omega
  have k1:=qN hX
  have k2:=qN hY
  have k3:=qN a0
  have k4:=qN a2
  have k9:Below G.w G.w W1:=((k1.trans (k2.mono (by omega))).trans (k3.mono (by omega))).trans (k4.mono (by omega));have b1:yA X G.w 32 2 G.w [.slice (some ⟨G.bI,G.oI,none⟩) G.N G.cI,xi G.cnt]:=by rw[hX];exact yAa G.w _ qr rfl
  have b2:yA Y G.w 70 5 (G.w+1) G.c.five:=by rw[hY,<-zx];exact yAa X _ (by omega) rfl
  have b3:yA W0 G.w 115 4 (G.w+1+1) (yBl noH).four:=by rw[a0,<-zy];exact yAa Y _ (by omega) rfl
  have b4:yA W1 G.w 115 4 (G.w+1+1+1) newI.four:=by rw[a2,<-zz];exact yAa W0 _ (by omega) rfl
  exact⟨((b1.below k2).below k3).below k4,(b2.below k3).below k4,b3.below k4,b4,by omega,hO.below k9,hO.lt.2,hIl,hI.below k9 hIl.1,
   λi b hi=>by
    obtain⟨bc,oc,h1,h2,h3,h4⟩:=hcd i b hi
    exact⟨bc,oc,h1,((Chg.of_below k9 (S:=λ_=>False)).cell (p:=(xd bc (oc+i))) h3 (λq=>q)).trans h2,h3,h4⟩,
   Chg.of_below k9,hK.out.symm,hcb⟩
 have ai:G.N<=4000:=by have:=hB.2.1;have:=hN.out;omega
 have HG:Hid (yBe G.l G.cnt nc/\yUc G.l G.d/\nc<=G.conds.length/\(G.cs0.length:Int)=G.cnt):=⟨hB,hD,hnc,hcn⟩;clear hB hD hnc hcn hI hO hcb hcd hIl;unfold maxLen at hIc;go_enter func58,ntmps58;go_upto_region 2 with fail;rw[<-a0,<-a2];clear a0 a2;go_wp2_with fail;go_loopw[10,11] (λsv kv wr=>∃(at_ sn g cp:Nat) (m:List It) (cs:List Ctr),at_<=G.N/\1<=sn/\sn<=250/\sv=(xg g sn cp)/\kv=(xi at_)/\Hid (LkM G m g cp cs wr/\sn=m.length/\LkL G at_ m cs)) (λ_ kv _=>G.N-(intOf kv).toNat);case atStart=>exact⟨0,1,_,1,[newI],G.cs0,zero_le _,Nat.le_refl _,by omega,rfl,rfl,H1.out,rfl,HG.2.1.start.symm,zero_le _,λr h=>h⟩
 case round=>
  clear H1;obtain⟨at_,sn,g,cp,m,cs,aj,hs1,hs2,rfl,rfl,HJ⟩:=hrel;have c0:=HJ.1.blk.cell (j:=0) rfl;by_cases hlt:at_<G.N
  .obtain⟨x,hx⟩:∃x,G.l[at_]?=some x:=qg (by have:=hN.out;omega);obtain⟨x0,x1,x2,x3,x4,x5,x6,x7,x8,x9,ad⟩:=HJ.1.ins at_ x hx;have HX:Hid (G.l[at_]?=some x):=hx;clear hx;have z:(at_:Int)<(G.N:Int):=by omega
   obtain⟨W2,a1⟩:=qE (xw wr #[xi x.op,xi x.a,xi x.b,x.free,xi x.leaf.kind,x.leaf.s,x.leaf.hi,x.leaf.t,xu x.leaf.lo,xu x.leaf.up,xi x.leaf.n] 153:World);have HW2:Hid (LkM G m g cp cs W2/\yA W2 G.w 153 11 wr x.ten/\Below wr wr W2):=by
    have hb:=qN a1
    exact⟨HJ.1.on hb,by rw[a1];exact yAa wr _ HJ.1.chg.size rfl,hb⟩
   have HL:Hid (sn=m.length/\LkL G at_ m cs):=HJ.2;have ac:yCy x at_ G.l.length G.cnt nc:=yC3 HG.1 HX.out;have hle:=HL.2.least HG.2.1 (by have:=HL.1;omega) HX.out;rw[<-HL.1]at hle;rw[<-hN.out]at ac;have ag:=HJ.1.chg.size;clear HJ;go_upto_region 5 with fail;rw[<-a1];clear a1 x0 x1 x2 x3 x4 x5 x6 x7 x8 x9 ad c0;obtain⟨y0,y1,y2⟩:=HW2.2.1.c3;rcases ac with⟨ho,hlf,af,hab⟩|⟨ho,aa,ha0,ha1,hkb,ae⟩|⟨ho,aa,ha0,hkb,ae⟩|⟨ho,aa,ha0,af⟩
   .as_aux_lemma=>exact zRdL
   .exact zRdB
   .exact zRdJ
   .obtain⟨tn,rfl⟩:∃tn,sn=tn+1:=⟨sn-1,by omega⟩;rcases ho with ho|ho|ho
    .exact zRdD
    .exact zRdS
    .exact zRdI
  .have z:¬(at_:Int)<(G.N:Int):=by omega
   have ab:m.length=1:=by
    have h1:=HJ.2.2.1;have h2:at_=G.l.length:=by have:=hN.out;omega
    rw[h2,HG.2.1.last]at h1;exact h1
   obtain⟨i,rfl⟩:∃i,m= [i]:=List.length_eq_one_iff.1 ab;obtain rfl:sn=1:=HJ.2.1;have t0:=HJ.1.stk.cell yAd (i:=0) (e:=i) rfl 0 (by omega);have t1:=HJ.1.stk.cell yAd (i:=0) (e:=i) rfl 1 (by omega);have t2:=HJ.1.stk.cell yAd (i:=0) (e:=i) rfl 2 (by omega);have t3:=HJ.1.stk.cell yAd (i:=0) (e:=i) rfl 3 (by omega);simp only[getElem?_cons_zero,getElem?_cons_succ,Nat.zero_mul,Nat.zero_add]at t0 t1 t2 t3;obtain⟨f0,f1,f2,f3⟩:=HJ.1.res.f4;obtain⟨v0,v1,v2,v3⟩:=HJ.1.res.c4;obtain⟨W9,hW9⟩:=qE (setCs wr (G.w+1+1) 0 i.four:World);obtain⟨b9,c9⟩:=yEo HJ.1.res hW9;have ah:=HJ.1.gcl
   have HR:Hid (LkP G (.returned (.tuple #[i.v,xg G.gc G.nk G.cpc])) W9):=
    ⟨i,cs,HJ.2.2.2.2 _ (.fin (by have:=hN.out;show¬at_<_;omega) rfl),rfl,HJ.1.len,HJ.1.ctr.chg c9 (by omega),HJ.1.cb,HJ.1.chg.absorb c9 (λj q=>.inr (by omega))⟩
   obtain⟨q0,q1,q2,q3⟩:=b9.c4;simp only[setCs,Nat.zero_add,Nat.reduceAdd]at hW9;clear b9 c9 HJ ab;go_wp2_with fail;rw[<-hW9];exact bodyPost_ret (v:=.tuple #[i.v,xg G.gc G.nk G.cpc]) (by simp[results,results58,go_sem,q0,q1,q2,q3]) rfl HR.out
structure LfJ (w:World) (n:Nd) (b off cap:Nat) (es:List Ent) (g cp:Nat) (L:List Ent) (wr:World):Prop where
 own:OwnC wr w g cp L
 box:yA wr w 83 7 w n.seven
 row:CSl wr b off cap es
 low:b<w.heap.size
 below:Below w w wr
variable {w:World} {b cap cp k:Nat} {es:List Ent}
theorem LfJ.set {n:Nd} {off:Nat} {g:Nat} {L:List Ent} {X:World} (h:LfJ w n b off cap es g cp L X) (hk:w.heap.size<k) (hg:¬g=k) (j:Nat) (u:Value):LfJ w n b off cap es g cp L (xt X k j u):=by have hc:Chg (λq=>q=k) X (xt X k j u):=Chg.of_set _ _ _ _ rfl;have a0:=h.low;have hs:=h.below.size;exact⟨yAh h.own hc (λq z=>by simp[Value.ownBlock]at z;subst z;exact hg),h.box.chg hc qo,h.row.chg hc (by omega),a0,Chg.below h.below hc hs (λq z=>by omega)⟩
def yE0 (es:List Ent) (i k:Nat):Bool:=(es[k]?.map λx=>x.row.toList)==(es[i]?.map λx=>x.row.toList)
def yLe (es:List Ent) (i:Nat):Nat->Nat->Nat
 |0,j=>j
 |f+1,j=>if j<es.length then(if yE0 es i j then yLe es i f (j+1)else j)else j
def rEnd (es:List Ent) (i:Nat):Nat:=yLe es i (es.length-i) i
structure yIt (es:List Ent) (i j:Nat):Prop where
 lt:i<j
 le:j<=es.length
 same:∀k,i<=k->k<j->yE0 es i k=true
 other:j<es.length->yE0 es i j=false
variable {i j:Nat}
theorem yUw (h:yIt es i j):∀(f k:Nat),i<=k->k<=j->j-k<=f->yLe es i f k=j
 |0,k,_,hk,hf=>by unfold yLe;omega
 |f+1,k,h1,hk,hf=>by
  unfold yLe
  by_cases hkj:k=j
  .subst hkj
   by_cases hl:k<es.length
   .rw[if_pos hl,h.other hl];rfl
   .rw[if_neg hl]
  .have hlt:k<j:=qo
   rw[if_pos (qw h.le),h.same k h1 hlt,if_pos rfl]
   exact yUw h f (k+1) qo qo qo
theorem xEq (h:yIt es i j):rEnd es i=j:=yUw h _ i qr (Nat.le_of_lt h.lt) (qw h.le)
def yFx (es:List Ent):Nat->Nat->List (Nat×Nat)
 |0,_=> []
 |f+1,i=>if i<es.length then(i,rEnd es i)::yFx es f (rEnd es i)else []
def allC (es:List Ent) (i:Nat):List (Nat×Nat):=yFx es (es.length-i) i
theorem yMq (hE:∀i,i<es.length->i<rEnd es i):∀(f g i:Nat),es.length-i<=f->es.length-i<=g->yFx es f i=yFx es g i
 |0,0,i,_,_=>rfl
 |0,g+1,i,h1,_=>by unfold yFx;rw[if_neg qo]
 |f+1,0,i,_,h2=>by unfold yFx;rw[if_neg qo]
 |f+1,g+1,i,h1,h2=>by
  unfold yFx
  by_cases hi:i<es.length
  .rw[if_pos hi,if_pos hi]
   have:=hE i hi
   rw[yMq hE f g (rEnd es i) qo qo]
  .rw[if_neg hi,if_neg hi]
theorem yUv es (i:Nat):∀(f k:Nat),k<=yLe es i f k
 |0,k=>Nat.le_refl _
 |f+1,k=>by
  unfold yLe
  split
  .split
   .exact Nat.le_trans (le_succ k) (yUv es i f (k+1))
   .exact Nat.le_refl _
  .exact Nat.le_refl _
theorem ySj (hi:i<es.length):i<rEnd es i:=by unfold rEnd;obtain⟨f,hf⟩:∃f,es.length-i=f+1:=⟨es.length-i-1,qo⟩;rw[hf];unfold yLe;rw[if_pos hi,show yE0 es i i=true by simp[yE0],if_pos rfl];exact yUv es i f (i+1)
theorem yKx (h:yIt es i j):allC es i=(i,j)::allC es j:=by
 have hi:i<es.length:=qv h.lt h.le
 unfold allC;obtain⟨f,hf⟩:∃f,es.length-i=f+1:=⟨es.length-i-1,qo⟩;rw[hf];conv=>lhs;unfold yFx
 rw[if_pos hi,xEq h];rw[yMq (λi hi=>ySj hi) f (es.length-j) j (qw h.lt) qr]
theorem yRh (h:es.length<=i):allC es i= []:=by unfold allC;rw[show es.length-i=0 by omega];rfl
def segE (es:List Ent) (p:Nat×Nat):List Ent:=(es.take p.2).drop p.1
theorem CSl.seg {off:Nat} (h:CSl w b off cap es) (hij:i<=j) (hj:j<=es.length):CSl w b (off+i*5) (cap-i) (segE es (i,j)):=(h.take hj).drop (by rw[length_take];omega)
theorem yC9 (hj:j<=es.length):(segE es (i,j)).length=j-i:=by unfold segE;rw[length_drop,length_take];simp only;omega
def segV (b off cap:Nat) (p:Nat×Nat):Value:=.slice (some ⟨b,off+p.1*5,none⟩) (p.2-p.1) (cap-p.1)
def yDk (w:World) (base g cp:Nat) (us:List Value):Prop:=w.ownsRow base 26 1 (xg g us.length cp) us.length us
variable {base:Nat} {us:List Value}
theorem yDk.lt {g:Nat} (h:yDk w base g cp us):base<=g/\g<w.heap.size:=World.ownsRow.lt h g rfl
variable {w':World}
theorem yDk.below {g:Nat} (h:yDk w base g cp us) (hb:Below w w w'):yDk w' base g cp us:=yAh h (Chg.of_below hb) (S:=λ_=>False) (λk q z=>z)
theorem yDk.cell {g:Nat} (h:yDk w base g cp us) {v:Value} (hv:us[j]?=some v):(xk w g j v:Prop):=by have:=World.ownsRow.cellAt h j (by have:=qf hv;omega);rw[this,hv]
theorem yYp (w:World) (hb:base<=w.heap.size):yDk (xw w #[] 26) base w 0 []:=
 World.ownsRow_made w #[] 0 hb (zero_le _) (by simp)
theorem Tryz.infoCs:(prog.info? 26).map (λi=>(i.zero,i.size,i.bytes))=some (some (.slice none 0 0),1,24):=qk
variable {oo:Oper} {a:Act} {Q:Exit->Act->World->Prop}
theorem yEt {ops:Array Oper} {rest:List Oper} (w:World) (hgd:oo.guard=none) s x
  (ho:oo.op=.call {callee:=.builtin .append,args:=#[s,x],argTypes:=#[185,185]})
  (base gq cp n b:Nat) (us:List Value) (y:Value) (hs:a.eval s=(xg gq n cp)) (hx:a.eval x=.slice (some ⟨b,0,none⟩) 1 1) (hn:n=us.length) (hO:yDk w base gq cp us)
  (hc:w.cell? (xd b 0)=some y) (hy:y.oneCell'=true) (hlen:us.length<=1048576) (hbase:base<=w.heap.size)
  (h:∀g' cp' w',yDk w' base g' cp' (us++ [y])->w.grownBy w' (some gq)->(g'=gq∨g'=w.heap.size)->wpList prog ops Q rest (a.put oo.dst (.slice (some ⟨g',0,none⟩) (n+1) cp')) w'):wpList prog ops Q (oo::rest) a w:=by
 subst hn;obtain⟨i,hi,a4,a3,a2⟩:=info_parts Tryz.infoCs;refine wpList_append_own_at w hgd s x 185 ho base 26 i _ 1 24 underlying185 hi a4 a3 a2 rfl qj (xg gq us.length cp) us.length us hs hO (xd b 0) 1 1 [y] hx rfl ?_ ?_ ?_ ?_ hbase ?_
 .exact xAp
 .intro u hu;simp at hu;subst hu;exact hy
 .unfold maxLen;omega
 .omega
 .intro v' w' a1 a6 a5 a0;rcases a1.2 with⟨h0,_⟩|⟨g',a7,cur,hv,_,_,hn,a8,_,_⟩
  .have:=(a5.1 h0).1;cases this
  .subst hv;refine h g' a7 w' ?_ a6 ?_
   .unfold yDk;rw[length_append];exact a1
   .simp[Value.ownBlock]at a0;exact a0
theorem yS8 {off:Nat} (h:CSl w b off cap es) (hl:es.length<=1048576):Calls prog 107 #[.slice (some ⟨b,off,none⟩) es.length cap] w λe w'=>∃g cp,e=.returned (xg g (allC es 0).length cp)/\yDk w' w g cp ((allC es 0).map (segV b off cap))/\Below w w w':=by
 obtain⟨N,hN⟩:=qE es.length;have HL:=qH2 h hN;have am:N<=cap:=by rw[hN];exact h.len
 have al:cap<=9223372036854775807:=by have:=h.cap;unfold maxLen at this;omega
 obtain⟨A,hA⟩:=qE (allC es 0);have HA:=qH1 hA;rw[<-hN,<-hA];rw[<-hN]at hl;have a9:Hid (yDk (xw w #[] 26) w w 0 []/\Below w w (xw w #[] 26)):=⟨yYp w qr,qB⟩;clear h hN hA;go_enter func107,ntmps107;go_wp2;go_loopw[3,4] (λo iv wr=>∃(i g cp m:Nat),i<=N/\iv=(xi i)/\o=(xg g m cp)/\m<=i/\Hid (∃P,A=P++allC es i/\m=P.length/\yDk wr w g cp (P.map (segV b off cap))/\Below w w wr)) (λ_ iv _=>N-(intOf iv).toNat);case atStart=>exact⟨0,w,0,0,zero_le _,rfl,rfl,Nat.le_refl _,[],HA.out,rfl,a9.1,a9.2⟩
 case round=>
  obtain⟨i,g,cp,m,ak,rfl,rfl,ai,HJ⟩:=hrel;by_cases hlt:i<N
  .have zi:(i:Int)<(N:Int):=qo
   obtain⟨c,hc⟩:∃c,es[i]?=some c:=qg (qw HL.2);have aa:=qH1 hc;obtain⟨P,hP⟩:=HJ.out;have HP:=qH1 hP;clear hP HJ hc;obtain⟨wo,ac⟩:=qW wr;subst ac;go_wp2;go_loopw[5] (λjv wx=>∃j:Nat,i<=j/\j<=N/\jv=(xi j)/\Hid ((∀k,i<=k->k<j->yE0 es i k=true)/\Below wo wo wx)) (λjv _=>N-(intOf jv).toNat);case atStart=>exact⟨i,Nat.le_refl _,qo,rfl,λk h1 h2=>qo,Below.refl _ _⟩
   case round=>
    obtain⟨j,hij,aj,rfl,HQ⟩:=hrel;have ab:=qH1 (HP.2.2.2.trans (HQ.2.mono HP.2.2.2.size));by_cases hjl:j<N
    .have zj:(j:Int)<(N:Int):=qo
     obtain⟨x,hx⟩:∃x,es[j]?=some x:=qg (qw HL.2);have f0:=((HL.1.below ab.out).at_ j x hx).1;have f1:=((HL.1.below ab.out).at_ i c aa.out).1;have a1:(λw':World=>xk w' b (off+j*5) x.row/\xk w' b (off+i*5) c.row) wr.drew:=⟨f0,f1⟩;have a0:=qH1 (HQ.2.trans (((Below.refl _ _).drew).mono HQ.2.size));have a8:Hid (yE0 es i j=(x.row.toList==c.row.toList)):=by show yE0 es i j=_;unfold yE0;rw[hx,aa.out];rfl
     clear f0 f1 hx;cases hr:(x.row.toList==c.row.toList)
     .have HE:Hid (yIt es i j):=by
       have h0:=a8.out;rw[hr]at h0;have ah:¬i=j:=λq=>by subst q;rw[show yE0 es i i=true by simp[yE0]]at h0;cases h0
       exact⟨qo,by rw[<-HL.2];omega,HQ.1,λ_=>h0⟩
      go_upto_region 5 with fail;refine yAf 99 (λw':World=>xk w' b (off+j*5) x.row/\xk w' b (off+i*5) c.row) qk ?_;refine ja 0 a1 ?_;iterate 16 refine jb a1 ?_
      refine qD ?_;have HX:Hid (A=(P++ [(i,j)])++allC es j):=by show _=_;rw[HP.1,yKx HE.out];simp
      have ae:=hij;have a7:Hid (m=(P.map (segV b off cap)).length):=by rw[length_map];exact HP.2.1
      have a3:=HP.2.2.2.size;have ad:=HP.2.2.1.lt;have af:=a0.size;go_wp2_with (at_builtin;refine yEt _ rfl _ _ rfl w g cp _ _ (P.map (segV b off cap)) (segV b off cap (i,j)) rfl rfl a7.out ?hO ?hc ?hy ?hl ?hb ?_);case hO=>exact(HP.2.2.1.below a0.out).below (qB)
      case hc=>simp[go_sem,segV]
      case hy=>rfl
      case hl=>(have h9:=HP.2.1;simp;omega)
      case hb=>exact le_succ_of_le (HP.2.2.2.trans (a0.mono a3)).size
      intro g' a5 w' a4 a2 a6;have HN:Hid (∃P',A=P'++allC es j/\m+1=P'.length/\yDk w' w g' a5 (P'.map (segV b off cap))/\Below w w w'):=by refine⟨P++ [(i,j)],HX.out,by rw[length_append,<-HP.2.1];rfl,by rw[map_append];exact a4,?_⟩;have k1:=HP.2.2.2.trans (a0.mono a3);have k2:=k1.alloc k1.size (Obj.cells #[segV b off cap (i,j)] 26);exact k2.grown a2 k2.size (λq hq=>by cases hq;omega)
      clear a4 a2 a6;go_wp2;go_roundw;case rel=>exact⟨j,g',a5,m+1,by omega,rfl,rfl,qw HE.lt,HN.out⟩
      case measure=>go_light;simp[intOf];have:=HE.lt;omega
     .have ag:Hid (∀k,i<=k->k<j+1->yE0 es i k=true):=λk h1 h2=>by
       by_cases hk:k=j
       .rw[hk,a8.out];exact hr
       .exact HQ.1 k h1 (by omega)
      go_upto_region 5 with fail;refine yAf 99 (λw':World=>xk w' b (off+j*5) x.row/\xk w' b (off+i*5) c.row) (by kernel_rfl) ?_;refine ja 0 a1 ?_;iterate 16 refine jb a1 ?_
      refine qD ?_;go_wp2;go_roundw;case rel=>exact⟨j+1,by omega,by omega,by go_num,ag.out,a0.out⟩
      case measure=>go_light;simp[intOf];omega
    .obtain rfl:j=N:=by omega
     have zj:¬(j:Int)<(j:Int):=by omega
     have a0:Hid (Below wo wo wr.drew):=HQ.2.trans (((Below.refl _ _).drew).mono HQ.2.size);have HE:Hid (yIt es i j):=⟨hlt,by rw[<-HL.2];omega,HQ.1,λq=>by rw[<-HL.2]at q;omega⟩;have a1:(λ_:World=>True) wr.drew:=trivial;go_upto_region 5 with fail;refine yAf 99 (λ_:World=>True) (by kernel_rfl) ?_;refine ja 0 a1 ?_;iterate 16 refine jb a1 ?_
     refine qD ?_;have HX:Hid (A=(P++ [(i,j)])++allC es j):=by show _=_;rw[HP.1,yKx HE.out];simp
     have ae:i<=j:=hij;have a7:Hid (m=(P.map (segV b off cap)).length):=by rw[length_map];exact HP.2.1
     have a3:=HP.2.2.2.size;have ad:=HP.2.2.1.lt;have af:=a0.size;go_wp2_with (at_builtin;refine yEt _ rfl _ _ rfl w g cp _ _ (P.map (segV b off cap)) (segV b off cap (i,j)) rfl rfl a7.out ?hO ?hc ?hy ?hl ?hb ?_);case hO=>exact(HP.2.2.1.below a0.out).below (qB)
     case hc=>simp[go_sem,segV]
     case hy=>rfl
     case hl=>(have h9:=HP.2.1;simp;omega)
     case hb=>exact le_succ_of_le (HP.2.2.2.trans (a0.mono a3)).size
     intro g' a5 w' a4 a2 a6;have HN:Hid (∃P',A=P'++allC es j/\m+1=P'.length/\yDk w' w g' a5 (P'.map (segV b off cap))/\Below w w w'):=by refine⟨P++ [(i,j)],HX.out,by rw[length_append,<-HP.2.1];rfl,by rw[map_append];exact a4,?_⟩;have k1:=HP.2.2.2.trans (a0.mono a3);have k2:=k1.alloc k1.size (Obj.cells #[segV b off cap (i,j)] 26);exact k2.grown a2 k2.size (λq hq=>by cases hq;omega)
     clear a4 a2 a6;go_wp2;go_roundw;case rel=>exact⟨j,g',a5,m+1,by omega,rfl,rfl,qw HE.lt,HN.out⟩
     case measure=>go_light;simp[intOf];have:=HE.lt;omega
  .obtain rfl:i=N:=by omega
   have zi:¬(i:Int)<(i:Int):=by omega
   obtain⟨P,hP⟩:=HJ.out;have HE:Hid (A=P/\m=P.length/\yDk wr w g cp (P.map (segV b off cap))/\Below w w wr):=⟨by rw[hP.1,yRh (by rw[<-HL.2];omega),append_nil],hP.2⟩;clear hP HJ;go_wp2;go_ret;refine⟨g,cp,?_,?_,HE.2.2.2⟩
   .rw[HE.1,<-HE.2.1];rfl
   .rw[HE.1];exact HE.2.2.1
theorem yA4.flat {off:Nat} (h:yA4 w b off es):∀(j:Nat) (u:Value),(yBs es)[j]?=some u->(xk w b (off+j) u:Prop):=by
 intro j u hu;have hl:=qf hu;rw[yCi]at hl;have hk:j/5<es.length:=by omega
 obtain⟨e,he⟩:∃e,es[j/5]?=some e:=qg hk;have h5:=yHw es (j/5) e he (j%5) (by omega);rw[show j/5*5+j%5=j by omega,hu]at h5;obtain⟨h0,h1,h2,h3,h4⟩:=h (j/5) e he;have hm:j%5<5:=by omega
 have hj:off+j=off+j/5*5+j%5:=by omega
 rw[hj];generalize j%5=r at h5 hm;match r,hm,h5 with
 |0,_,h5=>cases h5;exact h0
 |1,_,h5=>cases h5;exact h1
 |2,_,h5=>cases h5;exact h2
 |3,_,h5=>cases h5;exact h3
 |4,_,h5=>cases h5;exact h4
theorem yOf es:∀u∈yBs es,u.oneCell'=true:=by intro u hu;unfold yBs at hu;rw[mem_flatMap]at hu;obtain⟨e,_,h⟩:=hu;simp at h;rcases h with rfl|rfl|rfl|rfl|rfl<;>rfl
theorem yQ2 es:∀(f i:Nat),(yFx es f i).length<=f
 |0,i=>Nat.le_refl _
 |f+1,i=>by
  unfold yFx
  split
  .have:=yQ2 es f (rEnd es i)
   simp
   omega
  .simp
theorem yNp (es:List Ent) (i:Nat):∀(f k:Nat),k<=es.length->yLe es i f k<=es.length
 |0,k,h=>h
 |f+1,k,h=>by
  unfold yLe
  split
  .split
   .exact yNp es i f (k+1) qo
   .exact h
  .exact h
theorem yQ1 (es:List Ent):∀(f i:Nat) (p:Nat×Nat),p∈yFx es f i->p.1<=p.2/\p.2<=es.length
 |0,i,p,h=>by simp[yFx]at h
 |f+1,i,p,h=>by
  unfold yFx at h
  split at h
  .rename_i hi
   rcases mem_cons.1 h with rfl|h
   .exact⟨Nat.le_of_lt (ySj hi),yNp es i _ i (Nat.le_of_lt hi)⟩
   .exact yQ1 es f _ p h
  .simp at h
variable {K:Act->World->Prop} {E:Prop}
theorem yIp {ops:Array Oper} (w:World) (hgd:oo.guard=none) s x
  (ho:oo.op=.call {callee:=.builtin .append,args:=#[s,x],argTypes:=#[26,26]})
  (base g cp n b off m cx:Nat) (fs es:List Ent) (hs:a.eval s=(xg g n cp)) (hx:a.eval x=.slice (some ⟨b,off,none⟩) m cx) (hn:n=fs.length) (hm:m=es.length) (hO:OwnC w base g cp fs)
  (hc:yA4 w b off es) (hlen:fs.length+es.length<=2^30) (hbase:base<=w.heap.size)
  (h:∀g' cp' w',OwnC w' base g' cp' (fs++es)->w.grownBy w' (some g)->(g'=g∨g'=w.heap.size)->K (a.put oo.dst (xg g' (n+m) cp')) w'):if Region.wanted oo (yielded ops a.tmps)=true then Oper.wp prog oo a w K Q else E:=by
 have hw:Region.wanted oo (yielded ops a.tmps)=true:=by simp[Region.wanted,hgd]
 rw[if_pos hw];subst hn;subst hm;obtain⟨i,hi,a4,a3,a2⟩:=info_parts Tryz.infoCel;obtain⟨v',w',hr,a0,a7,a5,a1⟩:=run_append_own_at (P:=prog) w base 26 oo.type 70 i _ 5 72 underlying26 hi a4 a3 a2 rfl qj (xg g fs.length cp) fs.length (yBs fs) hO (xd b off) es.length cx (yBs es) (yCi es) (λj u hu=>by rw[Addr.add_mid];exact hc.flat j u hu) (yOf es) (by unfold maxLen;omega) qo hbase;rw[<-yEl]at a0;have a6:(fs++es).length=fs.length+es.length:=by simp
 rcases a0.2 with⟨hv,_⟩|⟨g',a9,cur,hv,h1,h2,h3⟩
 .have:=(a5.1 hv).1;simp at this
 .subst hv;have a8:=h g' a9 w' (by unfold OwnC;rw[a6];exact a0) a7 (by simp[Value.ownBlock]at a1;exact a1);unfold Oper.wp;simp[execOp,ho,resolve,invoke,builtin,hs,hx,hr,Result.andThen];exact a8
theorem yGn {ops:Array Oper} (w:World) (hgd:oo.guard=none) x (ho:oo.op=.buildSlice 26 1 #[(0,x)]) (e:Ent) (hx:a.eval x=e.c)
  (h:K (a.put oo.dst (xg w 1 1)) (xw w #[e.row,e.fam,e.qual,xu e.ts,e.val] 70)):if Region.wanted oo (yielded ops a.tmps)=true then Oper.wp prog oo a w K Q else E:=by
 have hw:Region.wanted oo (yielded ops a.tmps)=true:=by simp[Region.wanted,hgd]
 rw[if_pos hw];obtain⟨i,hi,a1,a0,a2⟩:=info_parts Tryz.infoCel;refine wp_buildSlice 26 70 1 #[(0,x)] ho _ i _ underlying26 hi a1 (by rw[a0];decide) (by rw[a0];decide) ?_ h;rw[a0,show(Array.map (λx=>(x.1,a.eval x.2)) #[(0,x)]).toList= [(0,a.eval x)]from by simp,hx];kernel_rfl
def RowC (w:World) (base:Nat) (v:Value) (es:List Ent):Prop:=w.ownsRow base 70 5 v es.length (yBs es)
theorem RowC.cases {v:Value} (h:RowC w base v es):(v=xh/\es= [])∨∃g cp,v=(xg g es.length cp)/\OwnC w base g cp es:=by
 rcases h.2 with⟨h0,h1⟩|⟨g',a0,cur,hv,rest⟩
 .refine .inl ⟨h0,?_⟩;have:es.length=0:=h1;exact length_eq_zero_iff.1 this
 .subst hv;exact .inr ⟨g',a0,rfl,h⟩
theorem yGq (w:World) (base:Nat):RowC w base xh []:=⟨rfl,.inl ⟨rfl,rfl⟩⟩
variable {X:List Ent}
theorem RowC.chg {S:Nat->Prop} {v:Value} (h:RowC w base v X) (hc:Chg S w w') (hn:∀k,v.ownBlock=some k->¬S k):RowC w' base v X:=yAh h hc hn
theorem RowC.below {v:Value} (h:RowC w base v X) (hb:Below w w w'):RowC w' base v X:=h.chg (S:=λ_=>False) (Chg.of_below hb) (λ_ _ q=>q)
theorem RowC.blk {v:Value} (h:RowC w base v X) (hk:v.ownBlock=some k):base<=k/\k<w.heap.size:=by exact xCt
theorem yDz {ops:Array Oper} (w:World) (hgd:oo.guard=none) s x
  (ho:oo.op=.call {callee:=.builtin .append,args:=#[s,x],argTypes:=#[26,26]})
  (base:Nat) (a0:Option Addr) (n c0 b off m cx:Nat) (fs es:List Ent) (hs:a.eval s=.slice a0 n c0) (hx:a.eval x=.slice (some ⟨b,off,none⟩) m cx) (hn:n=fs.length) (hm:m=es.length) (hO:RowC w base (.slice a0 n c0) fs)
  (hc:yA4 w b off es) (hlen:fs.length+es.length<=2^30) (hbase:base<=w.heap.size)
  (h:∀a' c' w',RowC w' base (.slice a' (n+m) c') (fs++es)->w.grownBy w' (Value.slice a0 n c0).ownBlock->((Value.slice a' (n+m) c').ownBlock=(Value.slice a0 n c0).ownBlock∨(Value.slice a' (n+m) c').ownBlock=some w.heap.size)->K (a.put oo.dst (.slice a' (n+m) c')) w'):if Region.wanted oo (yielded ops a.tmps)=true then Oper.wp prog oo a w K Q else E:=by
 have hw:Region.wanted oo (yielded ops a.tmps)=true:=by simp[Region.wanted,hgd]
 rw[if_pos hw];subst hn;subst hm;obtain⟨i,hi,a5,a4,a3⟩:=info_parts Tryz.infoCel;obtain⟨v',w',hr,a2,a6,a9,a8⟩:=run_append_own_at (P:=prog) w base 26 oo.type 70 i _ 5 72 underlying26 hi a5 a4 a3 rfl qj (.slice a0 fs.length c0) fs.length (yBs fs) hO (xd b off) es.length cx (yBs es) (yCi es) (λj u hu=>by rw[Addr.add_mid];exact hc.flat j u hu) (yOf es) (by unfold maxLen;omega) qo hbase;rw[<-yEl]at a2;have a1:(fs++es).length=fs.length+es.length:=by simp
 have hR:RowC w' base v' (fs++es):=by unfold RowC;rw[a1];exact a2
 obtain⟨a',c',rfl⟩:∃a' c',v'=.slice a' (fs.length+es.length) c':=by
  rcases hR.cases with⟨q,q2⟩|⟨g,cp,q,_⟩
  .have h9:(fs++es).length=0:=by rw[q2];rfl
   rw[a1]at h9;exact⟨none,0,by rw[h9];exact q⟩
  .exact⟨_,_,by rw[<-a1];exact q⟩
 have a7:=h a' c' w' hR a6 a8;unfold Oper.wp;simp[execOp,ho,resolve,invoke,builtin,hs,hx,hr,Result.andThen];exact a7
structure RwG where
 w:World
 l:List Ix
 N:Nat
 bI:Nat
 oI:Nat
 cI:Nat
 cnt:Int
 nc:Nat
 conds:List Bool
 ca:Option Addr
 nC:Nat
 nk:Nat
structure RwO (R:RwG):Prop where
 good:yBe R.l R.cnt R.nc
 nc:R.nc<=R.conds.length
 nC:R.nC=R.conds.length
 N:R.N=R.l.length
 nk:(R.nk:Int)=R.cnt
 ins:yB5 R.w R.bI R.oI R.l
 bIl:R.bI<R.w.heap.size
 cI:R.N<=R.cI/\R.cI<=maxLen
 cnd:∀(i:Nat) (b:Bool),R.conds[i]?=some b->∃bc oc,R.ca=some ⟨bc,oc,none⟩/\xk R.w bc (oc+i) b/\bc<R.w.heap.size
variable {R:RwG} {wr:World} {gc cpc:Nat} {cs:List Ctr}
theorem RwO.look (h:RwO R) {B:Nat} (hB:R.w.heap.size<=B) (hb:Below R.w R.w wr) (hO:yF0 wr B gc cpc cs) (hl:cs.length=R.nk) (hcb:∀k∈cs,0<=k.count/\k.count<=1000) (c:Ent) (cc:Nat):
  Calls prog 58 #[.agg #[.slice (some ⟨R.bI,R.oI,none⟩) R.N R.cI,xi R.cnt],c.c,xg gc R.nk cpc,.slice R.ca R.nC cc] wr λe w'=>∃(i:It) (cs':List Ctr),e=.returned (.tuple #[i.v,xg gc R.nk cpc])/\Hid (LkR pfxB R.l c R.conds ⟨0,[newI],cs⟩ (i,cs')/\cs'.length=R.nk/\yF0 w' B gc cpc cs'/\(∀k∈cs',0<=k.count/\k.count<=1000)/\Chg (λk=>k=gc) wr w'):=by
 obtain⟨d,hd⟩:=yIz h.good;have hz:=hb.size;have hg:=hO.lt;have a0:=h.bIl;refine(yS5 ⟨wr,R.l,R.bI,R.oI,R.cI,R.cnt,c,R.conds,d,cs,B,gc,cpc,R.ca,R.N,R.nk,R.nC⟩ R.nc h.good hd h.nc (by show(cs.length:Int)=R.cnt;rw[hl];exact h.nk) cc h.N hl.symm h.nC (h.ins.chg (S:=λ_=>False) ⟨hb.os,hb.tape,hb.output,hb.size,λk hk _=>hb.block k hk⟩ h.bIl (λq=>q)) ⟨by show R.bI<wr.heap.size;omega,by show¬R.bI=gc;omega⟩ h.cI hO hcb (λi b hi=>?_)).mono ?_
 .obtain⟨bc,oc,h1,h2,h3⟩:=h.cnd i b hi;exact⟨bc,oc,h1,(hb.cell (p:=(xd bc (oc+i))) h3).trans h2,by show bc<wr.heap.size;omega,by show¬bc=gc;omega⟩
 .rintro e w' ⟨i,cs',h1,h2,h3,h4,h5,h6⟩;exact⟨i,cs',h2,h1,h3,h4,h5,h6⟩
structure RwJ (R:RwG) (out:List Ent) (n g cp gc cpc:Nat) (cs:List Ctr) (wr:World):Prop where
 blk:yA wr R.w 32 2 R.w [.slice (some ⟨R.bI,R.oI,none⟩) R.N R.cI,xi R.cnt]
 own:OwnC wr R.w g cp out
 n:n=out.length
 ctr:yF0 wr R.w gc cpc cs
 len:cs.length=R.nk
 cb:∀k∈cs,0<=k.count/\k.count<=1000
 below:Below R.w R.w wr
variable {n:Nat} {W:World}
theorem RwJ.on {out:List Ent} {g:Nat} (h:RwJ R out n g cp gc cpc cs wr) (hb:Below wr wr W):RwJ R out n g cp gc cpc cs W:=
 {h with blk:=h.blk.below hb,own:=h.own.below hb h.own.lt.2,ctr:=h.ctr.below hb,below:=h.below.trans (hb.mono h.below.size)}
theorem RwJ.apart {out:List Ent} {g:Nat} (h:RwJ R out n g cp gc cpc cs wr):¬g=gc/\¬R.w.heap.size=gc/\¬R.w.heap.size=g:=
 ⟨λq=>yAb h.own h.ctr (by decide) g rfl (by rw[q];rfl),λq=>yAb h.blk h.ctr (by decide) R.w rfl (by rw[q];rfl),λq=>yAb h.blk h.own (by decide) R.w rfl (by rw[q];rfl)⟩
theorem zRyR (h:p:=by
 obtain⟨c,hc⟩:∃c,es[i]?=some c:=qg (qw HR.2.2);have HC:Hid (es[i]?=some c):=hc;have HSS:Hid (∀(X:World) (out:List Ent) (n g cp gc cpc:Nat) (cs:List Ctr),RwJ R out n g cp gc cpc cs X->(λw':World=>xk w' R.w 0 (.slice (some ⟨R.bI,R.oI,none⟩) R.N R.cI)/\xk w' R.w 1 (xi R.cnt)/\xk w' rb (ro+i*5) c.row/\xk w' rb (ro+i*5+1) c.fam/\xk w' rb (ro+i*5+2) c.qual/\xk w' rb (ro+i*5+3) (xu c.ts)/\xk w' rb (ro+i*5+4) c.val/\xk w' R.w 1 (xi R.cnt)) X):=λX out n g cp gc cpc cs h=>by have hb:=h.below;obtain⟨e0,e1,e2,e3,e4⟩:=HR.2.1.at_ i c hc;exact⟨h.blk.cell (j:=0) rfl,h.blk.cell (j:=1) rfl,by rw[hb.cell (p:=(xd rb _)) hrb];exact e0,by rw[hb.cell (p:=(xd rb _)) hrb];exact e1,by rw[hb.cell (p:=(xd rb _)) hrb];exact e2,by rw[hb.cell (p:=(xd rb _)) hrb];exact e3,by rw[hb.cell (p:=(xd rb _)) hrb];exact e4,h.blk.cell (j:=1) rfl⟩
 obtain⟨W2,hW2⟩:=qW (xw wr #[false,false,xi 0,xe] 115);have HW2:Hid (RwJ R out n g cp gc cpc cs W2.drew/\yA W2.drew R.w 115 4 wr (yBl noH).four):=by
  have k2:=qN hW2
  have b2:yA W2 R.w 115 4 wr (yBl noH).four:=by rw[hW2];exact yAa wr _ HJ.1.below.size rfl
  exact⟨(HJ.1.on k2).on ((Below.refl _ _).drew),b2.below ((Below.refl _ _).drew)⟩
 have HLk:Hid (Calls prog 58 #[.agg #[.slice (some ⟨R.bI,R.oI,none⟩) R.N R.cI,xi R.cnt],.agg #[c.row,c.fam,c.qual,xu c.ts,c.val],xg gc R.nk cpc,.slice R.ca R.nC cc] W2.drew λe w'=>∃(i:It) (cs':List Ctr),e=.returned (.tuple #[i.v,xg gc R.nk cpc])/\Hid (LkR pfxB R.l c R.conds ⟨0,[newI],cs⟩ (i,cs')/\cs'.length=R.nk/\yF0 w' R.w gc cpc cs'/\(∀k∈cs',0<=k.count/\k.count<=1000)/\Chg (λk=>k=gc) W2.drew w')):=
  HR.1.look qr HW2.1.below HW2.1.ctr HW2.1.len HW2.1.cb c cc
 have hS0:=HSS.out _ _ _ _ _ _ _ _ HW2.1;clear hc;go_upto_region 7 with fail;rw[<-hW2];clear hW2;refine yAf 99 (λw':World=>xk w' R.w 0 (.slice (some ⟨R.bI,R.oI,none⟩) R.N R.cI)/\xk w' R.w 1 (xi R.cnt)/\xk w' rb (ro+i*5) c.row/\xk w' rb (ro+i*5+1) c.fam/\xk w' rb (ro+i*5+2) c.qual/\xk w' rb (ro+i*5+3) (xu c.ts)/\xk w' rb (ro+i*5+4) c.val/\xk w' R.w 1 (xi R.cnt)) (by kernel_rfl) ?_;refine ja 0 hS0 ?_;iterate 6 refine jb hS0 ?_
 refine qO 7 rfl λK hK=>?_;go_simp;refine HLk.mono ?_;rintro e w3 ⟨it,cs',rfl,H3⟩;have HW3:Hid (RwJ R out n g cp gc cpc cs' w3/\yA w3 R.w 115 4 wr (yBl noH).four):=by
  obtain⟨k1,k2,k3,k4,k5⟩:=H3.out;have ap:=HW2.1.apart;have hgi:¬wr.heap.size=gc:=qw HJ.1.ctr.lt
  have hgl:=HW2.1.ctr.lt.1;exact⟨⟨HW2.1.blk.chg k5 ap.2.1,yAh HW2.1.own k5 (λk q=>by simp[Value.ownBlock]at q;subst q;exact ap.1),HW2.1.n,k3,k2,k4,Chg.below HW2.1.below k5 HW2.1.below.size (λk q=>by omega)⟩,HW2.2.chg k5 hgi⟩
 have HL:Hid (LkR pfxB R.l c R.conds ⟨0,[newI],cs⟩ (it,cs')):=H3.1;have hS3:=HSS.out _ _ _ _ _ _ _ _ HW3.1;clear H3 HW2 hS0 HLk;refine hK.out _ _ (.inr hS3) ?_;clear hK;refine jS ?_;iterate 3 refine jb hS3 ?_
 obtain⟨W4,hW4⟩:=qW (setCs w3 wr 0 it.four);have HW4:Hid (RwJ R out n g cp gc cpc cs' W4/\yA W4 R.w 115 4 wr it.four):=by obtain⟨q1,q2⟩:=yEo HW3.2 hW4;have h3:=HW3.1;have l1:=HJ.1.own.lt;have l2:=HJ.1.ctr.lt;have l3:=HJ.1.below.size;have l4:=HJ.1.blk.lt;exact⟨⟨h3.blk.chg q2 (by omega),yAh h3.own q2 (λk q=>by simp[Value.ownBlock]at q;omega),h3.n,h3.ctr.chg q2 (by omega),h3.len,h3.cb,Chg.below h3.below q2 h3.below.size (λk q=>by omega)⟩,q1⟩
 have hS4:=HSS.out _ _ _ _ _ _ _ _ HW4.1;obtain⟨v0,v1,v2,v3⟩:=HW3.2.c4;obtain⟨f0,f1,f2,f3⟩:=HW3.2.f4;simp only[setCs,Nat.zero_add,Nat.reduceAdd]at hW4;refine qO 11 rfl λK hK=>?_;go_simp;rw[<-hW4];refine hK.out _ _ (.inr hS4) ?_;clear hK hW4 hS3 v0 v1 v2 v3 f0 f1 f2 f3;refine jS ?_;refine kO 12 hS4 ?_;refine qD ?_;have HN:Hid (∀o,RowR R.l R.conds (es.drop (i+1)) cs' o->RowR R.l R.conds es (List.replicate R.nk newC) ((if it.alive=true then out++ [yB it c]else out)++o)):=RowR.step HJ.2 HC.out HL.out;have p0:=HW4.2.cell (j:=0) rfl;cases hal:it.alive
 .rw[hal]at p0 HN;simp only[Bool.false_eq_true,if_false]at HN;refine zY ?_;exact⟨i+1,n,g,cp,gc,cpc,out,cs',by omega,by omega,rfl,rfl,by go_num,HW4.1,HN.out⟩
 .rw[hal]at p0 HN;simp only[if_true]at HN;obtain⟨c',hc'⟩:=qE (yB it c);have HTd:Hid (∀X:World,(xf 59 #[.agg #[true,it.strip,xi it.hint.rank,it.hint.txt],.agg #[c.row,c.fam,c.qual,xu c.ts,c.val]] X (.agg #[c'.row,c'.fam,c'.qual,xu c'.ts,c'.val]):Prop)):=λX=>by have h9:=yO4 it c X;rw[hal,<-hc']at h9;exact h9
  rw[<-hc']at HN;have HST:Hid (∀(X:World) (out:List Ent) (n g cp:Nat),RwJ R out n g cp gc cpc cs' X->yA X R.w 115 4 wr it.four->(λw':World=>xk w' wr 0 true/\xk w' wr 1 it.strip/\xk w' wr 2 (xi it.hint.rank)/\xk w' wr 3 it.hint.txt/\xk w' rb (ro+i*5) c.row/\xk w' rb (ro+i*5+1) c.fam/\xk w' rb (ro+i*5+2) c.qual/\xk w' rb (ro+i*5+3) (xu c.ts)/\xk w' rb (ro+i*5+4) c.val/\xk w' wr 0 true) X):=λX out n g cp h k=>by obtain⟨_,_,e0,e1,e2,e3,e4,_⟩:=HSS.out X out n g cp gc cpc cs' h;have h0:=k.cell (j:=0) rfl;rw[hal]at h0;exact⟨h0,k.cell (j:=1) rfl,k.cell (j:=2) rfl,k.cell (j:=3) rfl,e0,e1,e2,e3,e4,h0⟩
  have HW5:Hid (RwJ R out n g cp gc cpc cs' W4.drew/\yA W4.drew R.w 115 4 wr it.four):=⟨HW4.1.on ((Below.refl _ _).drew),HW4.2.below ((Below.refl _ _).drew)⟩;have hS5:=HST.out _ _ _ _ _ HW5.1 HW5.2;clear hc' hS4;go_upto_region 9 with fail;refine yAf 99 (λw':World=>xk w' wr 0 true/\xk w' wr 1 it.strip/\xk w' wr 2 (xi it.hint.rank)/\xk w' wr 3 it.hint.txt/\xk w' rb (ro+i*5) c.row/\xk w' rb (ro+i*5+1) c.fam/\xk w' rb (ro+i*5+2) c.qual/\xk w' rb (ro+i*5+3) (xu c.ts)/\xk w' rb (ro+i*5+4) c.val/\xk w' wr 0 true) (by kernel_rfl) ?_;refine ja 0 hS5 ?_;iterate 5 refine jb hS5 ?_
  refine qO 6 rfl λK hK=>?_;go_simp;refine(HTd.out _).mono ?_;rintro e w6 ⟨rfl,hb6⟩;have HW6:Hid (RwJ R out n g cp gc cpc cs' w6/\yA w6 R.w 115 4 wr it.four):=⟨HW5.1.on hb6,HW5.2.below hb6⟩;have hS6:=HST.out _ _ _ _ _ HW6.1 HW6.2;clear hb6 hS5;refine hK.out _ _ (.inr hS6) ?_;clear hK;refine jS ?_;obtain⟨W7,hW7⟩:=qW (xw w6 #[c'.row,c'.fam,c'.qual,xu c'.ts,c'.val] 70);have HW7:Hid (RwJ R out n g cp gc cpc cs' W7/\yA W7 R.w 115 4 wr it.four/\yA4 W7 w6 0 [c']):=by
   have k7:=qN hW7
   refine⟨HW6.1.on k7,HW6.2.below k7,?_⟩;intro j e he;have b7:yA W7 w6 70 5 w6 c'.five:=by rw[hW7];exact yAa w6 _ qr rfl
   have hj:j=0:=by have:=qf he;simpa using this
   subst hj;simp at he;subst he;exact⟨b7.cell (j:=0) rfl,b7.cell (j:=1) rfl,b7.cell (j:=2) rfl,b7.cell (j:=3) rfl,b7.cell (j:=4) rfl⟩
  have hS7:=HST.out _ _ _ _ _ HW7.1 HW7.2.1;refine qO 7 rfl λK hK=>?_;refine yGn w6 rfl _ rfl c' rfl ?_;rw[<-hW7];refine hK.out _ _ (.inr hS7) ?_;clear hK hW7 hS6;refine jS ?_;refine qO 8 rfl λK hK=>?_;refine yIp W7 rfl _ _ rfl R.w g cp n w6 0 1 1 out [c'] rfl rfl HW7.1.n rfl HW7.1.own HW7.2.2 (by have:=HW7.1.n;simp;omega) HW7.1.below.size (λg' cp' w8 hO8 hg8 ha8=>?_);have HW8:Hid (RwJ R (out++ [c']) (n+1) g' cp' gc cpc cs' w8/\yA w8 R.w 115 4 wr it.four):=by have k8:Chg (λk=>k=g) W7 w8:=Chg.of_grown hg8 (λk hk=>by cases hk;rfl);have h7:=HW7.1;have ap:=h7.apart;have l1:=HJ.1.own.lt;exact⟨⟨h7.blk.chg k8 ap.2.2,hO8,by rw[length_append,<-h7.n];rfl,h7.ctr.chg k8 (λq=>ap.1 q.symm),h7.len,h7.cb,Chg.below h7.below k8 h7.below.size (λk q=>by omega)⟩,HW7.2.1.chg k8 (by omega)⟩
  have hS8:=HST.out _ _ _ _ _ HW8.1 HW8.2;clear hO8 hg8 ha8 hS7;refine hK.out _ _ (.inr hS8) ?_;clear hK;refine jS ?_;refine kO 9 hS8 ?_;refine qD ?_;refine zY ?_;exact⟨i+1,n+1,g',cp',gc,cpc,out++ [c'],cs',by omega,by omega,rfl,rfl,by go_num,HW8.1,HN.out⟩):p:=h
theorem yMh (R:RwG) (hR:RwO R) (rb ro rc cc:Nat) (es:List Ent) (M:Nat) (hM:M=es.length) (hE:CSl R.w rb ro rc es) (hes:es.length<=100000):
  Calls prog 118 #[.agg #[.slice (some ⟨R.bI,R.oI,none⟩) R.N R.cI,xi R.cnt],.slice (some ⟨rb,ro,none⟩) M rc,.slice R.ca R.nC cc] R.w λe w'=>∃g cp n,e=.returned (xg g n cp)/\Hid (∃o,n=o.length/\RowR R.l R.conds es (List.replicate R.nk newC) o/\OwnC w' R.w g cp o/\Below R.w R.w w'):=by
 have HR:Hid (RwO R/\CSl R.w rb ro rc es/\M=es.length):=⟨hR,hE,hM⟩;have a3:(R.nk:Int)=R.cnt:=hR.nk;have a4:R.nk<=1000:=qw hR.good.2.2.2.1
 have a6:M<=100000:=by omega
 have hrb:=hE.lt;clear hR hE hM hes;obtain⟨W0,a0⟩:=qW (xw (R.w.alloc (Obj.cells #[.slice (some ⟨R.bI,R.oI,none⟩) R.N R.cI,xi R.cnt] 32)) #[] 70);have H0:Hid (yA W0 R.w 32 2 R.w [.slice (some ⟨R.bI,R.oI,none⟩) R.N R.cI,xi R.cnt]/\OwnC W0 R.w (R.w+1) 0 []/\Below R.w R.w W0):=by
  obtain⟨X,hX⟩:=qW (xw R.w #[.slice (some ⟨R.bI,R.oI,none⟩) R.N R.cI,xi R.cnt] 32);rw[<-hX]at a0;have zx:=qS hX
  have k1:=qN hX
  have k2:=qN a0
  have b1:yA X R.w 32 2 R.w [.slice (some ⟨R.bI,R.oI,none⟩) R.N R.cI,xi R.cnt]:=by rw[hX];exact yAa R.w _ qr rfl
  have o1:OwnC W0 X X 0 []:=by rw[a0];exact xBl X
  rw[zx]at o1;exact⟨b1.below k2,o1.mono (by omega),k1.trans (k2.mono (by omega))⟩
 have c1:=H0.1.cell (j:=1) rfl;go_enter func118,ntmps118;go_upto_region 2 with fail;rw[<-a0];clear a0;go_wp2_with fail;rw[<-a3];refine(yMm R.nk W0 a4).mono ?_;rintro e w1 ⟨gc,cpc,rfl,a2,a1⟩
 have H1:Hid (RwJ R [] 0 (R.w+1) 0 gc cpc (List.replicate R.nk newC) w1):=
  ⟨H0.1.below a1,H0.2.1.below a1 H0.2.1.lt.2,rfl,a2.mono H0.2.2.size,by simp,λk hk=>by rw[eq_of_mem_replicate hk];exact⟨Int.le_refl _,by decide⟩,H0.2.2.trans (a1.mono H0.2.2.size)⟩
 clear a2 a1 c1 H0;go_wp2;go_loopw[7,8,9] (λov cv iv wr=>∃(i n g cp gc cpc:Nat) (out:List Ent) (cs:List Ctr),i<=M/\n<=i/\ov=(xg g n cp)/\cv=(xg gc R.nk cpc)/\iv=(xi i)/\Hid (RwJ R out n g cp gc cpc cs wr/\∀o,RowR R.l R.conds (es.drop i) cs o->RowR R.l R.conds es (List.replicate R.nk newC) (out++o))) (λ_ _ iv _=>M-(intOf iv).toNat);case atStart=>exact⟨0,0,_,0,gc,cpc,[],List.replicate R.nk newC,zero_le _,Nat.le_refl _,rfl,rfl,rfl,H1.out,λo h=>h⟩
 case round=>
  clear H1;obtain⟨i,n,g,cp,gc,cpc,out,cs,hi,a5,rfl,rfl,rfl,HJ⟩:=hrel;by_cases hlt:i<M
  .have z:(i:Int)<(M:Int):=by omega
   as_aux_lemma=>exact zRyR
  .have z:¬(i:Int)<(M:Int):=by omega
   have HE:Hid (∃o,n=o.length/\RowR R.l R.conds es (List.replicate R.nk newC) o/\OwnC wr R.w g cp o/\Below R.w R.w wr):=⟨out,HJ.1.n,RowR.done HJ.2 (qw HR.2.2),HJ.1.own,HJ.1.below⟩;go_wp2;go_ret;exact⟨g,cp,n,rfl,HE⟩
section
abbrev blF (b:Bool):List Value:= [.bool b]
abbrev yF1 (w:World) (base g cap:Nat) (bs:List Bool):Prop:=OwnG blF 1 4 w base g cap bs
theorem yOu (b:Bool):(blF b).length=1:=rfl
theorem xIb (b:Bool):∀u∈blF b,u.oneCell'=true:=λu hu=>by simp at hu;subst hu;rfl
theorem Tryz.infoBl:(prog.info? 4).map (λi=>(i.zero,i.size,i.bytes))=some (some (.bool false),1,1):=by kernel_rfl
variable {bs:List Bool}
theorem yF1.get {g:Nat} (h:yF1 w base g cap bs) {b:Bool} (hi:bs[i]?=some b):(xk w g (0+i) b:Prop):=by have:=h.cell yOu hi 0 (by decide);simpa using this
structure ByG where
 w:World
 bs:List Bk
 m:Bk
 nb:Nat
 ub:Nat
 uo:Nat
 uc:Nat
 N:Nat
 bI:Nat
 oI:Nat
 cI:Nat
 b:Nat
 off:Nat
 cap:Nat
 es:List Ent
 M:Nat
 A:List (Nat×Nat)
structure ByO (R:ByG):Prop where
 good:yCn R.bs R.m
 bks:yK0 R.w R.ub R.uo R.bs
 ubl:R.ub<R.w.heap.size
 nb:R.nb=R.bs.length
 mv:R.m.v=.slice (some ⟨R.bI,R.oI,none⟩) R.N R.cI
 N:R.N=R.m.l.length
 ins:yB5 R.w R.bI R.oI R.m.l
 bIl:R.bI<R.w.heap.size
 cI:R.N<=R.cI/\R.cI<=maxLen
 cel:CSl R.w R.b R.off R.cap R.es
 M:R.M=R.es.length
 Ml:R.M<=10000
 A:R.A=allC R.es 0
 Am:∀p∈R.A,p.1<=p.2/\p.2<=R.es.length
structure ByJ (R:ByG) (gr cr:Nat) (out:List Ent) (a:Option Addr) (n c:Nat) (wr:World):Prop where
 box:yA wr R.w 34 3 R.w [.slice (some ⟨R.ub,R.uo,none⟩) R.nb R.uc,.slice (some ⟨R.bI,R.oI,none⟩) R.N R.cI,xi R.m.cnt]
 res:yA wr R.w 39 3 (R.w+1) [false,xh,xi 0]
 obx:yA wr R.w 39 3 (R.w+1+1) [true,.slice a n c,xi R.M]
 row:RowC wr R.w (.slice a n c) out
 n:n=out.length
 rows:yDk wr R.w gr cr (R.A.map (segV R.b R.off R.cap))
 below:Below R.w R.w wr
section
variable {R:ByG} {gr cr:Nat} {out:List Ent} {a:Option Addr} {n c:Nat} {wr:World}
theorem ByJ.on (h:ByJ R gr cr out a n c wr) (hb:Below wr wr W):ByJ R gr cr out a n c W:=
 {h with box:=h.box.below hb,res:=h.res.below hb,obx:=h.obx.below hb,row:=h.row.below hb,rows:=h.rows.below hb,below:=h.below.trans (hb.mono h.below.size)}
theorem ByJ.bools (h:ByJ R gr cr out a n c wr) {gq cq:Nat} {cs:List Bool} (hO:yF1 wr base gq cq cs) (hl:R.w.heap.size<=gq) (hc:Chg (λk=>k=gq) wr W):ByJ R gr cr out a n c W:=
 {h with
  box:=h.box.chg hc (λq=>yAb h.box hO (by decide) _ rfl (by rw[q];rfl))
  res:=h.res.chg hc (λq=>yAb h.res hO (by decide) _ rfl (by rw[q];rfl))
  obx:=h.obx.chg hc (λq=>yAb h.obx hO (by decide) _ rfl (by rw[q];rfl))
  row:=h.row.chg hc (λk hk q=>yAb h.row hO (by decide) _ hk (by rw[q];rfl))
  rows:=yAh h.rows hc (λk hk q=>yAb h.rows hO (by decide) _ hk (by rw[q];rfl))
  below:=Chg.below h.below hc h.below.size (λk q=>by omega)}
theorem ByJ.cond (h:ByJ R gr cr out a n c wr) (hR:ByO R) {x:Bk} (hx:R.bs[k]?=some x):xk wr R.ub (R.uo+k*2) x.v/\xk wr R.ub (R.uo+k*2+1) (xi x.cnt):=by obtain⟨h0,h1,_⟩:=hR.bks k x hx;exact⟨by rw[h.below.cell (p:=(xd R.ub _)) hR.ubl];exact h0,by rw[h.below.cell (p:=(xd R.ub _)) hR.ubl];exact h1⟩
end
theorem yYq {base' g:Nat} (h:yDk w base g cp us) (hb:base'<=base):yDk w base' g cp us:=by exact xCp
variable {cnt:Int} {N:Nat}
theorem xDb {l:List Ix} {nc:Nat} (hg:yBe l cnt nc) {bI oI cI:Nat} (hN:N=l.length) (hI:yB5 w bI oI l) (hl:bI<w.heap.size) (hc:N<=cI/\cI<=maxLen) {B:Nat} (hB:w.heap.size=B) (hb:Below B w W) {gq cq:Nat} {cs:List Bool} (hO:yF1 W base gq cq cs) (hn:nc<=cs.length) (hk:k=cs.length):
  RwO ⟨W,l,N,bI,oI,cI,cnt,nc,cs,some ⟨gq,0,none⟩,k,cnt.toNat⟩:=by
 subst hB;exact {good:=hg,nc:=hn,nC:=hk,N:=hN,nk:=by show((cnt.toNat:Nat):Int)=cnt;have:=hg.2.2.1;omega,ins:=hI.chg (S:=λ_=>False) (Chg.of_below hb) hl (λq=>q),bIl:=by have:=hb.size;show bI<W.heap.size;omega,cI:=hc,cnd:=λi b hi=>⟨gq,0,rfl,hO.get hi,hO.lt.2⟩}
structure CdJ (R:ByG) (row:List Ent) (gq cq k:Nat) (cs:List Bool) (wr:World):Prop where
 own:yF1 wr R.w gq cq cs
 kl:k=cs.length
 cd:∀r,CdR row ((R.bs.map Bk.vw).drop k) cs r->CdR row (R.bs.map Bk.vw) [] r
theorem zByC (h:p:=by
 obtain⟨x,hx⟩:∃x,R.bs[k]?=some x:=qg (qw HR.nb);have hgx:yBe x.l x.cnt k:=HR.good.2.2 k x hx;obtain⟨xb,xo,xn,xc,hxv,hxn,hxi,hxl,hxc⟩:∃xb xo xn xc,x.v=.slice (some ⟨xb,xo,none⟩) xn xc/\xn=x.l.length/\yB5 R.w xb xo x.l/\xb<R.w.heap.size/\xn<=xc/\xc<=maxLen:=by
  rcases(HR.bks k x hx).2.2 with⟨_,_,_,q⟩|⟨b,off,cap,q1,q2,q3,q4,q5⟩
  .have:=hgx.1;rw[q]at this;simp at this
  .exact⟨b,off,_,cap,q1,rfl,q2,q3,q4,q5⟩
 have HX:Hid (R.bs[k]?=some x/\yBe x.l x.cnt k/\x.v=.slice (some ⟨xb,xo,none⟩) xn xc/\xn=x.l.length/\yB5 R.w xb xo x.l/\xb<R.w.heap.size/\xn<=xc/\xc<=maxLen):=⟨hx,hgx,hxv,hxn,hxi,hxl,hxc⟩;have HSS:Hid (∀X:World,ByJ R gr cr out a n c X->(λw':World=>xk w' R.w 0 (.slice (some ⟨R.ub,R.uo,none⟩) R.nb R.uc)/\xk w' R.ub (R.uo+k*2) (.slice (some ⟨xb,xo,none⟩) xn xc)/\xk w' R.ub (R.uo+k*2+1) (xi x.cnt)/\xk w' gr r (.slice (some ⟨R.b,R.off+p1*5,none⟩) (p2-p1) (R.cap-p1))) X):=λX h=>by obtain⟨h0,h1⟩:=h.cond HR.out hx;rw[hxv]at h0;exact⟨h.box.cell (j:=0) rfl,h0,h1,h.rows.cell (by rw[getElem?_map,HP.1];rfl)⟩
 have HD:Hid (ByJ R gr cr out a n c wr.drew/\CdJ R (segE R.es (p1,p2)) gq cq k cs wr.drew):=⟨HQ.1.on ((Below.refl _ _).drew),⟨HQ.2.own.below ((Below.refl _ _).drew),HQ.2.kl,HQ.2.cd⟩⟩;have HRo:Hid (Calls prog 118 #[.agg #[.slice (some ⟨xb,xo,none⟩) xn xc,xi x.cnt],.slice (some ⟨R.b,R.off+p1*5,none⟩) (p2-p1) (R.cap-p1),xg gq k cq] wr.drew λe w'=>∃g cp n,e=.returned (xg g n cp)/\Hid (∃o,n=o.length/\RowR x.l cs (segE R.es (p1,p2)) (List.replicate x.cnt.toNat newC) o/\OwnC w' wr.drew g cp o/\Below wr.drew wr.drew w')):=by have h9:=xDb (W:=wr.drew) HX.2.1 HX.2.2.2.1 HX.2.2.2.2.1 HX.2.2.2.2.2.1 HX.2.2.2.2.2.2 rfl HD.1.below HD.2.own (qw HD.2.kl) HD.2.kl;exact yMh _ h9 R.b (R.off+p1*5) (R.cap-p1) cq (segE R.es (p1,p2)) (p2-p1) (yC9 HP.2.2).symm ((HR.cel.below HD.1.below).seg HP.2.1 HP.2.2) (by rw[yC9 HP.2.2];have:=HR.M;have:=HR.Ml;have:=HP.2;omega)
 have hS0:=HSS.out _ HD.1;clear hx hgx hxv hxn hxi hxl hxc;go_upto_region 10 with fail;refine yAf 99 (λw':World=>xk w' R.w 0 (.slice (some ⟨R.ub,R.uo,none⟩) R.nb R.uc)/\xk w' R.ub (R.uo+k*2) (.slice (some ⟨xb,xo,none⟩) xn xc)/\xk w' R.ub (R.uo+k*2+1) (xi x.cnt)/\xk w' gr r (.slice (some ⟨R.b,R.off+p1*5,none⟩) (p2-p1) (R.cap-p1))) (by kernel_rfl) ?_;refine ja 0 hS0 ?_;iterate 10 refine jb hS0 ?_
 refine qO 11 rfl λK hK=>?_;go_simp;refine HRo.mono ?_;rintro e w3 ⟨g3,cp3,n3,rfl,H3⟩;obtain⟨o,ho⟩:=H3.out;have HO:Hid (n3=o.length/\RowR x.l cs (segE R.es (p1,p2)) (List.replicate x.cnt.toNat newC) o):=⟨ho.1,ho.2.1⟩;have HW3:Hid (ByJ R gr cr out a n c w3/\CdJ R (segE R.es (p1,p2)) gq cq k cs w3):=⟨HD.1.on ho.2.2.2,⟨HD.2.own.below ho.2.2.2,HD.2.kl,HD.2.cd⟩⟩;have hS3:=HSS.out _ HW3.1;clear ho H3 hS0 HD HRo;refine hK.out _ _ (.inr hS3) ?_;clear hK;refine jS ?_;obtain⟨bq,hbq⟩:=qE (decide (0<n3));have HBq:Hid (bq=decide (0<o.length)):=by show _=_;rw[hbq,HO.1]
 obtain⟨W7,hW7⟩:=qW (xw w3 #[bq] 4);have HW7:Hid (ByJ R gr cr out a n c W7/\CdJ R (segE R.es (p1,p2)) gq cq k cs W7/\(∀j u,(blF bq)[j]?=some u->(xk W7 w3 j u:Prop))):=by
  have k7:=qN hW7
  exact⟨HW3.1.on k7,⟨HW3.2.own.below k7,HW3.2.kl,HW3.2.cd⟩,by rw[hW7];exact yBm w3 (blF bq) _⟩
 have hS7:=HSS.out _ HW7.1;rw[hbq]at hW7;iterate 2 refine jb hS3 ?_
 refine qO 14 rfl λK hK=>?_;go_simp;rw[<-hW7];refine hK.out _ _ (.inr hS7) ?_;clear hK hW7;refine jS ?_;refine qO 15 rfl λK hK=>?_;refine yE yOu W7 rfl _ _ 118 rfl underlying118 Tryz.infoBl rfl (by decide) (by decide) xIb R.w gq cq k w3 1 cs bq rfl rfl HW7.2.1.kl HW7.2.1.own HW7.2.2 (qw HW7.2.1.kl) HW7.1.below.size ?_;intro gq' cq' w8 hO8 hg8 ha8;have HW8:Hid (ByJ R gr cr out a n c w8/\CdJ R (segE R.es (p1,p2)) gq' cq' (k+1) (cs++ [bq]) w8):=by have k8:Chg (λq=>q=gq) W7 w8:=Chg.of_grown hg8 (λq hk=>by cases hk;rfl);refine⟨HW7.1.bools HW7.2.1.own HW7.2.1.own.lt.1 k8,⟨hO8,by rw[length_append,<-HW7.2.1.kl];rfl,?_⟩⟩;rw[HBq.out];exact CdR.step HW7.2.1.cd (by rw[getElem?_map,HX.1];rfl) HO.2
 have hS8:=HSS.out _ HW8.1;clear hO8 hg8 ha8;refine hK.out _ _ (.inr hS8) ?_;clear hK;refine jS ?_;refine qO 16 rfl λK hK=>?_;go_simp;refine hK.out _ _ (.inr hS8) ?_;clear hK hS7 hS8 hS3;refine jS ?_;refine qD ?_;refine zY ?_;exact⟨k+1,gq',cq',cs++ [bq],by omega,rfl,by go_num,HW8.out⟩):p:=h
theorem zByE (h:p:=by
 have HSS:Hid (∀X:World,ByJ R gr cr out a n c X->(λw':World=>xk w' (R.w+1+1) 1 (.slice a n c)/\xk w' R.w 1 (.slice (some ⟨R.bI,R.oI,none⟩) R.N R.cI)/\xk w' R.w 2 (xi R.m.cnt)/\xk w' gr r (.slice (some ⟨R.b,R.off+p1*5,none⟩) (p2-p1) (R.cap-p1))/\xk w' gr r (.slice (some ⟨R.b,R.off+p1*5,none⟩) (p2-p1) (R.cap-p1))/\xk w' gr r (.slice (some ⟨R.b,R.off+p1*5,none⟩) (p2-p1) (R.cap-p1))/\xk w' gr r (.slice (some ⟨R.b,R.off+p1*5,none⟩) (p2-p1) (R.cap-p1))/\xk w' gr r (.slice (some ⟨R.b,R.off+p1*5,none⟩) (p2-p1) (R.cap-p1))) X):=λX h=>by have h9:=h.rows.cell (j:=r) (by rw[getElem?_map,HP.1];rfl);exact⟨h.obx.cell (j:=1) rfl,h.box.cell (j:=1) rfl,h.box.cell (j:=2) rfl,h9,h9,h9,h9,h9⟩
 have HD:Hid (ByJ R gr cr out a n c wr.drew/\CdJ R (segE R.es (p1,p2)) gq cq k cs wr.drew):=⟨HQ.1.on ((Below.refl _ _).drew),⟨HQ.2.own.below ((Below.refl _ _).drew),HQ.2.kl,HQ.2.cd⟩⟩;have HCd:Hid (CdR (segE R.es (p1,p2)) (R.bs.map Bk.vw) [] cs):=CdR.done HQ.2.cd (by rw[length_map];have:=HR.nb;omega);have HRo:Hid (Calls prog 118 #[.agg #[.slice (some ⟨R.bI,R.oI,none⟩) R.N R.cI,xi R.m.cnt],.slice (some ⟨R.b,R.off+p1*5,none⟩) (p2-p1) (R.cap-p1),xg gq k cq] wr.drew λe w'=>∃g cp n,e=.returned (xg g n cp)/\Hid (∃o,n=o.length/\RowR R.m.l cs (segE R.es (p1,p2)) (List.replicate R.m.cnt.toNat newC) o/\OwnC w' wr.drew g cp o/\Below wr.drew wr.drew w')):=by have h9:=xDb (W:=wr.drew) HR.good.2.1 HR.N HR.ins HR.bIl HR.cI rfl HD.1.below HD.2.own (qv HD.2.kl HR.nb) HD.2.kl;exact yMh _ h9 R.b (R.off+p1*5) (R.cap-p1) cq (segE R.es (p1,p2)) (p2-p1) (yC9 HP.2.2).symm ((HR.cel.below HD.1.below).seg HP.2.1 HP.2.2) (by rw[yC9 HP.2.2];have:=HR.M;have:=HR.Ml;have:=HP.2;omega)
 have hS0:=HSS.out _ HD.1;go_upto_region 11 with fail;refine yCq [12] (λw':World=>xk w' (R.w+1+1) 1 (.slice a n c)/\xk w' R.w 1 (.slice (some ⟨R.bI,R.oI,none⟩) R.N R.cI)/\xk w' R.w 2 (xi R.m.cnt)/\xk w' gr r (.slice (some ⟨R.b,R.off+p1*5,none⟩) (p2-p1) (R.cap-p1))/\xk w' gr r (.slice (some ⟨R.b,R.off+p1*5,none⟩) (p2-p1) (R.cap-p1))/\xk w' gr r (.slice (some ⟨R.b,R.off+p1*5,none⟩) (p2-p1) (R.cap-p1))/\xk w' gr r (.slice (some ⟨R.b,R.off+p1*5,none⟩) (p2-p1) (R.cap-p1))/\xk w' gr r (.slice (some ⟨R.b,R.off+p1*5,none⟩) (p2-p1) (R.cap-p1))) (by kernel_rfl) ?_;refine txa 0 hS0 ?_;iterate 8 refine txb hS0 ?_
 refine yA3 (i:=9) (by kernel_rfl) rfl (λK hK=>?_);go_simp;refine HRo.mono ?_;rintro e w3 ⟨g3,cp3,n3,rfl,H3⟩;obtain⟨o,ho⟩:=H3.out;have HO:Hid (n3=o.length/\RowR R.m.l cs (segE R.es (p1,p2)) (List.replicate R.m.cnt.toNat newC) o/\yA4 w3 g3 0 o):=⟨ho.1,ho.2.1,ho.2.2.1.at⟩;have HW3:Hid (ByJ R gr cr out a n c w3):=HD.1.on ho.2.2.2;have hol:o.length<=p2-p1:=by have:=ho.2.1.len;rw[yC9 HP.2.2]at this;exact this
 have hS3:=HSS.out _ HW3.out;clear ho H3 hS0 HD HRo;refine hK.out _ _ (.inr hS3) ?_;clear hK;refine jS ?_;refine yA3 (i:=10) (by kernel_rfl) rfl (λK hK=>?_);refine yDz w3 rfl _ _ rfl R.w a n c g3 0 n3 cp3 out o rfl rfl HW3.n HO.1 HW3.row HO.2.2 (by have:=HW3.n;have:=HP.2;have:=HR.M;have:=HR.Ml;omega) HW3.below.size (λa' c' w4 hR4 hg4 ha4=>?_);have hc4:Chg (λq=>(Value.slice a n c).ownBlock=some q) w3 w4:=Chg.of_grown hg4 (λq hq=>hq);have H4:Hid (yA w4 R.w 39 3 (R.w+1+1) [true,.slice a n c,xi R.M]/\RowC w4 R.w (.slice a' (n+n3) c') (out++o)/\∀X:World,Chg (λq=>q=R.w.heap.size+1+1) w4 X->yA X R.w 39 3 (R.w+1+1) [true,.slice a' (n+n3) c',xi R.M]->ByJ R gr cr (out++o) a' (n+n3) c' X):=by have h3:=HW3.out;have ho4:=h3.obx.chg hc4 (λq=>yAb h3.row h3.obx (by decide) _ q rfl);refine⟨ho4,hR4,λX hX hB=>?_⟩;have hbx:=(h3.box.chg hc4 (λq=>yAb h3.row h3.box (by decide) _ q rfl)).chg hX (by omega);have hrs:=(h3.res.chg hc4 (λq=>yAb h3.row h3.res (by decide) _ q rfl)).chg hX (by omega);have hrw4:yDk w4 R.w gr cr (R.A.map (segV R.b R.off R.cap)):=yAh h3.rows hc4 (λq hq z=>yAb h3.row h3.rows qj _ z hq);have hrw:=yAh hrw4 hX (λq hq z=>yAb hrw4 ho4 (by decide) _ hq (by rw[z];rfl));refine⟨hbx,hrs,hB,hR4.chg hX (λq hq z=>yAb hR4 ho4 (by decide) _ hq (by rw[z];rfl)),by rw[length_append,<-h3.n,<-HO.1],hrw,?_⟩;have hb4:Below R.w R.w w4:=Chg.below h3.below hc4 h3.below.size (λq z=>(h3.row.blk z).1);exact Chg.below hb4 hX hb4.size (λq z=>by omega)
 have hS4:(λw':World=>xk w' (R.w+1+1) 1 (.slice a n c)/\xk w' R.w 1 (.slice (some ⟨R.bI,R.oI,none⟩) R.N R.cI)/\xk w' R.w 2 (xi R.m.cnt)/\xk w' gr r (.slice (some ⟨R.b,R.off+p1*5,none⟩) (p2-p1) (R.cap-p1))/\xk w' gr r (.slice (some ⟨R.b,R.off+p1*5,none⟩) (p2-p1) (R.cap-p1))/\xk w' gr r (.slice (some ⟨R.b,R.off+p1*5,none⟩) (p2-p1) (R.cap-p1))/\xk w' gr r (.slice (some ⟨R.b,R.off+p1*5,none⟩) (p2-p1) (R.cap-p1))/\xk w' gr r (.slice (some ⟨R.b,R.off+p1*5,none⟩) (p2-p1) (R.cap-p1))) w4:=by have h3:=HW3.out;have hbx:=h3.box.chg hc4 (λq=>yAb h3.row h3.box (by decide) _ q rfl);have hrw:yDk w4 R.w gr cr (R.A.map (segV R.b R.off R.cap)):=yAh h3.rows hc4 (λq hq z=>yAb h3.row h3.rows qj _ z hq);have h9:=hrw.cell (j:=r) (by rw[getElem?_map,HP.1];rfl);exact⟨H4.1.cell (j:=1) rfl,hbx.cell (j:=1) rfl,hbx.cell (j:=2) rfl,h9,h9,h9,h9,h9⟩
 have HN:Hid (∀r',RwsR R.m.vw (R.bs.map Bk.vw) ((R.A.map (segE R.es)).drop (r+1)) r'->RwsR R.m.vw (R.bs.map Bk.vw) (R.A.map (segE R.es)) ((out++o)++r')):=RwsR.step HJ.2 (by rw[getElem?_map,HP.1];rfl) HCd.out HO.2.1;clear hR4 hg4 ha4 hc4;refine hK.out _ _ (.inr hS4) ?_;clear hK;refine jS ?_;refine txb hS4 ?_;have v1:=H4.1.cell (j:=1) rfl;have f1:=H4.1.frozen 1;obtain⟨W5,hW5⟩:=qW (xt w4 (R.w+1+1) 1 (.slice a' (n+n3) c'));have H5:Hid (ByJ R gr cr (out++o) a' (n+n3) c' W5):=H4.2.2 W5 (by rw[hW5];exact Chg.of_set _ _ _ _ rfl) (by rw[hW5];exact H4.1.set 1 _);refine yA3 (i:=12) (by kernel_rfl) rfl (λK hK=>?_);go_simp;rw[<-hW5];refine hK.out _ _ (.inl (by decide)) ?_;clear hK hW5 hS4 hS3;refine jS ?_;refine yD6 (by kernel_rfl) ?_;refine zY ?_;exact⟨r+1,out++o,a',n+n3,c',by omega,by go_num,by have:=HO.1;have:=HP.2;have:=HR.M;have:=HR.Ml;omega,H5.out,HN.out⟩):p:=h
theorem zByZ (h:p:=by
 obtain⟨t0,t1,t2⟩:=HJ.1.obx.c3;obtain⟨v0,v1,v2⟩:=HJ.1.res.c3;obtain⟨f0,f1,f2⟩:=HJ.1.res.f3;obtain⟨W9,hW9⟩:=qE (setCs wr (R.w+1) 0 [true,.slice a n c,xi R.M]:World);have b9:yA W9 R.w 39 3 (R.w+1) [true,.slice a n c,xi R.M]:=by rw[hW9];exact HJ.1.res.setCs _
 have c9:Chg (λq=>q=R.w.heap.size+1) wr W9:=by rw[hW9];exact yAl (S:=λq=>q=R.w.heap.size+1) _ rfl _ _ _
 have HE:Hid (∃out,n=out.length/\RwsR R.m.vw (R.bs.map Bk.vw) ((allC R.es 0).map (segE R.es)) out/\RowC W9 R.w (.slice a n c) out/\Below R.w R.w W9):=by have hj:=HJ.1;refine⟨out,hj.n,?_,hj.row.chg c9 (λq hq z=>yAb hj.row hj.res (by decide) _ hq (by rw[z];rfl)),Chg.below hj.below c9 hj.below.size (λq z=>by omega)⟩;rw[<-HR.A];exact RwsR.done HJ.2 (by rw[length_map];have:=HnA.out;omega)
 obtain⟨q0,q1,q2⟩:=b9.c3;simp only[setCs,Nat.zero_add,Nat.reduceAdd]at hW9;clear b9 c9;go_wp2;rw[<-hW9];exact bodyPost_ret (v:=.agg #[true,.slice a n c,xi R.M]) (by simp[results,results56,go_sem,q0,q1,q2]) rfl ⟨a,n,c,rfl,HE⟩):p:=h
theorem yOb (R:ByG) (hR:ByO R):
  Calls prog 56 #[.agg #[.slice (some ⟨R.ub,R.uo,none⟩) R.nb R.uc,.slice (some ⟨R.bI,R.oI,none⟩) R.N R.cI,xi R.m.cnt],.slice (some ⟨R.b,R.off,none⟩) R.M R.cap] R.w λe w'=>∃a n c,e=.returned (.agg #[true,.slice a n c,xi R.M])/\Hid (∃out,n=out.length/\RwsR R.m.vw (R.bs.map Bk.vw) ((allC R.es 0).map (segE R.es)) out/\RowC w' R.w (.slice a n c) out/\Below R.w R.w w'):=by
 have HR:Hid (ByO R):=hR;have a9:R.nb<=200:=by rw[hR.nb];exact hR.good.1
 have a7:R.A.length<=10000:=by rw[hR.A];exact Nat.le_trans (yQ2 R.es _ 0) (qv hR.M hR.Ml)
 obtain⟨W0,a0⟩:=qW (xw ((R.w.alloc (Obj.cells #[.slice (some ⟨R.ub,R.uo,none⟩) R.nb R.uc,.slice (some ⟨R.bI,R.oI,none⟩) R.N R.cI,xi R.m.cnt] 34)).alloc (Obj.cells #[false,xh,xi 0] 39)) #[true,xh,xi R.M] 39);have H0:Hid (yA W0 R.w 34 3 R.w [.slice (some ⟨R.ub,R.uo,none⟩) R.nb R.uc,.slice (some ⟨R.bI,R.oI,none⟩) R.N R.cI,xi R.m.cnt]/\yA W0 R.w 39 3 (R.w+1) [false,xh,xi 0]/\yA W0 R.w 39 3 (R.w+1+1) [true,xh,xi R.M]/\Below R.w R.w W0):=by
  obtain⟨X,hX⟩:=qW (xw R.w #[.slice (some ⟨R.ub,R.uo,none⟩) R.nb R.uc,.slice (some ⟨R.bI,R.oI,none⟩) R.N R.cI,xi R.m.cnt] 34);rw[<-hX]at a0;obtain⟨Y,hY⟩:=qW (xw X #[.bool false,.slice none 0 0,.int .i64 0] 39);rw[<-hY]at a0;have zx:X.heap.size=R.w.heap.size+1:=by rw[hX];simp
  have zy:Y.heap.size=R.w.heap.size+1+1:=by rw[hY];simp;omega
  have k1:Below R.w R.w X:=by rw[hX];exact qB
  have k2:Below X X Y:=by rw[hY];exact qB
  have k3:Below Y Y W0:=by rw[a0];exact qB
  have b1:yA X R.w.heap.size 34 3 R.w.heap.size [.slice (some ⟨R.ub,R.uo,none⟩) R.nb R.uc,.slice (some ⟨R.bI,R.oI,none⟩) R.N R.cI,.int .i64 R.m.cnt]:=by rw[hX];exact yAa R.w _ (Nat.le_refl _) rfl
  have b2:yA Y R.w.heap.size 39 3 (R.w.heap.size+1) [.bool false,.slice none 0 0,.int .i64 0]:=by rw[hY,<-zx];exact yAa X _ (by omega) rfl
  have b3:yA W0 R.w.heap.size 39 3 (R.w.heap.size+1+1) [.bool true,.slice none 0 0,.int .i64 (R.M:Int)]:=by rw[a0,<-zy];exact yAa Y _ (by omega) rfl
  exact⟨(b1.below k2).below k3,b2.below k3,b3,(k1.trans (k2.mono (by omega))).trans (k3.mono (by omega))⟩
 have a4:Hid (Calls prog 107 #[.slice (some ⟨R.b,R.off,none⟩) R.M R.cap] W0 λe w'=>∃g cp,e=.returned (.slice (some ⟨g,0,none⟩) R.A.length cp)/\yDk w' W0.heap.size g cp (R.A.map (segV R.b R.off R.cap))/\Below W0.heap.size W0 w'):=by rw[hR.A,hR.M];exact yS8 (hR.cel.below H0.2.2.2) (qv hR.M hR.Ml)
 obtain⟨nA,a3⟩:=qE R.A.length;have HnA:Hid (nA=R.A.length):=a3;rw[<-a3]at a4 a7;clear hR a3;go_enter func56,ntmps56;go_upto_region 2 with fail;rw[<-a0];clear a0;go_wp2_with fail;refine a4.mono ?_;rintro e w1 ⟨gr,cr,rfl,a5,a1⟩;have H1:Hid (ByJ R gr cr [] none 0 0 w1):=by obtain⟨h1,h2,h3,h4⟩:=H0.out;refine⟨h1.below a1,h2.below a1,h3.below a1,yGq _ _,rfl,?_,h4.trans (a1.mono h4.size)⟩;exact yYq a5 h4.size
 clear a5 a1 a4 H0;go_wp2;go_loopw[7] (λrv wr=>∃(r:Nat) (out:List Ent) (a:Option Addr) (n c:Nat),r<=nA/\rv=.int .i64 (r:Int)/\n<=10000*r/\Hid (ByJ R gr cr out a n c wr/\∀r',RwsR R.m.vw (R.bs.map Bk.vw) ((R.A.map (segE R.es)).drop r) r'->RwsR R.m.vw (R.bs.map Bk.vw) (R.A.map (segE R.es)) (out++r'))) (λrv _=>nA-(intOf rv).toNat);case atStart=>exact⟨0,[],none,0,0,zero_le _,rfl,zero_le _,H1.out,λo h=>h⟩
 case round=>
  clear H1;obtain⟨r,out,a,n,c,hr,rfl,a8,HJ⟩:=hrel;by_cases hlt:r<nA
  .have zr:(r:Int)<(nA:Int):=by omega
   obtain⟨⟨p1,p2⟩,hp⟩:∃p,R.A[r]?=some p:=⟨_,getElem?_eq_getElem (qw HnA.out)⟩;have HP:Hid (R.A[r]?=some (p1,p2)/\p1<=p2/\p2<=R.es.length):=⟨hp,HR.Am _ (mem_of_getElem? hp)⟩;clear hp;obtain⟨wo,a6⟩:=qW wr;subst a6;obtain⟨W2,a2⟩:=qW (wo.alloc (Obj.cells #[] 4));have H2:Hid (ByJ R gr cr out a n c W2/\CdJ R (segE R.es (p1,p2)) wo.heap.size 0 0 [] W2):=by
    have k2:Below wo wo W2:=by rw[a2];exact qB
    exact⟨HJ.1.on k2,⟨by rw[a2];exact yU1 wo HJ.1.below.size,rfl,λr h=>h⟩⟩
   go_upto_region 7 with fail;rw[<-a2];clear a2;go_wp2;go_loopw[8,9] (λcv kv wr=>∃(k gq cq:Nat) (cs:List Bool),k<=R.nb/\cv=.slice (some ⟨gq,0,none⟩) k cq/\kv=.int .i64 (k:Int)/\Hid (ByJ R gr cr out a n c wr/\CdJ R (segE R.es (p1,p2)) gq cq k cs wr)) (λ_ kv _=>R.nb-(intOf kv).toNat);case atStart=>exact⟨0,_,0,[],zero_le _,rfl,rfl,H2.out⟩
   case round=>
    clear H2;obtain⟨k,gq,cq,cs,hk,rfl,rfl,HQ⟩:=hrel;have y0:=HQ.1.box.cell (j:=0) rfl;by_cases hkl:k<R.nb
    .have zk:(k:Int)<(R.nb:Int):=by omega
     as_aux_lemma=>exact zByC
    .have zk:¬(k:Int)<(R.nb:Int):=by omega
     as_aux_lemma=>exact zByE
  .have zr:¬(r:Int)<(nA:Int):=by omega
   as_aux_lemma=>exact zByZ
end
abbrev rcL (fn:FuncId) (tmps:Array Value) (ps:Array Tmp) (assign body:Code) (D:Nat) (st:LoopState) (pe:Option Code):Obj:=.loop {state:=st,pending:=pe,fn,tmps,params:=ps,assign,body,defers:=D}
def RndP (rec:LoopState->Option Code->Obj) (l:Nat) (R:Ending->World->Prop) (e:Exit) (W:World):Prop:=
 W.heap[l]?=some (rec .busy none)/\match e with
 | .normal=>R (.returned true) (W.putObj l (rec .ready none))
 | .ret=>R (.returned false) (W.putObj l (rec .done (some .ret)))
 | .exit id=>R (.returned false) (W.putObj l (rec .done (some (.exit id))))
 |_=>False
variable {tmps:Array Value} {ps:Array Tmp} {body:Code} {R:Ending->World->Prop}
theorem yD7 {fn:FuncId} {assign:Code} {D l:Nat} {args:Array Value} (hl:W.heap[l]?=some (rcL fn tmps ps assign body D .ready none)) (hs:args.size=ps.size)
  (h:assign.wpIn (Fence.wide.inRound l) n prog (Exit.then (λa' Wa=>Wa.heap[l]?=some (rcL fn tmps ps assign body D .ready none)/\body.wpIn (Fence.wide.inRound l) n prog (λe _ W3=>RndP (rcL fn tmps ps assign body D) l R e W3) a' (Wa.putObj l (rcL fn tmps ps assign body D .busy none))) (λ_ _ _=>False))
   {tmps:=(ps.zip args).foldl (λt (p,v)=>t.setIfInBounds p v) tmps,defers:= []} W):
  YieldAt Fence.wide n prog l args W R:=by
 have hy:=run_yield (P:=prog) (args:=args) hl hs;refine⟨fn,_,assign,body,hy,roundIn_of_wpIn trivial (wpIn_mono h ?_)⟩;intro e a' Wa hp;cases e with
 |normal=>
  obtain⟨a1,hb⟩:=hp;refine⟨_,run_beginRound a1 rfl,wpIn_mono hb ?_⟩;rintro e a3 W3 ⟨a0,hp⟩;cases e with
  |normal=>exact⟨_,_,run_endRound none a0,hp⟩
  |ret=>exact⟨_,_,run_endRound (some .ret) a0,hp⟩
  |exit id=>exact⟨_,_,run_endRound (some (.exit id)) a0,hp⟩
  |goto t=>exact hp.elim
  |panic ch=>exact hp.elim
  |outgrown=>exact hp.elim
 |_=>exact hp
theorem yGa {g:Operand} {assign:Code} {gf:Nat} {lb:Array Value} (hg:a.eval g=.func (.func gf) #[] lb) (eg:∀args w,(callFunc gf args).run prog w=.ok (.enter gf args) w) (h1:1<=n)
  (h:∀fn W1,W1=(w.alloc (.deferred (some []))).alloc (rcL fn a.tmps ps assign body w .ready none)->CallsIn Fence.wide (n-1) prog gf (#[.func (.yield (w+1)) #[] #[]]++lb) W1 λe W2=>(∃v,e=.returned v)/\
   ((W2.heap[w.heap.size+1]?=some (rcL fn a.tmps ps assign body w .ready none)/\Q .normal {a with defers:={target:=.collected w,args:=#[]}::a.defers} (W2.putObj (w+1) (rcL fn a.tmps ps assign body w .exhausted none)))∨
    ∃c,W2.heap[w.heap.size+1]?=some (rcL fn a.tmps ps assign body w .done (some c))/\c.wpIn Fence.wide n prog Q {a with defers:={target:=.collected w,args:=#[]}::a.defers} (W2.putObj (w+1) (rcL fn a.tmps ps assign body w .exhausted (some c))))):
  (Code.rangeFunc g ps assign body).wpIn Fence.wide n prog Q a w:=by
 refine wpIn_rangeFunc ?_;intro fn a1;obtain⟨W1,a0⟩:=qE ((w.alloc (.deferred (some []))).alloc (rcL fn a.tmps ps assign body w .ready none))
 refine⟨w+1,[{target:=.collected w,args:=#[]}],W1,{target:=.fn (.func gf) lb,args:=#[.func (.yield (w+1)) #[] #[]]},W1,gf,
  #[.func (.yield (w+1)) #[] #[]]++lb,W1,by rw[a0];exact run_enterLoop_outer _ _ _ _ _,?_,λ_ _=>trivial,?_,λ_=>h1,?_⟩
 .simp only[resolve,hg];simp[go_sem]
 .simp[invoke,go_sem,eg]
 .refine(h fn W1 a0).mono ?_;exact xF3
theorem ySi {g:Operand} {assign:Code} {l₀:Nat} {r₀:Loop} (hl₀:w.heap[l₀]?=some (.loop r₀)) {gf:Nat} {lb:Array Value} (hg:a.eval g=.func (.func gf) #[] lb) (eg:∀args w,(callFunc gf args).run prog w=.ok (.enter gf args) w) (h1:1<=n)
  (h:∀fn W1,W1=w.alloc (rcL fn a.tmps ps assign body r₀.defers .ready none)->CallsIn Fence.wide (n-1) prog gf (#[.func (.yield w) #[] #[]]++lb) W1 λe W2=>(∃v,e=.returned v)/\
   ((W2.heap[w.heap.size]?=some (rcL fn a.tmps ps assign body r₀.defers .ready none)/\Q .normal a (W2.putObj w (rcL fn a.tmps ps assign body r₀.defers .exhausted none)))∨
    ∃c,W2.heap[w.heap.size]?=some (rcL fn a.tmps ps assign body r₀.defers .done (some c))/\c.wpIn (Fence.wide.inRound l₀) n prog Q a (W2.putObj w (rcL fn a.tmps ps assign body r₀.defers .exhausted (some c))))):
  (Code.rangeFunc g ps assign body).wpIn (Fence.wide.inRound l₀) n prog Q a w:=by
 refine wpIn_rangeFunc ?_;intro fn a1;obtain⟨W1,a0⟩:=qE (w.alloc (rcL fn a.tmps ps assign body r₀.defers .ready none))
 refine⟨w,[],W1,{target:=.fn (.func gf) lb,args:=#[.func (.yield w) #[] #[]]},W1,gf,
  #[.func (.yield w) #[] #[]]++lb,W1,by rw[a0];exact run_enterLoop_inner hl₀ _ _ _ _ _,?_,λ_ _=>trivial,?_,λ_=>h1,?_⟩
 .simp only[resolve,hg];simp[go_sem]
 .simp[invoke,go_sem,eg]
 .refine CallsIn.inRound l₀ ((h fn W1 a0).mono ?_);exact xF3
theorem yV6 {h:Hn} {c:Ent} (hc:∀e∈es,yAo (putE c) (putE e)= -1) (ho:es.Pairwise λa b=>yAo (putE a) (putE b)= -1)
  (i j:Nat) ei ej (hij:i<=j) (hi:es[i]?=some ei) (hj:es[j]?=some ej) (hs:yAz h c ej=true):yAz h c ei=true:=by
 obtain⟨li,rfl⟩:=List.getElem?_eq_some_iff.1 hi;obtain⟨lj,rfl⟩:=List.getElem?_eq_some_iff.1 hj;refine yVz (LeC.of_key (hc _ (getElem_mem li))) ?_ hs;by_cases e:i=j
 .subst e;exact LeC.refl _
 .exact LeC.of_key (List.pairwise_iff_getElem.1 ho i j li lj qo)
section
section
variable {F:Fence} {n:Nat} {P:Program} {ops:Array Oper} {Q:Exit->Act->World->Prop} {md:Region.Mode} {S:World->Prop} {X:List Nat}
def YifI (P:Program) (ops:Array Oper) (S:World->Prop) (o:Oper) (v:Value) (a:Act):Prop:=YieldsIf P ops S o v a/\∀w,o.about P w a.eval=none
variable {o:Oper}
theorem YifI.same {v:Value} {a':Act} (hy:YifI P ops S o v a) (he:execOp a'.eval o=execOp a.eval o) (hw:Region.wanted o (yielded ops a'.tmps)=Region.wanted o (yielded ops a.tmps)) (hb:∀w,o.about P w a'.eval=o.about P w a.eval):YifI P ops S o v a':=
 ⟨hy.1.of_same he hw,λw=>(hb w).trans (hy.2 w)⟩
theorem YifI.op {v:Value} (hro:F.round=none) (hi:ops[i]?=some o) (hy:YifI P ops S o v a) (hS:S w) (h:K (a.put o.dst v) w):wpOpIn F n P ops Q i K a w:=by
 unfold wpOpIn;simp only[hi];have a0:∀f,o.about P w a.eval=some f->F.fn f:=λf hf=>by rw[hy.2 w]at hf;cases hf
 rcases hy.1 with⟨hw,hv⟩|⟨hw,rfl⟩
 .simp only[hw,if_true,Oper.wpIn,hro,Oper.semAt_none,hv w hS,Oper.uponIn];exact⟨a0,h⟩
 .simp only[hw,Bool.false_eq_true,if_false];exact⟨a0,h⟩
theorem yWb {oi oj:Oper} {v:Value} (hro:F.round=none) (hj:ops[j]?=some oj) (hap:oi.apart ops oj=true)
  (hsi:∀cs b,oi.op≠ .select cs b) (hsj:∀cs b,oj.op≠ .select cs b)
  (hQ:∀c a w,Q (.panic c) (a.put oi.dst v) w->Q (.panic c) a w) {K:Act->World->Prop} {a:Act} {w:World}
  (hy:YifI P ops S oi v a) (h:wpOpIn F n P ops Q j K (a.put oi.dst v) w):wpOpIn F n P ops Q j (λa' w'=>YifI P ops S oi v a'/\K (a'.put oi.dst v) w') a w:=by
 obtain⟨h1,h2,h3⟩:=Oper.apart_spec hap;have kp:∀(b:Act),YifI P ops S oi v b->∀u,YifI P ops S oi v (b.put oj.dst u):=λb hb u=>hb.same (execOp_put oi hsi b oj.dst u h3) (wanted_put oi b oj.dst u h3) (λw=>about_put oi w b oj.dst u h3);have fin:∀(u:Value) (w':World),K ((a.put oi.dst v).put oj.dst u) w'->YifI P ops S oi v (a.put oj.dst u)/\K ((a.put oj.dst u).put oi.dst v) w':=λu w' hk=>⟨kp a hy u,by rw[<-Act.put_comm a v u h2];exact hk⟩;unfold wpOpIn at*;simp only[hj]at*;rw[wanted_put oj a oi.dst v h1,about_put oj w a oi.dst v h1]at h;by_cases hw:Region.wanted oj (yielded ops a.tmps)=true
 .rw[if_pos hw]at h⊢;unfold Oper.wpIn at*;rw[about_put oj w a oi.dst v h1,hro,Oper.semAt_none,execOp_put oj hsj a oi.dst v h1]at h;rw[hro,Oper.semAt_none];refine⟨h.1,?_⟩;have hh:=h.2;generalize (execOp a.eval oj).run P w=r at*;cases r with
  |ok x w'=>
   cases x with
   |value u=>exact fin u w' hh
   |skip=>exact fin undef w' hh
   |defer d=>
    simp only[Oper.uponIn]at hh⊢;refine⟨kp {a with defers:=d::a.defers} (hy.same rfl rfl (λ_=>rfl)) undef,?_⟩;rw[<-Act.put_comm _ v undef h2,<-Act.put_defers];exact hh
   |enter f args=>
    simp only[Oper.uponIn]at hh⊢;refine⟨hh.1,CallsIn.mono hh.2 λe w'' he=>?_⟩;cases e with
    |returned u=>exact fin u w'' he
    |panicked c=>exact hQ _ _ _ he
    |outgrown=>exact he
   |row row args=>
    simp only[Oper.uponIn]at hh⊢;exact⟨hh.1,RowsIn.mono hh.2 λu w'' he=>fin u w'' he⟩
   |round l f tmps assign body=>
    simp only[Oper.uponIn]at hh⊢;refine⟨hh.1,RoundIn.mono hh.2 λe w'' he=>?_⟩;cases e with
    |returned u=>exact fin u w'' he
    |panicked c=>exact hQ _ _ _ he
    |outgrown=>exact he
   |_=>exact hh
  |halt x w'=>
   cases x with
   |panic u=>exact hQ _ _ _ hh
   |_=>exact hh
 .rw[if_neg hw]at h⊢;exact⟨h.1,fin undef w h.2⟩
def AnyI (F:Fence) (n:Nat) (P:Program) (md:Region.Mode) (ops:Array Oper) (Q:Exit->Act->World->Prop) (S:World->Prop) (X:List Nat):Nat->Array Bool->Act->World->Prop
 |0,listed,a,w=>Region.ready md ops listed= []/\Q .normal a w
 |fuel+1,listed,a,w=>
  (Region.ready md ops listed= []->Q .normal a w)/\
  ∀i∈Region.ready md ops listed,wpOpIn F n P ops Q i (λa' w'=>(i∈X∨S w')/\AnyI F n P md ops Q S X fuel (listed.setIfInBounds i true) a' w') a w
theorem yVh:∀(fuel:Nat) (listed:Array Bool) (a:Act) (w:World),AnyI F n P md ops Q S X fuel listed a w->wpAnyIn F n P md ops Q fuel listed a w
 |0,_,_,_,h=>h
 |fuel+1,_,_,_,h=>⟨h.1,λi hi=>wpOpIn_mono (λa' w' h'=>yVh fuel _ a' w' h'.2) (h.2 i hi)⟩
theorem yXi {oi:Oper} {v:Value} {Y:List Nat} (hro:F.round=none) (hi:ops[i]?=some oi) (hsel:∀(j:Nat) (o:Oper) cs b,ops[j]?=some o->o.op≠ .select cs b)
  (hQ:∀c a w,Q (.panic c) (a.put oi.dst v) w->Q (.panic c) a w):
  ∀(fuel:Nat) (listed:Array Bool) (a:Act) (w:World),yO2 md ops Y listed i=true->(∀L∈X,listed.getD L true=true∨L∈Y)->
   (∀j oj,ops[j]?=some oj->j≠i->listed.getD j true=false->(∀e∈oj.after,Region.binds md e=true->e.on≠i)->oi.apart ops oj=true)->
   i∈Region.ready md ops listed->YifI P ops S oi v a->S w->
   AnyI F n P md ops Q S X fuel (listed.setIfInBounds i true) (a.put oi.dst v) w->AnyI F n P md ops Q S X (fuel+1) listed a w:=by
 intro fuel;induction fuel with
 |zero=>
  intro listed a w _ _ _ hr hy hS H;refine⟨λh=>(by rw[h]at hr;cases hr),λj hj=>?_⟩;by_cases hji:j=i
  .subst hji;exact hy.op hro hi hS ⟨.inr hS,H⟩
  .have:=ready_mono hj hji;rw[H.1]at this;cases this
 |succ fuel ih=>
  intro listed a w hX a8 a7 hr hy hS H;refine⟨λh=>(by rw[h]at hr;cases hr),λj hj=>?_⟩;by_cases hji:j=i
  .subst hji;exact hy.op hro hi hS ⟨.inr hS,H⟩
  .have h1:=H.2 j (ready_mono hj hji);obtain⟨a3,oj,a1,aa⟩:=mem_ready.1 hj;have a0:∀k,listed.getD k true=false->∀e∈oj.after,Region.binds md e=true->e.on≠k:=λk h0 e he hb heq=>by
    have h1:=aa e he hb;rw[heq]at h1;rcases Nat.lt_or_ge k listed.size with h'|h'
    .simp[h']at h0 h1;rw[h0]at h1;cases h1
    .simp[Array.getElem?_eq_none h']at h1
   have a4:=a0 i (mem_ready.1 hr).1;have a5:j∉Y:=λq=>by
    have h2:=all_eq_true.1 hX j q;rw[Bool.and_eq_true,Bool.or_eq_true]at h2;rcases h2.2 with h3|h3
    .obtain⟨e,he,hb,a2⟩:=yGi a1 h3;exact a4 e he hb a2
    .obtain⟨L',ad,h4⟩:=any_eq_true.1 h3;obtain⟨e,he,hb,a2⟩:=yGi a1 h4;have h5:=all_eq_true.1 hX L' ad;rw[Bool.and_eq_true]at h5;exact a0 L' (by simpa using h5.1) e he hb a2
   have a6:j∉X:=λq=>(a8 j q).elim (λz=>by rw[a3]at z;cases z) a5;have ab:∀L∈X,(listed.setIfInBounds j true).getD L true=true∨L∈Y:=λL hL=>(a8 L hL).imp (λz=>by rw[getD_set_ne true (λq:j=L=>a6 (by rw[q];exact hL))];exact z) (λz=>z)
   have h2:=yWb hro a1 (a7 j oj a1 hji a3 a4) (λcs b=>hsel i oi cs b hi) (λcs b=>hsel j oj cs b a1) hQ hy h1
   have a9:∀k ok,ops[k]?=some ok->k≠i->(listed.setIfInBounds j true).getD k true=false->
     (∀e∈ok.after,Region.binds md e=true->e.on≠i)->oi.apart ops ok=true:=λk ok hk hki a0 hno=>by
    refine a7 k ok hk hki ?_ hno;by_cases hjk:j=k
    .subst hjk;exact a3
    .rw[getD_set_ne true hjk]at a0;exact a0
   have ac:yO2 md ops Y (listed.setIfInBounds j true) i=true:=by refine all_eq_true.2 λL hL=>?_;have h2:=all_eq_true.1 hX L hL;rw[getD_set_ne true (λq:j=L=>a5 (by rw[q];exact hL))];exact h2
   refine wpOpIn_mono (λa' w' h3=>⟨h3.2.1,ih (listed.setIfInBounds j true) a' w' ac ab a9 (ready_mono hr (Ne.symm hji)) h3.1 (h3.2.1.resolve_left a6) ?_⟩) h2;rw[Array.setIfInBounds_comm _ _ hji];exact h3.2.2
theorem yEr {fuel:Nat} {listed:Array Bool} (hr:Region.ready md ops listed= [i]) (ho:ops[i]?=some o)
  (h:∀K':Act->World->Prop,Shut (∀a w,(i∈X∨S w)->AnyI F n P md ops Q S X fuel (listed.setIfInBounds i true) a w->K' a w)->if Region.wanted o (yielded ops a.tmps)=true then Oper.wpIn F n P o a w K' Q else(∀f,o.about P w a.eval=some f->F.fn f)/\K' (a.put o.dst undef) w):
  AnyI F n P md ops Q S X (fuel+1) listed a w:=by
 refine⟨λh0=>(by rw[hr]at h0;cases h0),λj hj=>?_⟩;rw[hr]at hj;simp at hj;subst hj;exact wpOpIn_step ho (λK' hK=>h K' (λa w hS hW=>hK a w ⟨hS,hW⟩))
theorem yKw {fuel:Nat} {listed:Array Bool} (hr:Region.ready md ops listed= []) (h:Q .normal a w):AnyI F n P md ops Q S X fuel listed a w:=by exact xDs
theorem yD8 {id:Nat} (X:List Nat) (S:World->Prop) (hm:P.follows .mixedOrders=true)
  (h:AnyI F n P .any ops Q S X ops.size (Array.replicate ops.size false) a w.drew):(Code.region id ops true).wpIn F n P Q a w:=
 wpIn_region_any hm (yVh _ _ _ _ h)
end
theorem xIq (h:p:=by exact⟨(by exact jy),λ_=>rfl⟩):p:=h
section
variable {F:Fence} {n:Nat} {P:Program} {ops:Array Oper} {Q:Exit->Act->World->Prop} {md:Region.Mode} {S:World->Prop} {X:List Nat} {j:Nat} {v:Value} {oi:Oper} {fuel:Nat} {listed:Array Bool} {a:Act} {w:World} {q:Prop}
theorem tiT (hro:F.round=none) (hx:TxX ops Q md X i v oi listed) (hy:YifI P ops S oi v a) (hS:S w) (h:AnyI F n P md ops Q S X fuel (listed.setIfInBounds i true) (a.put oi.dst v) w):AnyI F n P md ops Q S X (fuel+1) listed a w:=
 yXi (Y:=(cloX md ops listed 6 [i]).erase i) hro hx.1 (Region.noSelect_spec hx.2.1) hx.2.2.2.2.2 fuel listed a w (by
  have h2:=hx.2.2.2.2.1
  unfold yO3 at h2
  rw[Bool.and_eq_true]at h2
  exact h2.1) (λL hL=>by
  have h2:=hx.2.2.2.2.1
  unfold yO3 at h2
  rw[Bool.and_eq_true]at h2
  simpa using all_eq_true.1 h2.2 L hL) (Region.free_spec hx.1 hx.2.2.1) (by simpa using hx.2.2.2.1) hy hS h
theorem yK8 (i:Nat) (hro:F.round=none) (hS:S w) (k:q) (hx:TxX ops Q md X i v oi listed:=by exact txx) (hy:YifI P ops S oi v a:=by exact xIq) (h:q->AnyI F n P md ops Q S X fuel (listed.setIfInBounds i true) (a.put oi.dst v) w:=by exact jz):AnyI F n P md ops Q S X (fuel+1) listed a w:=tiT hro hx hy hS (h k)
end
end
structure MvS (G:MchG) (N:Nat) (es:List Ent) (pc pp ph b off cap:Nat) (hints:Bool) (ks:List Ctr) (v:Value) (W:World):Prop where
 mc:McI G N ks v W
 bc:(xk W pc 0 (.slice (some ⟨b,off,none⟩) es.length cap):Prop)
 bp:(xk W pp 1 (xp G.mb):Prop)
 bh:(xk W ph 0 hints:Prop)
 sl:CSl W b off cap es
 nb:∀q,(q=ph∨q=b)->¬q=G.g/\¬q=G.mb/\¬G.T q/\¬v.ownBlock=some q
def SvI (b off M i:Nat) (sv:Value):Prop:=∃o n cp,sv=.slice (some ⟨b,o,none⟩) n cp/\n=M-i/\n<=cp/\cp<=9223372036854775807/\(0<n->o=off+i*5)
theorem yHy {p:Addr} {v:Value} (h:W.cell? p=some v):p.block<W.heap.size:=by apply Classical.byContradiction;intro hn;unfold World.cell? at h;rw[Array.getElem?_eq_none (by omega)]at h;simp at h
variable {W':World}
theorem yDj {p:Addr} {v:Value} (hb:Below W W W') (h:W.cell? p=some v):W'.cell? p=W.cell? p:=hb.cell (yHy h)
variable {G:MchG} {N:Nat} {ks:List Ctr}
theorem McI.on {l:List Ix} {v:Value} (h:McI G N ks v W) (hO:MaOk G l) (hb:Below W W W'):McI G N ks v W':=by have hc:Chg (λ_=>False) W W':=Chg.of_below hb;obtain⟨m,hm⟩:=h.stk;exact⟨h.chg.trans (hc.mono (λq z=>z.elim)),hO.ti (λ_=>False) W W' h.ti hc (λq z=>z.elim),h.ctr.below hb,h.len,h.cb,h.box.below hb,⟨m,yAh hm hc (λ_ _ q=>q)⟩⟩
def nxtM (es:List Ent) (hints:Bool) (i:Nat) (it:It) (c:Ent):Nat:=if it.alive=false/\hints=true then i+1+((es.drop (i+1)).takeWhile (yAz it.hint c)).length else i+1
theorem zMvF (h:p:=by
 have HSS:Hid (∀X,yA X wo 181 4 w3 [false,it.strip,xi it.hint.rank,it.hint.txt]->yA X wo 70 5 wo c.five->(λw':World=>xk w' w3 0 false/\xk w' w3 1 it.strip/\xk w' w3 2 (xi it.hint.rank)/\xk w' w3 3 it.hint.txt/\xk w' wo 0 c.row/\xk w' wo 1 c.fam/\xk w' wo 2 c.qual/\xk w' wo 3 (xu c.ts)/\xk w' wo 4 c.val/\xk w' w3 0 false) X):=λX h k=>
  ⟨h.cell (j:=0) rfl,h.cell (j:=1) rfl,h.cell (j:=2) rfl,h.cell (j:=3) rfl,k.cell (j:=0) rfl,k.cell (j:=1) rfl,k.cell (j:=2) rfl,k.cell (j:=3) rfl,k.cell (j:=4) rfl,h.cell (j:=0) rfl⟩
 have HI5:Hid (yA wY.drew wo 181 4 w3 [false,it.strip,xi it.hint.rank,it.hint.txt]/\yA wY.drew wo 70 5 wo c.five/\Below w3 w3 wY.drew):=by have kd:Below wY wY wY.drew:=(Below.refl _ _).drew;exact⟨HI4.1.below kd,HI4.2.1.below kd,HI4.2.2.trans (kd.mono HI4.2.2.size)⟩
 have hS0:=HSS.out _ HI5.1 HI5.2.1;refine yD8 [6,7] (λw':World=>xk w' w3 0 false/\xk w' w3 1 it.strip/\xk w' w3 2 (xi it.hint.rank)/\xk w' w3 3 it.hint.txt/\xk w' wo 0 c.row/\xk w' wo 1 c.fam/\xk w' wo 2 c.qual/\xk w' wo 3 (xu c.ts)/\xk w' wo 4 c.val/\xk w' w3 0 false) (by kernel_rfl) ?_;exact xG1):p:=h
theorem zMvT (h:p:=by
 have HSS:Hid (∀X,yA X wo 181 4 w3 [true,it.strip,xi it.hint.rank,it.hint.txt]->yA X wo 70 5 wo c.five->(λw':World=>xk w' w3 0 true/\xk w' w3 1 it.strip/\xk w' w3 2 (xi it.hint.rank)/\xk w' w3 3 it.hint.txt/\xk w' wo 0 c.row/\xk w' wo 1 c.fam/\xk w' wo 2 c.qual/\xk w' wo 3 (xu c.ts)/\xk w' wo 4 c.val/\xk w' w3 0 true) X):=λX h k=>
  ⟨h.cell (j:=0) rfl,h.cell (j:=1) rfl,h.cell (j:=2) rfl,h.cell (j:=3) rfl,k.cell (j:=0) rfl,k.cell (j:=1) rfl,k.cell (j:=2) rfl,k.cell (j:=3) rfl,k.cell (j:=4) rfl,h.cell (j:=0) rfl⟩
 have HI5:Hid (yA wY.drew wo 181 4 w3 [true,it.strip,xi it.hint.rank,it.hint.txt]/\yA wY.drew wo 70 5 wo c.five/\Below w3 w3 wY.drew):=by have kd:Below wY wY wY.drew:=(Below.refl _ _).drew;exact⟨HI4.1.below kd,HI4.2.1.below kd,HI4.2.2.trans (kd.mono HI4.2.2.size)⟩
 have hS0:=HSS.out _ HI5.1 HI5.2.1;refine yD8 [6,7] (λw':World=>xk w' w3 0 true/\xk w' w3 1 it.strip/\xk w' w3 2 (xi it.hint.rank)/\xk w' w3 3 it.hint.txt/\xk w' wo 0 c.row/\xk w' wo 1 c.fam/\xk w' wo 2 c.qual/\xk w' wo 3 (xu c.ts)/\xk w' wo 4 c.val/\xk w' w3 0 true) (by kernel_rfl) ?_;exact xG1):p:=h
theorem zMvL (h:p:=by
 refine⟨trivial,(callsIn_wide.2 HLk.out).mono ?_⟩;rintro e w3 ⟨it,ks',v',hlk,rfl,hmc,hch,hvb⟩;have H3:Hid (LkR pfxB l c [] ⟨0,[newI],ks⟩ (it,ks')/\McI G N ks' v' w3/\Chg (λq=>q=G.g∨q=G.mb∨G.T q∨v.ownBlock=some q) W2 w3/\(v'.ownBlock=v.ownBlock∨∃k,v'.ownBlock=some k/\W2.heap.size<=k)):=⟨hlk,hmc,hch,hvb⟩;have z0:(xk w3 ph 0 hints:Prop):=by have h1:=HW2.1.bh;obtain⟨n1,n2,n3,n4⟩:=HW2.1.nb ph (.inl rfl);rw[hch.cell (yHy h1) (λq=>by rcases q with q|q|q|q;exact n1 q;exact n2 q;exact n3 q;exact n4 q)];exact h1
 have hphl:=yHy z0;have hbx:yA w3 wo 70 5 wo c.five:=by
  refine HW2.2.1.chg hch (λq=>?_);have hs:=HR.out _ _ _ _ HJ.2;have hz:=hs.mc.chg.size;have h1:=HOk.1.gl;have h2:=HOk.1.ml;rcases q with q|q|q|q
  .omega
  .omega
  .have:=HOk.1.tl _ q;omega
  .obtain⟨mm,hmm⟩:=hs.mc.stk;have:=(World.ownsRow.lt hmm _ q).2;omega
 have HBx:Hid (yA w3 wo 70 5 wo c.five):=hbx;obtain⟨d0,d1,d2,d3,d4⟩:=hbx.c5;have hwl:wo.heap.size<w3.heap.size:=hbx.lt.2;obtain⟨x',hx'⟩:=qE (yB it c);have HYs:Hid (∀X,Below w3 w3 X->YieldAt Fence.wide (m-1) prog lY #[.agg #[x'.row,x'.fam,x'.qual,xu x'.ts,x'.val],it.alive] X λe W''=>e=.returned true/\J (nxtM es hints i it c) ks' v' W''):=λX hb=>by rw[hx'];refine HY.out i c it ks ks' v v' wo X HJ.2 HC.out H3.1 (H3.2.1.on HOk.1 hb) (((Chg.of_below HW2.2.2).trans H3.2.2.1).trans (Chg.of_below hb)) (H3.2.2.2.imp (λq=>q) (fun⟨k,k1,k2⟩=>⟨k,k1,qw HW2.2.2.size⟩))
 have HSh:Hid (∀X,(xf 106 #[.agg #[it.alive,it.strip,xi it.hint.rank,it.hint.txt],.agg #[c.row,c.fam,c.qual,xu c.ts,c.val]] X (.agg #[x'.row,x'.fam,x'.qual,xu x'.ts,x'.val]):Prop)):=λX=>by rw[hx'];exact yJf it c X
 clear hlk hmc hch hvb HLk hbx hx';cases hal:it.alive
 .rw[hal]at HYs HSh;obtain⟨W4,hW4⟩:=qW (xw w3 #[false,it.strip,xi it.hint.rank,it.hint.txt] 181);have HI4:Hid (yA W4 wo 181 4 w3 [false,it.strip,xi it.hint.rank,it.hint.txt]/\yA W4 wo 70 5 wo c.five/\Below w3 w3 W4):=by
   have k4:=qN hW4
   exact⟨by rw[hW4];exact yAa w3 _ (by omega) rfl,HBx.below k4,k4⟩
  cases hints
  .obtain⟨nx,hnx⟩:=qE (i+1);have HNx:Hid (nxtM es false i it c=nx):=by show _=_;unfold nxtM;simp[hnx]
   have HNl:Hid (i+1<=nx/\nx<=M):=by show _/\_;omega
   have HSx:Hid (SvI b off M nx sv):=by rw[hnx];exact HSv.out
   clear hnx;gi_wp2;rw[<-hW4];clear hW4 z0 hphl d0 d1 d2 d3 d4;generalize W4=wY at HI4⊢;exact zMvF
  .obtain⟨o5,n5,c5,hsv5,hn5,hnc5,hcm5,ho5⟩:=HSv.out;subst hsv5;obtain⟨nw,hnw⟩:=qE (((es.drop (i+1)).takeWhile (yAz it.hint c)).length);have hnl:nw<=n5:=by rw[hnw,hn5];refine Nat.le_trans (takeWhile_sublist _).length_le ?_;rw[length_drop];have:=HM.out;omega
   have HRe:Hid ((xf 105 #[.agg #[xi it.hint.rank,it.hint.txt],.agg #[c.row,c.fam,c.qual,xu c.ts,c.val],.slice (some ⟨b,o5,none⟩) n5 c5] W4 (xi nw):Prop)):=by
    obtain⟨b1,b2,b3,b4⟩:=HW2.1.nb b (.inr rfl);have hsl3:CSl w3 b off cap es:=HW2.1.sl.chg H3.2.2.1 (λq=>by rcases q with q|q|q|q;exact b1 q;exact b2 q;exact b3 q;exact b4 q);have hsl4:=hsl3.below HI4.2.2;have hlen:n5=(es.drop (i+1)).length:=by rw[length_drop];have:=HM.out;omega
    have hc4:yA4 W4 b o5 (es.drop (i+1)):=by intro j e he;have hj:=qf he;rw[ho5 (by omega)];rw[getElem?_drop]at he;have h9:=hsl4.at_ (i+1+j) e he;rw[show off+(i+1+j)*5=off+(i+1)*5+j*5 by omega]at h9;exact h9
    have hpw:=HOk.2.2.2.2.2;have hci:∀e∈es.drop (i+1),yAo (putE c) (putE e)= -1:=λe he=>by obtain⟨j,hj⟩:=List.mem_iff_getElem?.1 he;rw[getElem?_drop]at hj;obtain⟨l1,e1⟩:=List.getElem?_eq_some_iff.1 HC.out;obtain⟨l2,e2⟩:=List.getElem?_eq_some_iff.1 hj;have h9:=List.pairwise_iff_getElem.1 hpw i (i+1+j) l1 l2 (by omega);rw[e1,e2]at h9;exact h9
    have h9:=yV7 (h:=it.hint) (c:=c) (cap:=c5) hc4 hsl4.lt (by omega) (yV6 hci (hpw.sublist (drop_sublist _ _)));rw[<-hlen,<-hnw]at h9;exact h9
   obtain⟨nx,hnx⟩:=qE (i+1+nw);have HNx:Hid (nxtM es true i it c=nx):=by show _=_;unfold nxtM;rw[if_pos ⟨hal,rfl⟩,hnx,hnw]
   have HNl:Hid (i+1<=nx/\nx<=M):=by show _/\_;omega
   have HSq:Hid (n5=M-(i+1)/\(0<n5->o5=off+(i+1)*5)/\nx=i+1+nw):=⟨hn5,ho5,hnx⟩;have hz1:(nw:Int)<=(n5:Int):=by omega
   have hz2:(n5:Int)<=(c5:Int):=by omega
   have hz3:(0:Int)<=(nw:Int):=by omega
   clear hnw hnx ho5 hn5;gi_wp2;rw[<-hW4];clear hW4 z0 hphl d0 d1 d2 d3 d4;refine⟨trivial,(callsIn_wide.2 HRe.out).mono ?_⟩;rintro e w6 ⟨rfl,hb6⟩;have HI6:Hid (yA w6 wo 181 4 w3 [false,it.strip,xi it.hint.rank,it.hint.txt]/\yA w6 wo 70 5 wo c.five/\Below w3 w3 w6):=⟨HI4.1.below hb6,HI4.2.1.below hb6,HI4.2.2.trans (hb6.mono HI4.2.2.size)⟩;clear hb6 HI4 HRe HSv;have HI4:=HI6;clear HI6;by_cases hcz:c5=nw
   .subst hcz;obtain rfl:n5=c5:=by omega
    gi_wp2;generalize hsv:Value.slice (some ⟨b,o5,none⟩) 0 0=sv;have HSx:Hid (SvI b off M nx sv):=⟨o5,0,0,hsv.symm,qw HSq.out,by omega,by omega,λq=>by omega⟩;clear hsv HSq;generalize w6=wY at HI4⊢;exact zMvF
   .gi_wp2;generalize hsv:Value.slice (some ⟨b,o5+nw*5,none⟩) (n5-nw) (c5-nw)=sv;have HSx:Hid (SvI b off M nx sv):=⟨o5+nw*5,n5-nw,c5-nw,hsv.symm,qw HSq.out,by omega,by omega,λq=>qv HSq.out (HSq.2.1 (by omega))⟩;clear hsv HSq;generalize w6=wY at HI4⊢;exact zMvF
 .rw[hal]at HYs HSh;obtain⟨W4,hW4⟩:=qW (xw w3 #[true,it.strip,xi it.hint.rank,it.hint.txt] 181);have HI4:Hid (yA W4 wo 181 4 w3 [true,it.strip,xi it.hint.rank,it.hint.txt]/\yA W4 wo 70 5 wo c.five/\Below w3 w3 W4):=by
   have k4:=qN hW4
   exact⟨by rw[hW4];exact yAa w3 _ (by omega) rfl,HBx.below k4,k4⟩
  obtain⟨nx,hnx⟩:=qE (i+1);have HNx:Hid (nxtM es hints i it c=nx):=by show _=_;unfold nxtM;simp[hnx,hal]
  have HNl:Hid (i+1<=nx/\nx<=M):=by show _/\_;omega
  have HSx:Hid (SvI b off M nx sv):=by rw[hnx];exact HSv.out
  clear hnx;cases hints
  all_goals
   gi_wp2
   rw[<-hW4]
   clear hW4 z0 hphl d0 d1 d2 d3 d4
   generalize W4=wY at HI4⊢
   exact zMvT):p:=h
variable {cnt:Int}
theorem xBt (G:MchG) (l:List Ix) (N:Nat) (es:List Ent) (pc pp ph b off cap:Nat) (hints:Bool) (hN0:es.length<=10000) (hO:MaOk G l) (hg:yBe l cnt 0) (hN:N=l.length) (hnk:(G.nk:Int)=cnt) (hrow:∀c∈es,¬c.row=⟨#[]⟩) (hord:es.Pairwise λa b=>yAo (putE a) (putE b)= -1) (lY m:Nat) (hm:1<=m) (J:Nat->List Ctr->Value->World->Prop)
  (hY:∀i c it ks ks' v v' W0 W',J i ks v W0->es[i]?=some c->LkR pfxB l c [] ⟨0,[newI],ks⟩ (it,ks')->McI G N ks' v' W'->Chg (λq=>q=G.g∨q=G.mb∨G.T q∨v.ownBlock=some q) W0 W'->(v'.ownBlock=v.ownBlock∨∃k,v'.ownBlock=some k/\W0.heap.size<=k)->
   YieldAt Fence.wide (m-1) prog lY #[(yB it c).c,it.alive] W' λe W''=>e=.returned true/\J (nxtM es hints i it c) ks' v' W'')
  (hJr:∀i ks v W,J i ks v W->MvS G N es pc pp ph b off cap hints ks v W) (W:World) ks0 (v0:Value) (h0:J 0 ks0 v0 W):
  CallsIn Fence.wide m prog 103 #[.func (.yield lY) #[] #[],ptB pc,ptB pp,ptB ph] W λe W'=>(∃v,e=.returned v)/\∃ks v,J es.length ks v W':=by
 obtain⟨M,hM⟩:=qE es.length;have HM:Hid (M=es.length):=hM;have a7:Hid (J 0 ks0 v0 W):=h0;have HR:Hid (∀i ks v W,J i ks v W->MvS G N es pc pp ph b off cap hints ks v W):=hJr;have b0:=(hJr _ _ _ _ h0).bc;have a2:=(hJr _ _ _ _ h0).sl.len;have a5:cap<=9223372036854775807:=by have:=(hJr _ _ _ _ h0).sl.cap;unfold maxLen at this;omega
 rw[<-hM]at hN0 a2 b0⊢
 have HY:Hid (∀i c it ks ks' v v' W0 W',J i ks v W0->es[i]?=some c->LkR pfxB l c [] ⟨0,[newI],ks⟩ (it,ks')->McI G N ks' v' W'->Chg (λq=>q=G.g∨q=G.mb∨G.T q∨v.ownBlock=some q) W0 W'->(v'.ownBlock=v.ownBlock∨∃k,v'.ownBlock=some k/\W0.heap.size<=k)->
   YieldAt Fence.wide (m-1) prog lY #[(yB it c).c,it.alive] W' λe W''=>e=.returned true/\J (nxtM es hints i it c) ks' v' W''):=hY
 have HOk:Hid (MaOk G l/\yBe l cnt 0/\N=l.length/\(G.nk:Int)=cnt/\(∀c∈es,¬c.row=⟨#[]⟩)/\es.Pairwise λa b=>yAo (putE a) (putE b)= -1):=⟨hO,hg,hN,hnk,hrow,hord⟩;clear hM h0 hJr hY hO hg hN hnk hrow hord;refine callsIn_of_wp func103 rfl trivial ?_ rfl;simp only[ntmps103,size_toArray,length_cons,length_nil,Nat.reduceAdd,Nat.reduceSub,Array.replicate_succ,Array.replicate_zero,push_toArray,append_toArray,nil_append,cons_append];gi_wp2;gi_loopw [5] (λbv wr=>∃(i:Nat) (ks:List Ctr) (v:Value),i<=M/\Hid (SvI b off M i bv/\J i ks v wr)) (λbv _=>match bv with| .slice _ n _=>n|_=>0);case atStart=>exact⟨0,ks0,v0,zero_le _,⟨off,M,cap,rfl,by simp,a2,a5,λ_=>by simp⟩,a7.out⟩
 case round=>
  obtain⟨i,ks,v,ab,HJ⟩:=hrel;obtain⟨o,n,cp,rfl,hn,aa,ac,a1⟩:=HJ.1;by_cases hlt:i<M
  .obtain⟨c,hc⟩:∃c,es[i]?=some c:=qg (qw HM.out);have HC:Hid (es[i]?=some c):=hc;obtain⟨wo,a3⟩:=qW wr;subst a3;obtain⟨r,hr⟩:∃r,n=r+1:=⟨n-1,by omega⟩;subst hr;have ho:o=off+i*5:=a1 (by omega);obtain⟨x0,x1,x2,x3,x4⟩:=(HR.out _ _ _ _ HJ.2).sl.at_ i c hc;rw[<-ho]at x0 x1 x2 x3 x4;have a6:Hid (o=off+i*5):=ho;have HRn:Hid (r+1=M-i):=hn;have a8:(0:Int)<(r:Int)+1:=by omega
   obtain⟨W2,a0⟩:=qW (xw wo #[c.row,c.fam,c.qual,xu c.ts,c.val] 70);have HW2:Hid (MvS G N es pc pp ph b off cap hints ks v W2/\yA W2 wo 70 5 wo c.five/\Below wo wo W2):=by
    have k2:=qN a0
    have hs:=HR.out _ _ _ _ HJ.2;exact⟨⟨hs.mc.on HOk.1 k2,by rw[yDj k2 hs.bc];exact hs.bc,by rw[yDj k2 hs.bp];exact hs.bp,by rw[yDj k2 hs.bh];exact hs.bh,hs.sl.below k2,hs.nb⟩,by rw[a0];exact yAa wo _ qr rfl,k2⟩
   have y0:=(HR.out _ _ _ _ HJ.2).bp;have a9:pp<wo.heap.size:=yHy y0;obtain⟨d,hd⟩:=yIz HOk.2.1
   have HLk:Hid (Calls prog 104 #[xp G.mb,.agg #[c.row,c.fam,c.qual,xu c.ts,c.val],xh] W2 (LooP G ⟨W2,l,0,0,0,cnt,c,[],d,ks,0,0,0,none,N,0,0⟩ v)):=
    yP2 G ⟨W2,l,0,0,0,cnt,c,[],d,ks,0,0,0,none,N,0,0⟩ v 0 HOk.2.1 hd (zero_le _) 0 HOk.2.2.1 rfl HOk.2.2.2.1 HOk.1 HW2.1.mc (HOk.2.2.2.2.1 c (mem_of_getElem? hc)) (λi b hi=>by simp at hi)
   clear hc hd ho hn a1;by_cases hc1:cp=1
   .subst hc1;obtain rfl:r=0:=by omega
    gi_wp2;rw[<-a0];clear a0 x0 x1 x2 x3 x4;generalize hsv:Value.slice (some ⟨b,o,none⟩) 0 0=sv;have HSv:Hid (SvI b off M (i+1) sv):=⟨o,0,0,hsv.symm,qw HRn.out,by omega,by omega,λq=>by omega⟩;clear hsv;as_aux_lemma=>exact zMvL
   .gi_wp2;rw[<-a0];clear a0 x0 x1 x2 x3 x4;generalize hsv:Value.slice (some ⟨b,o+5,none⟩) r (cp-1)=sv;have HSv:Hid (SvI b off M (i+1) sv):=⟨o+5,r,cp-1,hsv.symm,qw HRn.out,by omega,by omega,λq=>qw a6.out⟩;clear hsv;as_aux_lemma=>exact zMvL
  .obtain rfl:n=0:=by omega
   have HF:Hid (∃ks v,J M ks v wr):=by
    have a4:i=M:=by omega
    subst a4;exact⟨ks,v,HJ.2⟩
   gi_wp2;go_end0;exact⟨⟨_,rfl⟩,HF.out⟩
theorem xA2:∀(vs L:List Value),vs.length=L.length->setL L 0 vs=vs:=λvs L h=>by
 apply ext_getElem?
 intro j
 rw[yIv]
 by_cases hj:j<L.length
 .rw[if_pos ⟨zero_le _,qo,hj⟩,Nat.sub_zero]
 .rw[if_neg qo,getElem?_eq_none qo,getElem?_eq_none qo]
theorem yZ3 {g ty:Nat} (h:yFj W base g cap ks):∃W2,(Builtin.clear_ #[227] ty #[xg g ks.length cap]).run prog W=.ok (.tuple #[]) W2/\yFj W2 base g cap (List.replicate ks.length newC)/\Chg (λq=>q=g) W W2:=by
 cases hn:ks.length with
 |zero=>
  obtain rfl:ks= []:=length_eq_zero_iff.1 hn;refine⟨W,?_,h,Chg.refl _ _⟩;simp[Builtin.clear_,run_underlying underlying227]
 |succ n=>
  obtain⟨ig,a2,g1,g2,g3⟩:=info_parts Tryz.infoKc;have hf:∀x:Ctr,(Ctr.kc x).length=4:=λ_=>rfl;have hz:(Builtin.zeroCells (Value.agg #[xe,xe,xe,xi 0]).cells (n+1)).toList=(List.replicate (n+1) newC).flatMap Ctr.kc:=by have:=yU7 hf (by decide) newC (Value.agg #[xe,xe,xe,xi 0]).cells rfl (n+1);rw[<-this];rfl
  have hl:((List.replicate (n+1) newC).flatMap Ctr.kc).length=(n+1)*4:=by rw[yCk hf,length_replicate]
  have a1:(ks.flatMap Ctr.kc).length=(n+1)*4:=by rw[yCk hf,hn]
  have a0:=run_storeCells_cells (P:=prog) g 0 ((List.replicate (n+1) newC).flatMap Ctr.kc) 0 W (λj hj=>by
    rw[hl]at hj
    obtain⟨x,hx⟩:∃x,ks[j/4]?=some x:=qg (by omega)
    have h9:=h.cell hf hx (j%4) (mod_lt _ (by decide))
    rw[show j/4*4+j%4=0+0+j by omega]at h9
    rw[h9,getElem?_eq_getElem (by rw[hf];exact mod_lt _ (by decide))];rfl) (λj _=>World.ownsRow.frozenAt h _) (λv hv=>by
    obtain⟨x,hx,hv⟩:=mem_flatMap.1 hv
    rw[eq_of_mem_replicate hx]at hv
    simp[Ctr.kc]at hv
    rcases hv with rfl|rfl|rfl|rfl<;>rfl)
  rw[Nat.add_zero,yG]at a0;refine⟨_,?_,?_,yAl (S:=λq=>q=g) g rfl ((List.replicate (n+1) newC).flatMap Ctr.kc) 0 W⟩
  .simp[Builtin.clear_,run_underlying underlying227,zeroValue,typeInfo,a2,g1,hz,a0]
  .have h1:=yBu (sz:=4) (ty:=240) (base:=base) (g:=g) (n:=ks.length) (v:=(xg g ks.length cap)) rfl ⟨cap,rfl⟩ ((List.replicate (n+1) newC).flatMap Ctr.kc) 0 W (ks.flatMap Ctr.kc) h;rw[xA2 _ _ (by rw[hl,a1]),hn]at h1;unfold yFj OwnG;rw[length_replicate];exact h1
theorem McI.fresh {l:List Ix} {v:Value} {W2:World} (h:McI G N ks v W) (hO:MaOk G l) (hK:yFj W2 G.base G.g G.cap (List.replicate ks.length newC)) (hc:Chg (λq=>q=G.g) W W2):McI G N (List.replicate G.nk newC) v W2:=by obtain⟨m,hm⟩:=h.stk;rw[h.len]at hK;refine⟨h.chg.trans (hc.mono (λq z=>by subst z;exact hO.gS)),hO.ti _ W W2 h.ti hc (λq z=>.inl z),hK,length_replicate,λk hk=>by rw[eq_of_mem_replicate hk];exact yZz,h.box.chg hc (λq=>hO.gm q.symm),⟨m,yAh hm hc (λk hk q=>?_)⟩⟩;have:=(World.ownsRow.lt hm k hk).1;have:=hO.gl;omega
structure LoS (G:MchG) (N:Nat) (es:List Ent) (bs:List Bool) (pm pr pd b off cap:Nat) (ca:Option Addr) (cc:Nat) (ks:List Ctr) (v:Value) (W:World):Prop where
 mc:McI G N ks v W
 bm:(xk W pm 0 (xp G.mb):Prop)
 br:(xk W pr 0 (.slice (some ⟨b,off,none⟩) es.length cap):Prop)
 bd:(xk W pd 0 (.slice ca bs.length cc):Prop)
 sl:CSl W b off cap es
 cd:∀(i:Nat) (x:Bool),bs[i]?=some x->∃bc oc,ca=some ⟨bc,oc,none⟩/\xk W bc (oc+i) x/\bc<W.heap.size/\¬bc=G.g/\¬G.T bc/\¬v.ownBlock=some bc
variable {bs:List Bool}
theorem LoS.on {l:List Ix} {pm pr pd off:Nat} {ca:Option Addr} {cc:Nat} {v:Value} (h:LoS G N es bs pm pr pd b off cap ca cc ks v W) (hO:MaOk G l) (hb:Below W W W'):LoS G N es bs pm pr pd b off cap ca cc ks v W':=
 ⟨h.mc.on hO hb,by rw[yDj hb h.bm];exact h.bm,by rw[yDj hb h.br];exact h.br,by rw[yDj hb h.bd];exact h.bd,h.sl.below hb,λi x hx=>by
  obtain⟨bc,oc,h1,h2,h3,h4⟩:=h.cd i x hx
  exact⟨bc,oc,h1,by rw[yDj hb h2];exact h2,Nat.lt_of_lt_of_le h3 hb.size,h4⟩⟩
theorem zLoF (h:p:=by
 have HSS:Hid (∀X,yA X wo 181 4 w3 [al,st,xi hr,ht]->yA X wo 70 5 wo c.five->(λw':World=>xk w' w3 0 al/\xk w' w3 1 st/\xk w' w3 2 (xi hr)/\xk w' w3 3 ht/\xk w' wo 0 c.row/\xk w' wo 1 c.fam/\xk w' wo 2 c.qual/\xk w' wo 3 (xu c.ts)/\xk w' wo 4 c.val/\xk w' w3 0 al) X):=λX h k=>
  ⟨h.cell (j:=0) rfl,h.cell (j:=1) rfl,h.cell (j:=2) rfl,h.cell (j:=3) rfl,k.cell (j:=0) rfl,k.cell (j:=1) rfl,k.cell (j:=2) rfl,k.cell (j:=3) rfl,k.cell (j:=4) rfl,h.cell (j:=0) rfl⟩
 have HI5:Hid (yA wY.drew wo 181 4 w3 [al,st,xi hr,ht]/\yA wY.drew wo 70 5 wo c.five/\Below w3 w3 wY.drew):=by have kd:Below wY wY wY.drew:=(Below.refl _ _).drew;exact⟨HI4.1.below kd,HI4.2.1.below kd,HI4.2.2.trans (kd.mono HI4.2.2.size)⟩
 have hS0:=HSS.out _ HI5.1 HI5.2.1;refine yD8 [6,7] (λw':World=>xk w' w3 0 al/\xk w' w3 1 st/\xk w' w3 2 (xi hr)/\xk w' w3 3 ht/\xk w' wo 0 c.row/\xk w' wo 1 c.fam/\xk w' wo 2 c.qual/\xk w' wo 3 (xu c.ts)/\xk w' wo 4 c.val/\xk w' w3 0 al) (by kernel_rfl) ?_;generalize wY.drew=WD at HI5 hS0⊢;refine yK8 0 rfl hS0 ?_;refine yK8 1 rfl hS0 ?_;refine yK8 2 rfl hS0 ?_;refine yK8 4 rfl hS0 ?_;refine yK8 5 rfl hS0 ?_;refine yEr (i:=3) (by kernel_rfl) rfl (λK hK=>?_);go_simp;refine⟨trivial,(callsIn_wide.2 (HSh.out WD)).mono ?_⟩;rintro e w5 ⟨rfl,hb5⟩;have hS5:=HSS.out _ (HI5.1.below hb5) (HI5.2.1.below hb5);obtain⟨fn,tmps,assign,body,hy,hRy⟩:=HYs.out w5 (HI5.2.2.trans (hb5.mono HI5.2.2.size));refine hK.out _ _ (.inr hS5) ?_;clear hK hS0 hb5;refine jS ?_;refine yEr (i:=6) (by kernel_rfl) rfl (λK hK=>?_);go_simp;refine hRy.mono ?_;rintro e W9 (⟨rfl,hJ9⟩|⟨rfl,hJ9⟩)
 .have HJ9:Hid (J (i+1) ks' v' W9):=hJ9;refine hK.out _ _ (.inl (by decide)) ?_;clear hK hS5 hJ9 hRy hy;refine jS ?_;refine yEr (i:=7) (by kernel_rfl) rfl (λK hK=>?_);go_simp;refine hK.out _ _ (.inl (by decide)) ?_;clear hK;refine jS ?_;refine yKw (by kernel_rfl) ?_;gi_wp2;go_roundw;case rel=>exact⟨i+1,ks',v',by omega,by go_num,HJ9.out⟩
  case measure=>simp[intOf];omega
 .have HJ9:Hid (Jx W9):=hJ9;refine hK.out _ _ (.inl (by decide)) ?_;clear hK hS5 hJ9 hRy hy;refine jS ?_;refine yEr (i:=7) (by kernel_rfl) rfl (λK hK=>?_);go_simp;refine hK.out _ _ (.inl (by decide)) ?_;clear hK;refine jS ?_;refine yKw (by kernel_rfl) ?_;gi_wp2;refine bodyPost_ret (results_none rfl _ _ _) rfl ?_;exact⟨⟨_,rfl⟩,.inr HJ9.out⟩):p:=h
theorem yV (G:MchG) (l:List Ix) (N:Nat) (es:List Ent) (bs:List Bool) (nc:Nat) (pm pr pd b off cap:Nat) (ca:Option Addr) (cc:Nat) (hN0:es.length<=10000) (hO:MaOk G l) (hg:yBe l cnt nc) (hnc:nc<=bs.length) (hN:N=l.length) (hnk:(G.nk:Int)=cnt) (hrow:∀c∈es,¬c.row=⟨#[]⟩) (lY m:Nat) (hm:1<=m) (J:Nat->List Ctr->Value->World->Prop) (Jx:World->Prop)
  (hY:∀i c it ks ks' v v' W0 W',J i ks v W0->es[i]?=some c->LkR pfxB l c bs ⟨0,[newI],ks⟩ (it,ks')->McI G N ks' v' W'->Chg (λq=>q=G.g∨q=G.mb∨G.T q∨v.ownBlock=some q) W0 W'->(v'.ownBlock=v.ownBlock∨∃k,v'.ownBlock=some k/\W0.heap.size<=k)->
   YieldAt Fence.wide (m-1) prog lY #[(yB it c).c,it.alive] W' λe W''=>(e=.returned true/\J (i+1) ks' v' W'')∨(e=.returned false/\Jx W''))
  (hJr:∀i ks v W,J i ks v W->LoS G N es bs pm pr pd b off cap ca cc ks v W) (W:World) ks0 (v0:Value) (hW:LoS G N es bs pm pr pd b off cap ca cc ks0 v0 W)
  (h0:∀W2,McI G N (List.replicate G.nk newC) v0 W2->Chg (λq=>q=G.g) W W2->J 0 (List.replicate G.nk newC) v0 W2):
  CallsIn Fence.wide m prog 200 #[.func (.yield lY) #[] #[],ptB pm,ptB pr,ptB pd] W λe W'=>(∃v,e=.returned v)/\((∃ks v,J es.length ks v W')∨Jx W'):=by
 obtain⟨M,hM⟩:=qE es.length;obtain⟨nb,ag⟩:=qE bs.length;have HM:Hid (M=es.length):=hM;have HR:Hid (∀i ks v W,J i ks v W->LoS G N es bs pm pr pd b off cap ca cc ks v W):=hJr;obtain⟨W2,aj,ak,ae⟩:=yZ3 (ty:=0) hW.mc.ctr;have a8:Hid (J 0 (List.replicate G.nk newC) v0 W2):=h0 _ (hW.mc.fresh hO ak ae) ae;rw[hW.mc.len]at aj;have b0:=(HR.out _ _ _ _ a8.out).br;have a0:=hW.bm;have a1:=hW.mc.box.cell (j:=1) rfl;have av:=(HR.out _ _ _ _ a8.out).sl.len;have az:cap<=9223372036854775807:=by have:=(HR.out _ _ _ _ a8.out).sl.cap;unfold maxLen at this;omega
 rw[<-hM]at hN0 av b0⊢
 have HY:Hid (∀i c it ks ks' v v' W0 W',J i ks v W0->es[i]?=some c->LkR pfxB l c bs ⟨0,[newI],ks⟩ (it,ks')->McI G N ks' v' W'->Chg (λq=>q=G.g∨q=G.mb∨G.T q∨v.ownBlock=some q) W0 W'->(v'.ownBlock=v.ownBlock∨∃k,v'.ownBlock=some k/\W0.heap.size<=k)->
   YieldAt Fence.wide (m-1) prog lY #[(yB it c).c,it.alive] W' λe W''=>(e=.returned true/\J (i+1) ks' v' W'')∨(e=.returned false/\Jx W'')):=hY
 have a2:Hid (MaOk G l/\yBe l cnt nc/\N=l.length/\(G.nk:Int)=cnt/\(∀c∈es,¬c.row=⟨#[]⟩)/\nc<=bs.length/\nb=bs.length):=⟨hO,hg,hN,hnk,hrow,hnc,ag⟩;clear hM h0 hJr hY hO hg hN hnk hrow hnc hW ak ae ag;refine callsIn_of_wp func200 rfl trivial ?_ rfl;simp only[ntmps200,size_toArray,length_cons,length_nil,Nat.reduceAdd,Nat.reduceSub,Array.replicate_succ,Array.replicate_zero,push_toArray,append_toArray,nil_append,cons_append];gi_wp2;clear aj a0 a1 b0;gi_loopw [14] (λiv wr=>∃(i:Nat) (ks:List Ctr) (v:Value),i<=M/\iv=(xi i)/\Hid (J i ks v wr)) (λiv _=>M-(intOf iv).toNat);case atStart=>exact⟨0,_,v0,zero_le _,rfl,a8.out⟩
 case round=>
  obtain⟨i,ks,v,ay,rfl,HJ⟩:=hrel;by_cases hlt:i<M
  .have zi:(i:Int)<(M:Int):=by omega
   obtain⟨c,hc⟩:∃c,es[i]?=some c:=qg (qw HM.out);have HC:Hid (es[i]?=some c):=hc;obtain⟨wo,an⟩:=qW wr;subst an;obtain⟨x0,x1,x2,x3,x4⟩:=(HR.out _ _ _ _ HJ.out).sl.at_ i c hc;obtain⟨W2,a7⟩:=qW (xw wo #[c.row,c.fam,c.qual,xu c.ts,c.val] 70);have a3:Hid (LoS G N es bs pm pr pd b off cap ca cc ks v W2/\yA W2 wo 70 5 wo c.five/\Below wo wo W2):=by
    have k2:=qN a7
    have hs:=HR.out _ _ _ _ HJ.out;exact⟨hs.on a2.1 k2,by rw[a7];exact yAa wo _ qr rfl,k2⟩
   have y0:=(HR.out _ _ _ _ HJ.out).bm;have y1:=(HR.out _ _ _ _ HJ.out).bd;rw[<-a2.2.2.2.2.2.2]at y1;have ao:pm<wo.heap.size:=yHy y0;have aq:pd<wo.heap.size:=yHy y1;obtain⟨d,hd⟩:=yIz a2.2.1
   have am:Hid (Calls prog 104 #[xp G.mb,.agg #[c.row,c.fam,c.qual,xu c.ts,c.val],.slice ca nb cc] W2 (LooP G ⟨W2,l,0,0,0,cnt,c,bs,d,ks,0,0,0,ca,N,0,nb⟩ v)):=
    yP2 G ⟨W2,l,0,0,0,cnt,c,bs,d,ks,0,0,0,ca,N,0,nb⟩ v nc a2.2.1 hd a2.2.2.2.2.2.1 cc a2.2.2.1 a2.2.2.2.2.2.2 a2.2.2.2.1 a2.1 a3.1.mc (a2.2.2.2.2.1 c (mem_of_getElem? hc)) a3.1.cd
   clear hc hd;gi_wp2;rw[<-a7];clear a7 x0 x1 x2 x3 x4 y0 y1 ao aq;refine⟨trivial,(callsIn_wide.2 am.out).mono ?_⟩;rintro e w3 ⟨it,ks',v',hlk,rfl,ah,ad,af⟩;have H3:Hid (LkR pfxB l c bs ⟨0,[newI],ks⟩ (it,ks')/\McI G N ks' v' w3/\Chg (λq=>q=G.g∨q=G.mb∨G.T q∨v.ownBlock=some q) W2 w3/\(v'.ownBlock=v.ownBlock∨∃k,v'.ownBlock=some k/\W2.heap.size<=k)):=⟨hlk,ah,ad,af⟩;have a4:yA w3 wo 70 5 wo c.five:=by
    refine a3.2.1.chg ad (λq=>?_);have hs:=HR.out _ _ _ _ HJ.out;have hz:=hs.mc.chg.size;have h1:=a2.1.gl;have h2:=a2.1.ml;rcases q with q|q|q|q
    .omega
    .omega
    .have:=a2.1.tl _ q;omega
    .obtain⟨mm,ar⟩:=hs.mc.stk;have:=(World.ownsRow.lt ar _ q).2;omega
   have aw:Hid (yA w3 wo 70 5 wo c.five):=a4;obtain⟨d0,d1,d2,d3,d4⟩:=a4.c5;have ax:wo.heap.size<w3.heap.size:=a4.lt.2;obtain⟨x',a9⟩:=qE (yB it c);have HYs:Hid (∀X,Below w3 w3 X->YieldAt Fence.wide (m-1) prog lY #[.agg #[x'.row,x'.fam,x'.qual,xu x'.ts,x'.val],it.alive] X λe W''=>(e=.returned true/\J (i+1) ks' v' W'')∨(e=.returned false/\Jx W'')):=λX hb=>by rw[a9];refine HY.out i c it ks ks' v v' wo X HJ.out HC.out H3.1 (H3.2.1.on a2.1 hb) (((Chg.of_below a3.2.2).trans H3.2.2.1).trans (Chg.of_below hb)) (H3.2.2.2.imp (λq=>q) (fun⟨k,k1,k2⟩=>⟨k,k1,qw a3.2.2.size⟩))
   have HSh:Hid (∀X,(xf 106 #[.agg #[it.alive,it.strip,xi it.hint.rank,it.hint.txt],.agg #[c.row,c.fam,c.qual,xu c.ts,c.val]] X (.agg #[x'.row,x'.fam,x'.qual,xu x'.ts,x'.val]):Prop)):=λX=>by rw[a9];exact yJf it c X
   clear hlk ah ad af am a4 a9;obtain⟨al,a5⟩:=qE it.alive;obtain⟨st,aa⟩:=qE it.strip;obtain⟨hr,ac⟩:=qE it.hint.rank;obtain⟨ht,ab⟩:=qE it.hint.txt;have ai:it.v=.agg #[al,st,xi hr,ht]:=by rw[a5,aa,ac,ab]
   rw[<-a5,<-aa,<-ac,<-ab]at HSh;rw[<-a5]at HYs;rw[ai];clear a5 aa ac ab ai;obtain⟨W4,a6⟩:=qW (xw w3 #[al,st,xi hr,ht] 181);have HI4:Hid (yA W4 wo 181 4 w3 [al,st,xi hr,ht]/\yA W4 wo 70 5 wo c.five/\Below w3 w3 W4):=by
    have k4:=qN a6
    exact⟨by rw[a6];exact yAa w3 _ (by omega) rfl,aw.below k4,k4⟩
   gi_wp2;rw[<-a6];clear a6 d0 d1 d2 d3 d4;generalize W4=wY at HI4⊢;exact zLoF
  .have zi:¬(i:Int)<(M:Int):=by omega
   have HF:Hid (∃ks v,J M ks v wr):=by
    have au:i=M:=by omega
    subst au;exact⟨ks,v,HJ.out⟩
   gi_wp2;go_end0;exact⟨⟨_,rfl⟩,.inl HF.out⟩
section
abbrev vwD (d:Md):Int×List Ix:=((d.nk:Int),d.l)
structure PrG where
 W0:World
 tb:Nat
 B:Nat
 NM:Nat
 Ts:List Tt
 all:List Md
 ds:List Md
 a:Option Addr
 n:Nat
 c:Nat
 base:Nat
structure PrO (G:PrG):Prop where
 mds:MdsA G.tb G.B G.NM G.Ts G.all G.W0
 sub:∀d∈G.ds,d∈G.all
 good:∀(k:Nat) (d:Md),G.ds[k]?=some d->yBe d.l (d.nk:Int) k
 n:G.n=G.ds.length
 n2:G.n<=200
 tbl:G.tb<=G.W0.heap.size
 rt:∀q,(Value.slice G.a G.n G.c).ownBlock=some q->∀X∈G.Ts,X.t<q∨q<X.lo
abbrev PrG.pg (G:PrG) (W:World):Prop:=∃kf vf,PgI G.W0 G.tb G.Ts G.all kf vf W
abbrev PrG.pd (G:PrG) (d:Md) (ks:List Ctr) (v:Value) (W:World):Prop:=PgD G.W0 G.tb G.Ts G.all d ks v W
abbrev PrG.qu (G:PrG) (W:World) (q:Nat):Prop:=QuB G.W0 G.Ts G.all W q
abbrev PrG.rm (G:PrG) (W:World):Prop:=RowM W G.base (.slice G.a G.n G.c) G.ds
abbrev PrG.mch (G:PrG) (d:Md):MchG:=yN2 G.W0 G.tb G.Ts G.all d
section
variable {G:PrG} {W W':World} {q t:Nat}
theorem PrO.noT (hG:PrO G) (hq:G.W0.heap.size<=q) (ht:ObT t W q) (hne:¬181=t):¬G.qu W q:=QuB.noT hG.mds hq ht hne
theorem PrO.noB (hG:PrO G) {sz g:Nat} {vs:List Value} (h:yA W base t sz g vs) (hq:G.W0.heap.size<=g) (hne:¬181=t):¬G.qu W g:=hG.noT hq (yAk h rfl) hne
variable {o:Obj}
theorem PrO.noO (hG:PrO G) (hq:G.W0.heap.size<=q) (ho:W.heap[q]?=some o) (hc:o.isCells=false):¬G.qu W q:=QuB.noO hG.mds hq ho hc
theorem PrO.old (hG:PrO G) (hq:q<G.tb):¬G.qu W q:=QuB.old hG.mds hq hG.tbl
theorem PrO.rmQ (hG:PrO G) (hp:G.pg W) (hm:G.rm W):∀k,(Value.slice G.a G.n G.c).ownBlock=some k->¬G.qu W k:=λk hk z=>by
 obtain⟨kf,vf,hI⟩:=hp
 rcases z with(z|⟨d,hd,z|z⟩)|z
 .exact hG.mds.noT (λX hX=>(hG.rt k hk X hX).symm) z
 .exact yAb hm (hI.mc d hd).ctr qj k hk (by rw[z];rfl)
 .exact yAb hm (hI.mc d hd).box qj k hk (by rw[z];rfl)
 .exact absurd (z.2.one (yAk hm hk)) qj
theorem PrO.rmOn (hG:PrO G) (hp:G.pg W) (hm:G.rm W) (hc:Chg (G.qu W) W W'):G.rm W':=yAh hm hc (hG.rmQ hp hm)
theorem PrO.rmTy (hm:G.rm W) (hk:(Value.slice G.a G.n G.c).ownBlock=some k) (ht:ObT t W k):94=t:=(yAk hm hk).one ht
variable {d:Md}
theorem PrO.mcq (hG:PrO G) (hd:d∈G.all) {v:Value} {A B:World} (h:McI (G.mch d) d.N ks v A) (hc:Chg (λq=>q=d.g∨q=d.mb∨TqB G.Ts q∨v.ownBlock=some q) A B):Chg (G.qu A) A B:=hc.mono (λq z=>McI.qu hd h q z)
theorem PrO.turn (hG:PrO G) {l:Nat} {o:Obj} (hp:G.pg W) (hc:Chg (λq=>q=l) W W') (hl:G.W0.heap.size<=l) (hn:¬ObT 181 W l):G.pg W':=by obtain⟨kf,vf,hI⟩:=hp;exact⟨kf,vf,hI.turn hG.mds hc (λq z=>.inr (by subst z;exact⟨hl,hn⟩))⟩
end
theorem yBb {t:Nat} {q:Nat} {o:Obj} (ho:W.heap[q]?=some o) (hc:o.isCells=false):¬ObT t W q:=λz=>z.not ho hc
theorem yF6 {t t':Nat} {q:Nat} (h:ObT t' W q) (hne:¬t=t'):¬ObT t W q:=λz=>hne (z.one h)
theorem yF1.put {g:Nat} (h:yF1 w base g cap bs) (hi:i<bs.length) (x:Bool):yF1 (xt w g i x) base g cap (bs.set i x):=by have h9:=h.setAll yOu (e:=x) hi;rw[Nat.mul_one]at h9;exact h9
def MkO (B:Nat) (Ds:List Nat) (W:World):Prop:=Ds.Nodup/\∀D∈Ds,B<=D/\W.heap[D]?=some (.deferred (some []))
abbrev mkD (D:Nat):Deferred:={target:=.collected D,args:=#[]}
variable {Ds:List Nat}
theorem MkO.on {B:Nat} {S:Nat->Prop} (h:MkO B Ds W) (hc:Chg S W W') (hS:∀D∈Ds,¬S D):MkO B Ds W':=⟨h.1,λD hD=>⟨(h.2 D hD).1,by rw[hc.block D (Array.getElem?_eq_some_iff.1 (h.2 D hD).2).1 (hS D hD)];exact(h.2 D hD).2⟩⟩
variable {F:Fence}
theorem yIc {fn:Func} {v:Value} (hr:∀W,(results fn tmps).run prog W=.ok v W):
  ∀(Ds:List Nat) (W:World) (B:Nat),MkO B Ds W->(∀W',Chg (λq=>q∈Ds) W W'->R (.returned v) W')->LeavesInM F n prog fn tmps R (Ds.map mkD) .returning W:=by
 intro Ds;induction Ds with
 |nil=>exact λW B hm h=>⟨v,hr W,h W (Chg.refl _ _)⟩
 |cons D Ds ih=>
  intro W B hm h;refine⟨by simp,.inl ⟨D,W.putObj D (.deferred none),rfl,run_takeDeferred (hm.2 D (by simp)).2,ih _ B ?_ ?_⟩⟩
  .have a0:=List.nodup_cons.1 hm.1;refine MkO.on (S:=λq=>q=D) ⟨a0.2,λD' hD'=>hm.2 D' (by simp[hD'])⟩ (yAt _ _ _) (λD' hD' q=>by subst q;exact a0.1 hD')
  .intro W' hc;exact h W' (((yAt W D _).mono (λq z=>by simp[z])).trans (hc.mono (λq z=>by simp[z])))
structure DcG extends PrG where
 w:World
 es:List Ent
 b:Nat
 off:Nat
 cap:Nat
 mb:Nat
 gc:Nat
 bb:Nat
 bs0:List Bool
structure DcO (D:DcG):Prop where
 pr:PrO D.toPrG
 es:D.es.length<=10000
 row:∀c∈D.es,¬c.row=⟨#[]⟩
 b:D.b<D.tb
 gcl:D.W0.heap.size<=D.bb
 bs:D.bs0.length=D.n
 le:D.W0.heap.size<=D.w.heap.size
structure DcJ (D:DcG) (k:Nat) (bsd:List Bool) (Ds:List Nat) (wr:World):Prop where
 pgm:yA wr D.w 96 2 D.w [.slice D.a D.n D.c,ptB D.mb]
 cbx:yA wr D.w 118 1 (D.w+1) [xg D.gc D.n D.n]
 pg:D.pg wr
 rm:D.rm wr
 sl:CSl wr D.b D.off D.cap D.es
 bl:yF1 wr D.bb D.gc D.n (bsd++D.bs0.drop k)
 gcw:D.gc<D.w.heap.size
 len:bsd.length=k
 chg:Chg (λq=>q=D.gc∨D.qu D.w q) D.w wr
 mks:MkO D.w Ds wr
 kn:k<=D.n
section
variable {D:DcG} {k:Nat} {bsd:List Bool} {Ds:List Nat} {wr W:World}
theorem DcJ.gcq (hD:DcO D) (h:DcJ D k bsd Ds wr):¬D.qu wr D.gc:=hD.pr.noT (Nat.le_trans hD.gcl h.bl.lt.1) (yAk h.bl rfl) qj
theorem DcJ.quiet (hD:DcO D) (h:DcJ D k bsd Ds wr) (hc:Chg (D.qu wr) wr W) (hp:D.pg W):DcJ D k bsd Ds W:=by
 have a0:=hD.le
 exact {h with
  pgm:=h.pgm.chg hc (hD.pr.noB h.pgm a0 qj)
  cbx:=h.cbx.chg hc (hD.pr.noB h.cbx qo qj)
  pg:=hp
  rm:=hD.pr.rmOn h.pg h.rm hc
  sl:=h.sl.chg hc (hD.pr.old hD.b)
  bl:=h.bl.chg hc (h.gcq hD)
  chg:=xBe h.chg (hc.mono (λq z=>.inr z))
  mks:=h.mks.on hc (λE hE=>hD.pr.noO (qw ((h.mks.2 E hE).1)) (h.mks.2 E hE).2 rfl)}
theorem DcJ.on (hD:DcO D) (h:DcJ D k bsd Ds wr) (hb:Below wr wr W):DcJ D k bsd Ds W:=by obtain⟨kf,vf,hI⟩:=h.pg;exact h.quiet hD (Chg.of_below hb) ⟨kf,vf,hI.turn hD.pr.mds (Chg.of_below hb (S:=λ_=>False)) (λq z=>z.elim)⟩
theorem DcJ.put (hD:DcO D) (h:DcJ D k bsd Ds wr) {bsd':List Bool} {k':Nat} {x:Bool} (hi:i<D.n) (hb:(bsd++D.bs0.drop k).set i x=bsd'++D.bs0.drop k') (hk:bsd'.length=k') (hkn:k'<=D.n):DcJ D k' bsd' Ds (xt wr D.gc i x):=by
 have hc:=Chg.of_set (S:=λq=>q=D.gc) wr D.gc i x rfl;have ht:=yAk h.bl rfl;have a1:=Nat.le_trans hD.gcl h.bl.lt.1;have a0:(bsd++D.bs0.drop k).length=D.n:=by rw[length_append,length_drop,hD.bs,h.len];have:=h.kn;omega
 exact {h with
  pgm:=h.pgm.chg hc (λq=>absurd (yAk h.pgm rfl) (yF6 (by rw[q];exact ht) qj))
  cbx:=h.cbx.chg hc (λq=>absurd (yAk h.cbx rfl) (yF6 (by rw[q];exact ht) qj))
  pg:=hD.pr.turn (o:=default) h.pg hc a1 (yF6 ht qj)
  rm:=yAh h.rm hc (λj hj q=>absurd (PrO.rmTy (t:=4) h.rm hj (by rw[q];exact ht)) qj)
  sl:=h.sl.chg hc (λq=>qv hD.b hD.pr.tbl)
  bl:=by rw[<-hb];exact h.bl.put (by rw[a0];exact hi) x
  len:=hk
  kn:=hkn
  chg:=h.chg.trans (hc.mono (λq z=>.inl z))
  mks:=h.mks.on hc (λE hE q=>ht.not (by rw[<-q];exact(h.mks.2 E hE).2) rfl)}
end
end
section
theorem yL5 {l:List Ix} {nc:Nat} (h:yBe l cnt nc) {b b':List Bool} (hb:∀i,i<nc->b[i]?=b'[i]?) {row:List Ent} {o:List Ent} (hk:RowR l b row cs o):RowR l b' row cs o:=by
 induction hk with
 |nil cs=>exact .nil cs
 |cons h1 _ ih=>exact .cons (yZ h hb h1) ih
theorem DcJ.obj {D:DcG} {bsd:List Bool} {Ds:List Nat} (hD:DcO D) (h:DcJ D k bsd Ds wr) {l:Nat} {o:Obj} (hl:D.w.heap.size<=l) (ho:wr.heap[l]?=some o) (hc:o.isCells=false) (hn:∀E∈Ds,¬E=l) (o':Obj):DcJ D k bsd Ds (wr.putObj l o'):=by
 have a0:=yAt wr l o';have a2:=hD.le;have a1:∀t,¬ObT t wr l:=λt=>yBb ho hc
 exact {h with
  pgm:=h.pgm.chg a0 (λq=>a1 _ (by rw[<-q];exact yAk h.pgm rfl))
  cbx:=h.cbx.chg a0 (λq=>a1 _ (by rw[<-q];exact yAk h.cbx rfl))
  pg:=hD.pr.turn (o:=default) h.pg a0 qo (a1 _)
  rm:=yAh h.rm a0 (λj hj q=>a1 _ (by rw[<-q];exact yAk h.rm hj))
  sl:=h.sl.chg a0 (λq=>by have:=hD.b;have:=hD.pr.tbl;omega)
  bl:=h.bl.chg a0 (λq=>a1 _ (by rw[<-q];exact yAk h.bl rfl))
  chg:=h.chg.absorb a0 (λq z=>.inr (by rw[z];exact hl))
  mks:=h.mks.on a0 (λE hE q=>hn E hE q)}
structure DrI (D:DcG) (k:Nat) (bsd:List Bool) (x:Bool) (Ds:List Nat) (mb pm kb l:Nat) (rec:Obj) (X:World):Prop where
 dc:DcJ D (k+1) (bsd++ [x]) Ds X
 bm:yA X D.w 94 1 pm [ptB mb]
 br:yA X D.w 26 1 (pm+1) [.slice (some ⟨D.b,D.off,none⟩) D.es.length D.cap]
 bd:yA X D.w 118 1 (pm+1+1) [xg D.gc D.n D.n]
 bk:yA X D.w 3 1 kb [xi k]
 rc:X.heap[l+1]?=some rec
 rb:rec.isCells=false
 mrk:X.heap[l]?=some (.deferred (some []))
 ll:D.w.heap.size<=l
 nd:∀E∈Ds,E<l
section
variable {D:DcG} {k:Nat} {bsd:List Bool} {x:Bool} {Ds:List Nat} {mb pm kb l:Nat} {rec:Obj} {X Y:World}
theorem DrI.quiet (hD:DcO D) (h:DrI D k bsd x Ds mb pm kb l rec X) (hc:Chg (D.qu X) X Y) (hp:D.pg Y):DrI D k bsd x Ds mb pm kb l rec Y:=by
 have a0:=hD.le;have a1:=h.ll
 exact {h with
  dc:=h.dc.quiet hD hc hp
  bm:=h.bm.chg hc (hD.pr.noB h.bm (Nat.le_trans a0 h.bm.lt.1) qj)
  br:=h.br.chg hc (hD.pr.noB h.br (Nat.le_trans a0 h.br.lt.1) qj)
  bd:=h.bd.chg hc (hD.pr.noB h.bd (Nat.le_trans a0 h.bd.lt.1) qj)
  bk:=h.bk.chg hc (hD.pr.noB h.bk (Nat.le_trans a0 h.bk.lt.1) qj)
  rc:=by rw[hc.block _ (Array.getElem?_eq_some_iff.1 h.rc).1 (hD.pr.noO qo h.rc h.rb)];exact h.rc
  mrk:=by rw[hc.block _ (Array.getElem?_eq_some_iff.1 h.mrk).1 (hD.pr.noO qo h.mrk rfl)];exact h.mrk}
variable {rec':Obj}
theorem DrI.put (hD:DcO D) (h:DrI D k bsd x Ds mb pm kb l rec X) (hb:rec'.isCells=false):DrI D k bsd x Ds mb pm kb l rec' (X.putObj (l+1) rec'):=by
 have a1:=yAt X (l+1) rec';have a0:∀t,¬ObT t X (l+1):=λt=>yBb h.rc h.rb;have a2:=h.ll
 exact {h with
  dc:=h.dc.obj hD qo h.rc h.rb (λE hE q=>by have:=h.nd E hE;omega) rec'
  bm:=h.bm.chg a1 (λq=>a0 _ (by rw[<-q];exact yAk h.bm rfl))
  br:=h.br.chg a1 (λq=>a0 _ (by rw[<-q];exact yAk h.br rfl))
  bd:=h.bd.chg a1 (λq=>a0 _ (by rw[<-q];exact yAk h.bd rfl))
  bk:=h.bk.chg a1 (λq=>a0 _ (by rw[<-q];exact yAk h.bk rfl))
  rc:=World.putObj_heap_same (Array.getElem?_eq_some_iff.1 h.rc).1
  rb:=hb
  mrk:=(World.putObj_heap_other qo).trans h.mrk}
theorem DrI.cond (hD:DcO D) (h:DrI D k bsd x Ds mb pm kb l rec X) (y:Bool):DrI D k bsd y Ds mb pm kb l rec (xt X D.gc k y):=by
 have a0:=Chg.of_set (S:=λq=>q=D.gc) X D.gc k y rfl;have ht:=yAk h.dc.bl rfl;have a1:bsd.length=k:=by have:=h.dc.len;simp at this;exact this
 have a2:=h.dc.kn
 exact {h with
  dc:=h.dc.put hD (i:=k) qo (by simp[set_append,a1]) (by simp[a1]) a2
  bm:=h.bm.chg a0 (λq=>absurd (yAk h.bm rfl) (yF6 (by rw[q];exact ht) qj))
  br:=h.br.chg a0 (λq=>absurd (yAk h.br rfl) (yF6 (by rw[q];exact ht) qj))
  bd:=h.bd.chg a0 (λq=>absurd (yAk h.bd rfl) (yF6 (by rw[q];exact ht) qj))
  bk:=h.bk.chg a0 (λq=>absurd (yAk h.bk rfl) (yF6 (by rw[q];exact ht) qj))
  rc:=by rw[a0.block _ (Array.getElem?_eq_some_iff.1 h.rc).1 (λq=>ht.not (by rw[<-q];exact h.rc) h.rb)];exact h.rc
  mrk:=by rw[a0.block _ (Array.getElem?_eq_some_iff.1 h.mrk).1 (λq=>ht.not (by rw[<-q];exact h.mrk) rfl)];exact h.mrk}
theorem DrI.los (hD:DcO D) (h:DrI D k bsd x Ds mb pm kb l rec X) {d:Md} (hd:d∈D.all) (hm:d.mb=mb) {v:Value} (hp:D.pd d ks v X):
  LoS (D.mch d) d.N D.es ((bsd++ [x])++D.bs0.drop (k+1)) pm (pm+1) (pm+1+1) D.b D.off D.cap (some ⟨D.gc,0,none⟩) D.n ks v X:=by
 have a0:=hp.mc hd;have a1:((bsd++ [x])++D.bs0.drop (k+1)).length=D.n:=by have h1:=h.dc.len;have h2:=h.dc.kn;rw[length_append,length_drop,hD.bs,h1];omega
 refine⟨a0,?_,h.br.cell (j:=0) rfl,by rw[a1];exact h.bd.cell (j:=0) rfl,h.dc.sl,λi y hy=>?_⟩
 .have:=h.bm.cell (j:=0) rfl;rw[<-hm]at this;exact this
 .have hq:=h.dc.gcq hD;have hz:=McI.qu hd a0 D.gc;refine⟨D.gc,0,rfl,h.dc.bl.get hy,h.dc.bl.lt.2,λq=>hq (hz (.inl q)),λq=>hq (hz (.inr (.inr (.inl q)))),λq=>hq (hz (.inr (.inr (.inr q))))⟩
end
theorem yZy (D:DcG) (hD:DcO D) {bsd:List Bool} {Ds:List Nat} {W2 W3:World} {d:Md} {kb:Nat} (H:DcJ D (k+1) (bsd++ [false]) Ds W2) (hd:D.ds[k]?=some d) (hkb:yA W2 D.w 3 1 kb [xi k])
  (hW3:W3=(xw ((W2.alloc (Obj.cells #[ptB d.mb] 94)).alloc (Obj.cells #[.slice (some ⟨D.b,D.off,none⟩) D.es.length D.cap] 26)) #[xg D.gc D.n D.n] 118))
  {g:Operand} {ps:Array Tmp} {assign body:Code} {Q:Exit->Act->World->Prop} {a:Act} (hg:a.eval g=.func (.func 200) #[] #[ptB W2,ptB (W2+1),ptB (W2+1+1)]) (hps:ps.size=2) (a₁:Value->Value->Act)
  (hassign:∀(l:Nat) (v1 v2:Value) (W:World) (K:Act->World->Prop),K (a₁ v1 v2) W->assign.wpIn (Fence.wide.inRound l) 7 prog (Exit.then K (λ_ _ _=>False)) {tmps:=(ps.zip #[v1,v2]).foldl (λt (p,v)=>t.setIfInBounds p v) a.tmps,defers:= []} W)
  (hbody0:∀(l:Nat) (v1:Value) (W:World),body.wpIn (Fence.wide.inRound l) 7 prog (λe _ W'=>e=.normal/\W'=W) (a₁ v1 false) W)
  (hbody1:∀(l:Nat) (v1:Value) (W:World),(xk W (D.w+1) 0 (xg D.gc D.n D.n):Prop)->(xk W kb 0 (xi k):Prop)->(xk W D.gc k (.bool false):Prop)->W.frozen? (xd D.gc k)=false->
   body.wpIn (Fence.wide.inRound l) 7 prog (λe _ W'=>e=.exit 2/\W'=(xt W D.gc k true)) (a₁ v1 true) W)
  (hQ:∀(e:Exit) (y:Bool) (o:List Ent) (W:World),(e=.normal∨e=.exit 2)->DcJ D (k+1) (bsd++ [y]) (W3.heap.size::Ds) W->RowR d.l bsd D.es (List.replicate d.nk newC) o->y=decide (0<o.length)->Q e {a with defers:=mkD W3.heap.size::a.defers} W):
  (Code.rangeFunc g ps assign body).wpIn Fence.wide 9 prog Q a W3:=by
 have a1:=hD.pr.sub d (mem_of_getElem? hd);have a5:=hD.pr.good k d hd;have aG:=(hD.pr.mds.md d a1).1;have aK:bsd.length=k:=by have:=H.len;simp at this;exact this
 have aR:=H.kn;have aQ:=hD.le;have aO:=ySw hD.pr.mds a1 (yJ9 a5 (by simp));have k3:Below W2 W2 W3:=by rw[hW3];exact((qB).alloc (by simp) _).alloc (by simp;omega) _
 have aP:W3.heap.size=W2.heap.size+1+1+1:=by rw[hW3];simp
 have aA:=H.chg.size;obtain⟨A1,ab⟩:=qE (W2.alloc (Obj.cells #[ptB d.mb] 94));obtain⟨A2,a7⟩:=qE (A1.alloc (Obj.cells #[.slice (some ⟨D.b,D.off,none⟩) D.es.length D.cap] 26));have e1:=qS ab
 have e2:A2.heap.size=W2.heap.size+1+1:=by rw[a7];simp[e1]
 rw[<-ab,<-a7]at hW3;have q1:=qN a7
 have q2:=qN hW3
 have bm:yA W3 D.w 94 1 W2 [ptB d.mb]:=by
  have:yA A1 D.w 94 1 W2 [ptB d.mb]:=by rw[ab];exact yAa W2 _ aA rfl
  exact(this.below q1).below q2
 have br:yA W3 D.w 26 1 (W2+1) [.slice (some ⟨D.b,D.off,none⟩) D.es.length D.cap]:=by
  have:yA A2 D.w 26 1 (W2+1) [.slice (some ⟨D.b,D.off,none⟩) D.es.length D.cap]:=by rw[<-e1,a7];exact yAa A1 _ qo rfl
  exact this.below q2
 have bd:yA W3 D.w 118 1 (W2+1+1) [xg D.gc D.n D.n]:=by rw[<-e2,hW3];exact yAa A2 _ qo rfl
 have ax:=hkb.below k3;have H3:=H.on hD k3;have aE:∀E∈Ds,E<W3.heap.size:=λE hE=>(Array.getElem?_eq_some_iff.1 (H3.mks.2 E hE).2).1;clear hW3 ab a7 q1 q2 e1 e2 H hkb k3;refine yGa hg (λargs w=>by simp[go_sem]) qj ?_;intro fn W1 aa;obtain⟨rec,a0⟩:∃rec:LoopState->Option Code->Obj,rec=rcL fn a.tmps ps assign body W3.heap.size:=⟨_,rfl⟩;have a8:∀s p,(rec s p).isCells=false:=λs p=>by rw[a0];rfl
 have k1:Below W3 W3 W1:=by rw[aa];exact(qB).alloc (by simp) _
 have ag:DrI D k bsd false Ds d.mb W2 kb W3 (rec .ready none) W1:=by
  refine⟨H3.on hD k1,bm.below k1,br.below k1,bd.below k1,ax.below k1,?_,a8 _ _,?_,H3.chg.size,aE⟩
  .rw[aa,a0];have:=World.alloc_heap_new (W3.alloc (.deferred (some []))) (rcL fn a.tmps ps assign body W3 .ready none);rwa [World.size_alloc]at this
  .rw[aa];exact(Below.heap_alloc _ _ _ (by simp)).trans (World.alloc_heap_new W3 _)
 clear bm br bd ax H3 aa k1;obtain⟨kf,vf,aN⟩:=ag.dc.pg;have af:D.pd d (kf d.mb) (vf d.mb) W1:=⟨kf,vf,aN,rfl,rfl⟩;obtain⟨a4,a9⟩:=qE ((bsd++ [false])++D.bs0.drop (k+1));have au:∀i,i<k->a4[i]?=bsd[i]?:=λi hi=>by rw[a9,append_assoc,getElem?_append_left qo]
 have aF:k<=a4.length:=by rw[a9];simp;omega
 have hN:=aG.len
 have aH:=yV (D.mch d) d.l d.N D.es a4 k W2 (W2+1) (W2+1+1) D.b D.off D.cap (some ⟨D.gc,0,none⟩) D.n hD.es aO a5 aF hN rfl hD.row (W3+1) 8 qj
  (λi ks v X=>DrI D k bsd false Ds d.mb W2 kb W3 (rec .ready none) X/\D.pd d ks v X/\∀o,RowR d.l a4 (D.es.drop i) ks o->RowR d.l a4 D.es (List.replicate d.nk newC) o)
  (λX=>DrI D k bsd true Ds d.mb W2 kb W3 (rec .done (some (.exit 2))) X/\∃o,RowR d.l a4 D.es (List.replicate d.nk newC) o/\0<o.length)
  ?hY (λi ks v X h=>by rw[a9];exact h.1.los hD a1 rfl h.2.1) W1 (kf d.mb) (vf d.mb) (by rw[a9];exact ag.los hD a1 rfl af) ?h0
 case h0=>intro W4 aI aM;have aw:Chg (λq=>q=d.g∨q=d.mb∨TqB D.Ts q∨(vf d.mb).ownBlock=some q) W1 W4:=aM.mono (λq z=>.inl z);have ao:=af.step hD.pr.mds a1 aI aw (.inl rfl);have aC:=hD.pr.mcq a1 (af.mc a1) aw;exact⟨ag.quiet hD aC (by obtain⟨a,b,c,_⟩:=ao;exact⟨a,b,c⟩),ao,λo ho=>ho⟩
 case hY=>
  rintro i c it ks ah v v' X0 X ⟨az,ac,ak⟩ hc aJ aq ae ai;have an:=ac.step hD.pr.mds a1 aq ae ai;have al:=hD.pr.mcq a1 (ac.mc a1) ae;have a6:=az.quiet hD al (by obtain⟨a,b,c,_⟩:=an;exact⟨a,b,c⟩);have aj:=RowR.step (out:= []) (λo ho=>by rw[nil_append];exact ak o ho) hc aJ;clear az ac ak aq ae ai al;have ad:=a6.rc;rw[a0]at ad;refine yD7 ad (by rw[hps];rfl) ?_;refine hassign _ _ _ _ _ ⟨ad,?_⟩;have a2:DrI D k bsd false Ds d.mb W2 kb W3 (rec .busy none) (X.putObj (W3+1) (rec .busy none)):=a6.put hD (a8 _ _);have ar:D.W0.heap.size<=W3.heap.size+1:=by have:=a6.ll;omega
  have am:D.pd d ah v' (X.putObj (W3+1) (rec .busy none)):=an.turn hD.pr.mds (yAt _ _ _) (λq z=>.inr ⟨by rw[z];exact ar,by rw[z];exact yBb a6.rc a6.rb⟩);rw[a0]at a2 am;cases hal:it.alive with
  |false=>
   refine wpIn_mono (hbody0 _ _ _) ?_;rintro e a3 X3 ⟨rfl,rfl⟩;refine⟨a2.rc,.inl ⟨rfl,?_,?_,?_⟩⟩
   .rw[a0];exact a2.put hD rfl
   .exact am.turn hD.pr.mds (yAt _ _ _) (λq z=>.inr ⟨by rw[z];exact ar,by rw[z];exact yBb a2.rc a2.rb⟩)
   .intro o ho;have:=aj o ho;rw[hal]at this;simpa using this
  |true=>
   have aL:(bsd++ [false]++D.bs0.drop (k+1))[k]?=some false:=by rw[append_assoc,getElem?_append_right qo,aK];simp
   have av:=a2.dc.bl.get aL;rw[Nat.zero_add]at av;refine wpIn_mono (hbody1 _ _ _ (a2.dc.cbx.cell (j:=0) rfl) (a2.bk.cell (j:=0) rfl) av (World.ownsRow.frozenAt a2.dc.bl k)) ?_;rintro e a3 X3 ⟨rfl,rfl⟩;have ay:=a2.cond hD true;refine⟨ay.rc,.inr ⟨rfl,?_,?_⟩⟩
   .rw[a0];exact ay.put hD rfl
   .obtain⟨o,ho⟩:=yYe a5 a4 (D.es.drop (i+1)) ah;have:=aj o ho;rw[hal]at this;exact⟨_,this,by simp⟩
 simp only[append_toArray,cons_append,nil_append];refine aH.mono ?_;rintro e X ⟨he,⟨ks,v,hI,hp,hr⟩|⟨hI,o,ho,aD⟩⟩
 .refine⟨he,.inl ⟨by have:=hI.rc;rwa [a0]at this,?_⟩⟩;have hI2:=hI.put hD (a8 .exhausted none);have aB:=hr [] (by rw[drop_eq_nil_of_le qr];exact .nil _);rw[a0]at hI2;refine hQ .normal false [] _ (.inl rfl) ?_ (yL5 a5 au aB) rfl;exact xGf
 .refine⟨he,.inr ⟨.exit 2,by have:=hI.rc;rwa [a0]at this,?_⟩⟩;have hI2:=hI.put hD (a8 .exhausted (some (.exit 2)));rw[a0]at hI2;refine wpIn_exit (hQ (.exit 2) true o _ (.inr rfl) ?_ (yL5 a5 au ho) (by simp[aD]));exact xGf
end
section
attribute [local go_sem] Oper.semAt_some
def DciP (D:DcG) (e:Ending) (W:World):Prop:=(∃v,e=.returned v)/\∃bs,CdR D.es (D.ds.map vwD) [] bs/\D.pg W/\yF1 W D.bb D.gc D.n bs/\Chg (λq=>q=D.gc∨D.qu D.w q) D.w W
theorem yTs (D:DcG) (hD:DcO D) (hp:D.pg D.w) (hm:D.rm D.w) (hsl:CSl D.w D.b D.off D.cap D.es) (hbl:yF1 D.w D.bb D.gc D.n D.bs0) (M:Nat) (hM:M=D.es.length):
  Calls prog 154 #[.agg #[.slice D.a D.n D.c,ptB D.mb],.slice (some ⟨D.b,D.off,none⟩) M D.cap,xg D.gc D.n D.n] D.w (DciP D):=by
 obtain⟨w,hw⟩:=qE D.w;obtain⟨n,hn⟩:=qE D.n;obtain⟨gc,a1⟩:=qE D.gc;obtain⟨W0,a0⟩:=qW (xw (w.alloc (Obj.cells #[.slice D.a n D.c,ptB D.mb] 96)) #[xg gc n n] 118);have a7:Hid (DcJ D 0 [] [] W0):=by
  obtain⟨A1,a3⟩:=qW (xw w #[.slice D.a n D.c,ptB D.mb] 96);rw[<-a3]at a0;have e1:=qS a3
  have q0:=qN a3
  have q1:=qN a0
  have kb:Below w w W0:=q0.trans (q1.mono qo);have b1:yA A1 w 96 2 w [.slice D.a n D.c,ptB D.mb]:=by rw[a3];exact yAa w _ qr rfl
  have b2:yA W0 w 118 1 (w+1) [xg gc n n]:=by rw[<-e1,a0];exact yAa A1 _ qo rfl
  have b3:=b1.below q1;rw[hw,hn]at b3;rw[hw,hn,a1]at b2;rw[hw]at kb;obtain⟨kf,vf,hI⟩:=hp;exact {pgm:=b3,cbx:=b2,pg:=⟨kf,vf,hI.turn hD.pr.mds (Chg.of_below kb (S:=λ_=>False)) (λq z=>z.elim)⟩,rm:=yAh hm (Chg.of_below kb (S:=λ_=>False)) (λ_ _ z=>z),sl:=hsl.below kb,bl:=by rw[drop_zero,nil_append];exact hbl.below kb,gcw:=hbl.lt.2,len:=rfl,chg:=Chg.of_below kb,mks:=⟨nodup_nil,λE hE=>by simp at hE⟩,kn:=zero_le _}
 have ar:n<=200:=by rw[hn];exact hD.pr.n2
 have HD:Hid (DcO D/\w=D.w/\n=D.n/\gc=D.gc/\M=D.es.length):=⟨hD,hw,hn,a1,hM⟩;have c0:=a7.pgm.cell (j:=0) rfl;rw[<-hn,<-hw]at c0;rw[<-hw,<-hn,<-a1];refine(callsIn_wide (n:=9)).1 ?_;clear hD hp hm hsl hbl hw hn a1 hM;refine callsIn_of_wp_marks func154 rfl trivial ?_ rfl;simp only[ntmps154,size_toArray,length_cons,length_nil,Nat.reduceAdd,Nat.reduceSub,Array.replicate_succ,Array.replicate_zero,push_toArray,append_toArray,nil_append,cons_append];gi_wp2;rw[<-a0];clear a0;gi_wp2;clear c0;refine wpIn_loop (λa' wr=>∃(k:Nat) (bsd:List Bool) (Ds:List Nat) (u6 u7 ai ah ag af ae ad ac ab aa a9 a8 a4:Value),k<=n/\Hid (DcJ D k bsd Ds wr/\∀r,CdR D.es ((D.ds.map vwD).drop k) bsd r->CdR D.es (D.ds.map vwD) [] r)/\a'={tmps:=#[.agg #[.slice D.a n D.c,ptB D.mb],.slice (some ⟨D.b,D.off,none⟩) M D.cap,.slice (some ⟨gc,0,none⟩) n n,.pointer (some ⟨w,0,none⟩),undef,.pointer (some ⟨w+1,0,none⟩),u6,u7,undef,undef,.pointer (some ⟨w,0,none⟩),.slice D.a n D.c,.int .i64 (n:Int),.int .i64 (k:Int),ai,ah,ag,af,ae,ad,ac,ab,aa,a9,a8,undef,undef,undef,undef,undef,undef,a4],defers:=Ds.map mkD}) (λa' _=>n-(intOf (a'.tmps.getD 13 undef)).toNat) ?_ ?_
 .exact⟨0,[],[],undef,undef,undef,undef,undef,undef,undef,undef,undef,undef,undef,undef,undef,undef,zero_le _,⟨a7.out,λr hr=>hr⟩,rfl⟩
 rintro a' wr ⟨k,bsd,Ds,u6,u7,ai,ah,ag,af,ae,ad,ac,ab,aa,a9,a8,a4,aw,HJ,rfl⟩;by_cases hlt:k<n
 .have zk:(k:Int)<(n:Int):=qo
  obtain⟨d,hd⟩:∃d,D.ds[k]?=some d:=qg (qv HD.1.pr.n HD.2.2.1);have ak:=qH1 hd;have a5:=HJ.1.rm;obtain⟨ga,an,x0⟩:∃ga,D.a=some ⟨ga,0,none⟩/\xk wr ga k (ptB d.mb):=by
   rcases a5.2 with⟨q,_⟩|⟨g',ax,cur,hv,_⟩
   .have:=HD.2.2.1;simp only[Value.slice.injEq]at q;omega
   .simp only[Value.slice.injEq]at hv;refine⟨g',hv.1,?_⟩;have h9:D.rm wr:=a5;have h8:OwnG mpF 1 94 wr D.base g' D.c D.ds:=by have h7:D.n=D.ds.length:=HD.1.pr.n;have h6:wr.ownsRow D.base 94 1 (.slice D.a D.n D.c) D.ds.length (D.ds.flatMap mpF):=h9;rw[hv.1,h7]at h6;exact h6
    have:=h8.cell xDf hd 0 (by decide);rw[Nat.mul_one,Nat.add_zero]at this;exact this
  clear a5;have x1:=HJ.1.cbx.cell (j:=0) rfl;rw[<-HD.2.1,<-HD.2.2.2.1,<-HD.2.2.1]at x1;have al:(bsd++D.bs0.drop k).length=n:=by have h1:=HJ.1.len;have h2:=HD.1.bs;have h3:=HD.2.2.1;rw[length_append,length_drop];omega
  obtain⟨ox,x2⟩:∃ox,(xk wr gc k ox:Prop):=by have h9:=HJ.1.bl.get (getElem?_eq_getElem (show k<(bsd++D.bs0.drop k).length by omega));rw[Nat.zero_add,<-HD.2.2.2.1]at h9;exact⟨_,h9⟩
  have f2:wr.frozen? (xd gc k)=false:=by rw[HD.2.2.2.1];exact World.ownsRow.frozenAt HJ.1.bl k
  have am:gc<wr.heap.size:=by rw[HD.2.2.2.1];exact HJ.1.bl.lt.2
  have ao:w.heap.size+1<wr.heap.size:=by rw[HD.2.1];exact HJ.1.cbx.lt.2
  have HP:Hid (DcJ D (k+1) (bsd++ [false]) Ds (xt wr gc k false)):=by have h3:=HD.2.2.1;have h1:=HJ.1.len;have h4:=HD.1.bs;rw[HD.2.2.2.1];refine HJ.1.put HD.1 (i:=k) (by omega) ?_ (by simp[h1]) (by omega);rw[set_append,if_neg (by omega),h1,Nat.sub_self,drop_eq_getElem_cons (by omega),set_cons_zero];simp
  have y1:=HP.cbx.cell (j:=0) rfl;rw[<-HD.2.1,<-HD.2.2.2.1,<-HD.2.2.1]at y1;obtain⟨W2,a2⟩:=qW (xw (wr.setCell (xd gc k) false) #[xi k] 3);have aj:Hid (DcJ D (k+1) (bsd++ [false]) Ds W2/\yA W2 D.w 3 1 wr [xi k]):=by
   have kb:Below (wr.setCell (xd gc k) false).heap.size (xt wr gc k false) W2:=by rw[a2];exact qB
   refine⟨HP.on HD.1 kb,?_⟩;have h9:=yAa (xt wr gc k false) (base:=D.w.heap.size) (t:=3) (sz:=1) #[xi k] HP.chg.size rfl;rw[<-a2]at h9;have hz:(wr.setCell (xd gc k) false).heap.size=wr.heap.size:=by simp
   rw[hz]at h9;exact h9
  clear hd al;rw[an];gi_wp2;rw[<-a2];obtain⟨W3,a6⟩:=qW (xw ((W2.alloc (Obj.cells #[ptB d.mb] 94)).alloc (Obj.cells #[.slice (some ⟨D.b,D.off,none⟩) M D.cap] 26)) #[xg gc n n] 118);refine⟨trivial,(callsIn_wide.2 (yMf W2 d.mb (some ⟨D.b,D.off,none⟩) M D.cap (some ⟨gc,0,none⟩) n n)).mono ?_⟩;rintro e w3 ⟨rfl,rfl⟩;rw[<-a6];have aq:Hid (W3=(xw ((W2.alloc (Obj.cells #[ptB d.mb] 94)).alloc (Obj.cells #[.slice (some ⟨D.b,D.off,none⟩) D.es.length D.cap] 26)) #[xg D.gc D.n D.n] 118)):=by rw[<-HD.2.2.2.1,<-HD.2.2.1,<-HD.2.2.2.2];exact a6
  clear a6 a2 y1 x0 x1 x2 f2 am ao HP a7;gi_wp2;refine yZy D HD.1 aj.1 ak.out aj.2 aq.out rfl rfl (λv1 v2=>{tmps:=#[.agg #[xg ga n D.c,ptB D.mb],.slice (some ⟨D.b,D.off,none⟩) M D.cap,.slice (some ⟨gc,0,none⟩) n n,.pointer (some ⟨w,0,none⟩),undef,.pointer (some ⟨w+1,0,none⟩),.pointer (some ⟨wr,0,none⟩),ptB d.mb,undef,v2,.pointer (some ⟨w,0,none⟩),.slice (some ⟨ga,0,none⟩) n D.c,.int .i64 (n:Int),.int .i64 (k:Int),.bool true,.int .i64 (k:Int),.pointer (some ⟨ga,k,none⟩),ptB d.mb,.slice (some ⟨gc,0,none⟩) n n,.int .i64 (k:Int),.pointer (some ⟨gc,k,none⟩),ptB d.mb,.slice (some ⟨D.b,D.off,none⟩) M D.cap,.slice (some ⟨gc,0,none⟩) n n,.func (Fn.func 200) #[] #[ptB W2,ptB (W2+1),ptB (W2+1+1)],v1,v2,undef,undef,undef,undef,a4],defers:= []}) ?hassign ?hbody0 ?hbody1 ?hQ;case hassign=>
   intro l v1 v2 W K hK;gi_wp2;exact hK
  case hbody0=>intro l v1 W;gi_wp2
  case hbody1=>intro l v1 W z0 z1 z2 z3;rw[<-HD.2.2.2.1]at z0 z2 z3⊢;rw[<-HD.2.1,<-HD.2.2.1]at z0;gi_wp2
  case hQ=>
   intro e y o W he hJ ho hy;have HN:Hid (DcJ D (k+1) (bsd++ [y]) (W3.heap.size::Ds) W/\∀r,CdR D.es ((D.ds.map vwD).drop (k+1)) (bsd++ [y]) r->CdR D.es (D.ds.map vwD) [] r):=by refine⟨hJ,?_⟩;rw[hy];exact CdR.step (x:=vwD d) HJ.2 (by rw[getElem?_map,ak.out];rfl) ho
   clear hJ ho hy;have hkk:((k+1:Nat):Int)=(k:Int)+1:=by omega
   rcases he with rfl|rfl
   .exact xCw
   .exact xCw
 .have zk:¬(k:Int)<(n:Int):=by omega
  have HE:Hid (∀W',Chg (λq=>q∈Ds) wr W'->DciP D (.returned (.tuple #[])) W'):=λW' hc=>by
   have hJ:=HJ.1;have hD:=HD.1;have au:=hD.le;have av:D.n<=k:=qw HD.2.2.1
   have hdr:bsd++D.bs0.drop k=bsd:=by rw[drop_eq_nil_of_le (qw hD.bs),append_nil]
   have hbl:=hJ.bl;rw[hdr]at hbl;obtain⟨kf,vf,hI⟩:=hJ.pg;refine⟨⟨_,rfl⟩,bsd,CdR.done HJ.2 (by rw[length_map];have:=hD.pr.n;omega),⟨kf,vf,hI.turn hD.pr.mds hc (λq z=>.inr ⟨qw ((hJ.mks.2 q z).1),yBb (hJ.mks.2 q z).2 rfl⟩)⟩,hbl.chg hc (λz=>(yAk hbl rfl).not (hJ.mks.2 _ z).2 rfl),hJ.chg.absorb hc (λq z=>.inr (hJ.mks.2 q z).1)⟩
  gi_wp2;exact yIc (λW=>results_none rfl _ _ _) Ds wr D.w HJ.1.mks HE.out
end
structure RwI2 (p b off cap:Nat) (es:List Ent) (W:World):Prop where
 box:(xk W p 0 (.slice (some ⟨b,off,none⟩) es.length cap):Prop)
 sl:CSl W b off cap es
theorem xA7 (es:List Ent) (p b off cap:Nat) (hN0:es.length<=10000) (l m:Nat) (hm:1<=m) (J:Nat->World->Prop)
  (hY:∀i j W,J i W->yIt es i j->YieldAt Fence.wide (m-1) prog l #[segV b off cap (i,j)] W λe W'=>e=.returned true/\J j W')
  (hJd:∀k W,J k W->J k W.drew) (hJr:∀k W,J k W->RwI2 p b off cap es W) (W:World) (h0:J 0 W):
  CallsIn Fence.wide m prog 199 #[.func (.yield l) #[] #[],xp p] W λe W'=>(∃v,e=.returned v)/\J es.length W':=by
 obtain⟨N,hN⟩:=qE es.length;have HN:Hid (N=es.length):=hN;have a8:Hid (J 0 W):=h0;have HR:Hid (∀k W,J k W->xk W p 0 (.slice (some ⟨b,off,none⟩) N cap)/\CSl W b off cap es):=λk W h=>by rw[hN];exact⟨(hJr k W h).box,(hJr k W h).sl⟩
 have a6:=(hJr 0 W h0).sl.len;have ab:cap<=9223372036854775807:=by have:=(hJr 0 W h0).sl.cap;unfold maxLen at this;omega
 have HY:Hid (∀i j W,J i W->yIt es i j->YieldAt Fence.wide (m-1) prog l #[segV b off cap (i,j)] W λe W'=>e=.returned true/\J j W'):=hY;rw[<-hN]at hN0 a6⊢;clear hN h0 hJr hY;refine callsIn_of_wp func199 rfl trivial ?_ rfl;simp only[ntmps199,size_toArray,length_cons,length_nil,Nat.reduceAdd,Nat.reduceSub,Array.replicate_succ,Array.replicate_zero,push_toArray,append_toArray,nil_append,cons_append];gi_wp2;gi_loopw [3] (λiv wr=>∃i:Nat,i<=N/\iv=(xi i)/\Hid (J i wr)) (λiv _=>N-(intOf iv).toNat);case atStart=>exact⟨0,zero_le _,rfl,a8.out⟩
 case round=>
  obtain⟨i,aa,rfl,HJ⟩:=hrel;have x0:=(HR.out i wr HJ.out).1;by_cases hlt:i<N
  .have zi:(i:Int)<(N:Int):=by omega
   obtain⟨c,hc⟩:∃c,es[i]?=some c:=qg (qw HN.out);have a3:Hid (es[i]?=some c):=hc;clear hc;obtain⟨wo,a4⟩:=qW wr;subst a4;gi_wp2;clear x0;gi_loopw [4] (λjv wx=>∃j:Nat,i<j/\j<=N/\jv=(xi j)/\Hid ((∀k,i<=k->k<j->yE0 es i k=true)/\J i wx)) (λjv _=>N-(intOf jv).toNat);case atStart=>exact⟨i+1,by omega,by omega,by go_num,λk h1 h2=>by rw[show k=i by omega];simp[yE0],HJ.out⟩
   case round=>
    obtain⟨j,hij,a9,rfl,HQ⟩:=hrel;have a1:=HR.out i wr HQ.2;by_cases hjl:j<N
    .have zj:(j:Int)<(N:Int):=qo
     obtain⟨x,hx⟩:∃x,es[j]?=some x:=qg (qw HN.out);have f0:=(a1.2.at_ j x hx).1;have f1:=(a1.2.at_ i c a3.out).1;have a0:SW (λw':World=>xk w' p 0 (.slice (some ⟨b,off,none⟩) N cap)/\xk w' b (off+j*5) x.row/\xk w' b (off+i*5) c.row) wr.drew:=⟨a1.1,f0,f1⟩;have HJd:=qH1 (hJd _ _ HQ.2);have a2:Hid (yE0 es i j=(x.row.toList==c.row.toList)):=by show yE0 es i j=_;unfold yE0;rw[hx,a3.out];rfl
     clear f0 f1 hx a1;cases hr:(x.row.toList==c.row.toList)
     .have HE:Hid (yIt es i j):=by have h0:=a2.out;rw[hr]at h0;exact⟨hij,by rw[<-HN.out];omega,HQ.1,λ_=>h0⟩
      gi_wp2;refine wpIn_wide.2 ?_;refine wp_region_noPanic ?_;refine wpR 99 a0 ?_;refine ja 0 a0 ?_;iterate 16 refine jb a0 ?_
      refine qD ?_;dsimp only[NoPanic];clear a0;exact xGt
     .have a7:Hid (∀k,i<=k->k<j+1->yE0 es i k=true):=λk h1 h2=>by
       by_cases hk:k=j
       .rw[hk,a2.out];exact hr
       .exact HQ.1 k h1 qo
      gi_wp2;refine wpIn_wide.2 ?_;refine wp_region_noPanic ?_;refine yAf 99 (λw':World=>xk w' p 0 (.slice (some ⟨b,off,none⟩) N cap)/\xk w' b (off+j*5) x.row/\xk w' b (off+i*5) c.row) (by kernel_rfl) ?_;refine ja 0 a0 ?_;iterate 16 refine jb a0 ?_
      refine qD ?_;dsimp only[NoPanic];clear a0;gi_wp2;go_roundw;case rel=>exact⟨j+1,by omega,by omega,by go_num,a7.out,HJd.out⟩
      case measure=>simp[intOf];omega
    .have zj:¬(j:Int)<(N:Int):=by omega
     have hd:decide ((j:Int)<(N:Int))=false:=by simp;omega
     have HE:Hid (yIt es i j):=⟨hij,by rw[<-HN.out];omega,HQ.1,λq=>by rw[<-HN.out]at q;omega⟩;have HJd:Hid (J i wr.drew):=hJd _ _ HQ.2;have a0:SW (λw':World=>xk w' p 0 (.slice (some ⟨b,off,none⟩) N cap)) wr.drew:=a1.1;clear a1;gi_wp2;refine wpIn_wide.2 ?_;refine wp_region_noPanic ?_;refine wpR 99 a0 ?_;refine ja 0 a0 ?_;iterate 16 refine jb a0 ?_
     refine qD ?_;dsimp only[NoPanic];clear a0 zj hd;exact xGt
  .have a5:i=N:=by omega
   have zi:¬(i:Int)<(N:Int):=by omega
   have HF:Hid (J N wr):=by rw[<-a5];exact HJ.out
   clear HJ;gi_wp2;go_end0;exact⟨⟨_,rfl⟩,HF.out⟩
section
structure RbG extends PrG where
 Wb:World
 dm:Md
 es:List Ent
 b:Nat
 off:Nat
 cap:Nat
 pp:Nat
 pc:Nat
 rb:Nat
 lY:Nat
def RbG.Y (R:RbG) (W:World) (q:Nat):Prop:=q=R.rb∨q=R.lY∨(R.Wb.heap.size<=q/\ObT 70 W q)
def RbG.I (R:RbG) (W:World) (q:Nat):Prop:=R.qu W q∨(R.Wb.heap.size<=q/\¬ObT 70 W q)
structure RbO (R:RbG):Prop where
 pr:PrO R.toPrG
 dm:R.dm∈R.all
 gm:yBe R.dm.l (R.dm.nk:Int) R.n
 es:R.es.length<=10000
 row:∀c∈R.es,¬c.row=⟨#[]⟩
 b:R.b<R.tb
 le:R.W0.heap.size<=R.Wb.heap.size
 rb:R.rb<R.Wb.heap.size
 lY:R.lY<R.Wb.heap.size
 pp:¬R.pp=R.rb/\¬R.pp=R.lY
 pc:¬R.pc=R.rb/\¬R.pc=R.lY
 bn:¬R.b=R.rb/\¬R.b=R.lY
 rr:∀q,(Value.slice R.a R.n R.c).ownBlock=some q->¬q=R.rb/\¬q=R.lY/\q<R.Wb.heap.size
structure RbS (R:RbG) (gc cb pR:Nat) (bs:List Bool) (l:Nat) (rec:Obj) (X:World):Prop where
 pg:R.pg X
 rm:R.rm X
 sl:CSl X R.b R.off R.cap R.es
 bp:yA X R.W0 96 2 R.pp [.slice R.a R.n R.c,ptB R.dm.mb]
 bc:yA X R.W0 26 1 R.pc [.slice (some ⟨R.b,R.off,none⟩) R.es.length R.cap]
 bY:yA X R.Wb 177 1 R.Wb [.func (.yield R.lY) #[] #[]]
 bb:yA X R.Wb 118 1 cb [xg gc R.n R.n]
 bR:yA X R.Wb 26 1 pR [.slice (some ⟨R.b,R.off,none⟩) R.es.length R.cap]
 bl:yF1 X R.Wb gc R.n bs
 bn:bs.length=R.n
 rc:X.heap[l+1]?=some rec
 rk:rec.isCells=false
 mrk:X.heap[l]?=some (.deferred (some []))
 ll:R.Wb.heap.size<=l
section
variable {R:RbG} {gc cb pR:Nat} {bs bs':List Bool} {l:Nat} {rec:Obj} {X X':World}
theorem RbS.move' (hR:RbO R) (h:RbS R gc cb pR bs l rec X) {S:Nat->Prop} (hc:Chg S X X') (hp:R.pg X') (hbl:yF1 X' R.Wb gc R.n bs') (hbn:bs'.length=R.n)
  (hS:∀q,S q->R.qu X q∨R.Y X q∨(R.Wb.heap.size<=q/\(∃o,X.heap[q]?=some o/\o.isCells=false)/\¬q=l/\¬q=l+1)∨q=gc):RbS R gc cb pR bs' l rec X':=by
 have a4:=hR.le;have a6:=hR.rb;have a8:=hR.lY;have a7:=h.ll;have a2:=yAk h.bl rfl;have a3:=h.bl.lt;have a0:∀(g t:Nat),ObT t X g->¬181=t->¬70=t->¬4=t->R.W0.heap.size<=g->¬g=R.rb->¬g=R.lY->¬S g:=λg t ht h1 h2 h3 h4 h5 h6 z=>by
  rcases hS g z with q|(q|q|q)|⟨_,⟨o,q1,q2⟩,_⟩|q
  .exact hR.pr.noT h4 ht h1 q
  .exact h5 q
  .exact h6 q
  .exact h2 (q.2.one ht)
  .exact ht.not q1 q2
  .rw[q]at ht;exact h3 (a2.one ht)
 have a1:∀(g:Nat) (o:Obj),X.heap[g]?=some o->o.isCells=false->(g=l∨g=l+1)->¬S g:=λg o ho hi hg z=>by
  rcases hS g z with q|(q|q|q)|⟨_,_,q⟩|q
  .exact hR.pr.noO qo ho hi q
  .omega
  .omega
  .exact q.2.not ho hi
  .omega
  .rw[q]at ho;exact a2.not ho hi
 exact {h with
  pg:=hp
  rm:=yAh h.rm hc (λk hk z=>by
   have ht:=yAk h.rm hk
   obtain⟨r1,r2,r3⟩:=hR.rr k hk
   rcases hS k z with q|(q|q|q)|⟨q,_⟩|q
   .exact hR.pr.rmQ h.pg h.rm k hk q
   .exact r1 q
   .exact r2 q
   .omega
   .omega
   .have:=a3.1;omega)
  sl:=h.sl.chg hc (λz=>by
   have hb:=hR.b
   have a5:=hR.pr.tbl
   have hn:=hR.bn
   rcases hS _ z with q|(q|q|q)|⟨q,_⟩|q
   .exact hR.pr.old hb q
   .exact hn.1 q
   .exact hn.2 q
   .have:=q.1;omega
   .omega
   .have:=a3.1;omega)
  bp:=h.bp.chg hc (a0 _ _ (yAk h.bp rfl) qj qj qj h.bp.lt.1 hR.pp.1 hR.pp.2)
  bc:=h.bc.chg hc (a0 _ _ (yAk h.bc rfl) qj qj qj h.bc.lt.1 hR.pc.1 hR.pc.2)
  bY:=h.bY.chg hc (a0 _ _ (yAk h.bY rfl) qj qj qj a4 qo qo)
  bb:=h.bb.chg hc (a0 _ _ (yAk h.bb rfl) qj qj qj (qw h.bb.lt.1) (qw h.bb.lt.1) (qw h.bb.lt.1))
  bR:=h.bR.chg hc (a0 _ _ (yAk h.bR rfl) qj qj qj (qw h.bR.lt.1) (qw h.bR.lt.1) (qw h.bR.lt.1))
  bl:=hbl
  bn:=hbn
  rc:=by rw[hc.block _ (Array.getElem?_eq_some_iff.1 h.rc).1 (a1 _ _ h.rc h.rk (.inr rfl))];exact h.rc
  mrk:=by rw[hc.block _ (Array.getElem?_eq_some_iff.1 h.mrk).1 (a1 _ _ h.mrk rfl (.inl rfl))];exact h.mrk}
theorem RbS.move (hR:RbO R) (h:RbS R gc cb pR bs l rec X) {S:Nat->Prop} (hc:Chg S X X') (hp:R.pg X')
  (hS:∀q,S q->R.qu X q∨R.Y X q∨(R.Wb.heap.size<=q/\(∃o,X.heap[q]?=some o/\o.isCells=false)/\¬q=l/\¬q=l+1)):RbS R gc cb pR bs l rec X':=by
 have a0:ObT 4 X gc:=yAk h.bl rfl;have a4:=h.bl.lt;refine h.move' hR hc hp (h.bl.chg hc (λz=>?_)) h.bn (λq z=>(hS q z).elim .inl (λk=>k.elim (λk=>.inr (.inl k)) (λk=>.inr (.inr (.inl k)))));have a2:=hR.le;have a1:=hR.rb;have a3:=hR.lY;rcases hS _ z with q|(q|q|q)|⟨_,⟨o,q1,q2⟩,_⟩
 .exact hR.pr.noT (by omega) a0 qj q
 .omega
 .omega
 .exact absurd (q.2.one a0) qj
 .exact a0.not q1 q2
theorem RbS.on (hR:RbO R) (h:RbS R gc cb pR bs l rec X) (hb:Below X X X'):RbS R gc cb pR bs l rec X':=by obtain⟨kf,vf,hI⟩:=h.pg;exact xC5
variable {rec':Obj}
theorem RbS.put (hR:RbO R) (h:RbS R gc cb pR bs l rec X) (hb:rec'.isCells=false):RbS R gc cb pR bs l rec' (X.putObj (l+1) rec'):=by
 have a0:=yAt X (l+1) rec';have a1:∀t,¬ObT t X (l+1):=λt=>yBb h.rc h.rk;have a2:=h.ll;have a3:=hR.le
 exact {h with
  pg:=hR.pr.turn (o:=default) h.pg a0 qo (a1 _)
  rm:=yAh h.rm a0 (λj hj q=>a1 _ (by rw[<-q];exact yAk h.rm hj))
  sl:=h.sl.chg a0 (λq=>qv hR.b hR.pr.tbl)
  bp:=h.bp.chg a0 (λq=>a1 _ (by rw[<-q];exact yAk h.bp rfl))
  bc:=h.bc.chg a0 (λq=>a1 _ (by rw[<-q];exact yAk h.bc rfl))
  bY:=h.bY.chg a0 (λq=>a1 _ (by rw[<-q];exact yAk h.bY rfl))
  bb:=h.bb.chg a0 (λq=>a1 _ (by rw[<-q];exact yAk h.bb rfl))
  bR:=h.bR.chg a0 (λq=>a1 _ (by rw[<-q];exact yAk h.bR rfl))
  bl:=h.bl.chg a0 (λq=>a1 _ (by rw[<-q];exact yAk h.bl rfl))
  rc:=World.putObj_heap_same (Array.getElem?_eq_some_iff.1 h.rc).1
  rk:=hb
  mrk:=(World.putObj_heap_other qo).trans h.mrk}
end
end
section
theorem yH4 {F:Fence} {l:Nat} {P:Program} {args:Array Value} {R':Ending->World->Prop} (h:YieldAt F n P l args W R) (hR:∀e W',R e W'->R' e W'):YieldAt F n P l args W R':=by obtain⟨fn,tmps,assign,body,hy,hr⟩:=h;exact⟨fn,tmps,assign,body,hy,hr.mono hR⟩
structure RbT (R:RbG) (gc cb pR:Nat) (bs:List Bool) (l:Nat) (rec:Obj) (pm i j lI:Nat) (recI:Obj) (X:World):Prop where
 rs:RbS R gc cb pR bs l rec X
 bm:yA X R.Wb 94 1 pm [ptB R.dm.mb]
 br:yA X R.Wb 26 1 (pm+1) [segV R.b R.off R.cap (i,j)]
 bd:yA X R.Wb 118 1 (pm+1+1) [xg gc R.n R.n]
 rI:X.heap[lI]?=some recI
 rkI:recI.isCells=false
 lI:l+1<lI
section
variable {R:RbG} {gc cb pR:Nat} {bs:List Bool} {l:Nat} {rec:Obj} {pm i j lI:Nat} {recI:Obj} {X X':World}
theorem RbT.move (hR:RbO R) (h:RbT R gc cb pR bs l rec pm i j lI recI X) {S:Nat->Prop} (hc:Chg S X X') (hp:R.pg X') (hS:∀q,S q->R.qu X q∨R.Y X q):RbT R gc cb pR bs l rec pm i j lI recI X':=by
 have a4:=hR.le;have a1:=hR.rb;have a5:=hR.lY;have a2:=h.rs.ll;have a3:=h.lI;have a0:∀(g t:Nat),ObT t X g->¬181=t->¬70=t->R.Wb.heap.size<=g->¬S g:=λg t ht h1 h2 h4 z=>by
  rcases hS g z with q|(q|q|q)
  .exact hR.pr.noT qo ht h1 q
  .omega
  .omega
  .exact h2 (q.2.one ht)
 exact {h with
  rs:=h.rs.move hR hc hp (λq z=>(hS q z).imp (λk=>k) .inl)
  bm:=h.bm.chg hc (a0 _ _ (yAk h.bm rfl) qj qj h.bm.lt.1)
  br:=h.br.chg hc (a0 _ _ (yAk h.br rfl) qj qj h.br.lt.1)
  bd:=h.bd.chg hc (a0 _ _ (yAk h.bd rfl) qj qj h.bd.lt.1)
  rI:=by
   rw[hc.block _ (Array.getElem?_eq_some_iff.1 h.rI).1 (λz=>?_)]
   .exact h.rI
   .rcases hS _ z with q|(q|q|q)
    .exact hR.pr.noO qo h.rI h.rkI q
    .omega
    .omega
    .exact q.2.not h.rI h.rkI}
theorem RbT.on (hR:RbO R) (h:RbT R gc cb pR bs l rec pm i j lI recI X) (hb:Below X X X'):RbT R gc cb pR bs l rec pm i j lI recI X':=by obtain⟨kf,vf,hI⟩:=h.rs.pg;exact xC5
theorem RbT.put (hR:RbO R) (h:RbT R gc cb pR bs l rec pm i j lI recI X) {rec':Obj} (hb:rec'.isCells=false):RbT R gc cb pR bs l rec pm i j lI rec' (X.putObj lI rec'):=by
 have a0:=yAt X lI rec';have a1:∀t,¬ObT t X lI:=λt=>yBb h.rI h.rkI;have a2:=h.rs.ll;have a3:=h.lI;have a4:=hR.le
 exact {h with
  rs:=h.rs.move hR a0 (hR.pr.turn (o:=default) h.rs.pg a0 qo (a1 _)) (λq z=>.inr (.inr ⟨by rw[z];omega,by rw[z];exact⟨_,h.rI,h.rkI⟩,qo,qo⟩))
  bm:=h.bm.chg a0 (λq=>a1 _ (by rw[<-q];exact yAk h.bm rfl))
  br:=h.br.chg a0 (λq=>a1 _ (by rw[<-q];exact yAk h.br rfl))
  bd:=h.bd.chg a0 (λq=>a1 _ (by rw[<-q];exact yAk h.bd rfl))
  rI:=World.putObj_heap_same (Array.getElem?_eq_some_iff.1 h.rI).1
  rkI:=hb}
theorem RbT.los (hR:RbO R) (h:RbT R gc cb pR bs l rec pm i j lI recI X) (hj:j<=R.es.length) (hij:i<=j) {v:Value} (hp:R.pd R.dm ks v X):
  LoS (R.mch R.dm) R.dm.N (segE R.es (i,j)) bs pm (pm+1) (pm+1+1) R.b (R.off+i*5) (R.cap-i) (some ⟨gc,0,none⟩) R.n ks v X:=by
 have a0:=hp.mc hR.dm;have a1:=hR.le;have hq:¬R.qu X gc:=hR.pr.noT (by have:=h.rs.bl.lt.1;omega) (yAk h.rs.bl rfl) qj;have hz:=McI.qu hR.dm a0 gc;refine⟨a0,h.bm.cell (j:=0) rfl,?_,by rw[h.rs.bn];exact h.bd.cell (j:=0) rfl,h.rs.sl.seg hij hj,λk y hy=>?_⟩
 .have:=h.br.cell (j:=0) rfl;rw[yC9 hj];exact this
 .exact⟨gc,0,rfl,h.rs.bl.get hy,h.rs.bl.lt.2,λq=>hq (hz (.inl q)),λq=>hq (hz (.inr (.inr (.inl q)))),λq=>hq (hz (.inr (.inr (.inr q))))⟩
end
structure RbK (R:RbG) (f:Nat) (K:List Ent->Nat->World->Prop):Prop where
 on:∀out ops W W',K out ops W->Chg (R.I W) W W'->K out ops W'
 own:∀out ops W,K out ops W->∀q,q=R.rb∨q=R.lY->(q<R.tb/\¬q=1)∨(R.W0.heap.size<=q/\¬ObT 181 W q)
 yld:∀out ops (x:Ent) (told:Bool) W,K out ops W->ops<R.es.length->YieldAt Fence.wide f prog R.lY #[x.c,told] W λe W'=>e=.returned true/\K (if told=true then out++ [x]else out) (ops+1) W'/\Chg (R.Y W) W W'
variable {cb pR:Nat}
theorem xBd (R:RbG) (hR:RbO R) (K:List Ent->Nat->World->Prop) (hK:RbK R 14 K) {l:Nat} {r0:Loop} {X2 X3:World} (H:RbS R gc cb pR bs l (.loop r0) X2) (hij:yIt R.es i j) {out0:List Ent} (hk:K out0 i X2)
  (hX3:X3=(xw ((X2.alloc (Obj.cells #[ptB R.dm.mb] 94)).alloc (Obj.cells #[segV R.b R.off R.cap (i,j)] 26)) #[xg gc R.n R.n] 118))
  {g:Operand} {ps:Array Tmp} {assign body:Code} {Q:Exit->Act->World->Prop} {a:Act} (hg:a.eval g=.func (.func 200) #[] #[ptB X2,ptB (X2+1),ptB (X2+1+1)]) (hps:ps.size=2) (a₁:Ent->Nat->Bool->Act)
  (hassign:∀(l:Nat) (x:Ent) (told:Bool) (W:World) (K':Act->World->Prop),K' (a₁ x W told) (xw W #[x.row,x.fam,x.qual,xu x.ts,x.val] 70)->assign.wpIn (Fence.wide.inRound l) 15 prog (Exit.then K' (λ_ _ _=>False)) {tmps:=(ps.zip #[x.c,told]).foldl (λt (p,v)=>t.setIfInBounds p v) a.tmps,defers:= []} W)
  (hbody:∀(l:Nat) (x:Ent) (told:Bool) (p:Nat) (W:World) (Kp:World->Prop),yA W R.Wb 70 5 p x.five->(xk W R.Wb 0 (.func (.yield R.lY) #[] #[]):Prop)->
   (∀W',Below W W W'->YieldAt Fence.wide 14 prog R.lY #[x.c,told] W' λe W''=>e=.returned true/\Kp W'')->body.wpIn (Fence.wide.inRound l) 15 prog (λe _ W''=>e=.normal/\Kp W'') (a₁ x p told) W)
  (hQ:∀(o:List Ent) (W:World),RowR R.dm.l bs (segE R.es (i,j)) (List.replicate R.dm.nk newC) o->RbS R gc cb pR bs l (.loop r0) W->K (out0++o) j W->Q .normal a W):
  (Code.rangeFunc g ps assign body).wpIn (Fence.wide.inRound (l+1)) 17 prog Q a X3:=by
 have aY:=hR.le;have aX:=H.ll;have aj:=hij.le;have aF:=Nat.le_of_lt hij.lt;have aM:=(hR.pr.mds.md R.dm hR.dm).1;have aV:=ySw hR.pr.mds hR.dm (yJ9 hR.gm (by simp));have hl2:=(Array.getElem?_eq_some_iff.1 H.rc).1;obtain⟨A1,a7⟩:=qE (X2.alloc (Obj.cells #[ptB R.dm.mb] 94));obtain⟨A2,a6⟩:=qE (A1.alloc (Obj.cells #[segV R.b R.off R.cap (i,j)] 26));have e1:=qS a7
 have e2:A2.heap.size=X2.heap.size+1+1:=by rw[a6];simp[e1]
 rw[<-a7,<-a6]at hX3;have e3:X3.heap.size=X2.heap.size+1+1+1:=by rw[hX3];simp[e2]
 have q0:=qN a7
 have q1:=qN a6
 have q2:=qN hX3
 have bm:yA X3 R.Wb 94 1 X2 [ptB R.dm.mb]:=by
  have:yA A1 R.Wb 94 1 X2 [ptB R.dm.mb]:=by rw[a7];exact yAa X2 _ qo rfl
  exact(this.below q1).below q2
 have br:yA X3 R.Wb 26 1 (X2+1) [segV R.b R.off R.cap (i,j)]:=by
  have:yA A2 R.Wb 26 1 (X2+1) [segV R.b R.off R.cap (i,j)]:=by rw[<-e1,a6];exact yAa A1 _ qo rfl
  exact this.below q2
 have bd:yA X3 R.Wb 118 1 (X2+1+1) [xg gc R.n R.n]:=by rw[<-e2,hX3];exact yAa A2 _ qo rfl
 have H3:=((H.on hR q0).on hR q1).on hR q2;have aD:=hK.on _ _ _ _ (hK.on _ _ _ _ (hK.on _ _ _ _ hk (Chg.of_below q0)) (Chg.of_below q1)) (Chg.of_below q2);clear hX3 a7 a6 q0 q1 q2 e1 e2 H hk;refine ySi H3.rc hg (λargs w=>by simp[go_sem]) qj ?_;intro fn W1 al;obtain⟨rec,a4⟩:∃rec:LoopState->Option Code->Obj,rec=rcL fn a.tmps ps assign body r0.defers:=⟨_,rfl⟩;have a8:∀s p,(rec s p).isCells=false:=λs p=>by rw[a4];rfl
 have k1:=qN al
 have ab:RbT R gc cb pR bs l (.loop r0) X2 i j X3 (rec .ready none) W1:=by refine⟨H3.on hR k1,bm.below k1,br.below k1,bd.below k1,?_,a8 _ _,qo⟩;rw[al,a4];exact World.alloc_heap_new X3 _
 have aR:=hK.on _ _ _ _ aD (Chg.of_below k1);clear bm br bd H3 al k1 aD;obtain⟨kf,vf,aU⟩:=ab.rs.pg;have am:R.pd R.dm (kf R.dm.mb) (vf R.dm.mb) W1:=⟨kf,vf,aU,rfl,rfl⟩;have aP:(segE R.es (i,j)).length=j-i:=yC9 aj;have hN:=aM.len;have aI:(segE R.es (i,j)).length<=10000:=by have:=hR.es;omega
 have aJ:∀c∈segE R.es (i,j),¬c.row=⟨#[]⟩:=λc hc=>hR.row c (((drop_sublist _ _).trans (take_sublist _ _)).mem hc)
 have aN:=yV (R.mch R.dm) R.dm.l R.dm.N (segE R.es (i,j)) bs R.n X2 (X2+1) (X2+1+1) R.b (R.off+i*5) (R.cap-i) (some ⟨gc,0,none⟩) R.n aI aV hR.gm (by rw[ab.rs.bn];exact Nat.le_refl _) hN rfl aJ X3 16 qj
  (λi' ks v X=>RbT R gc cb pR bs l (.loop r0) X2 i j X3 (rec .ready none) X/\R.pd R.dm ks v X/\∃o,K (out0++o) (i+i') X/\∀o',RowR R.dm.l bs ((segE R.es (i,j)).drop i') ks o'->RowR R.dm.l bs (segE R.es (i,j)) (List.replicate R.dm.nk newC) (o++o'))
  (λX=>False)
  ?hY (λi' ks v X h=>h.1.los hR aj aF h.2.1) W1 (kf R.dm.mb) (vf R.dm.mb) (ab.los hR aj aF am) ?h0
 case h0=>intro W4 aO aS;have aG:Chg (λq=>q=R.dm.g∨q=R.dm.mb∨TqB R.Ts q∨(vf R.dm.mb).ownBlock=some q) W1 W4:=aS.mono (λq z=>.inl z);have ax:R.pd R.dm (List.replicate R.dm.nk newC) (vf R.dm.mb) W4:=am.step hR.pr.mds hR.dm aO aG (.inl rfl);have au:Chg (R.qu W1) W1 W4:=hR.pr.mcq hR.dm (am.mc hR.dm) aG;exact⟨ab.move hR au (by obtain⟨a,b,c,_⟩:=ax;exact⟨a,b,c⟩) (λq z=>.inl z),ax,[],by rw[append_nil];exact hK.on _ _ _ _ aR (au.mono (λq z=>.inl z)),λo ho=>ho⟩
 case hY=>
  rintro i' c it ks a5 v v' X0 X ⟨aH,ae,o0,aE,ar⟩ hc aQ ay ak ao;have ad:R.pd R.dm a5 v' X:=ae.step hR.pr.mds hR.dm ay ak ao;have ac:Chg (R.qu X0) X0 X:=hR.pr.mcq hR.dm (ae.mc hR.dm) ak;have aa:=aH.move hR ac (by obtain⟨a,b,c,_⟩:=ad;exact⟨a,b,c⟩) (λq z=>.inl z);have aB:K (out0++o0) (i+i') X:=hK.on _ _ _ _ aE (ac.mono (λq z=>.inl z));have aq:=RowR.step ar hc aQ;have aL:i+i'<R.es.length:=by have:=qf hc;omega
  clear aH ae ar aE ay ak ao ac;have af:=aa.rI;rw[a4]at af;refine yD7 af (by rw[hps];rfl) ?_;obtain⟨x,hx⟩:=qE (yB it c);rw[<-hx];rw[<-hx]at aq;refine hassign _ x it.alive _ _ ?_;obtain⟨A,hA⟩:=qE (X.alloc (Obj.cells #[x.row,x.fam,x.qual,xu x.ts,x.val] 70));have kA:=qN hA
  have aT:R.Wb.heap.size<=X.heap.size:=by have:=aa.bm.lt;omega
  have bA:yA A R.Wb 70 5 X x.five:=by rw[hA];exact yAa X _ aT rfl
  have a1:=aa.on hR kA;have aw:R.pd R.dm a5 v' A:=ad.turn hR.pr.mds (Chg.of_below kA (S:=λ_=>False)) (λq z=>z.elim);have aC:K (out0++o0) (i+i') A:=hK.on _ _ _ _ aB (Chg.of_below kA);rw[<-hA];clear hA aa ad aB;have ag:=a1.rI;rw[a4]at ag;refine⟨ag,?_⟩;have az:R.W0.heap.size<=X3.heap.size:=by omega
  have a0:=yAt A X3 (rec .busy none);have an:RbT R gc cb pR bs l (.loop r0) X2 i j X3 (rec .busy none) (A.putObj X3 (rec .busy none)):=a1.put hR (a8 _ _);have av:R.pd R.dm a5 v' (A.putObj X3 (rec .busy none)):=aw.turn hR.pr.mds a0 (λq z=>.inr ⟨by rw[z];exact az,by rw[z];exact yBb a1.rI a1.rkI⟩);have aA:K (out0++o0) (i+i') (A.putObj X3 (rec .busy none)):=hK.on _ _ _ _ aC (a0.mono (λq z=>.inr ⟨by rw[z];omega,by rw[z];exact yBb a1.rI a1.rkI⟩));have bB:yA (A.putObj X3 (rec .busy none)) R.Wb 70 5 X x.five:=bA.chg a0 (λq=>(yAk bA rfl).not (by rw[q];exact a1.rI) a1.rkI);rw[<-a4];generalize A.putObj X3 (rec .busy none)=B at an av aA bB⊢;clear a1 aw aC bA a0 ag af kA;refine wpIn_mono (hbody _ x it.alive X B (λX''=>RbT R gc cb pR bs l (.loop r0) X2 i j X3 (rec .busy none) X''/\R.pd R.dm a5 v' X''/\K (if it.alive=true then out0++o0++ [x]else out0++o0) (i+i'+1) X'') bB (an.rs.bY.cell (j:=0) rfl) ?_) ?_
  .intro W' hb;have aW:=an.on hR hb;have ah:=hK.on _ _ _ _ aA (Chg.of_below hb);have aK:R.pd R.dm a5 v' W':=av.turn hR.pr.mds (Chg.of_below hb (S:=λ_=>False)) (λq z=>z.elim);refine yH4 (hK.yld _ _ x it.alive W' ah aL) ?_;rintro e W'' ⟨he,ai,hc2⟩;have a9:R.pd R.dm a5 v' W'':=aK.turn hR.pr.mds hc2 (λq z=>by
    rcases z with z|z|z
    .exact hK.own _ _ _ ah q (.inl z)
    .exact hK.own _ _ _ ah q (.inr z)
    .exact .inr ⟨by have:=z.1;omega,yF6 z.2 (by decide)⟩)
   exact⟨he,aW.move hR hc2 (by obtain⟨a,b,c,_⟩:=a9;exact⟨a,b,c⟩) (λq z=>.inr z),a9,ai⟩
  .rintro e a3 W'' ⟨rfl,a2,a9,ai⟩;refine⟨a2.rI,?_⟩;have a0:=yAt W'' X3 (rec .ready none);refine .inl ⟨rfl,a2.put hR (a8 _ _),a9.turn hR.pr.mds a0 (λq z=>.inr ⟨by rw[z];exact az,by rw[z];exact yBb a2.rI a2.rkI⟩),if it.alive=true then o0++ [x]else o0,?_,aq⟩;have:=hK.on _ _ _ _ ai (a0.mono (λq z=>.inr ⟨by rw[z];omega,by rw[z];exact yBb a2.rI a2.rkI⟩));rw[<-Nat.add_assoc];cases hal:it.alive
   .rw[hal]at this;simpa using this
   .rw[hal]at this;simpa using this
 simp only[append_toArray,cons_append,nil_append];refine aN.mono ?_;rintro e X ⟨he,⟨ks,v,hI,hp,o,hk,hr⟩|h⟩
 .refine⟨he,.inl ⟨by have:=hI.rI;rwa [a4]at this,?_⟩⟩;have a2:=hI.put hR (a8 .exhausted none);have a0:=yAt X X3 (rec .exhausted none);rw[<-a4];rw[aP,show i+(j-i)=j by omega]at hk;exact hQ o _ (RowR.done hr qr) a2.rs (hK.on _ _ _ _ hk (a0.mono (λq z=>.inr ⟨by rw[z];omega,by rw[z];exact yBb hI.rI hI.rkI⟩)))
 .exact h.elim
end
variable {X:World}
theorem RbS.dec {R:RbG} {cb pR:Nat} {l:Nat} {rec:Obj} (hR:RbO R) (h:RbS R gc cb pR bs l rec X) (hij:yIt R.es i j):
  Calls prog 154 #[.agg #[.slice R.a R.n R.c,ptB R.dm.mb],segV R.b R.off R.cap (i,j),xg gc R.n R.n] X λe X'=>(∃v,e=.returned v)/\∃bs',CdR (segE R.es (i,j)) (R.ds.map vwD) [] bs'/\RbS R gc cb pR bs' l rec X'/\Chg (R.I X) X X':=by
 have a0:=hij.le;have a3:=Nat.le_of_lt hij.lt;have a8:=hR.le;have a7:=h.ll;have a2:(segE R.es (i,j)).length=j-i:=yC9 a0;have a9:l<X.heap.size:=(Array.getElem?_eq_some_iff.1 h.mrk).1
 have hD:DcO {toPrG:=R.toPrG,w:=X,es:=segE R.es (i,j),b:=R.b,off:=R.off+i*5,cap:=R.cap-i,mb:=R.dm.mb,gc:=gc,bb:=R.Wb.heap.size,bs0:=bs}:=
  {pr:=hR.pr,es:=by have:=hR.es;show(segE R.es (i,j)).length<=10000;omega
   row:=λc hc=>hR.row c (((drop_sublist _ _).trans (take_sublist _ _)).mem hc)
   b:=hR.b,gcl:=hR.le,bs:=h.bn,le:=by show R.W0.heap.size<=X.heap.size;omega}
 refine(yTs _ hD h.pg h.rm (h.sl.seg a3 a0) h.bl (j-i) a2.symm).mono ?_;rintro e X' ⟨hv,bs',a1,hp,a6,hc⟩;have a4:ObT 4 X gc:=yAk h.bl rfl;have a5:bs'.length=R.n:=by have:=a1.len;rw[this,hR.pr.n];simp
 refine⟨hv,bs',a1,h.move' hR hc hp a6 a5 (λq z=>z.elim (λk=>.inr (.inr (.inr k))) (λk=>.inl k)),hc.mono (λq z=>?_)⟩;rcases z with z|z
 .exact .inr ⟨by rw[z];exact h.bl.lt.1,by rw[z];exact yF6 a4 (by decide)⟩
 .exact .inl z
theorem xEp (R:RbG) (hR:RbO R) (K:List Ent->Nat->World->Prop) (hK:RbK R 14 K) {cb pR:Nat} {A:World} (hA:R.Wb.heap.size<=A.heap.size) (pg:R.pg A) (rm:R.rm A) (sl:CSl A R.b R.off R.cap R.es)
  (bp:yA A R.W0 96 2 R.pp [.slice R.a R.n R.c,ptB R.dm.mb]) (bc:yA A R.W0 26 1 R.pc [.slice (some ⟨R.b,R.off,none⟩) R.es.length R.cap])
  (bY:yA A R.Wb 177 1 R.Wb [.func (.yield R.lY) #[] #[]]) (bb:yA A R.Wb 118 1 cb [xg gc R.n R.n])
  (bR:yA A R.Wb 26 1 pR [.slice (some ⟨R.b,R.off,none⟩) R.es.length R.cap]) (bl:yF1 A R.Wb gc R.n bs) (bn:bs.length=R.n) (hk:K [] 0 A)
  {g:Operand} {ps:Array Tmp} {assign body:Code} {Q:Exit->Act->World->Prop} {a:Act} (hg:a.eval g=.func (.func 199) #[] #[ptB pR]) (hps:ps.size=1) (a₁:Value->Act)
  (hassign:∀(l:Nat) (v:Value) (W:World) (K':Act->World->Prop),K' (a₁ v) W->assign.wpIn (Fence.wide.inRound l) 17 prog (Exit.then K' (λ_ _ _=>False)) {tmps:=(ps.zip #[v]).foldl (λt (p,v)=>t.setIfInBounds p v) a.tmps,defers:= []} W)
  (hbody:∀(l:Nat) (r0:Loop) (i j:Nat) (W:World) (bs:List Bool) (out:List Ent),RbS R gc cb pR bs l (.loop r0) W->yIt R.es i j->K out i W->body.wpIn (Fence.wide.inRound (l+1)) 17 prog (λe _ W'=>e=.normal/\∃bs' o,CdR (segE R.es (i,j)) (R.ds.map vwD) [] bs'/\RowR R.dm.l bs' (segE R.es (i,j)) (List.replicate R.dm.nk newC) o/\RbS R gc cb pR bs' l (.loop r0) W'/\K (out++o) j W') (a₁ (segV R.b R.off R.cap (i,j))) W)
  (hQ:∀(W:World) (out:List Ent),RwsR (vwD R.dm) (R.ds.map vwD) ((allC R.es 0).map (segE R.es)) out->K out R.es.length W->W.heap[A.heap.size]?=some (.deferred (some []))->Q .normal {a with defers:=mkD A.heap.size::a.defers} W):
  (Code.rangeFunc g ps assign body).wpIn Fence.wide 19 prog Q a A:=by
 have ad:=hR.le;refine yGa hg (λargs w=>by simp[go_sem]) qj ?_;intro fn W1 a2;obtain⟨rec,a0⟩:∃rec:LoopState->Option Code->Obj,rec=rcL fn a.tmps ps assign body A.heap.size:=⟨_,rfl⟩;have a1:∀s p,(rec s p).isCells=false:=λs p=>by rw[a0];rfl
 have a7:∀s p,∃r,rec s p=.loop r:=λs p=>by rw[a0];exact⟨_,rfl⟩
 have k1:Below A A W1:=by rw[a2];exact(qB).alloc (by simp) _
 obtain⟨kf,vf,hI⟩:=pg;have ac:RbS R gc cb pR bs A (rec .ready none) W1:=by
  refine⟨⟨kf,vf,hI.turn hR.pr.mds (Chg.of_below k1 (S:=λ_=>False)) (λq z=>z.elim)⟩,yAh rm (Chg.of_below k1 (S:=λ_=>False)) (λ_ _ z=>z),sl.below k1,bp.below k1,bc.below k1,bY.below k1,bb.below k1,bR.below k1,bl.below k1,bn,?_,a1 _ _,?_,hA⟩
  .rw[a2,a0];have:=World.alloc_heap_new (A.alloc (.deferred (some []))) (rcL fn a.tmps ps assign body A .ready none);rwa [World.size_alloc]at this
  .rw[a2];exact(Below.heap_alloc _ _ _ (by simp)).trans (World.alloc_heap_new A _)
 have a9:=hK.on _ _ _ _ hk (Chg.of_below k1)
 have a8:=xA7 R.es pR R.b R.off R.cap hR.es (A+1) 18 qj
  (λi W=>(∃bs,RbS R gc cb pR bs A (rec .ready none) W)/\∃out,K out i W/\∀r,RwsR (vwD R.dm) (R.ds.map vwD) ((allC R.es i).map (segE R.es)) r->RwsR (vwD R.dm) (R.ds.map vwD) ((allC R.es 0).map (segE R.es)) (out++r))
  ?hY ?hd ?hr W1 ⟨⟨bs,ac⟩,[],a9,λr hr=>hr⟩
 case hd=>rintro i W ⟨⟨bs,hS⟩,out,hk,hr⟩;have kd:Below W W W.drew:=(Below.refl _ _).drew;exact⟨⟨bs,hS.on hR kd⟩,out,hK.on _ _ _ _ hk (Chg.of_below kd),hr⟩
 case hr=>rintro i W ⟨⟨bs,hS⟩,_⟩;exact⟨hS.bR.cell (j:=0) rfl,hS.sl⟩
 case hY=>rintro i j W ⟨⟨bs,hS⟩,out,hk,hr⟩ hij;have hl:=hS.rc;rw[a0]at hl;refine yD7 hl (by rw[hps];rfl) ?_;refine hassign _ _ _ _ ⟨hl,?_⟩;rw[<-a0];have aa:=yAt W (A+1) (rec .busy none);have a6:=hS.put hR (a1 .busy none);have a5:=hK.on _ _ _ _ hk (aa.mono (λq z=>.inr ⟨by rw[z];omega,by rw[z];exact yBb hS.rc hS.rk⟩));obtain⟨r0,a4⟩:=a7 .busy none;rw[a4]at a6 a5⊢;refine wpIn_mono (hbody _ r0 i j _ bs out a6 hij a5) ?_;rintro e a3 W3 ⟨rfl,bs',o,h1,h2,h3,h4⟩;refine⟨by rw[a4];exact h3.rc,rfl,⟨bs',h3.put hR (a1 .ready none)⟩,out++o,hK.on _ _ _ _ h4 ((yAt W3 (A+1) (rec .ready none)).mono (λq z=>.inr ⟨by rw[z];omega,by rw[z];exact yBb h3.rc rfl⟩)),λr hr2=>?_⟩;rw[append_assoc];refine hr _ ?_;rw[yKx hij,map_cons];exact .cons h1 h2 hr2
 simp only[append_toArray,cons_append,nil_append];refine a8.mono ?_;rintro e W ⟨he,⟨bs,hS⟩,out,hk,hr⟩;refine⟨he,.inl ⟨by have:=hS.rc;rwa [a0]at this,?_⟩⟩;rw[<-a0];have ab:=hS.put hR (a1 .exhausted none);have:=hr [] (by rw[yRh qr];exact .nil);rw[append_nil]at this;exact hQ _ out this (hK.on _ _ _ _ hk ((yAt W (A+1) (rec .exhausted none)).mono (λq z=>.inr ⟨by rw[z];omega,by rw[z];exact yBb hS.rc hS.rk⟩))) ab.mrk
section
attribute [local go_sem] Oper.semAt_some
theorem yGg {F:Fence} {P:Program} (w:World) {ops:Array Oper} {rest:List Oper} {o:Oper}
  (hg:o.guard=none) l c (t:TypeId) (hop:o.op=Op.makeSlice t l c)
  (base:Nat) (e:TypeId) (i:TypeInfo) (z:Value) (size:Nat) (h1:P.underlying t=some (.slice e)) (h2:P.info? e=some i) (h3:i.zero=some z) (h4:i.size=size)
  (kl kc:IntKind) (L C:Int) (m:Nat) (hl:a.eval l=.int kl L) (hc:a.eval c=.int kc C) (hL:L=(m:Int)) (hC:C=(m:Int)) (b2:i.bytes*m<=281474976710656) (b3:m<=maxLen) (b4:base<=w.heap.size)
  (hK:∀w',w'.ownsRow base e size (xg w m m) m (madeCells z.cells (m*size)).toList->w.grownBy w' none->w'.heap.size=w.heap.size+1->wpListIn F n P ops Q rest (a.put o.dst (xg w m m)) w'):
  wpListIn F n P ops Q (o::rest) a w:=by
 refine wpListIn_plain hg λK hK'=>?_;obtain⟨w',a0,r1,r2⟩:=run_make_full (P:=P) w base t e i z size h1 h2 h3 h4 kl kc m b2 b3 b4;have r3:w'.heap.size=w.heap.size+1:=by
  subst h4;have a3:m<=9223372036854775807:=by unfold maxLen at b3;omega
  have a2:(i.bytes:Int)*(m:Int)<=281474976710656:=by
   have h:((i.bytes*m:Nat):Int)<=281474976710656:=qo
   rwa [Int.natCast_mul]at h
  have h9:=run_make (P:=P) w t e i z h1 h2 h3 kl kc m m qo (Int.le_refl _) a2 qo;rw[a0]at h9;simp only[Result.ok.injEq]at h9;rw[h9.2];simp
 subst hL;subst hC;unfold Oper.wpIn;refine⟨?_,?_⟩
 .simp[Oper.about,hop]
 .rw[Oper.semAt_plain F _ _ (by rw[hop];intro c a1;cases a1)];simp[execOp,hop,hl,hc,a0,Result.andThen];exact hK' _ _ (hK w' r1 r2 r3)
theorem yPm (w:World) (ca:Option Addr) (cn cc:Nat):Calls prog 153 #[.slice ca cn cc] w λe w'=>e=.returned (.func (Fn.func 199) #[] #[ptB w.heap.size])/\w'=(xw w #[.slice ca cn cc] 26):=by go_enter func153,ntmps153;go_wp2;go_ret;exact⟨rfl,rfl⟩
theorem xHo (R:RbG) (hR:RbO R) (K:List Ent->Nat->World->Prop) (hK:RbK R 14 K) (hp:R.pg R.Wb) (hm:R.rm R.Wb) (hsl:CSl R.Wb R.b R.off R.cap R.es)
  (hbp:yA R.Wb R.W0 96 2 R.pp [.slice R.a R.n R.c,ptB R.dm.mb]) (hbc:yA R.Wb R.W0 26 1 R.pc [.slice (some ⟨R.b,R.off,none⟩) R.es.length R.cap]) (hk:K [] 0 R.Wb):
  CallsIn Fence.wide 19 prog 152 #[.func (.yield R.lY) #[] #[],ptB R.pp,ptB R.pc] R.Wb λe W'=>(∃v,e=.returned v)/\∃out,RwsR (vwD R.dm) (R.ds.map vwD) ((allC R.es 0).map (segE R.es)) out/\K out R.es.length W':=by
 obtain⟨w,hw⟩:=qE R.Wb;obtain⟨n,hn⟩:=qE R.n;obtain⟨M,hM⟩:=qE R.es.length;obtain⟨pp,a2⟩:=qE R.pp;obtain⟨pc,a3⟩:=qE R.pc;have aB:n<=200:=by rw[hn];exact hR.pr.n2
 have HD:=qH7 hR hw hn hM a2 a3 hK;have HS:Hid (R.pg w/\R.rm w/\CSl w R.b R.off R.cap R.es/\yA w R.W0 96 2 R.pp [.slice R.a R.n R.c,ptB R.dm.mb]/\yA w R.W0 26 1 R.pc [.slice (some ⟨R.b,R.off,none⟩) R.es.length R.cap]/\K [] 0 w):=by rw[hw];exact⟨hp,hm,hsl,hbp,hbc,hk⟩
 obtain⟨A1,a6⟩:=qW (xw w #[.func (.yield R.lY) #[] #[]] 177);have c0:=HS.2.2.2.1.cell (j:=0) rfl;rw[<-a2,<-hn]at c0;have aq:pp<w.heap.size:=by rw[a2];exact HS.2.2.2.1.lt.2
 have ar:pc<w.heap.size:=by rw[a3];exact HS.2.2.2.2.1.lt.2
 obtain⟨ib,ag,i1,i2,i3⟩:=info_parts Tryz.infoBl;have HC:Hid (∀A2,A1.grownBy A2 none->Below w w A2/\xk A2 pc 0 (.slice (some ⟨R.b,R.off,none⟩) M R.cap)):=λA2 hg=>by
  have k1:=qN a6
  have k2:Below w w A2:=⟨hg.os.trans k1.os,hg.tape.trans k1.tape,hg.output.trans k1.output,Nat.le_trans k1.size hg.size,λi hi=>(hg.block i (Nat.lt_of_lt_of_le hi k1.size) (by simp)).trans (k1.block i hi)⟩;refine⟨k2,?_⟩;have:=(HS.2.2.2.2.1.below k2).cell (j:=0) rfl;rw[<-a3,<-hM]at this;exact this
 rw[<-a2,<-a3,<-hw];clear hR hw hn hM a2 a3 hK hp hm hsl hbp hbc hk;refine callsIn_of_wp_marks func152 rfl trivial ?_ rfl;simp only[ntmps152,size_toArray,length_cons,length_nil,Nat.reduceAdd,Nat.reduceSub,Array.replicate_succ,Array.replicate_zero,push_toArray,append_toArray,nil_append,cons_append];have ad:=qS a6
 gi_wp2_with (gi_at_make;rw[<-a6];refine yGg A1 rfl _ _ 118 rfl w 4 ib _ 1 underlying118 ag i1 i2 .i64 .i64 _ _ n rfl rfl rfl rfl (by rw[i3];omega) (by unfold maxLen;omega) qo ?_;intro A2 hO2 a1 an;have c2:=(HC.out A2 a1).2;have av:pc<w.heap.size+1+1:=qo;have au:pc<A2.heap.size:=qo);obtain⟨A3,a5⟩:=qW (xw A2 #[xg (w+1) n n] 118);obtain⟨A4,a4⟩:=qW (xw A3 #[.slice (some ⟨R.b,R.off,none⟩) M R.cap] 26);rw[<-a5];refine⟨trivial,(callsIn_wide.2 (yPm A3 (some ⟨R.b,R.off,none⟩) M R.cap)).mono ?_⟩;rintro e w4 ⟨rfl,rfl⟩;rw[<-a4];obtain⟨pR,aa⟩:=qE A3;rw[<-aa];have HA:Hid (R.Wb.heap.size<=A4.heap.size/\yA A4 R.Wb 177 1 R.Wb [.func (.yield R.lY) #[] #[]]/\yA A4 R.Wb 118 1 (w+1+1) [xg (w+1) R.n R.n]/\yA A4 R.Wb 26 1 pR [.slice (some ⟨R.b,R.off,none⟩) R.es.length R.cap]/\yF1 A4 R.Wb (w+1) R.n (List.replicate R.n false)/\Below w w A4):=by
  have ax:=(HC.out A2 a1).1;have am:Below A1 A1 A2:=⟨a1.os,a1.tape,a1.output,a1.size,λi hi=>a1.block i hi (by simp)⟩;have a9:=qN a5
  have a7:=qN a4
  have e2:A2.heap.size=w.heap.size+1+1:=qo
  have e3:A3.heap.size=w.heap.size+1+1+1:=by rw[a5];simp[e2]
  have e4:A4.heap.size=w.heap.size+1+1+1+1:=by rw[a4];simp[e3]
  have k4:=(ax.trans (a9.mono qo)).trans (a7.mono qo);have b1:yA A1 w 177 1 w [.func (.yield R.lY) #[] #[]]:=by rw[a6];exact yAa w _ qr rfl
  have b2:yA A3 w 118 1 (w+1+1) [xg (w+1) n n]:=by rw[<-e2,a5];exact yAa A2 _ qo rfl
  have b3:yA A4 w 26 1 pR [.slice (some ⟨R.b,R.off,none⟩) M R.cap]:=by rw[aa,a4];exact yAa A3 _ qo rfl
  have b4:yF1 A2 w (w+1) n (List.replicate n false):=by
   have h9:=hO2;rw[ad,yU7 yOu qj false (Value.cells false) rfl n]at h9;have h8:A2.ownsRow w 4 1 (xg (w+1) (List.replicate n false).length n) (List.replicate n false).length ((List.replicate n false).flatMap blF):=by rw[length_replicate];exact h9
   exact h8
  rw[<-HD.2.1,<-HD.2.2.1,<-HD.2.2.2.1];exact⟨qo,((b1.below am).below a9).below a7,b2.below a7,b3,(b4.below a9).below a7,k4⟩
 clear a5 a4 aa hO2 a1 an c2 av au HC ag i1 i2 i3 c0 aq ar ad a6;gi_wp2;refine xEp R HD.1 K HD.2.2.2.2.2.2 HA.1 ?pg ?rm ?sl ?bp ?bc HA.2.1 HA.2.2.1 HA.2.2.2.1 HA.2.2.2.2.1 (by simp) ?hk rfl rfl (λv=>{tmps:=#[.func (.yield R.lY) #[] #[],ptB pp,ptB pc,.pointer (some ⟨w,0,none⟩),.pointer (some ⟨w+1+1,0,none⟩),v,undef,undef,.pointer (some ⟨pp,0,none⟩),.slice R.a n R.c,.int .i64 (n:Int),.slice (some ⟨w+1,0,none⟩) n n,.slice (some ⟨R.b,R.off,none⟩) M R.cap,.func (Fn.func 199) #[] #[ptB pR],v,undef,undef,undef,undef,undef,undef,undef,undef,undef,undef,undef,undef,undef,undef,undef,undef],defers:= []}) ?hassign ?hbody ?hQ;case pg=>
  obtain⟨kf,vf,hI⟩:=HS.1;exact⟨kf,vf,hI.turn HD.1.pr.mds (Chg.of_below HA.2.2.2.2.2 (S:=λ_=>False)) (λq z=>z.elim)⟩
 case rm=>exact yAh HS.2.1 (Chg.of_below HA.2.2.2.2.2 (S:=λ_=>False)) (λ_ _ z=>z)
 case sl=>exact HS.2.2.1.below HA.2.2.2.2.2
 case bp=>exact HS.2.2.2.1.below HA.2.2.2.2.2
 case bc=>exact HS.2.2.2.2.1.below HA.2.2.2.2.2
 case hk=>exact HD.2.2.2.2.2.2.on _ _ _ _ HS.2.2.2.2.2 (Chg.of_below HA.2.2.2.2.2)
 case hassign=>intro l v W K' hK;gi_wp2;exact hK
 case hbody=>
  intro l r0 i j W bs out hS hij hk;have HB:=qH3 hS hij hk;obtain⟨x0,x1⟩:=hS.bp.c2;have x2:=hS.bb.cell (j:=0) rfl;rw[<-HD.2.2.2.2.1]at x0 x1;rw[<-HD.2.2.1]at x0 x2;clear hS hij hk;have al:Hid (Calls prog 154 #[.agg #[.slice R.a n R.c,ptB R.dm.mb],segV R.b R.off R.cap (i,j),xg (w+1) n n] W λe X'=>(∃v,e=.returned v)/\∃a0,CdR (segE R.es (i,j)) (R.ds.map vwD) [] a0/\RbS R (w+1) (w+1+1) pR a0 l (.loop r0) X'/\Chg (R.I W) W X'):=by rw[HD.2.2.1];exact HB.1.dec HD.1 HB.2.1
  gi_wp2;refine⟨trivial,(CallsIn.inRound (l+1) (callsIn_wide.2 al.out)).mono ?_⟩;rintro e W2 ⟨⟨v,rfl⟩,a0,ah,a8,hc2⟩;have ac:=qH3 ah a8 (HD.2.2.2.2.2.2.on _ _ _ _ HB.2.2 hc2);clear x0 x1 x2 ah hc2 al;have x1:=a8.bp.cell (j:=1) rfl;have x2:=a8.bb.cell (j:=0) rfl;rw[<-HD.2.2.2.2.1]at x1;rw[<-HD.2.2.1]at x2;clear a8;gi_wp2;obtain⟨W3,ab⟩:=qW (xw ((W2.alloc (Obj.cells #[ptB R.dm.mb] 94)).alloc (Obj.cells #[segV R.b R.off R.cap (i,j)] 26)) #[xg (w+1) n n] 118);refine⟨trivial,(CallsIn.inRound (l+1) (callsIn_wide.2 (yMf W2 R.dm.mb (some ⟨R.b,R.off+i*5,none⟩) (j-i) (R.cap-i) (some ⟨w+1,0,none⟩) n n))).mono ?_⟩;rintro e w3 ⟨rfl,af⟩;have ao:w3=W3:=by rw[af,ab];rfl
  subst ao;have az:Hid (w3=(xw ((W2.alloc (Obj.cells #[ptB R.dm.mb] 94)).alloc (Obj.cells #[segV R.b R.off R.cap (i,j)] 26)) #[xg (w+1) R.n R.n] 118)):=by rw[<-HD.2.2.1];exact ab
  clear ab af x1 x2;gi_wp2;refine xBd R HD.1 K HD.2.2.2.2.2.2 ac.2.1 HB.2.1 ac.2.2 az.out rfl rfl (λx p told=>{tmps:=#[.func (.yield R.lY) #[] #[],ptB pp,ptB pc,.pointer (some ⟨w,0,none⟩),.pointer (some ⟨w+1+1,0,none⟩),segV R.b R.off R.cap (i,j),.pointer (some ⟨p,0,none⟩),.bool told,.pointer (some ⟨pp,0,none⟩),.slice R.a n R.c,.int .i64 (n:Int),.slice (some ⟨w+1,0,none⟩) n n,.slice (some ⟨R.b,R.off,none⟩) M R.cap,.func (Fn.func 199) #[] #[ptB pR],segV R.b R.off R.cap (i,j),.agg #[.slice R.a n R.c,ptB R.dm.mb],segV R.b R.off R.cap (i,j),.slice (some ⟨w+1,0,none⟩) n n,v,.pointer (some ⟨pp,1,none⟩),ptB R.dm.mb,segV R.b R.off R.cap (i,j),.slice (some ⟨w+1,0,none⟩) n n,.func (Fn.func 200) #[] #[ptB W2,ptB (W2+1),ptB (W2+1+1)],x.c,.bool told,undef,undef,undef,undef,undef],defers:= []}) ?hassign2 ?hbody2 ?hQ2;case hassign2=>
   intro l x told W K' hK;gi_wp2;exact hK
  case hbody2=>intro l2 x told p W4 Kp hb ae hY;obtain⟨fn,tmps,assign,body,hy,aj⟩:=hY W4 (Below.refl _ _);obtain⟨y0,y1,y2,y3,y4⟩:=hb.c5;rw[<-HD.2.1]at ae;clear hb hY;gi_wp2;have ai:=aj;refine ai.mono ?_;rintro e W5 ⟨rfl,ak⟩;have aA:=qH1 ak;clear ak aj ai hy y0 y1 y2 y3 y4 ae;gi_wp2;exact aA.out
  case hQ2=>intro o W3 ho ay aw;have HE:Hid (∃a0 o,CdR (segE R.es (i,j)) (R.ds.map vwD) [] a0/\RowR R.dm.l a0 (segE R.es (i,j)) (List.replicate R.dm.nk newC) o/\RbS R (w+1) (w+1+1) pR a0 l (.loop r0) W3/\K (out++o) j W3):=⟨a0,o,ac.1,ho,ay,aw⟩;gi_wp2;obtain⟨a0,o,z1,z2⟩:=HE.out;exact⟨a0,z1,o,z2⟩
 case hQ=>
  intro W out hr hk hm;have HE:Hid (∀W',Chg (λq=>q∈ [A4.heap.size]) W W'->K out R.es.length W'):=λW' hc=>HD.2.2.2.2.2.2.on _ _ _ _ hk (hc.mono (λq z=>by
   have z':q=A4.heap.size:=by simpa using z
   exact .inr ⟨by rw[z'];exact HA.1,by rw[z'];exact yBb hm rfl⟩))
  have HR:Hid (RwsR (vwD R.dm) (R.ds.map vwD) ((allC R.es 0).map (segE R.es)) out/\MkO 0 [A4.heap.size] W):=⟨hr,by simp,λE hE=>by
   have z':E=A4.heap.size:=by simpa using hE
   rw[z'];exact⟨zero_le _,hm⟩⟩
  clear hr hk hm;gi_wp2;exact yIc (λW=>results_none rfl _ _ _) [A4.heap.size] W 0 HR.2 (λW' hc=>⟨⟨_,rfl⟩,out,HR.1,HE.out W' hc⟩)
end
section
structure RnK (R:RbG) (w:World) (rv:Nat) (rec:Obj) (lD:Nat) (out:List Ent) (ops:Nat) (W:World):Prop where
 res:∃a n c,n=out.length/\yA W w 39 3 R.rb [true,.slice a n c,xi ops]/\RowC W R.Wb (.slice a n c) out
 rc:W.heap[R.lY]?=some rec
 rk:rec.isCells=false
 mrk:W.heap[lD]?=some (.deferred (some []))
 rvb:yA W w 39 3 rv [false,xh,xi 0]
 le:out.length<=ops
 below:Below w w W
 wb:R.Wb.heap.size<=W.heap.size
structure RnO (R:RbG) (w:World) (rv lD:Nat):Prop where
 rb:R.rb<R.tb
 rvl:rv<R.tb
 rbv:¬R.rb=rv
 wl:w.heap.size<=R.tb
 lDl:R.W0.heap.size<=lD
 lY:R.lY=lD+1
 vt:¬R.rb=1
section
variable {R:RbG} {w:World} {rv lD:Nat} {rec:Obj} {out:List Ent} {ops:Nat} {W W':World}
theorem RnK.on (hR:RbO R) (hO:RnO R w rv lD) (h:RnK R w rv rec lD out ops W) (hc:Chg (R.I W) W W'):RnK R w rv rec lD out ops W':=by
 obtain⟨a,n,c,h1,h2,h3⟩:=h.res;have a4:=hR.le;have a3:=hR.pr.tbl;have o1:=hO.rb;have o2:=hO.rvl;have o3:=hO.wl;have o4:=hO.lDl;have o5:=hO.lY;have a2:=hR.lY;have a0:∀q,q<R.tb->¬R.I W q:=λq hq z=>by
  rcases z with z|z
  .exact hR.pr.old hq z
  .have:=z.1;omega
 have a1:∀q o,W.heap[q]?=some o->o.isCells=false->R.W0.heap.size<=q->q<R.Wb.heap.size->¬R.I W q:=λq o ho hi hq hq2 z=>by
  rcases z with z|z
  .exact hR.pr.noO hq ho hi z
  .have:=z.1;omega
 exact {h with
  res:=⟨a,n,c,h1,h2.chg hc (a0 _ o1),h3.chg hc (λk hk z=>by
   have ht:=yAk h3 hk
   have hl:=(World.ownsRow.lt h3 k hk).1
   rcases z with z|z
   .exact hR.pr.noT qo ht qj z
   .exact z.2 ht)⟩
  rc:=by rw[hc.block _ (Array.getElem?_eq_some_iff.1 h.rc).1 (a1 _ _ h.rc h.rk qo a2)];exact h.rc
  mrk:=by rw[hc.block _ (Array.getElem?_eq_some_iff.1 h.mrk).1 (a1 _ _ h.mrk rfl o4 qo)];exact h.mrk
  rvb:=h.rvb.chg hc (a0 _ o2)
  below:=Chg.below h.below hc h.below.size (λq z=>by
   rcases z with z|z
   .have:¬q<R.tb:=λhq=>hR.pr.old hq z
    omega
   .have:=z.1;omega)
  wb:=Nat.le_trans h.wb hc.size}
theorem RnK.own (hR:RbO R) (hO:RnO R w rv lD) (h:RnK R w rv rec lD out ops W):∀q,q=R.rb∨q=R.lY->(q<R.tb/\¬q=1)∨(R.W0.heap.size<=q/\¬ObT 181 W q):=λq z=>by
 have o4:=hO.lDl
 have o5:=hO.lY
 rcases z with z|z
 .exact .inl ⟨by rw[z];exact hO.rb,by rw[z];exact hO.vt⟩
 .exact .inr ⟨qo,by rw[z];exact yBb h.rc h.rk⟩
theorem RnK.put (hR:RbO R) (hO:RnO R w rv lD) (h:RnK R w rv rec lD out ops W) {rec':Obj} (hb:rec'.isCells=false):RnK R w rv rec' lD out ops (W.putObj R.lY rec'):=by
 obtain⟨a,n,c,h1,h2,h3⟩:=h.res;have a0:=yAt W R.lY rec';have a1:∀t,¬ObT t W R.lY:=λt=>yBb h.rc h.rk;have o3:=hO.wl;have o4:=hO.lDl;have o5:=hO.lY;have a2:=hR.pr.tbl
 exact {h with
  res:=⟨a,n,c,h1,h2.chg a0 (λq=>a1 _ (by rw[<-q];exact yAk h2 rfl)),h3.chg a0 (λk hk q=>a1 _ (by rw[<-q];exact yAk h3 hk))⟩
  rc:=World.putObj_heap_same (Array.getElem?_eq_some_iff.1 h.rc).1
  rk:=hb
  mrk:=(World.putObj_heap_other qo).trans h.mrk
  rvb:=h.rvb.chg a0 (λq=>a1 _ (by rw[<-q];exact yAk h.rvb rfl))
  below:=Chg.below h.below a0 h.below.size (λq z=>qo)
  wb:=Nat.le_trans h.wb a0.size}
end
variable {rv:Nat}
theorem xEh {R:RbG} {lD:Nat} (hR:RbO R) (hO:RnO R w rv lD) (hWl:w.heap.size<=R.Wb.heap.size) {fn:FuncId} {assign:Code} {D m:Nat} (hps:ps.size=2) (a₁:Ent->Nat->Bool->Act)
  (hassign:∀(l:Nat) (x:Ent) (told:Bool) (W:World) (K':Act->World->Prop),K' (a₁ x W told) (xw W #[x.row,x.fam,x.qual,xu x.ts,x.val] 70)->assign.wpIn (Fence.wide.inRound l) m prog (Exit.then K' (λ_ _ _=>False)) {tmps:=(ps.zip #[x.c,told]).foldl (λt (p,v)=>t.setIfInBounds p v) tmps,defers:= []} W)
  (hbody:∀(l:Nat) (x:Ent) (told:Bool) (p:Nat) (W:World) (a:Option Addr) (n c ops:Nat) (out:List Ent),yA W w 39 3 R.rb [true,.slice a n c,xi ops]->n=out.length->n<=10000->ops<=10000->RowC W R.Wb (.slice a n c) out->yA W R.Wb 70 5 p x.five->¬(Value.slice a n c).ownBlock=some p->R.Wb.heap.size<=W.heap.size->
   body.wpIn (Fence.wide.inRound l) m prog (λe _ W'=>e=.normal/\∃a' n' c',n'=(if told=true then out++ [x]else out).length/\yA W' w 39 3 R.rb [true,.slice a' n' c',xi (ops+1:Nat)]/\RowC W' R.Wb (.slice a' n' c') (if told=true then out++ [x]else out)/\Chg (λq=>q=R.rb∨(R.Wb.heap.size<=q/\ObT 70 W q)) W W') (a₁ x p told) W):
  ∀out ops (x:Ent) (told:Bool) W,RnK R w rv (rcL fn tmps ps assign body D .ready none) lD out ops W->ops<R.es.length->YieldAt Fence.wide m prog R.lY #[x.c,told] W λe W'=>e=.returned true/\RnK R w rv (rcL fn tmps ps assign body D .ready none) lD (if told=true then out++ [x]else out) (ops+1) W'/\Chg (R.Y W) W W':=by
 intro out ops x told W h ab;obtain⟨rec,a2⟩:∃rec:LoopState->Option Code->Obj,rec=rcL fn tmps ps assign body D:=⟨_,rfl⟩;have a4:∀s p,(rec s p).isCells=false:=λs p=>by rw[a2];rfl
 have o1:=hO.rb;have o2:=hO.rvl;have o3:=hO.wl;have o4:=hO.lDl;have o5:=hO.lY;have ad:=hR.le;have a9:=hR.pr.tbl;have aa:=hR.rb;have af:=hR.es;refine yD7 h.rc (by rw[hps];rfl) ?_;refine hassign _ x told _ _ ?_;obtain⟨A,hA⟩:=qE (W.alloc (Obj.cells #[x.row,x.fam,x.qual,xu x.ts,x.val] 70));have kA:=qN hA
 rw[<-a2]at h;have ae:=(Array.getElem?_eq_some_iff.1 h.rc).1;have a7:=h.wb;have bA:yA A R.Wb 70 5 W x.five:=by rw[hA];exact yAa W _ a7 rfl
 rw[<-hA];clear hA;have hA:=h.on hR hO (Chg.of_below kA);have a6:=hA.rc;rw[<-a2];refine⟨a6,?_⟩;have hB:=hA.put hR hO (a4 .busy none);have a0:=yAt A R.lY (rec .busy none);have bB:=bA.chg a0 (λq=>(yAk bA rfl).not (by rw[q];exact hA.rc) hA.rk);obtain⟨B,a8⟩:=qE (A.putObj R.lY (rec .busy none));rw[<-a8]at hB a0 bB⊢;obtain⟨a,n,c,n1,m2,m3⟩:=h.res;have n2:=(m2.below kA).chg a0 (λq=>yBb hA.rc hA.rk (by rw[<-q];exact yAk (m2.below kA) rfl));have n3:=(m3.below kA).chg a0 (λk hk q=>yBb hA.rc hA.rk (by rw[<-q];exact yAk (m3.below kA) hk));have ac:=hB.le;have a5:¬(Value.slice a n c).ownBlock=some W.heap.size:=λz=>by have:=(World.ownsRow.lt m3 _ z).2;omega
 refine wpIn_mono (hbody _ x told W B a n c ops out n2 n1 (by omega) (by omega) n3 bB a5 (by have:=bB.lt;omega)) ?_;rintro e a3 W3 ⟨rfl,a',n',c',p1,p2,p3,p4⟩;have a1:∀q,(q=R.rb∨(R.Wb.heap.size<=q/\ObT 70 B q))->¬q=R.lY/\¬q=lD/\¬q=rv/\w.heap.size<=q:=λq z=>by
  rcases z with z|z
  .have:=n2.lt.1;have:=hO.rbv;omega
  .have:=z.1;have:=hR.lY;omega
 have hC:RnK R w rv (rec .busy none) lD (if told=true then out++ [x]else out) (ops+1) W3:=
  {res:=⟨a',n',c',p1,p2,p3⟩
   rc:=by rw[p4.block _ (Array.getElem?_eq_some_iff.1 hB.rc).1 (λz=>(a1 _ z).1 rfl)];exact hB.rc
   rk:=a4 _ _
   mrk:=by rw[p4.block _ (Array.getElem?_eq_some_iff.1 hB.mrk).1 (λz=>(a1 _ z).2.1 rfl)];exact hB.mrk
   rvb:=hB.rvb.chg p4 (λz=>(a1 _ z).2.2.1 rfl)
   le:=by
    have:=hB.le
    cases told
    .exact le_succ_of_le this
    .simp only[if_true,length_append,length_singleton];omega
   below:=Chg.below hB.below p4 hB.below.size (λq z=>(a1 q z).2.2.2)
   wb:=Nat.le_trans hB.wb p4.size}
 refine⟨hC.rc,rfl,hC.put hR hO (a4 _ _),?_⟩;have c1:Chg (R.Y W) W A:=Chg.of_below kA;have c2:Chg (R.Y W) W B:=c1.absorb a0 (λq z=>.inl (.inr (.inl z)));have c3:Chg (R.Y W) W W3:=⟨p4.os.trans c2.os,p4.tape.trans c2.tape,p4.output.trans c2.output,Nat.le_trans c2.size p4.size,λi hi hn=>by
  have e1:=c2.block i hi hn
  refine(p4.block i (Nat.lt_of_lt_of_le hi c2.size) (λz=>hn ?_)).trans e1
  rcases z with z|⟨z0,cur,z⟩
  .exact .inl z
  .rw[e1]at z;exact .inr (.inr ⟨z0,cur,z⟩)⟩
 exact c3.absorb (yAt _ _ _) (λq z=>.inl (.inr (.inl z)))
end
section
structure RmS (R:RbG) (ph:Nat) (hints:Bool) (X:World):Prop where
 sl:CSl X R.b R.off R.cap R.es
 bp:yA X R.W0 96 2 R.pp [.slice R.a R.n R.c,ptB R.dm.mb]
 bc:yA X R.W0 26 1 R.pc [.slice (some ⟨R.b,R.off,none⟩) R.es.length R.cap]
 bh:yA X R.W0 4 1 ph [hints]
 hl:ph<R.Wb.heap.size
 hn:¬ph=R.rb/\¬ph=R.lY
section
variable {R:RbG} {ph:Nat} {hints:Bool} {X X':World}
theorem RmS.move (hR:RbO R) (h:RmS R ph hints X) {S:Nat->Prop} (hc:Chg S X X') (hS:∀q,S q->R.qu X q∨R.Y X q):RmS R ph hints X':=by
 have a2:=hR.le;have a0:∀(g t:Nat),ObT t X g->¬181=t->¬70=t->R.W0.heap.size<=g->¬g=R.rb->¬g=R.lY->¬S g:=λg t ht h1 h2 h4 h5 h6 z=>by
  rcases hS g z with q|(q|q|q)
  .exact hR.pr.noT h4 ht h1 q
  .exact h5 q
  .exact h6 q
  .exact h2 (q.2.one ht)
 exact {h with
  sl:=h.sl.chg hc (λz=>by
   have hb:=hR.b
   have a1:=hR.pr.tbl
   have hn:=hR.bn
   rcases hS _ z with q|(q|q|q)
   .exact hR.pr.old hb q
   .exact hn.1 q
   .exact hn.2 q
   .have:=q.1;omega)
  bp:=h.bp.chg hc (a0 _ _ (yAk h.bp rfl) qj qj h.bp.lt.1 hR.pp.1 hR.pp.2)
  bc:=h.bc.chg hc (a0 _ _ (yAk h.bc rfl) qj qj h.bc.lt.1 hR.pc.1 hR.pc.2)
  bh:=h.bh.chg hc (a0 _ _ (yAk h.bh rfl) qj qj h.bh.lt.1 h.hn.1 h.hn.2)}
theorem RmS.mvs (hR:RbO R) (h:RmS R ph hints X) {v:Value} (hp:R.pd R.dm ks v X):MvS (R.mch R.dm) R.dm.N R.es R.pc R.pp ph R.b R.off R.cap hints ks v X:=by
 have a1:=hp.mc hR.dm;refine⟨a1,h.bc.cell (j:=0) rfl,h.bp.cell (j:=1) rfl,h.bh.cell (j:=0) rfl,h.sl,λq hq=>?_⟩;have hz:=McI.qu hR.dm a1 q;have a0:¬R.qu X q:=by
  rcases hq with rfl|rfl
  .exact hR.pr.noT h.bh.lt.1 (yAk h.bh rfl) qj
  .exact hR.pr.old hR.b
 exact⟨λk=>a0 (hz (.inl k)),λk=>a0 (hz (.inr (.inl k))),λk=>a0 (hz (.inr (.inr (.inl k)))),λk=>a0 (hz (.inr (.inr (.inr k))))⟩
end
theorem xHm (R:RbG) (hR:RbO R) (hn0:R.n=0) (hord:R.es.Pairwise λa b=>yAo (putE a) (putE b)= -1) (K:List Ent->Nat->World->Prop) (hK:RbK R 18 K) {ph:Nat} {hints:Bool} {ks0:List Ctr} {v0:Value} (hp:R.pd R.dm ks0 v0 R.Wb) (hf:ks0=List.replicate R.dm.nk newC) (hs:RmS R ph hints R.Wb) (hk:K [] 0 R.Wb):
  CallsIn Fence.wide 19 prog 103 #[.func (.yield R.lY) #[] #[],ptB R.pc,ptB R.pp,ptB ph] R.Wb λe W'=>(∃v,e=.returned v)/\∃out ops,MvR R.dm.l hints R.es (List.replicate R.dm.nk newC) out ops/\K out ops W':=by
 have al:=hR.le;have ab:=(hR.pr.mds.md R.dm hR.dm).1;have a3:=hR.gm;rw[hn0]at a3;have ah:=ySw hR.pr.mds hR.dm (yJ9 hR.gm (by simp))
 have ac:=xBt (R.mch R.dm) R.dm.l R.dm.N R.es R.pc R.pp ph R.b R.off R.cap hints hR.es ah a3 ab.len rfl hR.row hord R.lY 19 qj
  (λi ks v X=>RmS R ph hints X/\R.pd R.dm ks v X/\∃out m,K out m X/\m<=i/\∀o k,MvR R.dm.l hints (R.es.drop i) ks o k->MvR R.dm.l hints R.es (List.replicate R.dm.nk newC) (out++o) (m+k))
  ?hY (λi ks v X h=>h.1.mvs hR h.2.1) R.Wb ks0 v0 ⟨hs,hp,[],0,hk,Nat.le_refl _,λo k ho=>by rw[nil_append,Nat.zero_add,<-hf];exact ho⟩
 case hY=>
  rintro i c it ks a5 v v' X0 X ⟨aj,a2,out,m,ag,ak,a8⟩ hc ae ad a4 a6;have a9:=a2.step hR.pr.mds hR.dm ad a4 a6;have a1:=hR.pr.mcq hR.dm (a2.mc hR.dm) a4;have ai:=aj.move hR a1 (λq z=>.inl z);have a0:=hK.on _ _ _ _ ag (a1.mono (λq z=>.inl z));have hi:=qf hc;have a7:=MvR.step (j:=nxtM R.es hints i it c) a8 hc ae rfl;refine yH4 (hK.yld _ _ (yB it c) it.alive X a0 qo) ?_;rintro e W'' ⟨he,af,hc2⟩;have aa:R.pd R.dm a5 v' W'':=a9.turn hR.pr.mds hc2 (λq z=>by
   rcases z with z|z|z
   .exact hK.own _ _ _ a0 q (.inl z)
   .exact hK.own _ _ _ a0 q (.inr z)
   .exact .inr ⟨qw z.1,yF6 z.2 qj⟩)
  refine⟨he,ai.move hR hc2 (λq z=>.inr z),aa,_,_,af,?_,a7⟩;unfold nxtM;split<;>omega
 refine ac.mono ?_;rintro e X ⟨he,ks,v,_,_,out,m,hk,_,hr⟩;exact⟨he,out,m,MvR.done hr qr,hk⟩
end
structure RxP (G:PrG) (d0:Md) (es:List Ent) (b off cap:Nat) (rb rv:Nat) (w X:World):Prop where
 pr:PrO G
 d0m:d0∈G.all
 gm:yBe d0.l (d0.nk:Int) G.n
 esl:es.length<=10000
 row:∀c∈es,¬c.row=⟨#[]⟩
 ord:es.Pairwise λa b=>yAo (putE a) (putE b)= -1
 bl:b<G.tb
 le:G.W0.heap.size<=X.heap.size
 rbl:rb<G.tb
 rvl:rv<G.tb
 ne:¬rb=rv
 br:¬b=rb
 vt:¬rb=1
 wl:w.heap.size<=G.tb
 rr:∀q,(Value.slice G.a G.n G.c).ownBlock=some q->¬q=rb/\q<X.heap.size
 pd:∃v0,G.pd d0 (List.replicate d0.nk newC) v0 X
 rm:G.rm X
 sl:CSl X b off cap es
 res:yA X w 39 3 rb [true,xh,xi 0]
 rvb:yA X w 39 3 rv [false,xh,xi 0]
 below:Below w w X
structure RxO (G:PrG) (d0:Md) (es:List Ent) (b off cap:Nat) (pp pc rb rv:Nat) (w X:World):Prop extends RxP G d0 es b off cap rb rv w X where
 bp:yA X G.W0 96 2 pp [.slice G.a G.n G.c,ptB d0.mb]
 bc:yA X G.W0 26 1 pc [.slice (some ⟨b,off,none⟩) es.length cap]
variable {G:PrG} {d0:Md} {rb rv:Nat}
theorem RxP.on {off:Nat} {X':World} (h:RxP G d0 es b off cap rb rv w X) (k:Below X X X'):RxP G d0 es b off cap rb rv w X':=
 {h with
  le:=Nat.le_trans h.le k.size
  rr:=λq hq=>⟨(h.rr q hq).1,Nat.lt_of_lt_of_le (h.rr q hq).2 k.size⟩
  pd:=by obtain⟨v0,kf,vf,hI,h1,h2⟩:=h.pd;exact⟨v0,kf,vf,hI.turn h.pr.mds (Chg.of_below k (S:=λ_=>False)) (λq z=>z.elim),h1,h2⟩
  rm:=yAh h.rm (Chg.of_below k (S:=λ_=>False)) (λ_ _ z=>z)
  sl:=h.sl.below k
  res:=h.res.below k
  rvb:=h.rvb.below k
  below:=h.below.trans (k.mono h.below.size)}
def MvP (G:PrG) (d0:Md) (es:List Ent) (b off cap rb rv:Nat) (hints:Bool) (w:World) (e:Ending) (X':World):Prop:=
 ∃f lb,e=.returned (.func (Fn.func f) #[] lb)/\Hid (∃pp pc ph,RxO G d0 es b off cap pp pc rb rv w X'/\((G.n=0/\f=103/\lb=#[ptB pc,ptB pp,ptB ph]/\yA X' G.W0 4 1 ph [hints])∨(¬G.n=0/\f=152/\lb=#[ptB pp,ptB pc])))
theorem ySr {off:Nat} (H:RxP G d0 es b off cap rb rv w X) (hints:Bool):
  Calls prog 47 #[.agg #[.slice G.a G.n G.c,ptB d0.mb],.slice (some ⟨b,off,none⟩) es.length cap,hints] X (MvP G d0 es b off cap rb rv hints w):=by
 have a6:=H.le;obtain⟨A1,a2⟩:=qW (xw X #[.slice G.a G.n G.c,ptB d0.mb] 96);obtain⟨A2,a1⟩:=qW (xw A1 #[.slice (some ⟨b,off,none⟩) es.length cap] 26);obtain⟨A3,a0⟩:=qW (xw A2 #[hints] 4);have e1:=qS a2
 have e2:A2.heap.size=X.heap.size+1+1:=by rw[a1];simp[e1]
 have e3:A3.heap.size=X.heap.size+1+1+1:=by rw[a0];simp[e2]
 have q1:=qN a2
 have q2:=qN a1
 have q3:=qN a0
 have k3:=(q1.trans (q2.mono qo)).trans (q3.mono qo);by_cases hn:G.n=0
 .have b1:yA A1 G.W0 96 2 X [.slice G.a G.n G.c,ptB d0.mb]:=by rw[a2];exact yAa X _ a6 rfl
  have b2:yA A2 G.W0 26 1 (X+1) [.slice (some ⟨b,off,none⟩) es.length cap]:=by rw[<-e1,a1];exact yAa A1 _ qo rfl
  have b3:yA A3 G.W0 4 1 (X+1+1) [hints]:=by rw[<-e2,a0];exact yAa A2 _ qo rfl
  have h9:=yWi X G.a G.c d0.mb (some ⟨b,off,none⟩) es.length cap hints;rw[<-hn]at h9;refine h9.mono ?_;rintro e X' ⟨he,a4⟩;have a8:X'=A3:=by rw[a4,a0,a1,a2]
  subst a8;exact⟨_,_,he,⟨X,X+1,X+1+1,{H.on k3 with bp:=(b1.below q2).below q3,bc:=b2.below q3},.inl ⟨hn,rfl,rfl,b3⟩⟩⟩
 .obtain⟨A4,a3⟩:=qW (xw A3 #[.slice G.a G.n G.c,ptB d0.mb] 96);obtain⟨A5,a5⟩:=qW (xw A4 #[.slice (some ⟨b,off,none⟩) es.length cap] 26);have e4:A4.heap.size=X.heap.size+1+1+1+1:=by rw[a3];simp[e3]
  have q4:=qN a3
  have q5:=qN a5
  have k5:=(k3.trans (q4.mono qo)).trans (q5.mono qo);have b1:yA A4 G.W0 96 2 (X+1+1+1) [.slice G.a G.n G.c,ptB d0.mb]:=by rw[<-e3,a3];exact yAa A3 _ qo rfl
  have b2:yA A5 G.W0 26 1 (X+1+1+1+1) [.slice (some ⟨b,off,none⟩) es.length cap]:=by rw[<-e4,a5];exact yAa A4 _ qo rfl
  refine(yN1 X G.a G.n G.c d0.mb qo (some ⟨b,off,none⟩) es.length cap hints).mono ?_;rintro e X' ⟨he,a4⟩;have a7:X'=A5:=by rw[a4,a5,a3,a0,a1,a2]
  subst a7;exact⟨_,_,he,⟨X+1+1+1,X+1+1+1+1,0,{H.on k5 with bp:=b1.below q5,bc:=b2},.inr ⟨hn,rfl,rfl⟩⟩⟩
theorem xBa {off pp pc ph:Nat} {hints:Bool} (H:RxO G d0 es b off cap pp pc rb rv w X)
  {g:Operand} {ps:Array Tmp} {assign body:Code} {Q:Exit->Act->World->Prop} {a:Act} {f:Nat} {lb:Array Value} (hg:a.eval g=.func (.func f) #[] lb)
  (hf:(G.n=0/\f=103/\lb=#[ptB pc,ptB pp,ptB ph]/\yA X G.W0 4 1 ph [hints])∨(¬G.n=0/\f=152/\lb=#[ptB pp,ptB pc])) (hps:ps.size=2) (a₁:Ent->Nat->Bool->Act)
  (hassign:∀(m l:Nat) (x:Ent) (told:Bool) (W:World) (K':Act->World->Prop),K' (a₁ x W told) (xw W #[x.row,x.fam,x.qual,xu x.ts,x.val] 70)->assign.wpIn (Fence.wide.inRound l) m prog (Exit.then K' (λ_ _ _=>False)) {tmps:=(ps.zip #[x.c,told]).foldl (λt (p,v)=>t.setIfInBounds p v) a.tmps,defers:= []} W)
  (hbody:∀(m l:Nat) (x:Ent) (told:Bool) (p B:Nat) (W:World) (a:Option Addr) (n c ops:Nat) (out:List Ent),rb<B->yA W w 39 3 rb [true,.slice a n c,xi ops]->n=out.length->n<=10000->ops<=10000->RowC W B (.slice a n c) out->yA W B 70 5 p x.five->¬(Value.slice a n c).ownBlock=some p->B<=W.heap.size->
   body.wpIn (Fence.wide.inRound l) m prog (λe _ W'=>e=.normal/\∃a' n' c',n'=(if told=true then out++ [x]else out).length/\yA W' w 39 3 rb [true,.slice a' n' c',xi (ops+1:Nat)]/\RowC W' B (.slice a' n' c') (if told=true then out++ [x]else out)/\Chg (λq=>q=rb∨(B<=q/\ObT 70 W q)) W W') (a₁ x p told) W)
  (hQ:∀(out:List Ent) (ops:Nat) (W:World) (a':Option Addr) (n' c':Nat),n'=out.length->((¬G.n=0/\RwsR (vwD d0) (G.ds.map vwD) ((allC es 0).map (segE es)) out/\ops=es.length)∨(G.n=0/\MvR d0.l hints es (List.replicate d0.nk newC) out ops))->yA W w 39 3 rb [true,.slice a' n' c',xi ops]->yA W w 39 3 rv [false,xh,xi 0]->RowC W X (.slice a' n' c') out->Below w w W->W.heap[X.heap.size]?=some (.deferred (some []))->Q .normal {a with defers:=mkD X.heap.size::a.defers} W):
  (Code.rangeFunc g ps assign body).wpIn Fence.wide 20 prog Q a X:=by
 refine yGa hg (λargs w=>by rcases hf with⟨_,rfl,_⟩|⟨_,rfl,_⟩<;>simp[go_sem]) qj ?_;intro fn W1 a3;have k1:Below X X W1:=by rw[a3];exact(qB).alloc (by simp) _
 have z1:W1.heap.size=X.heap.size+1+1:=by rw[a3];simp
 have r1:W1.heap[X.heap.size+1]?=some (rcL fn a.tmps ps assign body X .ready none):=by rw[a3];have:=World.alloc_heap_new (X.alloc (.deferred (some []))) (rcL fn a.tmps ps assign body X .ready none);rwa [World.size_alloc]at this
 have m1:W1.heap[X.heap.size]?=some (.deferred (some [])):=by rw[a3];exact(Below.heap_alloc _ _ _ (by simp)).trans (World.alloc_heap_new X _)
 obtain⟨R,a0⟩:=qE ({toPrG:=G,Wb:=W1,dm:=d0,es:=es,b:=b,off:=off,cap:=cap,pp:=pp,pc:=pc,rb:=rb,lY:=X.heap.size+1}:RbG);have ah:=H.pr.tbl;have ai:=H.le;have o1:=H.rbl;have o2:=H.rvl;have o3:=H.wl;have o4:=H.bl;have s1:=k1.size;have b1:=H.bp.lt;have b2:=H.bc.lt;have eP:R.toPrG=G:=by rw[a0]
 have hR:RbO R:=by
  rw[a0]
  exact {pr:=H.pr,dm:=H.d0m,gm:=H.gm,es:=H.esl,row:=H.row,b:=H.bl,le:=by show G.W0.heap.size<=W1.heap.size;omega,rb:=by show rb<W1.heap.size;omega,lY:=by show X.heap.size+1<W1.heap.size;omega,
         pp:=⟨by show¬pp=rb;omega,by show¬pp=X.heap.size+1;omega⟩,pc:=⟨by show¬pc=rb;omega,by show¬pc=X.heap.size+1;omega⟩,bn:=⟨H.br,by show¬b=X.heap.size+1;omega⟩,
         rr:=λq hq=>⟨(H.rr q hq).1,by have:=(H.rr q hq).2;show¬q=X.heap.size+1;omega,by have:=(H.rr q hq).2;show q<W1.heap.size;omega⟩}
 have hO:RnO R w rv X.heap.size:=by rw[a0];exact {rb:=H.rbl,rvl:=H.rvl,rbv:=H.ne,wl:=H.wl,lDl:=H.le,lY:=rfl,vt:=H.vt}
 have af:w.heap.size<=R.Wb.heap.size:=by rw[a0];show w.heap.size<=W1.heap.size;omega
 have ac:rb<R.Wb.heap.size:=by rw[a0];show rb<W1.heap.size;omega
 have a7:R.rb=rb:=by rw[a0]
 have a2:RnK R w rv (rcL fn a.tmps ps assign body X .ready none) X [] 0 W1:=by rw[a0];exact {res:=⟨none,0,0,rfl,H.res.below k1,⟨rfl,.inl ⟨rfl,rfl⟩⟩⟩,rc:=r1,rk:=rfl,mrk:=m1,rvb:=H.rvb.below k1,le:=Nat.le_refl _,below:=H.below.trans (k1.mono H.below.size),wb:=Nat.le_refl _}
 have hK:∀m,RbK R m (RnK R w rv (rcL fn a.tmps ps assign body X .ready none) X):=λm=>
  {on:=λout ops W W' h hc=>h.on hR hO hc
   own:=λout ops W h=>h.own hR hO
   yld:=xEh hR hO af hps a₁ (hassign m) (λl x told p W a n c ops out h1 h2 h3 h4 h5 h6 h7 h8=>by
    rw[a7]at h1⊢
    exact hbody m l x told p R.Wb W a n c ops out ac h1 h2 h3 h4 h5 h6 h7 h8)}
 have a5:∀out ops e W2,(∃v,e=Ending.returned v)->((¬G.n=0/\RwsR (vwD d0) (G.ds.map vwD) ((allC es 0).map (segE es)) out/\ops=es.length)∨(G.n=0/\MvR d0.l hints es (List.replicate d0.nk newC) out ops))->RnK R w rv (rcL fn a.tmps ps assign body X .ready none) X out ops W2->(∃v,e=Ending.returned v)/\
   ((W2.heap[X.heap.size+1]?=some (rcL fn a.tmps ps assign body X .ready none)/\Q .normal {a with defers:={target:=.collected X,args:=#[]}::a.defers} (W2.putObj (X+1) (rcL fn a.tmps ps assign body X .exhausted none)))∨
    ∃c,W2.heap[X.heap.size+1]?=some (rcL fn a.tmps ps assign body X .done (some c))/\c.wpIn Fence.wide 20 prog Q {a with defers:={target:=.collected X,args:=#[]}::a.defers} (W2.putObj (X+1) (rcL fn a.tmps ps assign body X .exhausted (some c)))):=λout ops e W2 he hm hk=>by
  have a8:R.lY=X.heap.size+1:=by rw[a0]
  refine⟨he,.inl ⟨by have:=hk.rc;rwa [a8]at this,?_⟩⟩;have h2:=hk.put hR hO (rec':=rcL fn a.tmps ps assign body X .exhausted none) rfl;rw[a8]at h2;obtain⟨a',n',c',q1,q2,q3⟩:=h2.res;rw[a7]at q2;refine hQ out ops _ a' n' c' q1 hm q2 h2.rvb ⟨q3.1,?_⟩ h2.below h2.mrk;rcases q3.2 with z|⟨g',ag,cur,hv,a9,rest⟩
  .exact .inl z
  .exact .inr ⟨g',ag,cur,hv,Nat.le_trans (by rw[a0];exact s1) a9,rest⟩
 obtain⟨v0,kf,vf,hI,ae,aa⟩:=H.pd;have a4:R.pd R.dm (List.replicate d0.nk newC) v0 W1:=by rw[a0];exact⟨kf,vf,hI.turn H.pr.mds (Chg.of_below k1 (S:=λ_=>False)) (λq z=>z.elim),ae,aa⟩
 rcases hf with⟨hn,rfl,rfl,a6⟩|⟨hn,rfl,rfl⟩
 .have a1:=xHm R hR (by rw[a0];exact hn) (by rw[a0];exact H.ord) _ (hK 18) (ph:=ph) (hints:=hints) (by rw[a0]at a4⊢;exact a4) (by rw[a0]) (by
   rw[a0]
   have b3:=a6.lt
   exact⟨H.sl.below k1,H.bp.below k1,H.bc.below k1,a6.below k1,by show ph<W1.heap.size;omega,by show¬ph=rb;omega,by show¬ph=X.heap.size+1;omega⟩) (by rw[a0]at a2⊢;exact a2)
  simp only[append_toArray,cons_append,nil_append];rw[a0]at a1;refine a1.mono ?_;rintro e W2 ⟨he,out,ops,ad,hk⟩;exact a5 out ops e W2 he (.inr ⟨hn,ad⟩) (by rw[a0];exact hk)
 .have a1:=xHo R hR _ (hK 14) (by obtain⟨a,b,c,_⟩:=a4;rw[a0]at c⊢;exact⟨a,b,c⟩) (by rw[a0];exact yAh H.rm (Chg.of_below k1 (S:=λ_=>False)) (λ_ _ z=>z)) (by rw[a0];exact H.sl.below k1) (by rw[a0];exact H.bp.below k1) (by rw[a0];exact H.bc.below k1) (by rw[a0]at a2⊢;exact a2);simp only[append_toArray,cons_append,nil_append];rw[a0]at a1;refine a1.mono ?_;rintro e W2 ⟨he,out,ab,hk⟩;exact a5 out es.length e W2 he (.inl ⟨hn,ab,rfl⟩) (by rw[a0];exact hk)
def LcP (w:World) (bs:List Bk) (m:Bk) (e:Ending) (w':World):Prop:=
 ∃(a:Option Addr) (n c mb:Nat),e=.returned (.agg #[.slice a n c,xp mb])/\Hid (∃(d0:Md) (ds:List Md) (Ts:List Tt) (NM:Nat),d0.mb=mb/\n=ds.length/\RowM w' w (.slice a n c) ds/\MdsA (w+1+1+1) (w+1+1) NM Ts (d0::ds) w'/\dkl d0=bkl m/\ds.map dkl=bs.map bkl/\(∀q,(Value.slice a n c).ownBlock=some q->∀X∈Ts,X.t<q∨q<X.lo)/\Below w w w')
theorem yK9 {α:Type} {f:α->List Value} {sz ty:Nat} {ops:Array Oper} (hf:∀x,(f x).length=sz) (w:World) (hgd:oo.guard=none) s x (sty:Nat)
  (ho:oo.op=.call {callee:=.builtin .append,args:=#[s,x],argTypes:=#[sty,sty]}) (hst:prog.underlying sty=some (.slice ty)) {z:Value} {bytes:Nat} (hin:(prog.info? ty).map (λi=>(i.zero,i.size,i.bytes))=some (some z,sz,bytes)) (hz:z.cells.size=sz) (hsz:0<sz) (hby:bytes<=1000)
  (h1:∀x,∀u∈f x,u.oneCell'=true)
  (base:Nat) (v:Value) (n b cx:Nat) (fs:List α) (e:α) (hs:a.eval s=v) (hx:a.eval x=(xg b 1 cx)) (hn:n=fs.length) (hO:w.ownsRow base ty sz v fs.length (fs.flatMap f))
  (hc:∀j u,(f e)[j]?=some u->(xk w b j u:Prop)) (hlen:fs.length<=1000000) (hbase:base<=w.heap.size)
  (h:∀g' cp' w',OwnG f sz ty w' base g' cp' (fs++ [e])->w.grownBy w' v.ownBlock->(v.ownBlock=some g'∨g'=w.heap.size)->K (a.put oo.dst (xg g' (n+1) cp')) w'):if Region.wanted oo (yielded ops a.tmps)=true then Oper.wp prog oo a w K Q else E:=by
 subst hn;obtain⟨i,hi,a2,a1,a0⟩:=info_parts hin;refine step_append_lies w hgd s x sty ho base ty i _ sz bytes hst hi a2 a1 a0 hz hsz v fs.length (fs.flatMap f) hs hO (xd b 0) 1 cx (f e) hx (by rw[hf];omega) (λj u hu=>by rw[Addr.add_mid,Nat.zero_add];exact hc j u hu) (h1 e) (by decide) ?_ ?_ hbase w rfl ?_
 .unfold maxLen;omega
 .have:=Nat.mul_le_mul (show fs.length+1<=1000001 by omega) hby;omega
 .intro g' cp' w' hO' a3 a4 a5;refine h g' cp' w' ?_ a3 a4;exact xAm
theorem zLcK (h:p:=by
 obtain⟨x,hx⟩:∃x,bs[k]?=some x:=qg (qw HM.2.2.2.1);have hgx:yBe x.l x.cnt k:=HM.1.2.2 k x hx;obtain⟨ub,uo,hua,hBk,hubl⟩:∃ub uo,ua=some ⟨ub,uo,none⟩/\yK0 w ub uo bs/\ub<w.heap.size:=by
  rcases HM.2.1 with⟨_,_,_,q⟩|⟨b,off,cap,q1,q2,q3,q4,q5⟩
  .rw[q]at hx;simp at hx
  .simp only[Value.slice.injEq]at q1;exact⟨b,off,q1.1,q2,q3⟩
 obtain⟨hx0,hx1,hx2⟩:=hBk k x hx;obtain⟨xb,xo,xn,xc,hxv,hxn,hxi,hxl,hxc⟩:∃xb xo xn xc,x.v=.slice (some ⟨xb,xo,none⟩) xn xc/\xn=x.l.length/\yB5 w xb xo x.l/\xb<w.heap.size/\xn<=xc/\xc<=maxLen:=by
  rcases hx2 with⟨_,_,_,q⟩|⟨b,off,cap,q1,q2,q3,q4,q5⟩
  .have:=hgx.1;rw[q]at this;simp at this
  .exact⟨b,off,_,cap,q1,rfl,q2,q3,q4,q5⟩
 rw[hxv]at hx0;have y0:(xk wo ub (uo+k*2) (.slice (some ⟨xb,xo,none⟩) xn xc):Prop):=by rw[HJ.below.cell (p:=(xd ub _)) hubl];exact hx0
 have y1:(xk wo ub (uo+k*2+1) (xi x.cnt):Prop):=by rw[HJ.below.cell (p:=(xd ub _)) hubl];exact hx1
 have HX:Hid (bs[k]?=some x/\yBe x.l x.cnt k/\xn=x.l.length/\yB5 w xb xo x.l/\xb<w.heap.size/\x.ok):=⟨hx,hgx,hxn,hxi,hxl,HM.2.2.2.2.1 x (mem_of_getElem? hx)⟩;obtain⟨W2,hW2⟩:=qW (xw wo #[.slice (some ⟨xb,xo,none⟩) xn xc,xi x.cnt] 32);have HW2:Hid (LcJ w bs m (.slice ua ul uc) (.slice (some ⟨bI,oI,none⟩) N cI) pb k a n c d0 ds Ts NM W2.drew/\yA W2.drew w 32 2 wo [.slice (some ⟨xb,xo,none⟩) xn xc,xi x.cnt]):=by
  have k2:=qN hW2
  have b2:yA W2 w 32 2 wo [.slice (some ⟨xb,xo,none⟩) xn xc,xi x.cnt]:=by rw[hW2];exact yAa wo _ HJ.below.size rfl
  exact⟨(HJ.on k2).on ((Below.refl _ _).drew),b2.below ((Below.refl _ _).drew)⟩
 have hS0:SW (λw':World=>xk w' pb 0 (.slice a n c)/\xk w' (w+1+1+1) 0 (.map (some (w+1+1)))/\xk w' wo 0 (.slice (some ⟨xb,xo,none⟩) xn xc)/\xk w' wo 1 (xi x.cnt)/\xk w' wo 1 (xi x.cnt)/\xk w' wo 1 (xi x.cnt)/\xk w' wo 1 (xi x.cnt)/\xk w' wo 1 (xi x.cnt)) W2.drew:=by have b:=HW2.2;have h1:=b.cell (j:=1) rfl;exact⟨HW2.1.prg.cell (j:=0) rfl,HW2.1.ldr.cell (j:=0) rfl,b.cell (j:=0) rfl,h1,h1,h1,h1,h1⟩
 have zk:(k:Int)<(ul:Int):=by omega
 rw[hua]at HW2⊢;clear hx hgx hBk hubl hx0 hx1 hx2 hxv hxn hxi hxl hxc;go_upto_region 6 with fail;rw[<-hW2];clear hW2 y0 y1;refine yCq [8] (λw':World=>xk w' pb 0 (.slice a n c)/\xk w' (w+1+1+1) 0 (.map (some (w+1+1)))/\xk w' wo 0 (.slice (some ⟨xb,xo,none⟩) xn xc)/\xk w' wo 1 (xi x.cnt)/\xk w' wo 1 (xi x.cnt)/\xk w' wo 1 (xi x.cnt)/\xk w' wo 1 (xi x.cnt)/\xk w' wo 1 (xi x.cnt)) (by kernel_rfl) ?_;generalize W2.drew=WD at HW2 hS0⊢;refine txa 0 hS0 ?_;iterate 3 refine txb hS0 ?_
 have HLd:Hid (Calls prog 101 #[.agg #[.map (some (w+1+1))],.agg #[.slice (some ⟨xb,xo,none⟩) xn xc,xi x.cnt]] WD (xCe WD (w+1+1) x.l xn xb xo xc x.cnt x.cnt.toNat (w+1+1+1) Ts NM)):=by have hb0:=HW2.1.below;have htl:=HM.2.2.2.2.2.2.2.2.lt;have hxb:=HX.2.2.2.2.1;have hpl:=HW2.1.prg.lt;have hpn:=HW2.1.pn;exact yP3 (λp g mb=>xDh HX.2.1 HX.2.2.2.2.2.ins HX.2.2.1 rfl (HX.2.2.2.1.below hb0 hxb) (qw hb0.size) (by omega) (by omega) (by omega) (by omega) (by omega) p g mb) HW2.1.mds.map HW2.1.mds.ts
 refine yA3 (i:=4) (by kernel_rfl) rfl (λK hK=>?_);go_simp;refine HLd.mono ?_;intro e w3 hL;have hpl:=HW2.1.prg.lt;have hpn:=HW2.1.pn;obtain⟨d,Tx,NMx,rfl,hmd,hNx,hch,hlo,hdl,hdN,hdk,hold,hnw⟩:=HW2.1.mds.load (by omega) HX.2.2.1 hL;have H3:Hid (yA w3 w 34 3 w [.slice (some ⟨ub,uo,none⟩) ul uc,.slice (some ⟨bI,oI,none⟩) N cI,xi m.cnt]/\yA w3 w 96 2 (w+1) [xh,.pointer none]/\yA w3 w 174 1 (w+1+1+1) [.map (some (w+1+1))]/\yA w3 w 96 2 pb [.slice a n c,xp d0.mb]/\RowM w3 w (.slice a n c) ds/\(∀X∈Tx,X.t<pb∨pb<X.lo)/\(∀q,(Value.slice a n c).ownBlock=some q->¬q=w.heap.size+1+1/\∀X∈Tx,X.t<q∨q<X.lo)/\Below w w w3):=HW2.1.load (by rw[cons_append]at hmd;exact hmd) hch hnw;have HMd:Hid (MdsA (w+1+1+1) (w+1+1) NMx Tx (d0::(ds++ [d])) w3/\yA w3 w 32 2 wo [.slice (some ⟨xb,xo,none⟩) xn xc,xi x.cnt]/\dkl d=bkl x):=⟨by rw[cons_append]at hmd;exact hmd,HW2.2.chg hch (by have:=HW2.2.lt;have:=HJ.prg.lt;have:=HJ.pn;omega),by unfold dkl bkl;rw[hdl,hdk]⟩;have hS3:=SWm hS0 w3 <|by
  have h1:=HMd.2.1.cell (j:=1) rfl;exact⟨H3.2.2.2.1.cell (j:=0) rfl,H3.2.2.1.cell (j:=0) rfl,HMd.2.1.cell (j:=0) rfl,h1,h1,h1,h1,h1⟩
 have HNm:Hid (NMx<=4000*(k+1+1)):=by have h9:=HX.2.1.2.1;have h8:=HX.2.2.1;show _<=_;omega
 have hz3:=hch.size;have hn2:n<=200:=by have h9:=HW2.1.nl;have h8:=congrArg List.length HW2.1.dsm;simp at h8;omega
 refine hK.out _ _ (.inr hS3) ?_;clear hK hL hmd hch hdl hdN hdk hold hnw hS0 HLd hNx;refine jS ?_;obtain⟨W5,hW5⟩:=qW (xw w3 #[xp d.mb] 94);have k5:=qN hW5
 have HC5:Hid (∀j u,(mpF d)[j]?=some u->(xk W5 w3 j u:Prop)):=by rw[hW5];exact yBm w3 (mpF d) _
 have hS5:=SWm hS3 W5 <|by
  have b:=HMd.2.1.below k5;have h1:=b.cell (j:=1) rfl;exact⟨(H3.2.2.2.1.below k5).cell (j:=0) rfl,(H3.2.2.1.below k5).cell (j:=0) rfl,b.cell (j:=0) rfl,h1,h1,h1,h1,h1⟩
 have HR5:Hid (RowM W5 w (.slice a n c) ds):=yAh H3.2.2.2.2.1 (S:=λ_=>False) (Chg.of_below k5) (λ_ _ q=>q);refine yA3 (i:=5) (by kernel_rfl) rfl (λK hK=>?_);go_simp;rw[<-hW5];refine hK.out _ _ (.inr hS5) ?_;clear hK hW5 hS3;refine jS ?_;refine yA3 (i:=6) (by kernel_rfl) rfl (λK hK=>?_);refine yK9 xDf W5 rfl _ _ 93 rfl underlying93 Tryz.infoMp rfl (by decide) (by decide) xHt w (.slice a n c) n w3 1 ds d rfl rfl HW2.1.nl HR5.out HC5.out (qw HW2.1.nl) (qv H3.2.2.2.2.2.2.2.size k5.size) (λg' cp' w6 hO6 hg6 ha6=>?_);have hc6:Chg (λq=>(Value.slice a n c).ownBlock=some q) W5 w6:=Chg.of_grown hg6 (λq hq=>hq);obtain⟨wx,hwx⟩:=qW (xt w6 pb 0 (xg g' (n+1) cp'));have H6:Hid (yA w6 w 96 2 pb [.slice a n c,xp d0.mb]/\LcJ w bs m (.slice (some ⟨ub,uo,none⟩) ul uc) (.slice (some ⟨bI,oI,none⟩) N cI) pb (k+1) (some ⟨g',0,none⟩) (n+1) cp' d0 (ds++ [d]) Tx NMx wx):=by
  obtain⟨h1,h2,h3,h4,h5,h6,h7,h8⟩:=H3.out;have hml:=HMd.1.on (S:=λ_=>False) (Chg.of_below k5) (λq z=>z.elim);have hvt:=hml.ts.tabl;have htl:=HM.2.2.2.2.2.2.2.2.lt;have hrw:=HR5.out;have o4:=h4.below k5;have q1:yA w6 w 96 2 pb [.slice a n c,xp d0.mb]:=o4.chg hc6 (λz=>yAb hrw o4 (by decide) _ z rfl);have hcx:Chg (λq=>q=pb) w6 wx:=by rw[hwx];exact Chg.of_set _ _ _ _ rfl
  have m6:=hml.turn hrw (by decide) (by decide) (by decide) (by decide) (λq hq=>⟨(h7 q hq).1,qw (World.ownsRow.lt hrw q hq),(h7 q hq).2⟩) hc6;have hcx':Chg (λq=>(Value.slice (some ⟨pb,0,none⟩) 1 1).ownBlock=some q) w6 wx:=hcx.mono (λq z=>by subst z;rfl);have mx:=m6.turn q1 (by decide) (by decide) (by decide) (by decide) (λq hq=>by
   simp[Value.ownBlock]at hq
   subst hq
   exact⟨by omega,by omega,h6⟩) hcx'
  have b8:Below w w W5:=h8.trans (k5.mono h8.size);have b6:Below w w w6:=Chg.below b8 hc6 b8.size (λq z=>(World.ownsRow.lt hrw q z).1);have p1:=(h1.below k5).chg hc6 (λz=>yAb hrw (h1.below k5) (by decide) _ z rfl);have p2:=(h2.below k5).chg hc6 (λz=>yAb hrw (h2.below k5) (by decide) _ z rfl);have p3:=(h3.below k5).chg hc6 (λz=>yAb hrw (h3.below k5) (by decide) _ z rfl);refine⟨q1,⟨p1.chg hcx (by omega),p2.chg hcx (by omega),p3.chg hcx (by omega),?_,?_,?_,mx,h6,λq hq=>?_,hpn,HW2.1.dm,?_,Chg.below b6 hcx b6.size (λq z=>by omega)⟩⟩
  .rw[hwx];exact q1.set 0 _
  .have h9:RowM w6 w (xg g' (n+1) cp') (ds++ [d]):=by
    have h8:n+1=(ds++ [d]).length:=by rw[length_append,<-HW2.1.nl];rfl
    rw[h8];exact hO6
   exact yAh h9 hcx (λq hq z=>yAb h9 q1 (by decide) _ hq (by rw[z];rfl))
  .rw[length_append,<-HW2.1.nl];rfl
  .simp[Value.ownBlock]at hq;subst hq;rcases ha6 with z|z
   .exact h7 _ z
   .refine⟨qw k5.size,λX hX=>.inl ?_⟩;have:=(HMd.1.ts.at_ X hX).1.lt;have:=k5.size;omega
  .rw[map_append,HW2.1.dsm,take_add_one,HX.1,Option.toList_some,map_append];congr 1;simp only[map_cons,map_nil];rw[HMd.2.2]
 have hS6:=SWm hS5 w6 <|by
  have b:=(HMd.2.1.below k5);have b':=b.chg hc6 (λz=>yAb HR5.out b (by decide) _ z rfl);have h1:=b'.cell (j:=1) rfl;have hl5:=H3.2.2.1.below k5;exact⟨H6.1.cell (j:=0) rfl,(hl5.chg hc6 (λz=>yAb HR5.out hl5 (by decide) _ z rfl)).cell (j:=0) rfl,b'.cell (j:=0) rfl,h1,h1,h1,h1,h1⟩
 clear hO6 hg6 ha6 hc6 hS5;refine hK.out _ _ (.inr hS6) ?_;clear hK;refine jS ?_;refine txb hS6 ?_;have v0:=H6.1.cell (j:=0) rfl;have f0:=H6.1.frozen 0;refine yA3 (i:=8) (by kernel_rfl) rfl (λK hK=>?_);go_simp;rw[<-hwx];refine hK.out _ _ (.inl (by decide)) ?_;clear hK hwx v0 f0 hS6;refine jS ?_;refine yD6 (by kernel_rfl) ?_;rw[<-hua]at H6;go_wp2_with fail;(try rw[<-hua]);go_roundw;case rel=>exact⟨k+1,NMx,some ⟨g',0,none⟩,n+1,cp',ds++ [d],Tx,by omega,HNm.out,by go_num,H6.2⟩
 case measure=>simp[intOf];omega):p:=h
theorem yN6 {ua:Option Addr} {ul uc:Nat} {bs:List Bk} {m:Bk} (hg:yCn bs m) (hU:yCg w (.slice ua ul uc) bs) (hul:ul=bs.length) (hok:∀x∈bs,x.ok) (hmo:m.ok) {bI oI cI:Nat} (hN:N=m.l.length) (hI:yB5 w bI oI m.l) (hb:bI<w.heap.size) (hT:TabD w):
  Calls prog 46 #[.agg #[.slice ua ul uc,.slice (some ⟨bI,oI,none⟩) N cI,xi m.cnt]] w (LcP w bs m):=by
 have a9:ul<=200:=by rw[hul];exact hg.1
 have HM:Hid (yCn bs m/\yCg w (.slice ua ul uc) bs/\yB5 w bI oI m.l/\ul=bs.length/\(∀x∈bs,x.ok)/\m.ok/\N=m.l.length/\bI<w.heap.size/\TabD w):=⟨hg,hU,hI,hul,hok,hmo,hN,hb,hT⟩;clear hg hU hul hok hmo hN hI hb hT;obtain⟨W0,a0⟩:=qW (xw (((w.alloc (Obj.cells #[.slice ua ul uc,.slice (some ⟨bI,oI,none⟩) N cI,xi m.cnt] 34)).alloc (Obj.cells #[xh,.pointer none] 96)).alloc (.map #[] 0)) #[.map (some (w+1+1))] 174);have a6:∀wx:World,(Instr.makeMap 172 none).run prog wx=.ok (.map (some wx)) (wx.alloc (.map #[] 0)):=λwx=>by kernel_rfl
 have H0:Hid (yA W0 w 34 3 w [.slice ua ul uc,.slice (some ⟨bI,oI,none⟩) N cI,xi m.cnt]/\yA W0 w 96 2 (w+1) [xh,.pointer none]/\yA W0 w 174 1 (w+1+1+1) [.map (some (w+1+1))]/\MdsA (w+1+1+1) (w+1+1) 0 [] [] W0/\Below w w W0/\W0.heap.size=w.heap.size+1+1+1+1):=by
  obtain⟨X,hX⟩:=qW (xw w #[.slice ua ul uc,.slice (some ⟨bI,oI,none⟩) N cI,xi m.cnt] 34);rw[<-hX]at a0;obtain⟨Y,hY⟩:=qW (xw X #[xh,.pointer none] 96);rw[<-hY]at a0;obtain⟨Z,hZ⟩:=qW (Y.alloc (.map #[] 0));rw[<-hZ]at a0;have zx:=qS hX
  have zy:Y.heap.size=w.heap.size+1+1:=by rw[hY];simp;omega
  have zz:Z.heap.size=w.heap.size+1+1+1:=by rw[hZ];simp;omega
  have k1:=qN hX
  have k2:Below X X Y:=by rw[hY];exact qB
  have k3:Below Y Y Z:=by rw[hZ];exact qB
  have k4:Below Z Z W0:=by rw[a0];exact qB
  have b1:yA X w.heap.size 34 3 w.heap.size [.slice ua ul uc,.slice (some ⟨bI,oI,none⟩) N cI,.int .i64 m.cnt]:=by rw[hX];exact yAa w _ (Nat.le_refl _) rfl
  have b2:yA Y w.heap.size 96 2 (w.heap.size+1) [.slice none 0 0,.pointer none]:=by rw[hY,<-zx];exact yAa X _ (by omega) rfl
  have b4:yA W0 w.heap.size 174 1 (w.heap.size+1+1+1) [.map (some (w.heap.size+1+1))]:=by rw[a0,<-zz];exact yAa Z _ (by omega) rfl
  have kb:Below w.heap.size w W0:=((k1.trans (k2.mono (by omega))).trans (k3.mono (by omega))).trans (k4.mono (by omega));have a5:MpA Z (w.heap.size+1+1) 0 []:=by have:=xBs Y;rw[<-hZ,zy]at this;exact this
  have htl:=HM.2.2.2.2.2.2.2.2.lt;refine⟨((b1.below k2).below k3).below k4,(b2.below k3).below k4,b4,⟨a5.chg (S:=λ_=>False) (Chg.of_below k4) (λq=>q),⟨λT hT=>by simp at hT,List.Pairwise.nil,HM.2.2.2.2.2.2.2.2.chg (S:=λ_=>False) (Chg.of_below kb) (λq=>q),by omega⟩,by omega,λd hd=>by simp at hd,List.Pairwise.nil⟩,kb,by rw[a0];simp;omega⟩
 have HLd:Hid (Calls prog 101 #[.agg #[.map (some (w.heap.size+1+1))],.agg #[.slice (some ⟨bI,oI,none⟩) N cI,.int .i64 m.cnt]] W0 (xCe W0 (w.heap.size+1+1) m.l N bI oI cI m.cnt m.cnt.toNat (w.heap.size+1+1+1) [] 0)):=by have hb0:=H0.2.2.2.2.1;have htl:=HM.2.2.2.2.2.2.2.2.lt;have a7:=HM.2.2.2.2.2.2.2.1;exact yP3 (λp g mb=>xDh HM.1.2.1 HM.2.2.2.2.2.1.ins HM.2.2.2.2.2.2.1 rfl (HM.2.2.1.below hb0 a7) (qw hb0.size) (by omega) (by omega) (qw H0.2.2.2.2.2) (by omega) (by omega) p g mb) H0.2.2.2.1.map H0.2.2.2.1.ts
 go_enter func46,ntmps46;go_upto_region 2 with fail;rw[<-a0];clear a0 a6;have c1:=H0.1.cell (j:=1) rfl;have c2:=H0.1.cell (j:=2) rfl;have l0:=H0.2.2.1.cell (j:=0) rfl;go_wp2_with fail;refine HLd.mono ?_;intro e w1 hL;obtain⟨d0,Ts,NM,rfl,hmd,a8,hch,hlo,hdl,hdN,hdk,_⟩:=H0.2.2.2.1.load (qw H0.2.2.2.2.2) HM.2.2.2.2.2.2.1 hL;obtain⟨pb,a1⟩:=qE w1.heap.size;obtain⟨W3,a3⟩:=qW (w1.alloc (Obj.cells #[.slice none 0 0,.pointer (some ⟨d0.mb,0,none⟩)] 96));have H3:Hid (LcJ w bs m (.slice ua ul uc) (.slice (some ⟨bI,oI,none⟩) N cI) pb 0 none 0 0 d0 [] Ts NM W3/\NM<=4000):=by
  obtain⟨h1,h2,h3,h4,h5,h6⟩:=H0.out;have k3:Below w1 w1 W3:=by rw[a3];exact qB
  have kb:Below w.heap.size w w1:=Chg.below h5 hch h5.size (λq z=>by omega);have hz:=hch.size;have ab:=HM.1.2.1.2.1;have aa:=HM.2.2.2.2.2.2.1;refine⟨⟨(h1.chg hch (by omega)).below k3,(h2.chg hch (by omega)).below k3,(h3.chg hch (by omega)).below k3,by rw[a1,a3];exact yAa w1 _ kb.size rfl,⟨rfl,.inl ⟨rfl,rfl⟩⟩,rfl,hmd.on (S:=λ_=>False) (Chg.of_below k3) (λq z=>z.elim),λX hX=>.inl (by rw[a1];exact(hmd.ts.at_ X hX).1.lt),λq hq=>by simp[Value.ownBlock]at hq,by omega,by unfold dkl bkl;rw[hdl,hdk],rfl,kb.trans (k3.mono kb.size)⟩,by omega⟩
 clear hmd hch hlo hdl hdN hdk c1 c2 l0 H0 HLd hL;go_upto_region 3 with fail;rw[<-a3,<-a1];clear a3 a1;have c0:=H3.1.cod.cell (j:=0) rfl;go_wp2;go_loopw[17] (λkv wr=>∃(k NM:Nat) (a:Option Addr) (n c:Nat) (ds:List Md) (Ts:List Tt),k<=ul/\NM<=4000*(k+1)/\kv=(xi k)/\Hid (LcJ w bs m (.slice ua ul uc) (.slice (some ⟨bI,oI,none⟩) N cI) pb k a n c d0 ds Ts NM wr)) (λkv _=>ul-(intOf kv).toNat);case atStart=>exact⟨0,NM,none,0,0,[],Ts,zero_le _,qw H3.2,rfl,H3.1⟩
 case round=>
  clear H3 c0;obtain⟨k,NM,a,n,c,ds,Ts,hk,a8,rfl,HJ⟩:=hrel;obtain⟨wo,a4⟩:=qW wr;subst a4;by_cases hlt:k<ul
  .as_aux_lemma=>exact zLcK
  .have zk:¬(k:Int)<(ul:Int):=by omega
   obtain⟨t0,t1⟩:=HJ.prg.c2;obtain⟨v0,v1⟩:=HJ.res.c2;obtain⟨f0,f1⟩:=HJ.res.f2;obtain⟨W9,a2⟩:=qW (setCs wo (w+1) 0 [.slice a n c,xp d0.mb]);have b9:yA W9 w 96 2 (w+1) [.slice a n c,xp d0.mb]:=by rw[a2];exact HJ.res.setCs _
   have c9:Chg (λq=>q=w.heap.size+1) wo W9:=by rw[a2];exact yAl (S:=λq=>q=w.heap.size+1) _ rfl _ _ _
   have HE:Hid (∃(d0':Md) (ds:List Md) (Ts:List Tt) (NM:Nat),d0'.mb=d0.mb/\n=ds.length/\RowM W9 w (.slice a n c) ds/\MdsA (w+1+1+1) (w+1+1) NM Ts (d0'::ds) W9/\dkl d0'=bkl m/\ds.map dkl=bs.map bkl/\(∀q,(Value.slice a n c).ownBlock=some q->∀X∈Ts,X.t<q∨q<X.lo)/\Below w w W9):=by have hj:=HJ.out;have htl:=HM.2.2.2.2.2.2.2.2.lt;refine⟨d0,ds,Ts,NM,rfl,hj.nl,yAh hj.row c9 (λq hq z=>yAb hj.row hj.res (by decide) _ hq (by rw[z];rfl)),hj.mds.on c9 (λq z=>.inr ⟨by omega,by omega,by omega⟩),hj.dm,?_,λq hq=>(hj.rt q hq).2,Chg.below hj.below c9 hj.below.size (λq z=>by omega)⟩;rw[hj.dsm,take_of_length_le (qw HM.2.2.2.1)]
   obtain⟨q0,q1⟩:=b9.c2;simp only[setCs,Nat.zero_add,Nat.reduceAdd]at a2;clear b9 c9;go_wp2;rw[<-a2];exact bodyPost_ret (v:=.agg #[.slice a n c,xp d0.mb]) (by simp[results,results46,go_sem,q0,q1]) rfl ⟨a,n,c,d0.mb,rfl,HE⟩
def hit (x e:Ent):Bool:=yEc x e && ((x.ts==e.ts) || ((e.kind==2) && decide (x.ts<=e.ts)))
theorem yWc {p e:Ent} (h:yCe p e=true):yAo p e= -1:=by
 unfold yCe at h;simp only[Bool.and_eq_true,decide_eq_true_eq,Bool.not_eq_true',beq_iff_eq]at h
 first
  |exact h.1
  |exact h.2
  |(have h1:=h.1;have h2:=h.2;rcases yJ4 p e with q|q|q<;>simp_all)
theorem yL7:∀(l:List Ent),(∀i p e,l[i]?=some p->l[i+1]?=some e->yAo p e= -1)->Ord l
 | [],_=>List.Pairwise.nil
 | [a],_=>by simp[Ord]
 |a::b::r,h=>by
  have ih:=yL7 (b::r) (λi p e h1 h2=>h (i+1) p e (by simpa using h1) (by simpa using h2))
  have hab:=h 0 a b rfl rfl
  refine List.pairwise_cons.2 ⟨λx hx=>?_,ih⟩
  rcases mem_cons.1 hx with rfl|hx
  .exact hab
  .exact yQg hab ((List.pairwise_cons.1 ih).1 x hx)
theorem ySp (h:yC es):Ord es:=yL7 es (λi p e h1 h2=>yWc (h.2 i p e h1 h2))
def xI6 (rs:List (List Ent)) (k:Nat) (x:Ent):Prop:=∃m ds d,m<k/\rs[m]?=some ds/\d∈ds/\xI1 d x=true
def Good (rs:List (List Ent)) (inr:ByteArray->Bool) (i:Nat) (x:Ent):Prop:=x.kind=0/\inr x.row=true/\¬xI6 rs i x
theorem yNr (hk:∀e∈es,e.kind=0):es.map putE=es:=by
 conv=>rhs;rw[<-map_id es]
 refine map_congr_left λe he=>?_;have:=hk e he;cases e
 simp only[putE,id]at*;subst this;rfl
end Go.Proofs.YtnnagkfoiganfaaGreatDoor
