import Derived.Test.YtnnagkfoiganfaaGreatDoorHkAP
import Derived.Test.YtnnagkfoiganfaaGreatDoorHkAO
namespace Go.Proofs.YtnnagkfoiganfaaGreatDoor
open Go.ChangeShapes Go.WideShapes Go.ChangeAt Go.RowKit Go.Deep XD XI XU XG XP XK XW XT XF XE XH _root_.List _root_.Nat Go.Proofs.Tryz
open _root_.Go.Obj renaming cells->AC
open _root_.List renaming replicate->AA
open _root_.Nat renaming le_refl->AB,zero_le->AD,zero_add->AE,le_trans->AF
set_option linter.unusedVariables false
set_option linter.unusedSimpArgs false
set_option maxRecDepth 100000
set_option maxHeartbeats 64000000
variable {cs cs':List Ctr} {g gq cq O N nc n' c' M bc cc ul uc n:Nat} {m':List It} {c:Ent} {k:Ctr} {out es out':List Ent} {us:List Vv} {cnt:Int} {l:List Ix} {hints:Bool} {bs:List Bk} {W1 w wr W:Ww} {a' ua a:Option Addr}
structure LkM(G:LkG)(m:List It)(g cp:Nat)(cs:List Ctr)(wr:Ww):Prop where
 blk:yA wr G.w 32 2 G.w [.slice (some ⟨G.bI,G.oI,none⟩) G.N G.cI,xi G.cnt]
 cel:yA wr G.w 70 5 (G.w+1) G.c.five
 res:yA wr G.w 115 4 (G.w+1+1) (yBg noH).four
 stk:xH7 wr G.w g cp m
 gne:G.w.heap.size+1+1<g
 ctr:yF6 wr G.b0 G.gc G.cpc cs
 gcl:G.gc<G.w.heap.size
 bIl:G.bI<G.w.heap.size/\¬G.bI=G.gc
 ins:yBh wr G.bI G.oI G.l
 cnd:∀(i:Nat)(b:Bool),G.V[i]?=some b->∃bc oc,G.ca=some ⟨bc,oc,none⟩/\xk wr bc (oc+i) b/\bc<G.w.heap.size/\¬bc=G.gc
 i:Chg (λk=>k=G.gc) G.w wr
 X:cs.length=G.nk
 cb:∀k∈cs,0<=k.count/\k.count<=1000
def LkP(G:LkG)(e:Ending)(w':Ww):Prop:=
 ∃(i:It)(cs:List Ctr),LkR pfxB G.l G.c G.V ⟨0,[newI],G.cs0⟩ (i,cs)/\e=.returned (.tuple #[i.v,xg G.gc G.nk G.cpc])/\cs.length=G.nk/\yF6 w' G.b0 G.gc G.cpc cs/\(∀k∈cs,0<=k.count/\k.count<=1000)/\Chg (λk=>k=G.gc) G.w w'
variable {G:LkG} {m:List It} {cp:Nat}
theorem LkM.on(h:LkM G m g cp cs wr)(hb:Below wr wr W):LkM G m g cp cs W:=by
 have hs:=h.i.size
 exact {h with
  blk:=h.blk.k hb,cel:=h.cel.k hb,res:=h.res.k hb,stk:=h.stk.k hb,ctr:=h.ctr.k hb
  ins:=h.ins.k hb (qw h.bIl)
  cnd:=λi b hi=>by
   obtain⟨bc,oc,h1,h2,h3,h4⟩:=h.cnd i b hi
   exact⟨bc,oc,h1,((Chg.h hb (S:=λ_=>False)).z (p:=(xd bc (oc+i))) (show bc<_ by omega) (λq=>q)).trans h2,h3,h4⟩
  i:=h.i.trans (Chg.h hb)}
variable {w':Ww}
theorem LkM.grow{g' cp':Nat}(h:LkM G m g cp cs W)(hO:xH7 w' G.w g' cp' m')(hg:G.w.heap.size+1+1<g')(hc:Chg (λk=>k=g) W w'):LkM G m' g' cp' cs w':=by
 have hs:=h.i.size;have h0:=h.gne;have h1:=h.gcl;have h2:=h.bIl
 exact {h with
  blk:=h.blk.i hc qo,cel:=h.cel.i hc qo,res:=h.res.i hc qo,stk:=hO,gne:=hg,ctr:=h.ctr.i hc (by omega)
  ins:=h.ins.i hc (by omega) (by omega)
  cnd:=λi b hi=>by
   obtain⟨bc,oc,h1,h2,h3,h4⟩:=h.cnd i b hi
   exact⟨bc,oc,h1,(hc.z (p:=(xd bc (oc+i))) (show bc<_ by omega) (by show¬bc=g;omega)).trans h2,h3,h4⟩
  i:=h.i.absorb hc (λj q=>.inr (by omega))}
variable {B:Nat}
theorem LkM.side(h:LkM G m g cp cs W)(hB:G.w.heap.size+1+1<B/\¬B=g)(hc:Chg (λk=>k=B) W w'):LkM G m g cp cs w':=by
 have hs:=h.i.size;have h1:=h.gcl;have h2:=h.bIl
 exact {h with
  blk:=h.blk.i hc qo,cel:=h.cel.i hc qo,res:=h.res.i hc qo,stk:=h.stk.i hc (λq=>hB.2 q.symm),ctr:=h.ctr.i hc (by omega)
  ins:=h.ins.i hc (by omega) (by omega)
  cnd:=λi b hi=>by
   obtain⟨bc,oc,h1,h2,h3,h4⟩:=h.cnd i b hi
   exact⟨bc,oc,h1,(hc.z (p:=(xd bc (oc+i))) (show bc<_ by omega) (by show¬bc=B;omega)).trans h2,h3,h4⟩
  i:=h.i.absorb hc (λj q=>.inr (by omega))}
theorem yWe(i:It)(c:Ent):(yBl i c).five= [.string c.j,.string c.E,.string c.C,.int .u64 c.ts,.string (yBl i c).val]:=by unfold yBl;split<;>rfl
theorem LkM.ctrs(h:LkM G m g cp cs W)(hO:yF6 w' G.b0 G.gc G.cpc cs')(hl:cs'.length=G.nk)(hcb:∀k∈cs',0<=k.count/\k.count<=1000)(hc:Chg (λk=>k=G.gc) W w'):LkM G m g cp cs' w':=by
 have hs:=h.i.size;have h0:=h.gne;have h1:=h.gcl;have h2:=h.bIl
 exact {h with
  blk:=h.blk.i hc qo,cel:=h.cel.i hc qo,res:=h.res.i hc (by omega),stk:=h.stk.i hc (by omega),ctr:=hO
  ins:=h.ins.i hc (by omega) h2.2
  cnd:=λi b hi=>by
   obtain⟨bc,oc,h1,h2,h3,h4⟩:=h.cnd i b hi
   exact⟨bc,oc,h1,(hc.z (p:=(xd bc (oc+i))) (show bc<_ by omega) h4).trans h2,h3,h4⟩
  i:=h.i.trans hc
  X:=hl
  cb:=hcb}
theorem xD9{n:Nd}(hk:0<=k.count/\k.count<=1000)(hn:n.n<=1000):0<=(yCm n k c).2.count/\(yCm n k c).2.count<=1000:=by
 have he:0<=(yC2 n k c).count/\(yC2 n k c).count<=1000:=by
  unfold yC2;split
  .exact hk
  .simp
 unfold yCm;split
 .simp only;omega
 .exact he
variable {p:Prop}
theorem zLkF (h:p:=by
 have t0:=HZ.1.stk.z yAd HI.out 0 (by omega);have t1:=HZ.1.stk.z yAd HI.out 1 (by omega);have t2:=HZ.1.stk.z yAd HI.out 2 (by omega);have t3:=HZ.1.stk.z yAd HI.out 3 (by omega);simp only[getElem?_cons_zero,getElem?_cons_succ,Nat.add_zero]at t0 t1 t2 t3;have fz:∀k,WZ.frozen? (xd g k)=false:=λk=>World.ownsRow.frozenAt HZ.1.stk k;have g0:=fz (tn*4);have g1:=fz (tn*4+1);have g2:=fz (tn*4+2);have g3:=fz (tn*4+3);obtain⟨p0,p1,p2,p3⟩:=HZ.2.c4;obtain⟨WY,hWY⟩:=qE (setCs WZ g (tn*4) iz.four:Ww);have HY:Hid (LkM G (m.set tn iz) g cp cz WY/\tn+1=(m.set tn iz).length):=by have hm:=HL.1;exact⟨HZ.1.grow (by rw[hWY];exact HZ.1.stk.setAll yAd (i:=tn) (e:=iz) (by omega)) HZ.1.gne (by rw[hWY];exact yAo (S:=λk=>k=g) g rfl _ _ _),by rw[length_set];exact hm⟩
 simp only[setCs]at hWY;have hrz:=HRz.2.2.1;clear fz;go_upto_region 45 with fail;rw[<-hWY];clear hWY;go_wp2;go_roundw;case rel=>exact⟨at_+1,tn+1,g,cp,m.set tn iz,cz,hrz,hs1,hs2,rfl,by go_num,HY.1,HY.2,HRz.1⟩
 case measure=>simp[intOf];omega):p:=h
theorem zLkT (h:p:=by
 have a4:=HWQ.2.1.z (j:=4) rfl;obtain⟨p0,p1,p2,p3⟩:=HWQ.2.2.c4;rw[HAL.out]at p0;rw[hst]at p1;obtain⟨f0,f1,f2,f3⟩:=HWQ.2.2.f4;obtain⟨i2,hi2⟩:=qE (⟨true,i.strip || (x.leaf.f==3),i.G⟩:It);have HI2:Hid (i2=⟨true,i.strip || (x.leaf.f==3),i.G⟩):=hi2;obtain⟨W8,hW8⟩:=qE (xt wq W2 1 i2.strip:Ww);have HW8:Hid (LkM G m g cp cq W8/\yA W8 G.w 153 11 wr x.ten/\yA W8 G.w 115 4 W2 i2.four):=by
  have hc8:Chg (λk=>k=W2.heap.size) wq W8:=by rw[hW8];exact Chg.D _ _ _ _ rfl
  have h1:=HWQ.2.2.set 1 i2.strip;rw[<-hW8]at h1;refine⟨HWQ.1.side ⟨by have:=HWQ.1.gne;omega,by omega⟩ hc8,HWQ.2.1.i hc8 (by omega),?_⟩;have h2:i.four.set 1 i2.strip=i2.four:=by rw[hi2];unfold It.four;simp[HAL.out]
  rw[<-h2];exact h1
 simp only[hi2,hst,Bool.false_or,Bool.true_or]at hW8;go_upto_region 20 with fail;rw[<-hW8];clear hW8 hi2 p0 p1 p2 p3 f0 f1 f2 f3;cases tb
 .obtain⟨p0,p1,p2,p3⟩:=HW8.2.2.c4;obtain⟨f0,f1,f2,f3⟩:=HW8.2.2.f4;obtain⟨W10,hW10⟩:=qE (setCs W8 W2 0 (yBg noH).four:Ww);have HW10:Hid (LkM G m g cp cq W10/\yA W10 G.w 153 11 wr x.ten/\yA W10 G.w 115 4 W2 (yBg noH).four):=by obtain⟨q1,q2⟩:=yEx HW8.2.2 hW10;exact⟨HW8.1.side ⟨by have:=HW8.1.gne;omega,by omega⟩ q2,HW8.2.1.i q2 (by omega),q1⟩
  have hs10:W10.heap.size=W8.heap.size:=by rw[hW10];simp[setCs]
  simp only[setCs,yBg,noH,Nat.zero_add,Nat.reduceAdd]at hW10;have HLI:Hid (leafI pfxB x G.c i cs=(yBg (if x.free=true then yCa (pfxB x.leaf.s) x.leaf G.c else noH),cq)):=by show _=_;rw[HQ.out,iA (by simp)]
  go_upto_region 22 with fail;rw[<-hW10];clear hW10 p0 p1 p2 p3 f0 f1 f2 f3 hs10;have a3:=HW10.2.1.z (j:=3) rfl;obtain⟨cz,hcz⟩:=qE cq;cases hfr:x.free
  .rw[hfr]at a3;obtain⟨WZ,hWZ⟩:=qE W10;obtain⟨iz,hiz⟩:=qE (yBg noH);have HZ:Hid (LkM G m g cp cz WZ/\yA WZ G.w 115 4 W2 iz.four):=by rw[hWZ,hiz,hcz];exact⟨HW10.1,HW10.2.2⟩
   have HRz:Hid (LkL G (at_+1) (m.set tn iz) cz/\at_<at_+1/\at_+1<=G.N/\1<=(m.set tn iz).length/\(m.set tn iz).length<=250):=
    HL.2.next HG.2.1 hN.out (by have:=HL.1;omega) HX.out (by
     rw[yFt ho (yDt HL.1 HI.out),HLI.out,yMi HL.1,hfr,iA (by simp),hiz,hcz]) (by unfold ways;rw[iA (by omega),iA (by omega)];simp) (by unfold more;rw[iA (by omega),iA (by omega),length_set];omega)
   rw[<-hWZ]at a3|-;clear hWZ hiz hcz hfr;exact zLkF
  .rw[hfr]at a3;have a4:=HW10.2.1.z (j:=4) rfl;have a5:=HW10.2.1.z (j:=5) rfl;have a6:=HW10.2.1.z (j:=6) rfl;have a7:=HW10.2.1.z (j:=7) rfl;have a8:=HW10.2.1.z (j:=8) rfl;have a9:=HW10.2.1.z (j:=9) rfl;have a10:=HW10.2.1.z (j:=10) rfl;obtain⟨c0,c1,c2,c3,c4⟩:=HW10.1.cel.c5;go_wp2_with fail;refine(yRr x.leaf G.c W10 hsx).mono ?_;rintro e w11 ⟨rfl,hb11⟩;obtain⟨hx,hhx⟩:=qE (yCa (pfxB x.leaf.s) x.leaf G.c);rw[<-hhx];have HHX:Hid (hx=yCa (pfxB x.leaf.s) x.leaf G.c):=hhx;have HW11:Hid (LkM G m g cp cq w11/\yA w11 G.w 115 4 W2 (yBg noH).four):=⟨HW10.1.on hb11,HW10.2.2.k hb11⟩;clear hhx hb11 a3 a4 a5 a6 a7 a8 a9 a10 c0 c1 c2 c3 c4;have p2:=HW11.2.z (j:=2) rfl;have p3:=HW11.2.z (j:=3) rfl;have f2:=HW11.2.frozen 2;have f3:=HW11.2.frozen 3;obtain⟨WZ,hWZ⟩:=qE (xt (w11.setCell (xd W2 2) (xi hx.rank)) W2 3 hx.txt:Ww);obtain⟨iz,hiz⟩:=qE (yBg hx);have HZ:Hid (LkM G m g cp cz WZ/\yA WZ G.w 115 4 W2 iz.four):=by
    have b1:=(HW11.2.set 2 (xi hx.rank)).set 3 hx.txt;rw[<-hWZ]at b1;have hc:Chg (λk=>k=W2.heap.size) w11 WZ:=by rw[hWZ];exact(Chg.D (S:=λk=>k=W2.heap.size) _ _ _ _ rfl).trans (Chg.D (S:=λk=>k=W2.heap.size) _ _ _ _ rfl)
    rw[hiz,hcz];exact⟨HW11.1.side ⟨by have:=HW11.1.gne;omega,by omega⟩ hc,b1⟩
   have HRz:Hid (LkL G (at_+1) (m.set tn iz) cz/\at_<at_+1/\at_+1<=G.N/\1<=(m.set tn iz).length/\(m.set tn iz).length<=250):=
    HL.2.next HG.2.1 hN.out (by have:=HL.1;omega) HX.out (by
     rw[yFt ho (yDt HL.1 HI.out),HLI.out,yMi HL.1,hfr,iB rfl,hiz,hcz,HHX.out]) (by unfold ways;rw[iA (by omega),iA (by omega)];simp) (by unfold more;rw[iA (by omega),iA (by omega),length_set];omega)
   go_upto_region 24 with fail;rw[<-hWZ];clear hWZ hiz hcz hfr p2 p3 f2 f3;exact zLkF
 .obtain⟨WZ,hWZ⟩:=qE W8;obtain⟨iz,hiz⟩:=qE i2;obtain⟨cz,hcz⟩:=qE cq;have HZ:Hid (LkM G m g cp cz WZ/\yA WZ G.w 115 4 W2 iz.four):=by rw[hWZ,hiz,hcz];exact⟨HW8.1,HW8.2.2⟩
  have HRz:Hid (LkL G (at_+1) (m.set tn iz) cz/\at_<at_+1/\at_+1<=G.N/\1<=(m.set tn iz).length/\(m.set tn iz).length<=250):=
   HL.2.next HG.2.1 hN.out (by have:=HL.1;omega) HX.out (by
    rw[yFt ho (yDt HL.1 HI.out),HQ.out,yMi HL.1,iB rfl,hiz,HI2.out,hcz]) (by unfold ways;rw[iA (by omega),iA (by omega)];simp) (by unfold more;rw[iA (by omega),iA (by omega),length_set];omega)
  rw[<-hWZ];clear hWZ hiz hcz;exact zLkF):p:=h
theorem zRdL (h:p:=by
 obtain⟨tn,rfl⟩:∃tn,sn=tn+1:=⟨sn-1,by omega⟩;obtain⟨i,hi⟩:∃i,m[tn]?=some i:=qg (by have:=HL.1;omega);rw[ho]at y0;have t0:=HW2.1.stk.z yAd hi 0 (by omega);have t1:=HW2.1.stk.z yAd hi 1 (by omega);have t2:=HW2.1.stk.z yAd hi 2 (by omega);have t3:=HW2.1.stk.z yAd hi 3 (by omega);simp only[getElem?_cons_zero,getElem?_cons_succ,Nat.add_zero]at t0 t1 t2 t3;have HI:Hid (m[tn]?=some i):=hi;have hgl:=HW2.1.stk.lt.2;have hgn:=yDk hlf x.leaf (by simp);have hsx:x.leaf.s.size<=maxLen:=by have:=hgn.1;unfold maxLen;omega
 clear hi;obtain⟨W3,hW3⟩:=qE (xw W2 #[i.H,i.strip,xi i.G.rank,i.G.txt] 115:Ww);have HW3:Hid (LkM G m g cp cs W3/\yA W3 G.w 153 11 wr x.ten/\yA W3 G.w 115 4 W2 i.four/\W3.heap.size=W2.heap.size+1):=by
  have k3:=qN hW3
  exact⟨HW2.1.on k3,HW2.2.1.k k3,by rw[hW3];exact yAa W2 _ HW2.1.i.size rfl,by rw[hW3];simp⟩
 go_upto_region 10 with fail;rw[<-hW3];clear hW3 t0 t1 t2 t3;obtain⟨p0,p1⟩:=HW3.2.2.1.c2;cases hal:i.H
 .rw[hal]at p0
  have HR:Hid (LkL G (at_+1) m cs/\at_<at_+1/\at_+1<=G.N/\1<=m.length/\m.length<=250):=
   HL.2.next HG.2.1 hN.out (by have:=HL.1;omega) HX.out (by unfold stepL;rw[iB ho,yDt HL.1 HI.out];simp only[leafI,hal];rfl) (by unfold ways;rw[iA (by omega),iA (by omega)];simp) (by unfold more;rw[iA (by omega),iA (by omega)];omega)
  have hr2:=HR.2.2.1;clear hal;go_wp2;go_roundw;case rel=>exact⟨at_+1,tn+1,g,cp,m,cs,hr2,hs1,hs2,rfl,by go_num,HW3.1,HL.1,HR.1⟩
  case measure=>simp[intOf];omega
 .rw[hal]at p0;have HAL:Hid (i.H=true):=hal;clear hal;obtain⟨c0,c1,c2,c3,c4⟩:=HW3.1.cel.c5;have hsr3:G.w.heap.size+1<W3.heap.size:=by have:=HW3.1.gne;have:=HW3.1.stk.lt;omega
  have hl3:W2.heap.size<W3.heap.size:=by have:=HW3.2.2.2;omega
  obtain⟨W5,hW5⟩:=qE (xw W3 #[G.c.j,G.c.E,G.c.C,xu G.c.ts,(yBl i G.c).val] 70:Ww);obtain⟨c',hc'⟩:=qE (yBl i G.c);have HC:Hid (c'=yBl i G.c):=hc';have HW5:Hid (LkM G m g cp cs W5/\yA W5 G.w 153 11 wr x.ten/\yA W5 G.w 115 4 W2 i.four/\yA W5 G.w 70 5 W3 c'.five):=by
   have k5:=qN hW5
   have b5:yA W5 G.w 70 5 W3 (yBl i G.c).five:=by rw[hW5,yWe];exact yAa W3 _ HW3.1.i.size rfl
   exact⟨HW3.1.on k5,HW3.2.1.k k5,HW3.2.2.1.k k5,by rw[hc'];exact b5⟩
  obtain⟨d0,d1,d2,d3,d4⟩:=HW5.2.2.2.c5;have a4:=HW5.2.1.z (j:=4) rfl;have a5:=HW5.2.1.z (j:=5) rfl;have a6:=HW5.2.1.z (j:=6) rfl;have a7:=HW5.2.1.z (j:=7) rfl;have a8:=HW5.2.1.z (j:=8) rfl;have a9:=HW5.2.1.z (j:=9) rfl;have a10:=HW5.2.1.z (j:=10) rfl;have hw23:W2.heap.size<W3.heap.size:=hl3;have hwr2:wr.heap.size<W2.heap.size:=HW2.2.1.lt.2;clear hc';cases hst:i.strip
  all_goals
   rw[hst]at p1
   go_upto_region 14 with fail
   simp only[yBl,hst,if_true,if_false,Bool.false_eq_true]at hW5
   rw[<-hW5]
   clear hW5 c0 c1 c2 c3 c4 p0 p1
   go_wp2_with fail
   refine(yRg x.leaf c' W5 hsx).mono ?_
   rintro e w6 ⟨rfl,hb6⟩
   obtain⟨tb,htb⟩:=qE (tstB x.leaf c')
   have HTB:Hid (tb=tstB x.leaf c'):=htb
   rw[<-htb]
   have HW6:Hid (LkM G m g cp cs w6/\yA w6 G.w 153 11 wr x.ten/\yA w6 G.w 115 4 W2 i.four):=⟨HW5.1.on hb6,HW5.2.1.k hb6,HW5.2.2.1.k hb6⟩
   have hs6:=hb6.size
   clear htb hb6 d0 d1 d2 d3 d4 a4 a5 a6 a7 a8 a9 a10
   have a4:=HW6.2.1.z (j:=4) rfl
   have a5:=HW6.2.1.z (j:=5) rfl
   have a6:=HW6.2.1.z (j:=6) rfl
   have a7:=HW6.2.1.z (j:=7) rfl
   have a8:=HW6.2.1.z (j:=8) rfl
   have a9:=HW6.2.1.z (j:=9) rfl
   have a10:=HW6.2.1.z (j:=10) rfl
   go_wp2_with fail
   refine(yHx x.leaf w6).mono ?_
   rintro e w7 ⟨rfl,hb7⟩
   have HW7:Hid (LkM G m g cp cs w7/\yA w7 G.w 153 11 wr x.ten/\yA w7 G.w 115 4 W2 i.four):=⟨HW6.1.on hb7,HW6.2.1.k hb7,HW6.2.2.k hb7⟩
   have hs7:=hb7.size
   clear hb7 a4 a5 a6 a7 a8 a9 a10
   rcases hab with⟨hck,hA0,hA1⟩|⟨hck,hA0⟩
   .have hn1:x.leaf.n<=1000:=by have h9:=hgn.2.2.2;unfold cntK at hck;rcases h9 with⟨q,_⟩|⟨q,_⟩|⟨q,_⟩|⟨_,_,_,q⟩|⟨q,_⟩<;>omega
    obtain⟨an,han⟩:∃an:Nat,x.a=(an:Int):=⟨x.a.toNat,by omega⟩;have hank:(an:Int)<(G.nk:Int):=by have:=hK.out;have:=HG.2.2.2;omega
    obtain⟨k,hk⟩:∃k,cs[an]?=some k:=qg (by have:=HW7.1.X;omega);have HK:Hid (cs[an]?=some k/\x.a=(an:Int)):=⟨hk,han⟩;have hct:yCn x.leaf.f=true:=by unfold yCn;exact decide_eq_true hck
    rw[hct];obtain⟨W8,hW8⟩:=qE (xw w7 #[false,xe,xe,xe,xi 0] 198:Ww);have HW8:Hid (LkM G m g cp cs W8/\yA W8 G.w 153 11 wr x.ten/\yA W8 G.w 115 4 W2 i.four/\yA W8 G.w 198 5 w7 newC.five):=by
     have k8:=qN hW8
     exact⟨HW7.1.on k8,HW7.2.1.k k8,HW7.2.2.k k8,by rw[hW8];exact yAa w7 _ HW7.1.i.size rfl⟩
    have HSS:Hid (∀X:Ww,LkM G m g cp cs X->yA X G.w 153 11 wr x.ten->(λw':Ww=>xk w' wr 4 (xi x.leaf.f)/\xk w' wr 5 x.leaf.s/\xk w' wr 6 x.leaf.hi/\xk w' wr 7 x.leaf.t/\xk w' wr 8 (xu x.leaf.lo)/\xk w' wr 9 (xu x.leaf.up)/\xk w' wr 10 (xi x.leaf.n)/\xk w' wr 1 (xi an)/\xk w' G.gc (an*5) k.used/\xk w' G.gc (an*5+1) k.j/\xk w' G.gc (an*5+2) k.E/\xk w' G.gc (an*5+3) k.C/\xk w' G.gc (an*5+4) (xi k.count)/\xk w' (G.w+1) 0 G.c.j/\xk w' (G.w+1) 1 G.c.E/\xk w' (G.w+1) 2 G.c.C/\xk w' (G.w+1) 3 (xu G.c.ts)/\xk w' (G.w+1) 4 G.c.val) X):=λX h1 h2=>
     ⟨h2.z (j:=4) rfl,h2.z (j:=5) rfl,h2.z (j:=6) rfl,h2.z (j:=7) rfl,h2.z (j:=8) rfl,h2.z (j:=9) rfl,h2.z (j:=10) rfl,by rw[<-han];exact h2.z (j:=1) rfl,
      h1.ctr.z yGm hk 0 (by omega),h1.ctr.z yGm hk 1 (by omega),h1.ctr.z yGm hk 2 (by omega),h1.ctr.z yGm hk 3 (by omega),h1.ctr.z yGm hk 4 (by omega),
      h1.cel.z (j:=0) rfl,h1.cel.z (j:=1) rfl,h1.cel.z (j:=2) rfl,h1.cel.z (j:=3) rfl,h1.cel.z (j:=4) rfl⟩
    have hS0:=HSS.out W8.drew (HW8.1.on ((Below.refl _ _).drew)) (HW8.2.1.k ((Below.refl _ _).drew));have hkb:=HW8.1.cb k (mem_of_getElem? hk);clear hk han;go_upto_region 17 with fail;rw[<-hW8];clear hW8;refine yAf 99 (λw':Ww=>xk w' wr 4 (xi x.leaf.f)/\xk w' wr 5 x.leaf.s/\xk w' wr 6 x.leaf.hi/\xk w' wr 7 x.leaf.t/\xk w' wr 8 (xu x.leaf.lo)/\xk w' wr 9 (xu x.leaf.up)/\xk w' wr 10 (xi x.leaf.n)/\xk w' wr 1 (xi an)/\xk w' G.gc (an*5) k.used/\xk w' G.gc (an*5+1) k.j/\xk w' G.gc (an*5+2) k.E/\xk w' G.gc (an*5+3) k.C/\xk w' G.gc (an*5+4) (xi k.count)/\xk w' (G.w+1) 0 G.c.j/\xk w' (G.w+1) 1 G.c.E/\xk w' (G.w+1) 2 G.c.C/\xk w' (G.w+1) 3 (xu G.c.ts)/\xk w' (G.w+1) 4 G.c.val) (by kernel_rfl) ?_;refine ja 0 hS0 ?_;iterate 7 refine jb hS0 ?_
    refine qO 8 rfl λK hK=>?_;go_simp;refine(yXm x.leaf k G.c W8.drew hck ⟨hkb.1,by omega⟩).mono ?_;rintro e w9 ⟨rfl,hb9⟩;obtain⟨mb,hmb⟩:=qE ((yCm x.leaf k G.c).1);obtain⟨k2,hk2⟩:=qE ((yCm x.leaf k G.c).2);rw[<-hmb,<-hk2];have HM:Hid (mb=(yCm x.leaf k G.c).1/\k2=(yCm x.leaf k G.c).2):=⟨hmb,hk2⟩;have h89:Below W8 W8 w9:=((Below.refl _ _).drew).trans hb9;have HW9:Hid (LkM G m g cp cs w9/\yA w9 G.w 153 11 wr x.ten/\yA w9 G.w 115 4 W2 i.four/\yA w9 G.w 198 5 w7 newC.five):=⟨HW8.1.on h89,HW8.2.1.k h89,HW8.2.2.1.k h89,HW8.2.2.2.k h89⟩;have hS9:=HSS.out w9 HW9.1 HW9.2.1;obtain⟨v0,v1,v2,v3,v4⟩:=HW9.2.2.2.c5;obtain⟨f0,f1,f2,f3,f4⟩:=HW9.2.2.2.f5;clear hb9 h89 hmb hk2 hS0;refine hK.out _ _ (.inr hS9) ?_;clear hK;refine jS ?_;iterate 4 refine jb hS9 ?_
    obtain⟨W10,hW10⟩:=qE (setCs w9 w7 0 k2.five:Ww);have hg7:g<w7.heap.size:=HW7.1.stk.lt.2;have hw27:W2.heap.size<w7.heap.size:=HW7.2.2.lt.2;have hwr7:wr.heap.size<w7.heap.size:=HW7.2.1.lt.2;have HW10:Hid (LkM G m g cp cs W10/\yA W10 G.w 153 11 wr x.ten/\yA W10 G.w 115 4 W2 i.four/\yA W10 G.w 198 5 w7 k2.five):=by
     have hc:Chg (λq=>q=w7.heap.size) w9 W10:=by rw[hW10];exact yAo (S:=λq=>q=w7.heap.size) _ rfl _ _ _
     refine⟨HW9.1.side ⟨by have:=HW9.1.gne;omega,by omega⟩ hc,HW9.2.1.i hc (by omega),HW9.2.2.1.i hc (by omega),?_⟩;have:=HW9.2.2.2.setCs k2.five;rw[hW10];exact this
    have hS10:=HSS.out W10 HW10.1 HW10.2.1;simp only[setCs,Nat.zero_add,Nat.reduceAdd]at hW10;refine qO 13 rfl λK hK=>?_;go_simp;rw[<-hW10];refine hK.out _ _ (.inr hS10) ?_;clear hK hW10 hS9 v0 v1 v2 v3 v4 f0 f1 f2 f3 f4;refine jS ?_;refine qD ?_;obtain⟨v0,v1,v2,v3,v4⟩:=HW10.2.2.2.c5;obtain⟨-,-,-,-,-,-,-,b1,u0,u1,u2,u3,u4,-,-,-,-,-⟩:=hS10;have fz:∀q,W10.frozen? (xd G.gc q)=false:=λq=>World.ownsRow.frozenAt HW10.1.ctr q;have f0:=fz (an*5);have f1:=fz (an*5+1);have f2:=fz (an*5+2);have f3:=fz (an*5+3);have f4:=fz (an*5+4);obtain⟨wq,hwq⟩:=qE (setCs W10 G.gc (an*5) k2.five:Ww);obtain⟨cq,hcq⟩:=qE (cs.set an k2);have hgcl:=HW10.1.gcl;have HWQ:Hid (LkM G m g cp cq wq/\yA wq G.w 153 11 wr x.ten/\yA wq G.w 115 4 W2 i.four):=by
     have hc:Chg (λq=>q=G.gc) W10 wq:=by rw[hwq];exact yAo (S:=λq=>q=G.gc) _ rfl _ _ _
     have hl:=HW10.1.X;refine⟨HW10.1.ctrs (by rw[hwq,hcq];exact HW10.1.ctr.setAll yGm (i:=an) (e:=k2) (by omega)) (by rw[hcq,length_set];exact hl) (λq hq=>?_) hc,HW10.2.1.i hc (by omega),HW10.2.2.1.i hc (by omega)⟩;rw[hcq]at hq;rcases mem_or_eq_of_mem_set hq with z|z
     .exact HW10.1.cb q z
     .rw[z,HM.2];exact xD9 hkb hn1
    have HQ:Hid (leafI pfxB x G.c i cs=(if mb=true then⟨true,i.strip || (x.leaf.f==3),i.G⟩else yBg (if x.free=true then yCa (pfxB x.leaf.s) x.leaf G.c else noH),cq)):=by show _=_;rw[yO3 HAL.out hck (by rw[HK.2];simpa using HK.1),<-HM.1,<-HM.2,hcq,HK.2];simp
    clear fz;simp only[setCs]at hwq;go_upto_region 19 with fail;rw[<-hwq];clear hwq hcq v0 v1 v2 v3 v4 f0 f1 f2 f3 f4 b1 u0 u1 u2 u3 u4;obtain⟨tb,htb⟩:=qE mb;rw[<-htb]at HQ|-;clear htb;exact zLkT
   .have hcf:yCn x.leaf.f=false:=by unfold yCn;rw[decide_eq_false_iff_not];exact hck
    rw[hcf];obtain⟨wq,hwq⟩:=qE w7;obtain⟨cq,hcq⟩:=qE cs;have HWQ:Hid (LkM G m g cp cq wq/\yA wq G.w 153 11 wr x.ten/\yA wq G.w 115 4 W2 i.four):=by rw[hwq,hcq];exact HW7.out
    have HQ:Hid (leafI pfxB x G.c i cs=(if tb=true then⟨true,i.strip || (x.leaf.f==3),i.G⟩else yBg (if x.free=true then yCa (pfxB x.leaf.s) x.leaf G.c else noH),cq)):=by show _=_;rw[yTm HAL.out hck,<-HC.out,<-HTB.out,hcq]
    rw[<-hwq]at hs7|-;clear hwq hcq;exact zLkT):p:=h
theorem zRdB (h:p:=by
 obtain⟨an,han⟩:∃an:Nat,x.a=(an:Int):=⟨x.a.toNat,by omega⟩;obtain⟨bv,hbv⟩:∃bv,G.V[an]?=some bv:=qg (by have:=HG.2.2.1;omega);obtain⟨bc,oc,hca,hcc,-,-⟩:=HW2.1.cnd an bv hbv;have hnc:(an:Int)<(G.nC:Int):=by have:=HG.2.2.1;have:=hC.out;omega
 have HBV:Hid (G.V[x.a.toNat]?=some bv):=by show _=_;rw[han];simpa using hbv
 rw[han]at y1;rw[ho]at y0;have HCA:Hid (G.ca=some ⟨bc,oc,none⟩):=hca;rw[hca];clear hbv ha0 ha1 hca;have zb:((x.b.toNat:Nat):Int)=x.b:=by omega
 cases bv
 .have HR:Hid (LkL G x.b.toNat m cs/\at_<x.b.toNat/\x.b.toNat<=G.N/\1<=m.length/\m.length<=250):=
   HL.2.next HG.2.1 hN.out (by have:=HL.1;omega) HX.out (by unfold stepL;rw[iA (by omega),iA (by omega),iA (by omega),iA (by omega),iB ho,iB HBV.out]) (by unfold ways;rw[iB ho];simp) (by unfold more;rw[iA (by omega),iA (by omega)];omega)
  have hr1:=HR.2.1;have hr2:=HR.2.2.1;go_wp2_with fail;rw[<-HCA.out];exact xBw
 .have HR:Hid (LkL G (at_+1) m cs/\at_<at_+1/\at_+1<=G.N/\1<=m.length/\m.length<=250):=
   HL.2.next HG.2.1 hN.out (by have:=HL.1;omega) HX.out (by unfold stepL;rw[iA (by omega),iA (by omega),iA (by omega),iA (by omega),iB ho,iA (by rw[HBV.out];simp)]) (by unfold ways;rw[iB ho];simp) (by unfold more;rw[iA (by omega),iA (by omega)];omega)
  have hr2:=HR.2.2.1;go_wp2_with fail;rw[<-HCA.out];go_roundw;case rel=>exact⟨at_+1,sn,g,cp,m,cs,hr2,hs1,hs2,rfl,by go_num,HW2.1,HL.1,HR.1⟩
  case measure=>simp[intOf];omega):p:=h
theorem zRdJ (h:p:=by
 have zb:((x.b.toNat:Nat):Int)=x.b:=by omega
 have HR:Hid (LkL G x.b.toNat m cs/\at_<x.b.toNat/\x.b.toNat<=G.N/\1<=m.length/\m.length<=250):=
  HL.2.next HG.2.1 hN.out (by have:=HL.1;omega) HX.out (by unfold stepL;rw[iA (by omega),iA (by omega),iA (by omega),iA (by omega),iA (by omega),iB ho]) (by unfold ways;rw[iA (by omega),iB ho];simp) (by unfold more;rw[iA (by omega),iA (by omega)];omega)
 rw[ho]at y0;have hr1:=HR.2.1;have hr2:=HR.2.2.1;go_wp2_with fail;exact xBw):p:=h
theorem zRdD (h:p:=by
 obtain⟨i,hi⟩:∃i,m[tn]?=some i:=qg (by have:=HL.1;omega);rw[ho]at y0;have t0:=HW2.1.stk.z yAd hi 0 (by omega);have t1:=HW2.1.stk.z yAd hi 1 (by omega);have t2:=HW2.1.stk.z yAd hi 2 (by omega);have t3:=HW2.1.stk.z yAd hi 3 (by omega);simp only[getElem?_cons_zero,getElem?_cons_succ,Nat.add_zero]at t0 t1 t2 t3;obtain⟨W3,hW3⟩:=qE (xw W2 #[i.H,i.strip,xi i.G.rank,i.G.txt] 115:Ww);have HW3:Hid (LkM G m g cp cs W3/\(∀j u,i.four[j]?=some u->(xk W3 W2 j u:Prop))):=by
  have hb3:=qN hW3
  exact⟨HW2.1.on hb3,by rw[hW3];exact yBj W2 i.four _⟩
 have HI:Hid (m[tn]?=some i):=hi;have hgl:=HW3.1.stk.lt;have z3:=qS hW3
 clear hi;go_wp2_with (at_builtin;(try rw[<-hW3]);refine yE9 yAd _ rfl _ _ 199 rfl underlying199 Tryz.infoItm rfl (by decide) (by decide) yHc G.w g cp (tn+1) W2 1 m i rfl rfl HL.1 HW3.1.stk HW3.2 ?hl ?hb ?_);case hl=>rw[<-HL.1];omega
 case hb=>omega
 intro g' cp' w' hO' hgr hat';have hgr2:W3.grownBy w' (some g):=by first|exact hgr|(rw[hW3];exact hgr)
 have HR:Hid (LkL G (at_+1) (m++ [i]) cs/\at_<at_+1/\at_+1<=G.N/\1<=(m++ [i]).length/\(m++ [i]).length<=250):=
  HL.2.next HG.2.1 hN.out (by have:=HL.1;omega) HX.out (by unfold stepL;rw[iA (by omega),iB ho,reverse_append,yDt HL.1 HI.out];rfl) (by unfold ways;rw[iA (by omega),iA (by omega)];simp) (by unfold more;rw[iB ho];simp)
 have HR2:Hid (LkM G (m++ [i]) g' cp' cs w'/\tn+1+1=(m++ [i]).length):=
  ⟨HW3.1.grow hO' (by have:=HW3.1.gne;have:=HW3.1.i.size;omega) (Chg.M hgr2 (λk hk=>by cases hk;rfl)),by rw[length_append,<-HL.1];rfl⟩
 have hr2:=HR.2.2.1;have hr3:tn+1+1<=250:=by have:=HR.2.2.2.2;have:=HR2.2;omega
 clear hO' hgr hgr2 hat' hW3;go_wp2;go_roundw;case rel=>exact⟨at_+1,tn+1+1,g',cp',m++ [i],cs,hr2,by omega,hr3,rfl,by go_num,HR2.1,HR2.2,HR.1⟩
 case measure=>simp[intOf];omega):p:=h
theorem zRdS (h:p:=by
 obtain⟨un,rfl⟩:∃un,tn=un+1:=⟨tn-1,by rw[ho]at hle;unfold least at hle;rw[iB (by omega)]at hle;omega⟩;obtain⟨i,hi⟩:∃i,m[un+1]?=some i:=qg (by have:=HL.1;omega);obtain⟨j,hj⟩:∃j,m[un]?=some j:=qg (by have:=HL.1;omega);rw[ho]at y0;have t0:=HW2.1.stk.z yAd hi 0 (by omega);have t1:=HW2.1.stk.z yAd hi 1 (by omega);have t2:=HW2.1.stk.z yAd hi 2 (by omega);have t3:=HW2.1.stk.z yAd hi 3 (by omega);have s0:=HW2.1.stk.z yAd hj 0 (by omega);have s1:=HW2.1.stk.z yAd hj 1 (by omega);have s2:=HW2.1.stk.z yAd hj 2 (by omega);have s3:=HW2.1.stk.z yAd hj 3 (by omega);simp only[getElem?_cons_zero,getElem?_cons_succ,Nat.add_zero]at t0 t1 t2 t3 s0 s1 s2 s3;have HI:Hid (m[un+1]?=some i/\m[un]?=some j):=⟨hi,hj⟩;have hgl:=HW2.1.stk.lt.2;have fz:∀k,W2.frozen? (xd g k)=false:=λk=>World.ownsRow.frozenAt HW2.1.stk k;have f0:=fz ((un+1)*4);have f1:=fz ((un+1)*4+1);have f2:=fz ((un+1)*4+2);have f3:=fz ((un+1)*4+3);have e0:=fz (un*4);have e1:=fz (un*4+1);have e2:=fz (un*4+2);have e3:=fz (un*4+3);clear hi hj fz;go_upto_region 45 with fail;obtain⟨W9,hW9⟩:=qE (xw (setCs (setCs W2 g ((un+1)*4) j.four) g (un*4) i.four) #[i.H,i.strip,xi i.G.rank,i.G.txt] 115:Ww);have HR2:Hid (LkM G (m.take un++ [i,j]) g cp cs W9/\un+1+1=(m.take un++ [i,j]).length):=by
  have hm:=HL.1;have o1:=(HW2.1.stk.setAll yAd (i:=un+1) (e:=j) (by omega)).setAll yAd (i:=un) (e:=i) (by rw[length_set];omega);rw[yN7 HL.1 HI.1 HI.2]at o1;have k9:Below (setCs (setCs W2 g ((un+1)*4) j.four) g (un*4) i.four).heap.size (setCs (setCs W2 g ((un+1)*4) j.four) g (un*4) i.four) W9:=by rw[hW9];exact qB
  exact⟨HW2.1.grow (o1.k k9) HW2.1.gne (((yAo (S:=λk=>k=g) g rfl _ _ _).trans (yAo (S:=λk=>k=g) g rfl _ _ _)).trans (Chg.h k9)),by rw[length_append,length_take];simp;omega⟩
 have HR:Hid (LkL G (at_+1) (m.take un++ [i,j]) cs/\at_<at_+1/\at_+1<=G.N/\1<=(m.take un++ [i,j]).length/\(m.take un++ [i,j]).length<=250):=
  HL.2.next HG.2.1 hN.out (by have:=HL.1;omega) HX.out (by unfold stepL;rw[iA (by omega),iA (by omega),iB ho];rw[yMs HL.1 HI.1 HI.2,reverse_append];rfl) (by unfold ways;rw[iA (by omega),iA (by omega)];simp) (by unfold more;rw[iA (by omega),iA (by omega),<-HR2.2,<-HL.1];omega)
 have hr2:=HR.2.2.1;have hW9':W9=_:=hW9;simp only[setCs]at hW9';rw[<-hW9'];clear hW9 hW9';go_wp2;go_roundw;case rel=>exact⟨at_+1,un+1+1,g,cp,m.take un++ [i,j],cs,hr2,by omega,hs2,rfl,by go_num,HR2.1,HR2.2,HR.1⟩
 case measure=>simp[intOf];omega):p:=h
theorem zRdI (h:p:=by
 obtain⟨un,rfl⟩:∃un,tn=un+1:=⟨tn-1,by rw[ho]at hle;unfold least at hle;rw[iB (by omega)]at hle;omega⟩;obtain⟨i,hi⟩:∃i,m[un+1]?=some i:=qg (by have:=HL.1;omega);obtain⟨j,hj⟩:∃j,m[un]?=some j:=qg (by have:=HL.1;omega);rw[ho]at y0;have t0:=HW2.1.stk.z yAd hi 0 (by omega);have t1:=HW2.1.stk.z yAd hi 1 (by omega);have t2:=HW2.1.stk.z yAd hi 2 (by omega);have t3:=HW2.1.stk.z yAd hi 3 (by omega);have s0:=HW2.1.stk.z yAd hj 0 (by omega);have s1:=HW2.1.stk.z yAd hj 1 (by omega);have s2:=HW2.1.stk.z yAd hj 2 (by omega);have s3:=HW2.1.stk.z yAd hj 3 (by omega);simp only[getElem?_cons_zero,getElem?_cons_succ,Nat.add_zero]at t0 t1 t2 t3 s0 s1 s2 s3;have HI:Hid (m[un+1]?=some i/\m[un]?=some j):=⟨hi,hj⟩;have hgl:=HW2.1.stk.lt.2;clear hi hj;obtain⟨W3,hW3⟩:=qE (xw (W2.alloc (Obj.cells #[i.H,i.strip,xi i.G.rank,i.G.txt] 115)) #[j.H,j.strip,xi j.G.rank,j.G.txt] 115:Ww);have HW3:Hid (LkM G m g cp cs W3/\yA W3 G.w 115 4 W2 i.four/\yA W3 G.w 115 4 (W2+1) j.four/\W3.heap.size=W2.heap.size+1+1):=by
  obtain⟨X,hX⟩:=qE (xw W2 #[i.H,i.strip,xi i.G.rank,i.G.txt] 115:Ww);rw[<-hX]at hW3;have zx:=qS hX
  have k1:=qN hX
  have k2:=qN hW3
  have sz:=HW2.1.i.size;have b1:yA X G.w 115 4 W2 i.four:=by rw[hX];exact yAa W2 _ sz rfl
  exact⟨(HW2.1.on k1).on k2,b1.k k2,by rw[hW3,<-zx];exact yAa X _ (by omega) rfl,by rw[hW3];simp;omega⟩
 go_upto_region 34 with fail;rw[<-hW3];clear hW3 t0 t1 t2 t3 s0 s1 s2 s3;have t2:=HW3.2.1.z (j:=2) rfl;have t3:=HW3.2.1.z (j:=3) rfl;have s2:=HW3.2.2.1.z (j:=2) rfl;have s3:=HW3.2.2.1.z (j:=3) rfl;go_wp2_with fail;refine(yQ8 j.G i.G W3).mono ?_;rintro e w4 ⟨rfl,hb4⟩;obtain⟨hh,hhh⟩:=qE (yN j.G i.G);rw[<-hhh];have HH:Hid (hh=yN j.G i.G):=hhh;obtain⟨W5,hW5⟩:=qE (xw w4 #[false,false,xi hh.rank,hh.txt] 115:Ww);have HW5:Hid (LkM G m g cp cs W5/\yA W5 G.w 115 4 W2 i.four/\yA W5 G.w 115 4 (W2+1) j.four/\yA W5 G.w 115 4 w4 (yBg hh).four):=by
  have k5:=qN hW5
  have sz:=HW3.1.i.size;have sb:=hb4.size;exact⟨(HW3.1.on hb4).on k5,(HW3.2.1.k hb4).k k5,(HW3.2.2.1.k hb4).k k5,by rw[hW5];exact yAa w4 _ (by omega) rfl⟩
 have hz4:W2.heap.size+1+1<=w4.heap.size:=by have:=hb4.size;have:=HW3.2.2.2;omega
 clear hhh hb4 t2 t3 s2 s3;obtain⟨t0,t1,t2,t3⟩:xk W5 W2 0 i.H/\xk W5 W2 1 i.strip/\xk W5 W2 2 (xi i.G.rank)/\xk W5 W2 3 i.G.txt:=⟨HW5.2.1.z (j:=0) rfl,HW5.2.1.z (j:=1) rfl,HW5.2.1.z (j:=2) rfl,HW5.2.1.z (j:=3) rfl⟩;obtain⟨s0,s1,s2,s3⟩:xk W5 (W2+1) 0 j.H/\xk W5 (W2+1) 1 j.strip/\xk W5 (W2+1) 2 (xi j.G.rank)/\xk W5 (W2+1) 3 j.G.txt:=⟨HW5.2.2.1.z (j:=0) rfl,HW5.2.2.1.z (j:=1) rfl,HW5.2.2.1.z (j:=2) rfl,HW5.2.2.1.z (j:=3) rfl⟩;obtain⟨f0,f1,f2,f3⟩:=HW5.2.2.2.f4;obtain⟨v0,v1,v2,v3⟩:=HW5.2.2.2.c4;go_upto_region 35 with fail;rw[<-hW5];clear hW5;obtain⟨ia,hia⟩:=qE i.H;obtain⟨ja,hja⟩:=qE j.H;rw[<-hia]at t0;rw[<-hja]at s0;have HIA:Hid (ia=i.H/\ja=j.H):=⟨hia,hja⟩;clear hia hja
 obtain⟨W7,it,hW7,HW7⟩:∃(W7:Ww)(it:It),W7=(if ja=true then setCs (if ia=true then setCs W5 w4 0 [true,i.strip,xi i.G.rank,i.G.txt]else W5) w4 0 [true,j.strip,xi j.G.rank,j.G.txt]else if ia=true then setCs W5 w4 0 [true,i.strip,xi i.G.rank,i.G.txt]else W5)/\
   Hid (LkM G m g cp cs W7/\yA W7 G.w 115 4 w4 it.four/\it=yRp j i):=by
  have hgn:¬w4.heap.size=g:=by omega
  have hgs:G.w.heap.size+1+1<w4.heap.size:=by have:=HW2.1.gne;omega
  obtain⟨h1,h2⟩:=HIA.out;have hi2:ia=true-> [Value.bool true,i.strip,xi i.G.rank,i.G.txt]=i.four:=λq=>by unfold It.four;rw[<-h1,q]
  have hj2:ja=true-> [Value.bool true,j.strip,xi j.G.rank,j.G.txt]=j.four:=λq=>by unfold It.four;rw[<-h2,q]
  obtain⟨W6,hW6⟩:=qE ((if ia=true then setCs W5 w4 0 [true,i.strip,xi i.G.rank,i.G.txt]else W5):Ww);have H6:∃i6:It,LkM G m g cp cs W6/\yA W6 G.w 115 4 w4 i6.four/\i6=(if i.H=true then i else yBg hh):=by
   cases ia
   .rw[iA (by simp)]at hW6;rw[hW6];exact⟨yBg hh,HW5.1,HW5.2.2.2,by rw[<-h1];rfl⟩
   .rw[iB rfl,hi2 rfl]at hW6;obtain⟨q1,q2⟩:=yEx HW5.2.2.2 hW6;exact⟨i,HW5.1.side ⟨hgs,hgn⟩ q2,q1,by rw[<-h1];rfl⟩
  obtain⟨i6,l6,b6,e6⟩:=H6;rw[<-hW6];cases ja
  .refine⟨W6,i6,by simp,l6,b6,?_⟩;rw[e6];unfold yRp;rw[<-h2];simp[HH.out]
  .obtain⟨W7,hW7⟩:=qE (setCs W6 w4 0 j.four:Ww);obtain⟨q1,q2⟩:=yEx b6 hW7;refine⟨W7,j,by rw[iB rfl,hj2 rfl];exact hW7,l6.side ⟨hgs,hgn⟩ q2,q1,?_⟩;unfold yRp;rw[<-h2,iB rfl]
 have hsw:w4.heap.size<W7.heap.size:=HW7.2.1.lt.2;have hcap:=HW7.1.stk.caps;rw[<-HL.1]at hcap;have hwu:IntKind.i64.wrap ((un:Nat):Int)=(un:Int):=by rw[IntKind.wrap_i64];omega
 have hcu:(un:Int)<=(cp:Int):=by omega
 have hnn:0<=(un:Int):=by omega
 have HUN:Hid (un<=m.length):=by have:=HL.1;show un<=_;omega
 obtain⟨V8,hV8⟩:=qE ((W7.alloc (Obj.cells #[it.H,it.strip,xi it.G.rank,it.G.txt] 115)).drew:Ww);have HV8:Hid (LkM G m g cp cs V8/\(∀j u,it.four[j]?=some u->(xk V8 W7 j u:Prop))/\yA V8 G.w 115 4 w4 it.four/\V8.heap.size=W7.heap.size+1):=by
  have k8:Below W7 W7 V8:=by rw[hV8];exact(qB).drew
  exact⟨HW7.1.on k8,by rw[hV8];exact yBj W7 it.four _,HW7.2.1.k k8,by rw[hV8];simp⟩
 have hS0:SW (λw':Ww=>xk w' w4 0 it.H/\xk w' w4 1 it.strip/\xk w' w4 2 (xi it.G.rank)/\xk w' w4 3 it.G.txt) W7.drew:=⟨HW7.2.1.z (j:=0) rfl,HW7.2.1.z (j:=1) rfl,HW7.2.1.z (j:=2) rfl,HW7.2.1.z (j:=3) rfl⟩;have hS8:=SWm hS0 V8 <|⟨HV8.2.2.1.z (j:=0) rfl,HV8.2.2.1.z (j:=1) rfl,HV8.2.2.1.z (j:=2) rfl,HV8.2.2.1.z (j:=3) rfl⟩;cases ia<;>cases ja<;>simp only[Bool.false_eq_true,if_false,if_true,setCs,Nat.zero_add,Nat.reduceAdd]at hW7
 all_goals
  go_upto_region 39 with fail
  rw[<-hW7]
  clear hW7 t0 t1 t2 t3 s0 s1 s2 s3 f0 f1 f2 f3 v0 v1 v2 v3
  refine wpR 99 hS8 ?_
  refine ja 0 hS0 ?_
  iterate 4 refine jb hS0 ?_
  refine qO 5 rfl λK hK=>?_
  go_simp
  rw[<-hV8]
  refine hK.out _ _ (.inr hS8) ?_
  clear hK hV8
  refine jS ?_
  refine qO 6 rfl λK hK=>?_
  refine yGy yAd _ rfl _ _ 199 rfl underlying199 Tryz.infoItm rfl (by decide) (by decide) yHc G.w g cp un W7 1 (m.take un) it rfl rfl (by rw[length_take,Nat.min_eq_left HUN.out]) (HV8.1.stk.take yAd HUN.out) HV8.2.1 (by rw[length_take];omega) (by have:=HV8.1.i.size;omega) ?_
  intro g' cp' w' hO' hgr hat'
  have hc9:Chg (λk=>k=g) V8 w':=Chg.M hgr (λk hk=>by cases hk;rfl)
  have hlen:(m.take un++ [it]).length=un+1:=by rw[length_append,length_take,Nat.min_eq_left HUN.out];rfl
  have HR:Hid (LkL G (at_+1) (m.take un++ [it]) cs/\at_<at_+1/\at_+1<=G.N/\1<=(m.take un++ [it]).length/\(m.take un++ [it]).length<=250):=
   HL.2.next HG.2.1 hN.out (by have:=HL.1;omega) HX.out (by unfold stepL;rw[iA (by omega),iA (by omega),iA (by omega),iB ho,yMs HL.1 HI.1 HI.2,reverse_append,HW7.2.2];rfl) (by unfold ways;rw[iA (by omega),iA (by omega)];simp) (by unfold more;rw[iA (by omega),iB ho,hlen,<-HL.1];omega)
  have HR2:Hid (LkM G (m.take un++ [it]) g' cp' cs w'/\un+1=(m.take un++ [it]).length):=
   ⟨HV8.1.grow hO' (by have:=HV8.1.gne;have:=HV8.1.stk.lt;omega) hc9,hlen.symm⟩
  have b9:=HV8.2.2.1.i hc9 (by omega)
  have hS9:=SWm hS8 w' <|⟨b9.z (j:=0) rfl,b9.z (j:=1) rfl,b9.z (j:=2) rfl,b9.z (j:=3) rfl⟩
  have hr2:=HR.2.2.1
  clear hO' hgr hat' hc9 b9 hlen
  refine hK.out _ _ (.inr hS9) ?_
  clear hK
  refine jS ?_
  refine qO 7 rfl λK hK=>?_
  go_simp
  refine hK.out _ _ (.inr hS9) ?_
  clear hK hS0 hS8 hS9
  refine jS ?_
  refine qD ?_
  go_wp2_with fail
  go_roundw
  case rel=>exact⟨at_+1,un+1,g',cp',m.take un++ [it],cs,hr2,by omega,by omega,rfl,by go_num,HR2.1,HR2.2,HR.1⟩
  case measure=>simp[intOf];omega):p:=h
theorem yRe(G:LkG)(nc:Nat)(hB:yB1 G.l G.cnt nc)(hD:yVy G.l G.d)(hnc:nc<=G.V.length)(hcn:(G.cs0.length:Int)=G.cnt)(cc:Nat)(hN:Hid (G.N=G.l.length))(hK:Hid (G.nk=G.cs0.length))(hC:Hid (G.nC=G.V.length))
  (hI:yBh G.w G.bI G.oI G.l) (hIl:G.bI<G.w.heap.size/\¬G.bI=G.gc) (hIc:G.N<=G.cI/\G.cI<=maxLen) (hO:yF6 G.w G.b0 G.gc G.cpc G.cs0) (hcb:∀k∈G.cs0,0<=k.count/\k.count<=1000)
  (hcd:∀(i:Nat)(b:Bool),G.V[i]?=some b->∃bc oc,G.ca=some ⟨bc,oc,none⟩/\xk G.w bc (oc+i) b/\bc<G.w.heap.size/\¬bc=G.gc):
  Calls prog 58 #[.agg #[.slice (some ⟨G.bI,G.oI,none⟩) G.N G.cI,xi G.cnt],G.c.c,xg G.gc G.nk G.cpc,.slice G.ca G.nC cc] G.w (LkP G):=by
 obtain⟨W0,a0⟩:=qE (xw ((G.w.alloc (AC #[.slice (some ⟨G.bI,G.oI,none⟩) G.N G.cI,xi G.cnt] 32)).alloc (AC #[G.c.j,G.c.E,G.c.C,xu G.c.ts,G.c.val] 70)) #[false,false,xi 0,xe] 115:Ww);obtain⟨W1,a2⟩:=qE (xw W0 #[true,false,xi 0,xe] 115:Ww);have H1:Hid (LkM G [newI] (G.w+1+1+1) 1 G.cs0 W1):=by
  obtain⟨X,hX⟩:=qE (xw G.w #[.slice (some ⟨G.bI,G.oI,none⟩) G.N G.cI,xi G.cnt] 32:Ww);rw[<-hX]at a0;obtain⟨Y,hY⟩:=qE (xw X #[G.c.j,G.c.E,G.c.C,xu G.c.ts,G.c.val] 70:Ww);rw[<-hY]at a0;have zx:=qS hX
  have zy:Y.heap.size=G.w.heap.size+1+1:=by rw[hY];simp;omega
  have zz:W0.heap.size=G.w.heap.size+1+1+1:=by rw[a0];simp;omega
  have k1:=qN hX
  have k2:=qN hY
  have k3:=qN a0
  have k4:=qN a2
  have k9:Below G.w G.w W1:=((k1.trans (k2.mono (by omega))).trans (k3.mono (by omega))).trans (k4.mono (by omega));have b1:yA X G.w 32 2 G.w [.slice (some ⟨G.bI,G.oI,none⟩) G.N G.cI,xi G.cnt]:=by rw[hX];exact yAa G.w _ qr rfl
  have b2:yA Y G.w 70 5 (G.w+1) G.c.five:=by rw[hY,<-zx];exact yAa X _ (by omega) rfl
  have b3:yA W0 G.w 115 4 (G.w+1+1) (yBg noH).four:=by rw[a0,<-zy];exact yAa Y _ (by omega) rfl
  have b4:yA W1 G.w 115 4 (G.w+1+1+1) newI.four:=by rw[a2,<-zz];exact yAa W0 _ (by omega) rfl
  exact⟨((b1.k k2).k k3).k k4,(b2.k k3).k k4,b3.k k4,b4,by omega,hO.k k9,hO.lt.2,hIl,hI.k k9 hIl.1,
   λi b hi=>by
    obtain⟨bc,oc,h1,h2,h3,h4⟩:=hcd i b hi
    exact⟨bc,oc,h1,((Chg.h k9 (S:=λ_=>False)).z (p:=(xd bc (oc+i))) h3 (λq=>q)).trans h2,h3,h4⟩,
   Chg.h k9,hK.out.symm,hcb⟩
 have ai:G.N<=4000:=by have:=hB.2.1;have:=hN.out;omega
 have HG:Hid (yB1 G.l G.cnt nc/\yVy G.l G.d/\nc<=G.V.length/\(G.cs0.length:Int)=G.cnt):=⟨hB,hD,hnc,hcn⟩;clear hB hD hnc hcn hI hO hcb hcd hIl;unfold maxLen at hIc;go_enter func58,ntmps58;go_upto_region 2 with fail;rw[<-a0,<-a2];clear a0 a2;go_wp2_with fail;go_loopw[10,11] (λsv kv wr=>∃(at_ sn g cp:Nat)(m:List It)(cs:List Ctr),at_<=G.N/\1<=sn/\sn<=250/\sv=(xg g sn cp)/\kv=(xi at_)/\Hid (LkM G m g cp cs wr/\sn=m.length/\LkL G at_ m cs)) (λ_ kv _=>G.N-(intOf kv).toNat);case atStart=>exact⟨0,1,_,1,[newI],G.cs0,AD _,AB _,by omega,rfl,rfl,H1.out,rfl,HG.2.1.start.symm,AD _,λr h=>h⟩
 case round=>
  clear H1;obtain⟨at_,sn,g,cp,m,cs,aj,hs1,hs2,rfl,rfl,HJ⟩:=hrel;have c0:=HJ.1.blk.z (j:=0) rfl;by_cases hlt:at_<G.N
  .obtain⟨x,hx⟩:∃x,G.l[at_]?=some x:=qg (by have:=hN.out;omega);obtain⟨x0,x1,x2,x3,x4,x5,x6,x7,x8,x9,ad⟩:=HJ.1.ins at_ x hx;have HX:Hid (G.l[at_]?=some x):=hx;clear hx;have z:(at_:Int)<(G.N:Int):=by omega
   obtain⟨W2,a1⟩:=qE (xw wr #[xi x.op,xi x.a,xi x.b,x.free,xi x.leaf.f,x.leaf.s,x.leaf.hi,x.leaf.t,xu x.leaf.lo,xu x.leaf.up,xi x.leaf.n] 153:Ww);have HW2:Hid (LkM G m g cp cs W2/\yA W2 G.w 153 11 wr x.ten/\Below wr wr W2):=by
    have hb:=qN a1
    exact⟨HJ.1.on hb,by rw[a1];exact yAa wr _ HJ.1.i.size rfl,hb⟩
   have HL:Hid (sn=m.length/\LkL G at_ m cs):=HJ.2;have ac:yN0 x at_ G.l.length G.cnt nc:=yB5 HG.1 HX.out;have hle:=HL.2.least HG.2.1 (by have:=HL.1;omega) HX.out;rw[<-HL.1]at hle;rw[<-hN.out]at ac;have ag:=HJ.1.i.size;clear HJ;go_upto_region 5 with fail;rw[<-a1];clear a1 x0 x1 x2 x3 x4 x5 x6 x7 x8 x9 ad c0;obtain⟨y0,y1,y2⟩:=HW2.2.1.c3;rcases ac with⟨ho,hlf,af,hab⟩|⟨ho,aa,ha0,ha1,hkb,ae⟩|⟨ho,aa,ha0,hkb,ae⟩|⟨ho,aa,ha0,af⟩
   .as_aux_lemma=>exact zRdL
   .exact zRdB
   .exact zRdJ
   .obtain⟨tn,rfl⟩:∃tn,sn=tn+1:=⟨sn-1,by omega⟩;rcases ho with ho|ho|ho
    .exact zRdD
    .exact zRdS
    .exact zRdI
  .have z:¬(at_:Int)<(G.N:Int):=by omega
   have ab:m.length=1:=by
    have h1:=HJ.2.2.1;have h2:at_=G.l.length:=by have:=hN.out;omega
    rw[h2,HG.2.1.last]at h1;exact h1
   obtain⟨i,rfl⟩:∃i,m= [i]:=List.length_eq_one_iff.1 ab;obtain rfl:sn=1:=HJ.2.1;have t0:=HJ.1.stk.z yAd (i:=0) (e:=i) rfl 0 (by omega);have t1:=HJ.1.stk.z yAd (i:=0) (e:=i) rfl 1 (by omega);have t2:=HJ.1.stk.z yAd (i:=0) (e:=i) rfl 2 (by omega);have t3:=HJ.1.stk.z yAd (i:=0) (e:=i) rfl 3 (by omega);simp only[getElem?_cons_zero,getElem?_cons_succ,Nat.zero_mul,AE]at t0 t1 t2 t3;obtain⟨f0,f1,f2,f3⟩:=HJ.1.res.f4;obtain⟨v0,v1,v2,v3⟩:=HJ.1.res.c4;obtain⟨W9,hW9⟩:=qE (setCs wr (G.w+1+1) 0 i.four:Ww);obtain⟨b9,c9⟩:=yEx HJ.1.res hW9;have ah:=HJ.1.gcl
   have HR:Hid (LkP G (.returned (.tuple #[i.v,xg G.gc G.nk G.cpc])) W9):=
    ⟨i,cs,HJ.2.2.2.2 _ (.fin (by have:=hN.out;show¬at_<_;omega) rfl),rfl,HJ.1.X,HJ.1.ctr.i c9 (by omega),HJ.1.cb,HJ.1.i.absorb c9 (λj q=>.inr (by omega))⟩
   obtain⟨q0,q1,q2,q3⟩:=b9.c4;simp only[setCs,AE,Nat.reduceAdd]at hW9;clear b9 c9 HJ ab;go_wp2_with fail;rw[<-hW9];exact bodyPost_ret (v:=.tuple #[i.v,xg G.gc G.nk G.cpc]) (by simp[results,results58,go_sem,q0,q1,q2,q3]) rfl HR.out
structure RwG where
 w:Ww
 l:List Ix
 N:Nat
 bI:Nat
 oI:Nat
 cI:Nat
 cnt:Int
 nc:Nat
 V:List Bool
 ca:Option Addr
 nC:Nat
 nk:Nat
structure RwO(R:RwG):Prop where
 good:yB1 R.l R.cnt R.nc
 nc:R.nc<=R.V.length
 nC:R.nC=R.V.length
 N:R.N=R.l.length
 nk:(R.nk:Int)=R.cnt
 ins:yBh R.w R.bI R.oI R.l
 bIl:R.bI<R.w.heap.size
 cI:R.N<=R.cI/\R.cI<=maxLen
 cnd:∀(i:Nat)(b:Bool),R.V[i]?=some b->∃bc oc,R.ca=some ⟨bc,oc,none⟩/\xk R.w bc (oc+i) b/\bc<R.w.heap.size
variable {R:RwG} {gc cpc:Nat}
theorem RwO.look(h:RwO R)(hB:R.w.heap.size<=B)(hb:Below R.w R.w wr)(hO:yF6 wr B gc cpc cs)(hl:cs.length=R.nk)(hcb:∀k∈cs,0<=k.count/\k.count<=1000)(c:Ent)(cc:Nat):
  Calls prog 58 #[.agg #[.slice (some ⟨R.bI,R.oI,none⟩) R.N R.cI,xi R.cnt],c.c,xg gc R.nk cpc,.slice R.ca R.nC cc] wr λe w'=>∃(i:It)(cs':List Ctr),e=.returned (.tuple #[i.v,xg gc R.nk cpc])/\Hid (LkR pfxB R.l c R.V ⟨0,[newI],cs⟩ (i,cs')/\cs'.length=R.nk/\yF6 w' B gc cpc cs'/\(∀k∈cs',0<=k.count/\k.count<=1000)/\Chg (λk=>k=gc) wr w'):=by
 obtain⟨d,hd⟩:=yNo h.good;have hz:=hb.size;have hg:=hO.lt;have a0:=h.bIl;refine(yRe ⟨wr,R.l,R.bI,R.oI,R.cI,R.cnt,c,R.V,d,cs,B,gc,cpc,R.ca,R.N,R.nk,R.nC⟩ R.nc h.good hd h.nc (by show(cs.length:Int)=R.cnt;rw[hl];exact h.nk) cc h.N hl.symm h.nC (h.ins.i (S:=λ_=>False) ⟨hb.os,hb.tape,hb.output,hb.size,λk hk _=>hb.block k hk⟩ h.bIl (λq=>q)) ⟨by show R.bI<wr.heap.size;omega,by show¬R.bI=gc;omega⟩ h.cI hO hcb (λi b hi=>?_)).mono ?_
 .obtain⟨bc,oc,h1,h2,h3⟩:=h.cnd i b hi;exact⟨bc,oc,h1,(hb.cell (p:=(xd bc (oc+i))) h3).trans h2,by show bc<wr.heap.size;omega,by show¬bc=gc;omega⟩
 .rintro e w' ⟨i,cs',h1,h2,h3,h4,h5,h6⟩;exact⟨i,cs',h2,h1,h3,h4,h5,h6⟩
structure RwJ(R:RwG)(out:List Ent)(n g cp gc cpc:Nat)(cs:List Ctr)(wr:Ww):Prop where
 blk:yA wr R.w 32 2 R.w [.slice (some ⟨R.bI,R.oI,none⟩) R.N R.cI,xi R.cnt]
 Z:OwnC wr R.w g cp out
 n:n=out.length
 ctr:yF6 wr R.w gc cpc cs
 X:cs.length=R.nk
 cb:∀k∈cs,0<=k.count/\k.count<=1000
 k:Below R.w R.w wr
theorem RwJ.on(h:RwJ R out n g cp gc cpc cs wr)(hb:Below wr wr W):RwJ R out n g cp gc cpc cs W:=
 {h with blk:=h.blk.k hb,Z:=h.Z.k hb h.Z.lt.2,ctr:=h.ctr.k hb,k:=h.k.trans (hb.mono h.k.size)}
theorem RwJ.apart(h:RwJ R out n g cp gc cpc cs wr):¬g=gc/\¬R.w.heap.size=gc/\¬R.w.heap.size=g:=
 ⟨λq=>yAb h.Z h.ctr (by decide) g rfl (by rw[q];rfl),λq=>yAb h.blk h.ctr (by decide) R.w rfl (by rw[q];rfl),λq=>yAb h.blk h.Z (by decide) R.w rfl (by rw[q];rfl)⟩
theorem zRyR (h:p:=by
 obtain⟨c,hc⟩:∃c,es[i]?=some c:=qg (qw HR.2.2);have HC:Hid (es[i]?=some c):=hc;have HSS:Hid (∀(X:Ww)(out:List Ent)(n g cp gc cpc:Nat)(cs:List Ctr),RwJ R out n g cp gc cpc cs X->(λw':Ww=>xk w' R.w 0 (.slice (some ⟨R.bI,R.oI,none⟩) R.N R.cI)/\xk w' R.w 1 (xi R.cnt)/\xk w' rb (ro+i*5) c.j/\xk w' rb (ro+i*5+1) c.E/\xk w' rb (ro+i*5+2) c.C/\xk w' rb (ro+i*5+3) (xu c.ts)/\xk w' rb (ro+i*5+4) c.val/\xk w' R.w 1 (xi R.cnt)) X):=λX out n g cp gc cpc cs h=>by have hb:=h.k;obtain⟨e0,e1,e2,e3,e4⟩:=HR.2.1.U i c hc;exact⟨h.blk.z (j:=0) rfl,h.blk.z (j:=1) rfl,by rw[hb.cell (p:=(xd rb _)) hrb];exact e0,by rw[hb.cell (p:=(xd rb _)) hrb];exact e1,by rw[hb.cell (p:=(xd rb _)) hrb];exact e2,by rw[hb.cell (p:=(xd rb _)) hrb];exact e3,by rw[hb.cell (p:=(xd rb _)) hrb];exact e4,h.blk.z (j:=1) rfl⟩
 obtain⟨W2,hW2⟩:=qW (xw wr #[false,false,xi 0,xe] 115);have HW2:Hid (RwJ R out n g cp gc cpc cs W2.drew/\yA W2.drew R.w 115 4 wr (yBg noH).four):=by
  have k2:=qN hW2
  have b2:yA W2 R.w 115 4 wr (yBg noH).four:=by rw[hW2];exact yAa wr _ HJ.k.size rfl
  exact⟨(HJ.on k2).on ((Below.refl _ _).drew),b2.k ((Below.refl _ _).drew)⟩
 have HLk:Hid (Calls prog 58 #[.agg #[.slice (some ⟨R.bI,R.oI,none⟩) R.N R.cI,xi R.cnt],.agg #[c.j,c.E,c.C,xu c.ts,c.val],xg gc R.nk cpc,.slice R.ca R.nC cc] W2.drew λe w'=>∃(i:It)(cs':List Ctr),e=.returned (.tuple #[i.v,xg gc R.nk cpc])/\Hid (LkR pfxB R.l c R.V ⟨0,[newI],cs⟩ (i,cs')/\cs'.length=R.nk/\yF6 w' R.w gc cpc cs'/\(∀k∈cs',0<=k.count/\k.count<=1000)/\Chg (λk=>k=gc) W2.drew w')):=
  HR.1.look qr HW2.1.k HW2.1.ctr HW2.1.X HW2.1.cb c cc
 have hS0:=HSS.out _ _ _ _ _ _ _ _ HW2.1;clear hc;go_upto_region 7 with fail;rw[<-hW2];clear hW2;refine yAf 99 (λw':Ww=>xk w' R.w 0 (.slice (some ⟨R.bI,R.oI,none⟩) R.N R.cI)/\xk w' R.w 1 (xi R.cnt)/\xk w' rb (ro+i*5) c.j/\xk w' rb (ro+i*5+1) c.E/\xk w' rb (ro+i*5+2) c.C/\xk w' rb (ro+i*5+3) (xu c.ts)/\xk w' rb (ro+i*5+4) c.val/\xk w' R.w 1 (xi R.cnt)) (by kernel_rfl) ?_;refine ja 0 hS0 ?_;iterate 6 refine jb hS0 ?_
 refine qO 7 rfl λK hK=>?_;go_simp;refine HLk.mono ?_;rintro e w3 ⟨it,cs',rfl,H3⟩;have HW3:Hid (RwJ R out n g cp gc cpc cs' w3/\yA w3 R.w 115 4 wr (yBg noH).four):=by
  obtain⟨k1,k2,k3,k4,k5⟩:=H3.out;have ap:=HW2.1.apart;have hgi:¬wr.heap.size=gc:=qw HJ.ctr.lt
  have hgl:=HW2.1.ctr.lt.1;exact⟨⟨HW2.1.blk.i k5 ap.2.1,yAg HW2.1.Z k5 (λk q=>by simp[Value.ownBlock]at q;subst q;exact ap.1),HW2.1.n,k3,k2,k4,Chg.k HW2.1.k k5 HW2.1.k.size (λk q=>by omega)⟩,HW2.2.i k5 hgi⟩
 have hS3:=HSS.out _ _ _ _ _ _ _ _ HW3.1;clear H3 HW2 hS0 HLk;refine hK.out _ _ (.inr hS3) ?_;clear hK;refine jS ?_;iterate 3 refine jb hS3 ?_
 obtain⟨W4,hW4⟩:=qW (setCs w3 wr 0 it.four);have HW4:Hid (RwJ R out n g cp gc cpc cs' W4/\yA W4 R.w 115 4 wr it.four):=by obtain⟨q1,q2⟩:=yEx HW3.2 hW4;have h3:=HW3.1;have l1:=HJ.Z.lt;have l2:=HJ.ctr.lt;have l3:=HJ.k.size;have l4:=HJ.blk.lt;exact⟨⟨h3.blk.i q2 (by omega),yAg h3.Z q2 (λk q=>by simp[Value.ownBlock]at q;omega),h3.n,h3.ctr.i q2 (by omega),h3.X,h3.cb,Chg.k h3.k q2 h3.k.size (λk q=>by omega)⟩,q1⟩
 have hS4:=HSS.out _ _ _ _ _ _ _ _ HW4.1;obtain⟨v0,v1,v2,v3⟩:=HW3.2.c4;obtain⟨f0,f1,f2,f3⟩:=HW3.2.f4;simp only[setCs,Nat.zero_add,Nat.reduceAdd]at hW4;refine qO 11 rfl λK hK=>?_;go_simp;rw[<-hW4];refine hK.out _ _ (.inr hS4) ?_;clear hK hW4 hS3 v0 v1 v2 v3 f0 f1 f2 f3;refine jS ?_;refine kO 12 hS4 ?_;refine qD ?_;have p0:=HW4.2.z (j:=0) rfl;cases hal:it.H
 .rw[hal]at p0;refine zY ?_;exact⟨i+1,n,g,cp,gc,cpc,out,cs',by omega,by omega,rfl,rfl,by go_num,HW4.1⟩
 .rw[hal]at p0;obtain⟨c',hc'⟩:=qE (yBl it c);have HTd:Hid (∀X:Ww,(xf 59 #[.agg #[true,it.strip,xi it.G.rank,it.G.txt],.agg #[c.j,c.E,c.C,xu c.ts,c.val]] X (.agg #[c'.j,c'.E,c'.C,xu c'.ts,c'.val]):Prop)):=λX=>by have h9:=yN6 it c X;rw[hal,<-hc']at h9;exact h9
  have HST:Hid (∀(X:Ww)(out:List Ent)(n g cp:Nat),RwJ R out n g cp gc cpc cs' X->yA X R.w 115 4 wr it.four->(λw':Ww=>xk w' wr 0 true/\xk w' wr 1 it.strip/\xk w' wr 2 (xi it.G.rank)/\xk w' wr 3 it.G.txt/\xk w' rb (ro+i*5) c.j/\xk w' rb (ro+i*5+1) c.E/\xk w' rb (ro+i*5+2) c.C/\xk w' rb (ro+i*5+3) (xu c.ts)/\xk w' rb (ro+i*5+4) c.val/\xk w' wr 0 true) X):=λX out n g cp h k=>by obtain⟨_,_,e0,e1,e2,e3,e4,_⟩:=HSS.out X out n g cp gc cpc cs' h;have h0:=k.z (j:=0) rfl;rw[hal]at h0;exact⟨h0,k.z (j:=1) rfl,k.z (j:=2) rfl,k.z (j:=3) rfl,e0,e1,e2,e3,e4,h0⟩
  have HW5:Hid (RwJ R out n g cp gc cpc cs' W4.drew/\yA W4.drew R.w 115 4 wr it.four):=⟨HW4.1.on ((Below.refl _ _).drew),HW4.2.k ((Below.refl _ _).drew)⟩;have hS5:=HST.out _ _ _ _ _ HW5.1 HW5.2;clear hc' hS4;go_upto_region 9 with fail;refine yAf 99 (λw':Ww=>xk w' wr 0 true/\xk w' wr 1 it.strip/\xk w' wr 2 (xi it.G.rank)/\xk w' wr 3 it.G.txt/\xk w' rb (ro+i*5) c.j/\xk w' rb (ro+i*5+1) c.E/\xk w' rb (ro+i*5+2) c.C/\xk w' rb (ro+i*5+3) (xu c.ts)/\xk w' rb (ro+i*5+4) c.val/\xk w' wr 0 true) (by kernel_rfl) ?_;refine ja 0 hS5 ?_;iterate 5 refine jb hS5 ?_
  refine qO 6 rfl λK hK=>?_;go_simp;refine(HTd.out _).mono ?_;rintro e w6 ⟨rfl,hb6⟩;have HW6:Hid (RwJ R out n g cp gc cpc cs' w6/\yA w6 R.w 115 4 wr it.four):=⟨HW5.1.on hb6,HW5.2.k hb6⟩;have hS6:=HST.out _ _ _ _ _ HW6.1 HW6.2;clear hb6 hS5;refine hK.out _ _ (.inr hS6) ?_;clear hK;refine jS ?_;obtain⟨W7,hW7⟩:=qW (xw w6 #[c'.j,c'.E,c'.C,xu c'.ts,c'.val] 70);have HW7:Hid (RwJ R out n g cp gc cpc cs' W7/\yA W7 R.w 115 4 wr it.four/\yA6 W7 w6 0 [c']):=by
   have k7:=qN hW7
   refine⟨HW6.1.on k7,HW6.2.k k7,?_⟩;intro j e he;have b7:yA W7 w6 70 5 w6 c'.five:=by rw[hW7];exact yAa w6 _ qr rfl
   have hj:j=0:=by have:=qf he;simpa using this
   subst hj;simp at he;subst he;exact⟨b7.z (j:=0) rfl,b7.z (j:=1) rfl,b7.z (j:=2) rfl,b7.z (j:=3) rfl,b7.z (j:=4) rfl⟩
  have hS7:=HST.out _ _ _ _ _ HW7.1 HW7.2.1;refine qO 7 rfl λK hK=>?_;refine yGx w6 rfl _ rfl c' rfl ?_;rw[<-hW7];refine hK.out _ _ (.inr hS7) ?_;clear hK hW7 hS6;refine jS ?_;refine qO 8 rfl λK hK=>?_;refine yIr W7 rfl _ _ rfl R.w g cp n w6 0 1 1 out [c'] rfl rfl HW7.1.n rfl HW7.1.Z HW7.2.2 (by have:=HW7.1.n;simp;omega) HW7.1.k.size (λg' cp' w8 hO8 hg8 ha8=>?_);have HW8:Hid (RwJ R (out++ [c']) (n+1) g' cp' gc cpc cs' w8/\yA w8 R.w 115 4 wr it.four):=by have k8:Chg (λk=>k=g) W7 w8:=Chg.M hg8 (λk hk=>by cases hk;rfl);have h7:=HW7.1;have ap:=h7.apart;have l1:=HJ.Z.lt;exact⟨⟨h7.blk.i k8 ap.2.2,hO8,by rw[length_append,<-h7.n];rfl,h7.ctr.i k8 (λq=>ap.1 q.symm),h7.X,h7.cb,Chg.k h7.k k8 h7.k.size (λk q=>by omega)⟩,HW7.2.1.i k8 (by omega)⟩
  have hS8:=HST.out _ _ _ _ _ HW8.1 HW8.2;clear hO8 hg8 ha8 hS7;refine hK.out _ _ (.inr hS8) ?_;clear hK;refine jS ?_;refine kO 9 hS8 ?_;refine qD ?_;refine zY ?_;exact⟨i+1,n+1,g',cp',gc,cpc,out++ [c'],cs',by omega,by omega,rfl,rfl,by go_num,HW8.1⟩):p:=h
theorem yLp(R:RwG)(hR:RwO R)(rb ro rc cc:Nat)(es:List Ent)(M:Nat)(hM:M=es.length)(hE:CSl R.w rb ro rc es)(hes:es.length<=100000):
  Calls prog 118 #[.agg #[.slice (some ⟨R.bI,R.oI,none⟩) R.N R.cI,xi R.cnt],.slice (some ⟨rb,ro,none⟩) M rc,.slice R.ca R.nC cc] R.w λe w'=>∃g cp n,e=.returned (xg g n cp)/\Hid (∃o,n=o.length/\n<=M/\OwnC w' R.w g cp o/\Below R.w R.w w'):=by
 have HR:Hid (RwO R/\CSl R.w rb ro rc es/\M=es.length):=⟨hR,hE,hM⟩;have a3:(R.nk:Int)=R.cnt:=hR.nk;have a4:R.nk<=1000:=qw hR.good.2.2.2.1
 have a6:M<=100000:=by omega
 have hrb:=hE.lt;clear hR hE hM hes;obtain⟨W0,a0⟩:=qW (xw (R.w.alloc (AC #[.slice (some ⟨R.bI,R.oI,none⟩) R.N R.cI,xi R.cnt] 32)) #[] 70);have H0:Hid (yA W0 R.w 32 2 R.w [.slice (some ⟨R.bI,R.oI,none⟩) R.N R.cI,xi R.cnt]/\OwnC W0 R.w (R.w+1) 0 []/\Below R.w R.w W0):=by
  obtain⟨X,hX⟩:=qW (xw R.w #[.slice (some ⟨R.bI,R.oI,none⟩) R.N R.cI,xi R.cnt] 32);rw[<-hX]at a0;have zx:=qS hX
  have k1:=qN hX
  have k2:=qN a0
  have b1:yA X R.w 32 2 R.w [.slice (some ⟨R.bI,R.oI,none⟩) R.N R.cI,xi R.cnt]:=by rw[hX];exact yAa R.w _ qr rfl
  have o1:OwnC W0 X X 0 []:=by rw[a0];exact yTb X
  rw[zx]at o1;exact⟨b1.k k2,o1.mono (by omega),k1.trans (k2.mono (by omega))⟩
 have c1:=H0.1.z (j:=1) rfl;go_enter func118,ntmps118;go_upto_region 2 with fail;rw[<-a0];clear a0;go_wp2_with fail;rw[<-a3];refine(yLt R.nk W0 a4).mono ?_;rintro e w1 ⟨gc,cpc,rfl,a2,a1⟩
 have H1:Hid (RwJ R [] 0 (R.w+1) 0 gc cpc (AA R.nk newC) w1):=
  ⟨H0.1.k a1,H0.2.1.k a1 H0.2.1.lt.2,rfl,a2.mono H0.2.2.size,by simp,λk hk=>by rw[eq_of_mem_replicate hk];exact⟨Int.le_refl _,by decide⟩,H0.2.2.trans (a1.mono H0.2.2.size)⟩
 clear a2 a1 c1 H0;go_wp2;go_loopw[7,8,9] (λov cv iv wr=>∃(i n g cp gc cpc:Nat)(out:List Ent)(cs:List Ctr),i<=M/\n<=i/\ov=(xg g n cp)/\cv=(xg gc R.nk cpc)/\iv=(xi i)/\Hid (RwJ R out n g cp gc cpc cs wr)) (λ_ _ iv _=>M-(intOf iv).toNat);case atStart=>exact⟨0,0,_,0,gc,cpc,[],AA R.nk newC,AD _,AB _,rfl,rfl,rfl,H1.out⟩
 case round=>
  clear H1;obtain⟨i,n,g,cp,gc,cpc,out,cs,hi,a5,rfl,rfl,rfl,HJ⟩:=hrel;by_cases hlt:i<M
  .have z:(i:Int)<(M:Int):=by omega
   as_aux_lemma=>exact zRyR
  .have z:¬(i:Int)<(M:Int):=by omega
   have HE:Hid (∃o,n=o.length/\n<=M/\OwnC wr R.w g cp o/\Below R.w R.w wr):=⟨out,HJ.n,AF a5 hi,HJ.Z,HJ.k⟩;go_wp2;go_ret;exact⟨g,cp,n,rfl,HE⟩
section
theorem xH3(b:Bool):∀u∈blF b,u.oneCell'=true:=λu hu=>by simp at hu;subst hu;rfl
structure ByO(R:ByG):Prop where
 good:yHj R.bs R.m
 bks:ySj R.w R.ub R.uo R.bs
 ubl:R.ub<R.w.heap.size
 nb:R.nb=R.bs.length
 mv:R.m.v=.slice (some ⟨R.bI,R.oI,none⟩) R.N R.cI
 N:R.N=R.m.l.length
 ins:yBh R.w R.bI R.oI R.m.l
 bIl:R.bI<R.w.heap.size
 cI:R.N<=R.cI/\R.cI<=maxLen
 cel:CSl R.w R.b R.off R.cap R.es
 M:R.M=R.es.length
 Ml:R.M<=10000
 A:R.A=allC R.es 0
 Am:∀p∈R.A,p.1<=p.2/\p.2<=R.es.length
structure ByJ(R:ByG)(gr cr:Nat)(out:List Ent)(a:Option Addr)(n c:Nat)(wr:Ww):Prop where
 A:yA wr R.w 34 3 R.w [.slice (some ⟨R.ub,R.uo,none⟩) R.nb R.uc,.slice (some ⟨R.bI,R.oI,none⟩) R.N R.cI,xi R.m.cnt]
 res:yA wr R.w 39 3 (R.w+1) [false,xh,xi 0]
 obx:yA wr R.w 39 3 (R.w+1+1) [true,.slice a n c,xi R.M]
 j:RowC wr R.w (.slice a n c) out
 n:n=out.length
 rows:yEh wr R.w gr cr (R.A.map (segV R.b R.off R.cap))
 k:Below R.w R.w wr
section
variable {R:ByG} {gr cr:Nat} {c:Nat}
theorem ByJ.on(h:ByJ R gr cr out a n c wr)(hb:Below wr wr W):ByJ R gr cr out a n c W:=
 {h with A:=h.A.k hb,res:=h.res.k hb,obx:=h.obx.k hb,j:=h.j.k hb,rows:=h.rows.k hb,k:=h.k.trans (hb.mono h.k.size)}
theorem ByJ.bools(h:ByJ R gr cr out a n c wr){cs:List Bool}(hO:yF7 wr O gq cq cs)(hl:R.w.heap.size<=gq)(hc:Chg (λk=>k=gq) wr W):ByJ R gr cr out a n c W:=
 {h with
  A:=h.A.i hc (λq=>yAb h.A hO (by decide) _ rfl (by rw[q];rfl))
  res:=h.res.i hc (λq=>yAb h.res hO (by decide) _ rfl (by rw[q];rfl))
  obx:=h.obx.i hc (λq=>yAb h.obx hO (by decide) _ rfl (by rw[q];rfl))
  j:=h.j.i hc (λk hk q=>yAb h.j hO (by decide) _ hk (by rw[q];rfl))
  rows:=yAg h.rows hc (λk hk q=>yAb h.rows hO (by decide) _ hk (by rw[q];rfl))
  k:=Chg.k h.k hc h.k.size (λk q=>by omega)}
theorem ByJ.cond(h:ByJ R gr cr out a n c wr)(hR:ByO R){k:Nat}{x:Bk}(hx:R.bs[k]?=some x):xk wr R.ub (R.uo+k*2) x.v/\xk wr R.ub (R.uo+k*2+1) (xi x.cnt):=by obtain⟨h0,h1,_⟩:=hR.bks k x hx;exact⟨by rw[h.k.cell (p:=(xd R.ub _)) hR.ubl];exact h0,by rw[h.k.cell (p:=(xd R.ub _)) hR.ubl];exact h1⟩
end
theorem yW5{base':Nat}(h:yEh w O g cp us)(hb:base'<=O):yEh w base' g cp us:=by exact xBr
theorem xB9(hg:yB1 l cnt nc){bI oI cI:Nat}(hN:N=l.length)(hI:yBh w bI oI l)(hl:bI<w.heap.size)(hc:N<=cI/\cI<=maxLen)(hB:w.heap.size=B)(hb:Below B w W){cs:List Bool}(hO:yF7 W O gq cq cs)(hn:nc<=cs.length){k:Nat}(hk:k=cs.length):
  RwO ⟨W,l,N,bI,oI,cI,cnt,nc,cs,some ⟨gq,0,none⟩,k,cnt.toNat⟩:=by
 subst hB;exact {good:=hg,nc:=hn,nC:=hk,N:=hN,nk:=by show((cnt.toNat:Nat):Int)=cnt;have:=hg.2.2.1;omega,ins:=hI.i (S:=λ_=>False) (Chg.h hb) hl (λq=>q),bIl:=by have:=hb.size;show bI<W.heap.size;omega,cI:=hc,cnd:=λi b hi=>⟨gq,0,rfl,hO.get hi,hO.lt.2⟩}
structure CdJ(R:ByG)(gq cq k:Nat)(cs:List Bool)(wr:Ww):Prop where
 Z:yF7 wr R.w gq cq cs
 kl:k=cs.length
theorem zByC (h:p:=by
 obtain⟨x,hx⟩:∃x,R.bs[k]?=some x:=qg (qw HR.nb);have hgx:yB1 x.l x.cnt k:=HR.good.2.2 k x hx;obtain⟨xb,xo,xn,xc,hxv,hxn,hxi,hxl,hxc⟩:∃xb xo xn xc,x.v=.slice (some ⟨xb,xo,none⟩) xn xc/\xn=x.l.length/\yBh R.w xb xo x.l/\xb<R.w.heap.size/\xn<=xc/\xc<=maxLen:=by
  rcases(HR.bks k x hx).2.2 with⟨_,_,_,q⟩|⟨b,off,cap,q1,q2,q3,q4,q5⟩
  .have:=hgx.1;rw[q]at this;simp at this
  .exact⟨b,off,_,cap,q1,rfl,q2,q3,q4,q5⟩
 have HX:Hid (R.bs[k]?=some x/\yB1 x.l x.cnt k/\x.v=.slice (some ⟨xb,xo,none⟩) xn xc/\xn=x.l.length/\yBh R.w xb xo x.l/\xb<R.w.heap.size/\xn<=xc/\xc<=maxLen):=⟨hx,hgx,hxv,hxn,hxi,hxl,hxc⟩;have HSS:Hid (∀X:Ww,ByJ R gr cr out a n c X->(λw':Ww=>xk w' R.w 0 (.slice (some ⟨R.ub,R.uo,none⟩) R.nb R.uc)/\xk w' R.ub (R.uo+k*2) (.slice (some ⟨xb,xo,none⟩) xn xc)/\xk w' R.ub (R.uo+k*2+1) (xi x.cnt)/\xk w' gr r (.slice (some ⟨R.b,R.off+p1*5,none⟩) (p2-p1) (R.cap-p1))) X):=λX h=>by obtain⟨h0,h1⟩:=h.cond HR.out hx;rw[hxv]at h0;exact⟨h.A.z (j:=0) rfl,h0,h1,h.rows.z (by rw[getElem?_map,HP.1];rfl)⟩
 have HD:Hid (ByJ R gr cr out a n c wr.drew/\CdJ R gq cq k cs wr.drew):=⟨HQ.1.on ((Below.refl _ _).drew),⟨HQ.2.Z.k ((Below.refl _ _).drew),HQ.2.kl⟩⟩;have HRo:Hid (Calls prog 118 #[.agg #[.slice (some ⟨xb,xo,none⟩) xn xc,xi x.cnt],.slice (some ⟨R.b,R.off+p1*5,none⟩) (p2-p1) (R.cap-p1),xg gq k cq] wr.drew λe w'=>∃g cp n,e=.returned (xg g n cp)/\Hid (∃o,n=o.length/\n<=p2-p1/\OwnC w' wr.drew g cp o/\Below wr.drew wr.drew w')):=by have h9:=xB9 (W:=wr.drew) HX.2.1 HX.2.2.2.1 HX.2.2.2.2.1 HX.2.2.2.2.2.1 HX.2.2.2.2.2.2 rfl HD.1.k HD.2.Z (qw HD.2.kl) HD.2.kl;exact yLp _ h9 R.b (R.off+p1*5) (R.cap-p1) cq (segE R.es (p1,p2)) (p2-p1) (yEn HP.2.2).symm ((HR.cel.k HD.1.k).seg HP.2.1 HP.2.2) (by rw[yEn HP.2.2];have:=HR.M;have:=HR.Ml;have:=HP.2;omega)
 have hS0:=HSS.out _ HD.1;clear hx hgx hxv hxn hxi hxl hxc;go_upto_region 10 with fail;refine yAf 99 (λw':Ww=>xk w' R.w 0 (.slice (some ⟨R.ub,R.uo,none⟩) R.nb R.uc)/\xk w' R.ub (R.uo+k*2) (.slice (some ⟨xb,xo,none⟩) xn xc)/\xk w' R.ub (R.uo+k*2+1) (xi x.cnt)/\xk w' gr r (.slice (some ⟨R.b,R.off+p1*5,none⟩) (p2-p1) (R.cap-p1))) (by kernel_rfl) ?_;refine ja 0 hS0 ?_;iterate 10 refine jb hS0 ?_
 refine qO 11 rfl λK hK=>?_;go_simp;refine HRo.mono ?_;rintro e w3 ⟨g3,cp3,n3,rfl,H3⟩;obtain⟨o,ho⟩:=H3.out;have HW3:Hid (ByJ R gr cr out a n c w3/\CdJ R gq cq k cs w3):=⟨HD.1.on ho.2.2.2,⟨HD.2.Z.k ho.2.2.2,HD.2.kl⟩⟩;have hS3:=HSS.out _ HW3.1;clear ho H3 hS0 HD HRo;refine hK.out _ _ (.inr hS3) ?_;clear hK;refine jS ?_;obtain⟨bq,hbq⟩:=qE (decide (0<n3))
 obtain⟨W7,hW7⟩:=qW (xw w3 #[bq] 4);have HW7:Hid (ByJ R gr cr out a n c W7/\CdJ R gq cq k cs W7/\(∀j u,(blF bq)[j]?=some u->(xk W7 w3 j u:Prop))):=by
  have k7:=qN hW7
  exact⟨HW3.1.on k7,⟨HW3.2.Z.k k7,HW3.2.kl⟩,by rw[hW7];exact yBj w3 (blF bq) _⟩
 have hS7:=HSS.out _ HW7.1;rw[hbq]at hW7;iterate 2 refine jb hS3 ?_
 refine qO 14 rfl λK hK=>?_;go_simp;rw[<-hW7];refine hK.out _ _ (.inr hS7) ?_;clear hK hW7;refine jS ?_;refine qO 15 rfl λK hK=>?_;refine yGy yNv W7 rfl _ _ 118 rfl underlying118 Tryz.infoBl rfl (by decide) (by decide) xH3 R.w gq cq k w3 1 cs bq rfl rfl HW7.2.1.kl HW7.2.1.Z HW7.2.2 (qw HW7.2.1.kl) HW7.1.k.size ?_;intro gq' cq' w8 hO8 hg8 ha8;have HW8:Hid (ByJ R gr cr out a n c w8/\CdJ R gq' cq' (k+1) (cs++ [bq]) w8):=by have k8:Chg (λq=>q=gq) W7 w8:=Chg.M hg8 (λq hk=>by cases hk;rfl);refine⟨HW7.1.bools HW7.2.1.Z HW7.2.1.Z.lt.1 k8,⟨hO8,by rw[length_append,<-HW7.2.1.kl];rfl⟩⟩
 have hS8:=HSS.out _ HW8.1;clear hO8 hg8 ha8;refine hK.out _ _ (.inr hS8) ?_;clear hK;refine jS ?_;refine qO 16 rfl λK hK=>?_;go_simp;refine hK.out _ _ (.inr hS8) ?_;clear hK hS7 hS8 hS3;refine jS ?_;refine qD ?_;refine zY ?_;exact⟨k+1,gq',cq',cs++ [bq],by omega,rfl,by go_num,HW8.out⟩):p:=h
theorem zByE (h:p:=by
 have HSS:Hid (∀X:Ww,ByJ R gr cr out a n c X->(λw':Ww=>xk w' (R.w+1+1) 1 (.slice a n c)/\xk w' R.w 1 (.slice (some ⟨R.bI,R.oI,none⟩) R.N R.cI)/\xk w' R.w 2 (xi R.m.cnt)/\xk w' gr r (.slice (some ⟨R.b,R.off+p1*5,none⟩) (p2-p1) (R.cap-p1))/\xk w' gr r (.slice (some ⟨R.b,R.off+p1*5,none⟩) (p2-p1) (R.cap-p1))/\xk w' gr r (.slice (some ⟨R.b,R.off+p1*5,none⟩) (p2-p1) (R.cap-p1))/\xk w' gr r (.slice (some ⟨R.b,R.off+p1*5,none⟩) (p2-p1) (R.cap-p1))/\xk w' gr r (.slice (some ⟨R.b,R.off+p1*5,none⟩) (p2-p1) (R.cap-p1))) X):=λX h=>by have h9:=h.rows.z (j:=r) (by rw[getElem?_map,HP.1];rfl);exact⟨h.obx.z (j:=1) rfl,h.A.z (j:=1) rfl,h.A.z (j:=2) rfl,h9,h9,h9,h9,h9⟩
 have HD:Hid (ByJ R gr cr out a n c wr.drew/\CdJ R gq cq k cs wr.drew):=⟨HQ.1.on ((Below.refl _ _).drew),⟨HQ.2.Z.k ((Below.refl _ _).drew),HQ.2.kl⟩⟩;have HRo:Hid (Calls prog 118 #[.agg #[.slice (some ⟨R.bI,R.oI,none⟩) R.N R.cI,xi R.m.cnt],.slice (some ⟨R.b,R.off+p1*5,none⟩) (p2-p1) (R.cap-p1),xg gq k cq] wr.drew λe w'=>∃g cp n,e=.returned (xg g n cp)/\Hid (∃o,n=o.length/\n<=p2-p1/\OwnC w' wr.drew g cp o/\Below wr.drew wr.drew w')):=by have h9:=xB9 (W:=wr.drew) HR.good.2.1 HR.N HR.ins HR.bIl HR.cI rfl HD.1.k HD.2.Z (qv HD.2.kl HR.nb) HD.2.kl;exact yLp _ h9 R.b (R.off+p1*5) (R.cap-p1) cq (segE R.es (p1,p2)) (p2-p1) (yEn HP.2.2).symm ((HR.cel.k HD.1.k).seg HP.2.1 HP.2.2) (by rw[yEn HP.2.2];have:=HR.M;have:=HR.Ml;have:=HP.2;omega)
 have hS0:=HSS.out _ HD.1;go_upto_region 11 with fail;refine yCp [12] (λw':Ww=>xk w' (R.w+1+1) 1 (.slice a n c)/\xk w' R.w 1 (.slice (some ⟨R.bI,R.oI,none⟩) R.N R.cI)/\xk w' R.w 2 (xi R.m.cnt)/\xk w' gr r (.slice (some ⟨R.b,R.off+p1*5,none⟩) (p2-p1) (R.cap-p1))/\xk w' gr r (.slice (some ⟨R.b,R.off+p1*5,none⟩) (p2-p1) (R.cap-p1))/\xk w' gr r (.slice (some ⟨R.b,R.off+p1*5,none⟩) (p2-p1) (R.cap-p1))/\xk w' gr r (.slice (some ⟨R.b,R.off+p1*5,none⟩) (p2-p1) (R.cap-p1))/\xk w' gr r (.slice (some ⟨R.b,R.off+p1*5,none⟩) (p2-p1) (R.cap-p1))) (by kernel_rfl) ?_;refine txa 0 hS0 ?_;iterate 8 refine txb hS0 ?_
 refine yA1 (i:=9) (by kernel_rfl) rfl (λK hK=>?_);go_simp;refine HRo.mono ?_;rintro e w3 ⟨g3,cp3,n3,rfl,H3⟩;obtain⟨o,ho⟩:=H3.out;have HO:Hid (n3=o.length/\yA6 w3 g3 0 o):=⟨ho.1,ho.2.2.1.at⟩;have HW3:Hid (ByJ R gr cr out a n c w3):=HD.1.on ho.2.2.2;have hol:n3<=p2-p1:=ho.2.1
 have hS3:=HSS.out _ HW3.out;clear ho H3 hS0 HD HRo;refine hK.out _ _ (.inr hS3) ?_;clear hK;refine jS ?_;refine yA1 (i:=10) (by kernel_rfl) rfl (λK hK=>?_);refine yD4 w3 rfl _ _ rfl R.w a n c g3 0 n3 cp3 out o rfl rfl HW3.n HO.1 HW3.j HO.2 (by have:=HO.1;have:=HW3.n;have:=HP.2;have:=HR.M;have:=HR.Ml;omega) HW3.k.size (λa' c' w4 hR4 hg4 ha4=>?_);have hc4:Chg (λq=>(Value.slice a n c).ownBlock=some q) w3 w4:=Chg.M hg4 (λq hq=>hq);have H4:Hid (yA w4 R.w 39 3 (R.w+1+1) [true,.slice a n c,xi R.M]/\RowC w4 R.w (.slice a' (n+n3) c') (out++o)/\∀X:Ww,Chg (λq=>q=R.w.heap.size+1+1) w4 X->yA X R.w 39 3 (R.w+1+1) [true,.slice a' (n+n3) c',xi R.M]->ByJ R gr cr (out++o) a' (n+n3) c' X):=by have h3:=HW3.out;have ho4:=h3.obx.i hc4 (λq=>yAb h3.j h3.obx (by decide) _ q rfl);refine⟨ho4,hR4,λX hX hB=>?_⟩;have hbx:=(h3.A.i hc4 (λq=>yAb h3.j h3.A (by decide) _ q rfl)).i hX (by omega);have hrs:=(h3.res.i hc4 (λq=>yAb h3.j h3.res (by decide) _ q rfl)).i hX (by omega);have hrw4:yEh w4 R.w gr cr (R.A.map (segV R.b R.off R.cap)):=yAg h3.rows hc4 (λq hq z=>yAb h3.j h3.rows qj _ z hq);have hrw:=yAg hrw4 hX (λq hq z=>yAb hrw4 ho4 (by decide) _ hq (by rw[z];rfl));refine⟨hbx,hrs,hB,hR4.i hX (λq hq z=>yAb hR4 ho4 (by decide) _ hq (by rw[z];rfl)),by rw[length_append,<-h3.n,<-HO.1],hrw,?_⟩;have hb4:Below R.w R.w w4:=Chg.k h3.k hc4 h3.k.size (λq z=>(h3.j.blk z).1);exact Chg.k hb4 hX hb4.size (λq z=>by omega)
 have hS4:(λw':Ww=>xk w' (R.w+1+1) 1 (.slice a n c)/\xk w' R.w 1 (.slice (some ⟨R.bI,R.oI,none⟩) R.N R.cI)/\xk w' R.w 2 (xi R.m.cnt)/\xk w' gr r (.slice (some ⟨R.b,R.off+p1*5,none⟩) (p2-p1) (R.cap-p1))/\xk w' gr r (.slice (some ⟨R.b,R.off+p1*5,none⟩) (p2-p1) (R.cap-p1))/\xk w' gr r (.slice (some ⟨R.b,R.off+p1*5,none⟩) (p2-p1) (R.cap-p1))/\xk w' gr r (.slice (some ⟨R.b,R.off+p1*5,none⟩) (p2-p1) (R.cap-p1))/\xk w' gr r (.slice (some ⟨R.b,R.off+p1*5,none⟩) (p2-p1) (R.cap-p1))) w4:=by have h3:=HW3.out;have hbx:=h3.A.i hc4 (λq=>yAb h3.j h3.A (by decide) _ q rfl);have hrw:yEh w4 R.w gr cr (R.A.map (segV R.b R.off R.cap)):=yAg h3.rows hc4 (λq hq z=>yAb h3.j h3.rows qj _ z hq);have h9:=hrw.z (j:=r) (by rw[getElem?_map,HP.1];rfl);exact⟨H4.1.z (j:=1) rfl,hbx.z (j:=1) rfl,hbx.z (j:=2) rfl,h9,h9,h9,h9,h9⟩
 clear hR4 hg4 ha4 hc4;refine hK.out _ _ (.inr hS4) ?_;clear hK;refine jS ?_;refine txb hS4 ?_;have v1:=H4.1.z (j:=1) rfl;have f1:=H4.1.frozen 1;obtain⟨W5,hW5⟩:=qW (xt w4 (R.w+1+1) 1 (.slice a' (n+n3) c'));have H5:Hid (ByJ R gr cr (out++o) a' (n+n3) c' W5):=H4.2.2 W5 (by rw[hW5];exact Chg.D _ _ _ _ rfl) (by rw[hW5];exact H4.1.set 1 _);refine yA1 (i:=12) (by kernel_rfl) rfl (λK hK=>?_);go_simp;rw[<-hW5];refine hK.out _ _ (.inl (by decide)) ?_;clear hK hW5 hS4 hS3;refine jS ?_;refine yEe (by kernel_rfl) ?_;refine zY ?_;exact⟨r+1,out++o,a',n+n3,c',by omega,by go_num,by have:=HO.1;have:=HP.2;have:=HR.M;have:=HR.Ml;omega,H5.out⟩):p:=h
theorem zByZ (h:p:=by
 obtain⟨t0,t1,t2⟩:=HJ.obx.c3;obtain⟨v0,v1,v2⟩:=HJ.res.c3;obtain⟨f0,f1,f2⟩:=HJ.res.f3;obtain⟨W9,hW9⟩:=qE (setCs wr (R.w+1) 0 [true,.slice a n c,xi R.M]:Ww);have b9:yA W9 R.w 39 3 (R.w+1) [true,.slice a n c,xi R.M]:=by rw[hW9];exact HJ.res.setCs _
 have c9:Chg (λq=>q=R.w.heap.size+1) wr W9:=by rw[hW9];exact yAo (S:=λq=>q=R.w.heap.size+1) _ rfl _ _ _
 have HE:Hid (Below R.w R.w W9):=Chg.k HJ.k c9 HJ.k.size (λq z=>qo)
 obtain⟨q0,q1,q2⟩:=b9.c3;simp only[setCs,Nat.zero_add,Nat.reduceAdd]at hW9;clear b9 c9;go_wp2;rw[<-hW9];exact bodyPost_ret (v:=.agg #[true,.slice a n c,xi R.M]) (by simp[results,results56,go_sem,q0,q1,q2]) rfl ⟨⟨a,n,c,rfl⟩,HE⟩):p:=h
theorem yNc(R:ByG)(hR:ByO R):
  Calls prog 56 #[.agg #[.slice (some ⟨R.ub,R.uo,none⟩) R.nb R.uc,.slice (some ⟨R.bI,R.oI,none⟩) R.N R.cI,xi R.m.cnt],.slice (some ⟨R.b,R.off,none⟩) R.M R.cap] R.w λe w'=>∃a n c,e=.returned (.agg #[true,.slice a n c,xi R.M])/\Hid (Below R.w R.w w'):=by
 have HR:Hid (ByO R):=hR;have a9:R.nb<=200:=by rw[hR.nb];exact hR.good.1
 have a7:R.A.length<=10000:=by rw[hR.A];exact AF (yPr R.es _ 0) (qv hR.M hR.Ml)
 obtain⟨W0,a0⟩:=qW (xw ((R.w.alloc (AC #[.slice (some ⟨R.ub,R.uo,none⟩) R.nb R.uc,.slice (some ⟨R.bI,R.oI,none⟩) R.N R.cI,xi R.m.cnt] 34)).alloc (AC #[false,xh,xi 0] 39)) #[true,xh,xi R.M] 39);have H0:Hid (yA W0 R.w 34 3 R.w [.slice (some ⟨R.ub,R.uo,none⟩) R.nb R.uc,.slice (some ⟨R.bI,R.oI,none⟩) R.N R.cI,xi R.m.cnt]/\yA W0 R.w 39 3 (R.w+1) [false,xh,xi 0]/\yA W0 R.w 39 3 (R.w+1+1) [true,xh,xi R.M]/\Below R.w R.w W0):=by
  obtain⟨X,hX⟩:=qW (xw R.w #[.slice (some ⟨R.ub,R.uo,none⟩) R.nb R.uc,.slice (some ⟨R.bI,R.oI,none⟩) R.N R.cI,xi R.m.cnt] 34);rw[<-hX]at a0;obtain⟨Y,hY⟩:=qW (xw X #[.bool false,.slice none 0 0,.int .i64 0] 39);rw[<-hY]at a0;have zx:X.heap.size=R.w.heap.size+1:=by rw[hX];simp
  have zy:Y.heap.size=R.w.heap.size+1+1:=by rw[hY];simp;omega
  have k1:Below R.w R.w X:=by rw[hX];exact qB
  have k2:Below X X Y:=by rw[hY];exact qB
  have k3:Below Y Y W0:=by rw[a0];exact qB
  have b1:yA X R.w.heap.size 34 3 R.w.heap.size [.slice (some ⟨R.ub,R.uo,none⟩) R.nb R.uc,.slice (some ⟨R.bI,R.oI,none⟩) R.N R.cI,.int .i64 R.m.cnt]:=by rw[hX];exact yAa R.w _ (AB _) rfl
  have b2:yA Y R.w.heap.size 39 3 (R.w.heap.size+1) [.bool false,.slice none 0 0,.int .i64 0]:=by rw[hY,<-zx];exact yAa X _ (by omega) rfl
  have b3:yA W0 R.w.heap.size 39 3 (R.w.heap.size+1+1) [.bool true,.slice none 0 0,.int .i64 (R.M:Int)]:=by rw[a0,<-zy];exact yAa Y _ (by omega) rfl
  exact⟨(b1.k k2).k k3,b2.k k3,b3,(k1.trans (k2.mono (by omega))).trans (k3.mono (by omega))⟩
 have a4:Hid (Calls prog 107 #[.slice (some ⟨R.b,R.off,none⟩) R.M R.cap] W0 λe w'=>∃g cp,e=.returned (.slice (some ⟨g,0,none⟩) R.A.length cp)/\yEh w' W0.heap.size g cp (R.A.map (segV R.b R.off R.cap))/\Below W0.heap.size W0 w'):=by rw[hR.A,hR.M];exact yRh (hR.cel.k H0.2.2.2) (qv hR.M hR.Ml)
 obtain⟨nA,a3⟩:=qE R.A.length;have HnA:Hid (nA=R.A.length):=a3;rw[<-a3]at a4 a7;clear hR a3;go_enter func56,ntmps56;go_upto_region 2 with fail;rw[<-a0];clear a0;go_wp2_with fail;refine a4.mono ?_;rintro e w1 ⟨gr,cr,rfl,a5,a1⟩;have H1:Hid (ByJ R gr cr [] none 0 0 w1):=by obtain⟨h1,h2,h3,h4⟩:=H0.out;refine⟨h1.k a1,h2.k a1,h3.k a1,yS0 _ _,rfl,?_,h4.trans (a1.mono h4.size)⟩;exact yW5 a5 h4.size
 clear a5 a1 a4 H0;go_wp2;go_loopw[7] (λrv wr=>∃(r:Nat)(out:List Ent)(a:Option Addr)(n c:Nat),r<=nA/\rv=.int .i64 (r:Int)/\n<=10000*r/\Hid (ByJ R gr cr out a n c wr)) (λrv _=>nA-(intOf rv).toNat);case atStart=>exact⟨0,[],none,0,0,AD _,rfl,AD _,H1.out⟩
 case round=>
  clear H1;obtain⟨r,out,a,n,c,hr,rfl,a8,HJ⟩:=hrel;by_cases hlt:r<nA
  .have zr:(r:Int)<(nA:Int):=by omega
   obtain⟨⟨p1,p2⟩,hp⟩:∃p,R.A[r]?=some p:=⟨_,getElem?_eq_getElem (qw HnA.out)⟩;have HP:Hid (R.A[r]?=some (p1,p2)/\p1<=p2/\p2<=R.es.length):=⟨hp,HR.Am _ (mem_of_getElem? hp)⟩;clear hp;obtain⟨wo,a6⟩:=qW wr;subst a6;obtain⟨W2,a2⟩:=qW (wo.alloc (AC #[] 4));have H2:Hid (ByJ R gr cr out a n c W2/\CdJ R wo.heap.size 0 0 [] W2):=by
    have k2:Below wo wo W2:=by rw[a2];exact qB
    exact⟨HJ.on k2,⟨by rw[a2];exact yTa wo HJ.k.size,rfl⟩⟩
   go_upto_region 7 with fail;rw[<-a2];clear a2;go_wp2;go_loopw[8,9] (λcv kv wr=>∃(k gq cq:Nat)(cs:List Bool),k<=R.nb/\cv=.slice (some ⟨gq,0,none⟩) k cq/\kv=.int .i64 (k:Int)/\Hid (ByJ R gr cr out a n c wr/\CdJ R gq cq k cs wr)) (λ_ kv _=>R.nb-(intOf kv).toNat);case atStart=>exact⟨0,_,0,[],AD _,rfl,rfl,H2.out⟩
   case round=>
    clear H2;obtain⟨k,gq,cq,cs,hk,rfl,rfl,HQ⟩:=hrel;have y0:=HQ.1.A.z (j:=0) rfl;by_cases hkl:k<R.nb
    .have zk:(k:Int)<(R.nb:Int):=by omega
     as_aux_lemma=>exact zByC
    .have zk:¬(k:Int)<(R.nb:Int):=by omega
     as_aux_lemma=>exact zByE
  .have zr:¬(r:Int)<(nA:Int):=by omega
   as_aux_lemma=>exact zByZ
end
section
theorem RunM.one{m:Bk}(h:RunM bs m es hints n)(k:RunM bs m es hints n'):n=n':=by
 rcases h with⟨a1,rfl⟩|⟨a1,a2⟩
 .rcases k with⟨_,rfl⟩|⟨b1,_⟩
  .rfl
  .exact absurd b1 a1
 .rcases k with⟨b1,_⟩|⟨_,b2⟩
  .exact absurd a1 b1
  .exact a2.one b2
structure RnJ(w:Ww)(u mv:Vv)(cnt:Int)(ob nk:Nat)(out:List Ent)(a:Option Addr)(n c ops:Nat)(gk cpk:Nat)(cs:List Ctr)(wr:Ww):Prop where
 A:yA wr w 34 3 w [u,mv,xi cnt]
 res:yA wr w 39 3 (w+1) [false,xh,xi 0]
 obx:yA wr w 39 3 ob [true,.slice a n c,xi ops]
 j:RowC wr w (.slice a n c) out
 nl:n=out.length
 ctr:yF6 wr w gk cpk cs
 X:cs.length=nk
 cb:∀k∈cs,0<=k.count/\k.count<=1000
 ne:w.heap.size+1<ob
 k:Below w w wr
section
variable {u mv:Vv} {ob nk:Nat} {c ops gk cpk:Nat}
theorem RnJ.on(h:RnJ w u mv cnt ob nk out a n c ops gk cpk cs wr)(hb:Below wr wr W):RnJ w u mv cnt ob nk out a n c ops gk cpk cs W:=
 {h with A:=h.A.k hb,res:=h.res.k hb,obx:=h.obx.k hb,j:=h.j.k hb,ctr:=h.ctr.k hb,k:=h.k.trans (hb.mono h.k.size)}
theorem RnJ.ctrs(h:RnJ w u mv cnt ob nk out a n c ops gk cpk cs wr)(hO:yF6 W w gk cpk cs')(hl:cs'.length=nk)(hcb:∀k∈cs',0<=k.count/\k.count<=1000)(hc:Chg (λk=>k=gk) wr W):RnJ w u mv cnt ob nk out a n c ops gk cpk cs' W:=
 {h with
  A:=h.A.i hc (λq=>yAb h.A h.ctr (by decide) _ rfl (by rw[q];rfl))
  res:=h.res.i hc (λq=>yAb h.res h.ctr (by decide) _ rfl (by rw[q];rfl))
  obx:=h.obx.i hc (λq=>yAb h.obx h.ctr (by decide) _ rfl (by rw[q];rfl))
  j:=h.j.i hc (λk hk q=>yAb h.j h.ctr (by decide) _ hk (by rw[q];rfl))
  ctr:=hO
  X:=hl
  cb:=hcb
  k:=Chg.k h.k hc h.k.size (λk q=>qw h.ctr.lt)}
theorem RnJ.side(h:RnJ w u mv cnt ob nk out a n c ops gk cpk cs wr)(hB:w.heap.size+1<B/\¬B=ob/\¬B=gk/\¬(Value.slice a n c).ownBlock=some B)(hc:Chg (λk=>k=B) wr W):RnJ w u mv cnt ob nk out a n c ops gk cpk cs W:=
 {h with
  A:=h.A.i hc (by omega)
  res:=h.res.i hc (by omega)
  obx:=h.obx.i hc (λq=>hB.2.1 q.symm)
  j:=h.j.i hc (λk hk q=>hB.2.2.2 (by rw[<-q];exact hk))
  ctr:=h.ctr.i hc (λq=>hB.2.2.1 q.symm)
  k:=Chg.k h.k hc h.k.size (λk q=>by omega)}
theorem RnJ.put{ops':Nat}(h:RnJ w u mv cnt ob nk out a n c ops gk cpk cs wr)(hc1:Chg (λk=>(Value.slice a n c).ownBlock=some k) wr W1)(hr:RowC W1 w (.slice a' n' c') out')(hn:n'=out'.length)(hc:Chg (λk=>k=ob) W1 W)(hb:yA W w 39 3 ob [true,.slice a' n' c',xi ops']):RnJ w u mv cnt ob nk out' a' n' c' ops' gk cpk cs W:=by
 have o1:=h.obx.i hc1 (λq=>yAb h.j h.obx (by decide) _ q rfl);have a0:=h.ne;have k1:yF6 W1 w gk cpk cs:=yAg h.ctr hc1 (λq hq z=>yAb h.j h.ctr qj _ z hq);have b1:Below w w W1:=Chg.k h.k hc1 h.k.size (λq z=>(h.j.blk z).1)
 exact {h with
  A:=(h.A.i hc1 (λq=>yAb h.j h.A (by decide) _ q rfl)).i hc (by omega)
  res:=(h.res.i hc1 (λq=>yAb h.j h.res (by decide) _ q rfl)).i hc (by omega)
  obx:=hb
  j:=hr.i hc (λq hq z=>yAb hr o1 (by decide) _ hq (by rw[z];rfl))
  nl:=hn
  ctr:=yAg k1 hc (λq hq z=>yAb k1 o1 (by decide) _ hq (by rw[z];rfl))
  k:=Chg.k b1 hc b1.size (λq z=>by omega)}
end
theorem zSpN (h:p:=by
 have t2:=HX.obx.z (j:=2) rfl;have f2:=HX.obx.frozen 2;obtain⟨W9,hW9⟩:=qE (xt wx ob 2 (xi (ops+1:Nat)):Ww);have H9:Hid (RnJ w (.slice ua ul uc) (.slice (some ⟨bI,oI,none⟩) N cI) m.cnt ob nk ox ax nx cx (ops+1) gk cpk cs' W9):=by refine HX.put (W1:=wx) (Chg.refl _ _) HX.j HX.nl (by rw[hW9];exact Chg.D _ _ _ _ rfl) ?_;rw[hW9];exact HX.obx.set 2 _
 have zo:IntKind.i64.wrap ((ops:Int)+1)=(ops:Int)+1:=by rw[IntKind.wrap_i64];omega
 simp only[Int.natCast_add,Int.cast_ofNat_Int]at hW9;go_wp2_with fail;rw[<-hW9];go_roundw;case rel=>exact⟨jx,ops+1,gk,cpk,ox,ax,nx,cx,cs',by omega,by omega,hnb,rfl,rfl,H9.out,HN.out⟩
 case measure=>simp[intOf];omega):p:=h
theorem zSpA (h:p:=by
 have HST:Hid (∀X:Ww,RnJ w (.slice ua ul uc) (.slice (some ⟨bI,oI,none⟩) N cI) m.cnt ob nk out a n c ops gk cpk cs' X->yA X w 115 4 wo it.four->(λw':Ww=>xk w' ob 1 (.slice a n c)/\xk w' wo 0 true/\xk w' wo 1 it.strip/\xk w' wo 2 (xi it.G.rank)/\xk w' wo 3 it.G.txt/\xk w' gc (i*5) x.j/\xk w' gc (i*5+1) x.E/\xk w' gc (i*5+2) x.C/\xk w' gc (i*5+3) (xu x.ts)/\xk w' gc (i*5+4) x.val) X):=λX h k=>by obtain⟨_,_,e0,e1,e2,e3,e4,_⟩:=HSS.out X _ _ _ _ _ _ h;have h0:=k.z (j:=0) rfl;rw[hal]at h0;exact⟨h.obx.z (j:=1) rfl,h0,k.z (j:=1) rfl,k.z (j:=2) rfl,k.z (j:=3) rfl,e0,e1,e2,e3,e4⟩
 obtain⟨x',hx'⟩:=qE (yBl it x);have HTd:Hid (∀X:Ww,(xf 59 #[.agg #[true,it.strip,xi it.G.rank,it.G.txt],.agg #[x.j,x.E,x.C,xu x.ts,x.val]] X x'.c:Prop)):=λX=>by have h9:=yN6 it x X;rw[hal,<-hx']at h9;exact h9
 simp only[hal,if_true,Bool.true_eq_false,false_and,if_false]at HN;have HW5:Hid (RnJ w (.slice ua ul uc) (.slice (some ⟨bI,oI,none⟩) N cI) m.cnt ob nk out a n c ops gk cpk cs' W4.drew/\yA W4.drew w 115 4 wo it.four):=⟨HW4.1.on ((Below.refl _ _).drew),HW4.2.k ((Below.refl _ _).drew)⟩;have hS5:=HST.out _ HW5.1 HW5.2;clear hx';go_upto_region 13 with fail;refine yCp [11] (λw':Ww=>xk w' ob 1 (.slice a n c)/\xk w' wo 0 true/\xk w' wo 1 it.strip/\xk w' wo 2 (xi it.G.rank)/\xk w' wo 3 it.G.txt/\xk w' gc (i*5) x.j/\xk w' gc (i*5+1) x.E/\xk w' gc (i*5+2) x.C/\xk w' gc (i*5+3) (xu x.ts)/\xk w' gc (i*5+4) x.val) (by kernel_rfl) ?_;refine txa 0 hS5 ?_;iterate 6 refine txb hS5 ?_
 refine yA1 (i:=7) (by kernel_rfl) rfl (λK hK=>?_);go_simp;refine(HTd.out _).mono ?_;rintro e w6 ⟨rfl,hb6⟩;have HW6:Hid (RnJ w (.slice ua ul uc) (.slice (some ⟨bI,oI,none⟩) N cI) m.cnt ob nk out a n c ops gk cpk cs' w6/\yA w6 w 115 4 wo it.four):=⟨HW5.1.on hb6,HW5.2.k hb6⟩;have hS6:=HST.out _ HW6.1 HW6.2;clear hb6 hS5;refine hK.out _ _ (.inr hS6) ?_;clear hK;refine jS ?_;obtain⟨W7,hW7⟩:=qE (xw w6 #[x'.j,x'.E,x'.C,xu x'.ts,x'.val] 70:Ww);have HW7:Hid (RnJ w (.slice ua ul uc) (.slice (some ⟨bI,oI,none⟩) N cI) m.cnt ob nk out a n c ops gk cpk cs' W7/\yA W7 w 115 4 wo it.four/\yA6 W7 w6 0 [x']):=by
  have k7:=qN hW7
  refine⟨HW6.1.on k7,HW6.2.k k7,?_⟩;intro j e he;have b7:yA W7 w6 70 5 w6 x'.five:=by rw[hW7];exact yAa w6 _ qr rfl
  have hj:j=0:=by have:=qf he;simpa using this
  subst hj;simp at he;subst he;exact⟨b7.z (j:=0) rfl,b7.z (j:=1) rfl,b7.z (j:=2) rfl,b7.z (j:=3) rfl,b7.z (j:=4) rfl⟩
 have hS7:=HST.out _ HW7.1 HW7.2.1;refine yA1 (i:=8) (by kernel_rfl) rfl (λK hK=>?_);refine yGx w6 rfl _ rfl x' rfl ?_;rw[<-hW7];refine hK.out _ _ (.inr hS7) ?_;clear hK hW7 hS6;refine jS ?_;refine yA1 (i:=9) (by kernel_rfl) rfl (λK hK=>?_);refine yD4 W7 rfl _ _ rfl w a n c w6 0 1 1 out [x'] rfl rfl HW7.1.nl rfl HW7.1.j HW7.2.2 (by have:=HW7.1.nl;simp;omega) HW7.1.k.size (λax cx w8 hR8 hg8 ha8=>?_);have hc8:Chg (λq=>(Value.slice a n c).ownBlock=some q) W7 w8:=Chg.M hg8 (λq hq=>hq);have hib:¬(Value.slice a n c).ownBlock=some wo.heap.size:=λq=>yAb HW7.1.j HW7.2.1 (by decide) _ q rfl;have H8:Hid (yA w8 w 39 3 ob [true,.slice a n c,xi ops]/\RowC w8 w (.slice ax (n+1) cx) (out++ [x'])/\Chg (λq=>(Value.slice a n c).ownBlock=some q) W7 w8):=⟨HW7.1.obx.i hc8 (λq=>yAb HW7.1.j HW7.1.obx qj _ q rfl),hR8,hc8⟩;have hS8:(λw':Ww=>xk w' ob 1 (.slice a n c)/\xk w' wo 0 true/\xk w' wo 1 it.strip/\xk w' wo 2 (xi it.G.rank)/\xk w' wo 3 it.G.txt/\xk w' gc (i*5) x.j/\xk w' gc (i*5+1) x.E/\xk w' gc (i*5+2) x.C/\xk w' gc (i*5+3) (xu x.ts)/\xk w' gc (i*5+4) x.val) w8:=by
  obtain⟨d0,d1,d2,d3,d4,e0,e1,e2,e3,e4⟩:=hS7;have hi:=HW7.2.1.i hc8 hib;have h0:=hi.z (j:=0) rfl;rw[hal]at h0;have hgn:¬(Value.slice a n c).ownBlock=some gc:=λq=>qw ((HW7.1.j.blk q).1)
  have hgl7:gc<W7.heap.size:=qw HW7.1.k.size
  exact⟨H8.1.z (j:=1) rfl,h0,hi.z (j:=1) rfl,hi.z (j:=2) rfl,hi.z (j:=3) rfl,by rw[hc8.z (p:=(xd gc _)) hgl7 hgn];exact e0,by rw[hc8.z (p:=(xd gc _)) hgl7 hgn];exact e1,by rw[hc8.z (p:=(xd gc _)) hgl7 hgn];exact e2,by rw[hc8.z (p:=(xd gc _)) hgl7 hgn];exact e3,by rw[hc8.z (p:=(xd gc _)) hgl7 hgn];exact e4⟩
 clear hR8 hg8 ha8 hc8 hib hS7;refine hK.out _ _ (.inr hS8) ?_;clear hK;refine jS ?_;refine txb hS8 ?_;have v1:=H8.1.z (j:=1) rfl;have f1:=H8.1.frozen 1;obtain⟨wx,hwx⟩:=qW (xt w8 ob 1 (.slice ax (n+1) cx));have HX:Hid (RnJ w (.slice ua ul uc) (.slice (some ⟨bI,oI,none⟩) N cI) m.cnt ob nk (out++ [x']) ax (n+1) cx ops gk cpk cs' wx):=by refine HW7.1.put (W1:=w8) H8.2.2 H8.2.1 (by rw[length_append,<-HW7.1.nl];rfl) (by rw[hwx];exact Chg.D _ _ _ _ rfl) ?_;rw[hwx];exact H8.1.set 1 _
 refine yA1 (i:=11) (by kernel_rfl) rfl (λK hK=>?_);go_simp;rw[<-hwx];refine hK.out _ _ (.inl (by decide)) ?_;clear hK hwx hS8 v1 f1;refine jS ?_;refine yEe (by kernel_rfl) ?_;obtain⟨ox,hox⟩:=qE (out++ [x']);obtain⟨nx,hnx⟩:=qE (n+1);obtain⟨jx,hjx⟩:=qE (i+1);have hji:i<jx:=by omega
 have hjM:jx<=M:=by omega
 rw[<-hox,<-hnx]at HX;rw[<-hjx]at HN;have zj:(jx:Int)=(i:Int)+1:=by omega
 have hnb:nx<=ops+1:=by omega
 clear hox hnx;rw[<-zj];exact zSpN):p:=h
theorem zSpD (h:p:=by
 simp only[hal,Bool.false_eq_true,and_false,if_false]at HN;obtain⟨wx,hwx⟩:=qE (W4:Ww);obtain⟨ox,hox⟩:=qE out;obtain⟨ax,hax⟩:=qE a;obtain⟨nx,hnx⟩:=qE n;obtain⟨cx,hcx⟩:=qE c;obtain⟨jx,hjx⟩:=qE (i+1);have hji:i<jx:=by omega
 have hjM:jx<=M:=by omega
 have HX:Hid (RnJ w (.slice ua ul uc) (.slice (some ⟨bI,oI,none⟩) N cI) m.cnt ob nk ox ax nx cx ops gk cpk cs' wx):=by rw[hwx,hox,hax,hnx,hcx];exact HW4.1
 rw[<-hjx]at HN;rw[<-hwx]at p0|-;have zj:(jx:Int)=(i:Int)+1:=by omega
 have hnb:nx<=ops+1:=by omega
 clear hwx hox hax hnx hcx;go_upto_region 17 with fail;rw[<-zj];exact zSpN):p:=h
theorem zSpX (h:p:=by
 obtain⟨ox,hox⟩:=qE out;obtain⟨ax,hax⟩:=qE a;obtain⟨nx,hnx⟩:=qE n;obtain⟨cx,hcx⟩:=qE c;obtain⟨jx,hjx⟩:=qE j;have hji:i<jx:=by omega
 have hjM:jx<=M:=by omega
 have HX:Hid (RnJ w (.slice ua ul uc) (.slice (some ⟨bI,oI,none⟩) N cI) m.cnt ob nk ox ax nx cx ops gk cpk cs' wx):=by rw[hox,hax,hnx,hcx];exact HXw.out
 have hj2:i+1+((es.drop (i+1)).takeWhile (yAz it.G x)).length=jx:=by
  have h9:=yWa (p:=yAz it.G x) (es.drop (i+1)) (j-(i+1)) (by rw[length_drop];have:=HM.2.1;omega) (λk e hk he=>by
   rw[getElem?_drop]at he
   exact HK.out (i+1+k) e (by omega) (by omega) he) (λe he=>by
   rw[getElem?_drop,show i+1+(j-(i+1))=j by omega]at he
   exact HEn.out e he)
  omega
 have hnb:nx<=ops+1:=by omega
 rw[hj2]at HN;rw[<-hjx];clear hj2 hox hax hnx hcx hjx;exact zSpN):p:=h
theorem zSpH (h:p:=by
 simp only[hal,Bool.false_eq_true,if_false,and_self,eq_self,if_true]at HN;go_wp2_with fail;go_loopw[11] (λjv wr=>∃j:Nat,i+1<=j/\j<=M/\jv=(xi j)/\Hid ((∀(k:Nat)(e:Ent),i+1<=k->k<j->es[k]?=some e->yAz it.G x e=true)/\RnJ w (.slice ua ul uc) (.slice (some ⟨bI,oI,none⟩) N cI) m.cnt ob nk out a n c ops gk cpk cs' wr/\yA wr w 115 4 wo it.four)) (λjv _=>M-(intOf jv).toNat);case atStart=>exact⟨i+1,Nat.le_refl _,by omega,by go_num,λk e h1 h2=>by omega,HW4.1,HW4.2⟩
 case round=>
  clear HW4 p0;obtain⟨j,hij,hjM0,rfl,HI⟩:=hrel;have HK:Hid (∀(k:Nat)(e:Ent),i+1<=k->k<j->es[k]?=some e->yAz it.G x e=true):=HI.1;have HD:Hid (RnJ w (.slice ua ul uc) (.slice (some ⟨bI,oI,none⟩) N cI) m.cnt ob nk out a n c ops gk cpk cs' wr.drew/\yA wr.drew w 115 4 wo it.four):=⟨HI.2.1.on ((Below.refl _ _).drew),HI.2.2.k ((Below.refl _ _).drew)⟩;by_cases hjl:j<M
  .obtain⟨y,hy⟩:∃y,es[j]?=some y:=qg (qw HM.2.1);have HY:Hid (es[j]?=some y):=hy;have zj:(j:Int)<(M:Int):=by omega
   have hd:decide ((j:Int)<(M:Int))=true:=by simp;omega
   have HST:Hid (∀X:Ww,RnJ w (.slice ua ul uc) (.slice (some ⟨bI,oI,none⟩) N cI) m.cnt ob nk out a n c ops gk cpk cs' X->yA X w 115 4 wo it.four->(λw':Ww=>xk w' wo 2 (xi it.G.rank)/\xk w' wo 3 it.G.txt/\xk w' gc (i*5) x.j/\xk w' gc (i*5+1) x.E/\xk w' gc (i*5+2) x.C/\xk w' gc (i*5+3) (xu x.ts)/\xk w' gc (i*5+4) x.val/\xk w' gc (j*5) y.j/\xk w' gc (j*5+1) y.E/\xk w' gc (j*5+2) y.C/\xk w' gc (j*5+3) (xu y.ts)/\xk w' gc (j*5+4) y.val/\xk w' gc (i*5) x.j/\xk w' gc (i*5) x.j/\xk w' gc (i*5+1) x.E/\xk w' gc (i*5+2) x.C/\xk w' gc (i*5+3) (xu x.ts)/\xk w' gc (i*5+4) x.val) X):=λX h k=>by obtain⟨_,_,e0,e1,e2,e3,e4,_⟩:=HSS.out X _ _ _ _ _ _ h;obtain⟨d0,d1,d2,d3,d4⟩:=HM.1.at j y hy;simp only[Nat.zero_add]at d0 d1 d2 d3 d4;have hb:=h.k;exact⟨k.z (j:=2) rfl,k.z (j:=3) rfl,e0,e1,e2,e3,e4,by rw[hb.cell (p:=(xd gc _)) hgl];exact d0,by rw[hb.cell (p:=(xd gc _)) hgl];exact d1,by rw[hb.cell (p:=(xd gc _)) hgl];exact d2,by rw[hb.cell (p:=(xd gc _)) hgl];exact d3,by rw[hb.cell (p:=(xd gc _)) hgl];exact d4,e0,e0,e1,e2,e3,e4⟩
   have hS0:=HST.out _ HD.1 HD.2;obtain⟨sk,hsk⟩:=qE (yAz it.G x y);have HSk:Hid (sk=yAz it.G x y):=hsk;have HCs:Hid (∀X:Ww,(xf 60 #[.agg #[xi it.G.rank,it.G.txt],.agg #[x.j,x.E,x.C,xu x.ts,x.val],.agg #[y.j,y.E,y.C,xu y.ts,y.val]] X sk:Prop)):=λX=>by rw[hsk];exact yUb it.G x y X
   clear hy hsk;go_upto_region 15 with fail;refine yAf 99 (λw':Ww=>xk w' wo 2 (xi it.G.rank)/\xk w' wo 3 it.G.txt/\xk w' gc (i*5) x.j/\xk w' gc (i*5+1) x.E/\xk w' gc (i*5+2) x.C/\xk w' gc (i*5+3) (xu x.ts)/\xk w' gc (i*5+4) x.val/\xk w' gc (j*5) y.j/\xk w' gc (j*5+1) y.E/\xk w' gc (j*5+2) y.C/\xk w' gc (j*5+3) (xu y.ts)/\xk w' gc (j*5+4) y.val/\xk w' gc (i*5) x.j/\xk w' gc (i*5) x.j/\xk w' gc (i*5+1) x.E/\xk w' gc (i*5+2) x.C/\xk w' gc (i*5+3) (xu x.ts)/\xk w' gc (i*5+4) x.val) (by kernel_rfl) ?_;refine ja 0 hS0 ?_;iterate 14 refine jb hS0 ?_
   refine qO 15 rfl λK hK=>?_;go_simp;refine(HCs.out _).mono ?_;rintro e wx ⟨rfl,hb5⟩;have HW5:Hid (RnJ w (.slice ua ul uc) (.slice (some ⟨bI,oI,none⟩) N cI) m.cnt ob nk out a n c ops gk cpk cs' wx/\yA wx w 115 4 wo it.four):=⟨HD.1.on hb5,HD.2.k hb5⟩;have hS5:=HST.out _ HW5.1 HW5.2;clear hb5 hS0;refine hK.out _ _ (.inr hS5) ?_;clear hK;refine jS ?_;refine jb hS5 ?_;refine qD ?_;cases hb:sk
   .have HXw:Hid (RnJ w (.slice ua ul uc) (.slice (some ⟨bI,oI,none⟩) N cI) m.cnt ob nk out a n c ops gk cpk cs' wx):=HW5.1;have HEn:Hid (∀e,es[j]?=some e->yAz it.G x e=false):=λe he=>by rw[HY.out]at he;cases he;rw[<-HSk.out];exact hb
    clear hS5 HD HI;exact zSpX
   .have HKn:Hid (∀(k:Nat)(e:Ent),i+1<=k->k<j+1->es[k]?=some e->yAz it.G x e=true):=λk e h1 h2 h3=>by
     by_cases hkj:k=j
     .subst hkj;rw[HY.out]at h3;cases h3;rw[<-HSk.out];exact hb
     .exact HK.out k e h1 (by omega) h3
    clear hS5 HD HI;refine zY ?_;exact⟨j+1,by omega,by omega,by go_num,HKn.out,HW5.out⟩
  .have zj:¬(j:Int)<(M:Int):=by omega
   have hd:decide ((j:Int)<(M:Int))=false:=by simp;omega
   have hS0:=HSS.out _ _ _ _ _ _ _ HD.1;go_upto_region 15 with fail;refine yAf 99 (λw':Ww=>xk w' w 1 (.slice (some ⟨bI,oI,none⟩) N cI)/\xk w' w 2 (xi m.cnt)/\xk w' gc (i*5) x.j/\xk w' gc (i*5+1) x.E/\xk w' gc (i*5+2) x.C/\xk w' gc (i*5+3) (xu x.ts)/\xk w' gc (i*5+4) x.val/\xk w' w 2 (xi m.cnt)) (by kernel_rfl) ?_;generalize wr.drew=wx at HD hS0|-;refine ja 0 hS0 ?_;iterate 16 refine jb hS0 ?_
   refine qD ?_;have HXw:Hid (RnJ w (.slice ua ul uc) (.slice (some ⟨bI,oI,none⟩) N cI) m.cnt ob nk out a n c ops gk cpk cs' wx):=HD.1;have HEn:Hid (∀e,es[j]?=some e->yAz it.G x e=false):=λe he=>qv (qf he) HM.2.1
   clear hS0 HD HI;exact zSpX):p:=h
theorem zSpL (h:p:=by
 obtain⟨x,hx⟩:∃x,es[i]?=some x:=qg (qw HM.2.1);have HXi:Hid (es[i]?=some x):=hx;have HSS:Hid (∀(X:Ww)(out:List Ent)(a:Option Addr)(n c ops:Nat)(cs:List Ctr),RnJ w (.slice ua ul uc) (.slice (some ⟨bI,oI,none⟩) N cI) m.cnt ob nk out a n c ops gk cpk cs X->(λw':Ww=>xk w' w 1 (.slice (some ⟨bI,oI,none⟩) N cI)/\xk w' w 2 (xi m.cnt)/\xk w' gc (i*5) x.j/\xk w' gc (i*5+1) x.E/\xk w' gc (i*5+2) x.C/\xk w' gc (i*5+3) (xu x.ts)/\xk w' gc (i*5+4) x.val/\xk w' w 2 (xi m.cnt)) X):=λX out a n c ops cs h=>by obtain⟨e0,e1,e2,e3,e4⟩:=HM.1.at i x hx;simp only[Nat.zero_add]at e0 e1 e2 e3 e4;have hb:=h.k;exact⟨h.A.z (j:=1) rfl,h.A.z (j:=2) rfl,by rw[hb.cell (p:=(xd gc _)) hgl];exact e0,by rw[hb.cell (p:=(xd gc _)) hgl];exact e1,by rw[hb.cell (p:=(xd gc _)) hgl];exact e2,by rw[hb.cell (p:=(xd gc _)) hgl];exact e3,by rw[hb.cell (p:=(xd gc _)) hgl];exact e4,h.A.z (j:=2) rfl⟩
 obtain⟨W2,hW2⟩:=qW (xw wo #[false,false,xi 0,xe] 115);have HW2:Hid (RnJ w (.slice ua ul uc) (.slice (some ⟨bI,oI,none⟩) N cI) m.cnt ob nk out a n c ops gk cpk cs W2.drew/\yA W2.drew w 115 4 wo (yBg noH).four):=by
  have k2:=qN hW2
  have b2:yA W2 w 115 4 wo (yBg noH).four:=by rw[hW2];exact yAa wo _ HJ.1.k.size rfl
  exact⟨(HJ.1.on k2).on ((Below.refl _ _).drew),b2.k ((Below.refl _ _).drew)⟩
 have hS0:=HSS.out _ _ _ _ _ _ _ HW2.1;clear hx;go_upto_region 10 with fail;rw[<-hW2];clear hW2;refine yAf 99 (λw':Ww=>xk w' w 1 (.slice (some ⟨bI,oI,none⟩) N cI)/\xk w' w 2 (xi m.cnt)/\xk w' gc (i*5) x.j/\xk w' gc (i*5+1) x.E/\xk w' gc (i*5+2) x.C/\xk w' gc (i*5+3) (xu x.ts)/\xk w' gc (i*5+4) x.val/\xk w' w 2 (xi m.cnt)) (by kernel_rfl) ?_;generalize W2.drew=WD at HW2 hS0|-;refine ja 0 hS0 ?_;iterate 6 refine jb hS0 ?_
 obtain⟨W3,hW3⟩:=qW (xw WD #[] 4);have HW3:Hid (RnJ w (.slice ua ul uc) (.slice (some ⟨bI,oI,none⟩) N cI) m.cnt ob nk out a n c ops gk cpk cs W3/\yA W3 w 115 4 wo (yBg noH).four):=by
  have k3:=qN hW3
  exact⟨HW2.1.on k3,HW2.2.k k3⟩
 have hS3:=HSS.out _ _ _ _ _ _ _ HW3.1;have HLk:Hid (Calls prog 58 #[.agg #[.slice (some ⟨bI,oI,none⟩) N cI,xi m.cnt],.agg #[x.j,x.E,x.C,xu x.ts,x.val],xg gk nk cpk,xg WD 0 0] W3 λe w'=>∃(i:It)(cs':List Ctr),e=.returned (.tuple #[i.v,xg gk nk cpk])/\Hid (LkR pfxB m.l x [] ⟨0,[newI],cs⟩ (i,cs')/\cs'.length=nk/\yF6 w' w gk cpk cs'/\(∀k∈cs',0<=k.count/\k.count<=1000)/\Chg (λk=>k=gk) W3 w')):=by have h9:RwO ⟨w,m.l,N,bI,oI,cI,m.cnt,0,[],some ⟨WD,0,none⟩,0,nk⟩:=HQ.out _;exact h9.look qr HW3.1.k HW3.1.ctr HW3.1.X HW3.1.cb x 0
 refine qO 7 rfl λK hK=>?_;go_simp;rw[<-hW3];refine hK.out _ _ (.inr hS3) ?_;clear hK hW3 hS0;refine jS ?_;refine qO 8 rfl λK hK=>?_;go_simp;refine HLk.mono ?_;rintro e w3 ⟨it,cs',rfl,H3⟩;have HW3b:Hid (RnJ w (.slice ua ul uc) (.slice (some ⟨bI,oI,none⟩) N cI) m.cnt ob nk out a n c ops gk cpk cs' w3/\yA w3 w 115 4 wo (yBg noH).four):=by
  obtain⟨k1,k2,k3,k4,k5⟩:=H3.out;have hgi:¬wo.heap.size=gk:=qw HJ.1.ctr.lt
  exact⟨HW3.1.ctrs k3 k2 k4 k5,HW3.2.i k5 hgi⟩
 have HL:Hid (LkR pfxB m.l x [] ⟨0,[newI],cs⟩ (it,cs')):=H3.1;have hS4:=HSS.out _ _ _ _ _ _ _ HW3b.1;clear H3 HW2 HW3 hS3 HLk;refine hK.out _ _ (.inr hS4) ?_;clear hK;refine jS ?_;iterate 3 refine jb hS4 ?_
 obtain⟨W4,hW4⟩:=qW (setCs w3 wo 0 it.four);have HW4:Hid (RnJ w (.slice ua ul uc) (.slice (some ⟨bI,oI,none⟩) N cI) m.cnt ob nk out a n c ops gk cpk cs' W4/\yA W4 w 115 4 wo it.four):=by obtain⟨q1,q2⟩:=yEx HW3b.2 hW4;have l2:=HJ.1.ctr.lt;have l4:=HJ.1.obx.lt;have l5:=HJ.1.res.lt;exact⟨HW3b.1.side ⟨by omega,by omega,by omega,λq=>qw ((HJ.1.j.blk q).2)⟩ q2,q1⟩
 have hS5:=HSS.out _ _ _ _ _ _ _ HW4.1;obtain⟨v0,v1,v2,v3⟩:=HW3b.2.c4;obtain⟨f0,f1,f2,f3⟩:=HW3b.2.f4;simp only[setCs,Nat.zero_add,Nat.reduceAdd]at hW4;refine qO 12 rfl λK hK=>?_;go_simp;rw[<-hW4];refine hK.out _ _ (.inr hS5) ?_;clear hK hW4 hS4 v0 v1 v2 v3 f0 f1 f2 f3;refine jS ?_;refine kO 13 hS5 ?_;refine qD ?_;obtain⟨jn,hjn⟩:=qE (if it.H=false/\hints=true then i+1+((es.drop (i+1)).takeWhile (yAz it.G x)).length else i+1);have HN:Hid (∀k,MvR m.l hints (es.drop jn) cs' k->MvR m.l hints es (List.replicate nk newC) (ops+1+k)):=MvR.step HJ.2 HXi.out HL.out hjn;rw[hjn]at HN;have p0:=HW4.2.z (j:=0) rfl;have zi:IntKind.i64.wrap ((i:Int)+1)=(i:Int)+1:=by rw[IntKind.wrap_i64];omega
 clear hjn hS5;cases hal:it.H
 .rw[hal]at p0;cases hints
  .exact zSpD
  .exact zSpH
 .rw[hal]at p0;exact zSpA):p:=h
theorem zSpZ (h:p:=by
 obtain⟨v0,v1,v2⟩:=HX.1.c3;obtain⟨f0,f1,f2⟩:=HX.1.f3;obtain⟨W9,hW9⟩:=qE (setCs wo (w+1) 0 [true,.slice a n c,xi ops]:Ww);have b9:yA W9 w 39 3 (w+1) [true,.slice a n c,xi ops]:=by rw[hW9];exact HX.1.setCs _
 have HE:Hid (RunM bs m es hints ops/\Below w w W9):=HX.2 W9 (by rw[hW9];exact yAo (S:=λq=>q=w.heap.size+1) _ rfl _ _ _);obtain⟨q0,q1,q2⟩:=b9.c3;simp only[setCs,Nat.zero_add,Nat.reduceAdd]at hW9;clear b9;go_wp2_with fail;rw[<-hW9];exact bodyPost_ret (v:=.agg #[true,.slice a n c,xi ops]) (by simp[results,results18,go_sem,q0,q1,q2]) rfl ⟨a,n,c,ops,rfl,HE⟩):p:=h
end
theorem yO{m:Bk}(hU:yGp w (.slice ua ul uc) bs)(hok:∀x∈bs,x.ok)(hm:yC5 w m.v m.l)(hmo:m.ok)(hC:OwnC w bc gc cc es)(hoe:∀e∈es,e.ok)(hk:∀e∈es,e.f=0)(hl:es.length<=1048576)(hG:yHj bs m)(hR:yC6 es)(hints:Bool)(hM:M=es.length):
  Calls prog 18 #[.agg #[.slice ua ul uc,m.v,xi m.cnt],xg gc M cc,hints] w (RunP bs m es hints w):=by
 obtain⟨va,vn,vc,hmv,hvn⟩:=hm.one;clear hvn;have hul:ul=bs.length:=by
  rcases hU with⟨_,_,q,rfl⟩|⟨_,_,_,q,_⟩
  .cases q;rfl
  .cases q;rfl
 have HM:Hid (OwnC w bc gc cc es/\M=es.length/\(∀e∈es,e.ok)/\(∀e∈es,e.f=0)/\yGp w (.slice ua ul uc) bs/\yC5 w m.v m.l/\ul=bs.length):=⟨hC,hM,hoe,hk,hU,hm,hul⟩;obtain⟨W0,hW0⟩:=qE (xw (w.alloc (AC #[.slice ua ul uc,.slice va vn vc,xi m.cnt] 34)) #[false,xh,xi 0] 39:Ww);have H0:Hid (yA W0 w 34 3 w [.slice ua ul uc,.slice va vn vc,xi m.cnt]/\yA W0 w 39 3 (w+1) [false,xh,xi 0]/\Below w w W0):=by
  obtain⟨X,hX⟩:=qE (xw w #[.slice ua ul uc,.slice va vn vc,xi m.cnt] 34:Ww);rw[<-hX]at hW0;have zx:=qS hX
  have k1:=qN hX
  have k2:=qN hW0
  have b1:yA X w 34 3 w [.slice ua ul uc,.slice va vn vc,xi m.cnt]:=by rw[hX];exact yAa w _ qr rfl
  have b2:yA W0 w 39 3 (w+1) [false,xh,xi 0]:=by rw[hW0,<-zx];exact yAa X _ (by omega) rfl
  exact⟨b1.k k2,b2,k1.trans (k2.mono (by omega))⟩
 have HF:Hid (Calls prog 13 #[.agg #[.slice ua ul uc,.slice va vn vc,xi m.cnt]] W0 (YesP W0)):=by rw[<-hmv];exact yKq hG (hU.k H0.2.2) hok (hm.k H0.2.2 qr) hmo
 have HV:Hid (∀wx,Below w w wx->Calls prog 9 #[xg gc M cc] wx (yKi (yC6 es) wx)):=λwx hx=>by have h9:=yGb gc cc es bc wx (hC.k hx hC.lt.2) hoe hl;rw[yIz hk]at h9;rw[hM];exact h9
 have hgl:=hC.lt.2;rw[hmv];have HMv:Hid (m.v=.slice va vn vc):=hmv;clear hU hok hm hmo hC hoe hk hmv hM hl hul;obtain⟨c0,c1,c2⟩:=H0.1.c3;go_enter func18,ntmps18;go_upto_region 1 with fail;rw[<-hW0];clear hW0;go_wp2_with fail;refine HF.mono ?_;rintro e w1 ⟨rfl,hb1⟩;have HR1:Hid (yHj bs m/\yA w1 w 34 3 w [.slice ua ul uc,.slice va vn vc,xi m.cnt]/\yA w1 w 39 3 (w+1) [false,xh,xi 0]/\Below w w w1):=⟨hG,H0.1.k hb1,H0.2.1.k hb1,H0.2.2.trans (hb1.mono H0.2.2.size)⟩;clear hb1 HF c0 c1 c2 H0;have HV1:Hid (Calls prog 9 #[xg gc M cc] w1 (yKi (yC6 es) w1)):=HV.out w1 HR1.2.2.2;go_wp2_with fail;refine HV1.mono ?_;rintro e w2 ⟨r2,rfl,hr2,hb2⟩;obtain rfl:r2=true:=hr2.2 hR;have HR2:Hid (yC6 es/\yHj bs m/\yA w2 w 34 3 w [.slice ua ul uc,.slice va vn vc,xi m.cnt]/\yA w2 w 39 3 (w+1) [false,xh,xi 0]/\Below w w w2):=⟨hR,HR1.1,HR1.2.1.k hb2,HR1.2.2.1.k hb2,HR1.2.2.2.trans (hb2.mono HR1.2.2.2.size)⟩;clear hr2 hb2 HV1 HV HR1;have hgc:yHj bs m:=HR2.2.1;have hgr:yC6 es:=HR2.1;obtain⟨bI,oI,N,cI,hmv,hN,hI,hbl,hcI⟩:∃bI oI N cI,m.v=.slice (some ⟨bI,oI,none⟩) N cI/\N=m.l.length/\yBh w bI oI m.l/\bI<w.heap.size/\N<=cI/\cI<=maxLen:=by
  rcases HM.2.2.2.2.2.1 with⟨_,_,_,q⟩|⟨b,off,cap,q1,q2,q3,q4,q5⟩
  .have:=hgc.2.1.1;rw[q]at this;simp at this
  .exact⟨b,off,_,cap,q1,rfl,q2,q3,q4,q5⟩
 obtain⟨rfl,rfl,rfl⟩:va=some ⟨bI,oI,none⟩/\vn=N/\vc=cI:=by have h9:=HMv.out;rw[hmv]at h9;simp only[Value.slice.injEq]at h9;exact⟨h9.1.symm,h9.2.1.symm,h9.2.2.symm⟩
 have HQ:Hid (∀ca:Option Addr,bs= []->RwO ⟨w,m.l,vn,bI,oI,vc,m.cnt,0,[],ca,0,m.cnt.toNat⟩):=λca hb=>by have hg:=hgc.2.1;rw[hb]at hg;exact {good:=hg,nc:=AB _,nC:=rfl,N:=hN,nk:=by show((m.cnt.toNat:Nat):Int)=m.cnt;have:=hg.2.2.1;omega,ins:=hI,bIl:=hbl,cI:=hcI,cnd:=λi b hi=>by simp at hi}
 have hM4:M<=10000:=by have:=hgr.1.1;have:=HM.2.1;omega
 obtain⟨c0,c1,c2⟩:=HR2.2.2.1.c3;by_cases hbe:bs= []
 .have hu0:¬(0:Int)<(ul:Int):=by rw[HM.2.2.2.2.2.2,hbe];simp
  obtain⟨nk,hnk⟩:=qE m.cnt.toNat;have HQ2:Hid (∀ca:Option Addr,RwO ⟨w,m.l,vn,bI,oI,vc,m.cnt,0,[],ca,0,nk⟩):=λca=>by rw[hnk];exact HQ.out ca hbe
  have HFin:Hid (∀n,MvR m.l hints es (AA nk newC) n->RunM bs m es hints n):=λn h=>.inr ⟨hbe,by rw[<-hnk];exact h⟩;have hn2:nk<=1000:=by have:=hgc.2.1.2.2.2.1;omega
  have HNZ:Hid (m.cnt=(nk:Int)):=by have:=hgc.2.1.2.2.1;show _=_;omega
  obtain⟨W5,hW5⟩:=qE (xw w2 #[true,xh,xi 0] 39:Ww);have H5:Hid (yA W5 w 34 3 w [.slice ua ul uc,.slice (some ⟨bI,oI,none⟩) vn vc,xi m.cnt]/\yA W5 w 39 3 (w+1) [false,xh,xi 0]/\yA W5 w 39 3 w2 [true,xh,xi 0]/\Below w w W5):=by
   obtain⟨_,_,h1,h2,h3⟩:=HR2.out;have k5:=qN hW5
   exact⟨h1.k k5,h2.k k5,by rw[hW5];exact yAa w2 _ h3.size rfl,h3.trans (k5.mono h3.size)⟩
  have hne:w.heap.size+1<w2.heap.size:=HR2.2.2.2.1.lt.2;clear hgc hgr HQ hI hbl hcI hN hmv hnk hbe;go_upto_region 6 with fail;rw[<-hW5];clear hW5 c0 c1 c2;have c2:=H5.1.z (j:=2) rfl;go_wp2_with fail;rw[HNZ.out];refine(yLt nk W5 hn2).mono ?_;rintro e w6 ⟨gk,cpk,rfl,hO6,hb6⟩;obtain⟨ob,hob⟩:=qE w2;have H6:Hid (RnJ w (.slice ua ul uc) (.slice (some ⟨bI,oI,none⟩) vn vc) m.cnt ob nk [] none 0 0 0 gk cpk (AA nk newC) w6):=by obtain⟨h1,h2,h3,h4⟩:=H5.out;rw[hob];exact⟨h1.k hb6,h2.k hb6,h3.k hb6,yS0 _ _,rfl,hO6.mono h4.size,by simp,λk hk=>by rw[List.eq_of_mem_replicate hk];exact⟨Int.le_refl _,by decide⟩,hne,h4.trans (hb6.mono h4.size)⟩
  rw[<-hob];clear hO6 hb6 c2 H5 HR2 hne hob;go_wp2_with fail;go_loopw[8,9] (λcv iv wr=>∃(i ops gk cpk:Nat)(out:List Ent)(a:Option Addr)(n c:Nat)(cs:List Ctr),i<=M/\ops<=i/\n<=ops/\cv=(xg gk nk cpk)/\iv=(xi i)/\Hid (RnJ w (.slice ua ul uc) (.slice (some ⟨bI,oI,none⟩) vn vc) m.cnt ob nk out a n c ops gk cpk cs wr/\∀k,MvR m.l hints (es.drop i) cs k->MvR m.l hints es (AA nk newC) (ops+k))) (λ_ iv _=>M-(intOf iv).toNat);case atStart=>exact⟨0,0,gk,cpk,[],none,0,0,AA nk newC,AD _,AB _,AB _,rfl,rfl,H6.out,λk h=>by simpa using h⟩
  case round=>
   clear H6;obtain⟨i,ops,gk,cpk,out,a,n,c,cs,hi,hoi,hno,rfl,rfl,HJ⟩:=hrel;obtain⟨wo,hwo⟩:=qE (wr:Ww);subst hwo;obtain⟨N,hNe⟩:=qE vn;subst hNe;obtain⟨cI,hce⟩:=qE vc;subst hce;have HQ:=HQ2;by_cases hlt:i<M
   .have z:(i:Int)<(M:Int):=by omega
    have hnl:n<=10000:=by omega
    as_aux_lemma=>exact zSpL
   .have z:¬(i:Int)<(M:Int):=by omega
    have HX:Hid (yA wo w 39 3 (w+1) [false,xh,xi 0]/\(∀X:Ww,Chg (λq=>q=w.heap.size+1) wo X->RunM bs m es hints ops/\Below w w X)):=by have hj:=HJ.1;refine⟨hj.res,λX hX=>⟨HFin.out _ (MvR.done HJ.2 (by have:=HM.2.1;omega)),Chg.k hj.k hX hj.k.size (λq z=>by omega)⟩⟩
    obtain⟨t0,t1,t2⟩:=HJ.1.obx.c3;clear HJ HFin HQ HQ2;as_aux_lemma=>exact zSpZ
 .have hu0:(0:Int)<(ul:Int):=by have:=HM.2.2.2.2.2.2;have:=List.length_pos_iff.2 hbe;omega
  obtain⟨ub,uo,hua,hBk,hul⟩:∃ub uo,ua=some ⟨ub,uo,none⟩/\ySj w ub uo bs/\ub<w.heap.size:=by
   rcases HM.2.2.2.2.1 with⟨_,_,_,q⟩|⟨b,off,cap,q1,q2,q3,q4,q5⟩
   .exact absurd q hbe
   .simp only[Value.slice.injEq]at q1;exact⟨b,off,q1.1,q2,q3⟩
  subst hua;have hb2:=HR2.2.2.2.2;have HBy:Hid (Calls prog 56 #[.agg #[.slice (some ⟨ub,uo,none⟩) ul uc,.slice (some ⟨bI,oI,none⟩) vn vc,xi m.cnt],xg gc M cc] w2 λe w'=>∃a n c,e=.returned (.agg #[true,.slice a n c,xi M])/\Hid (Below w2 w2 w')):=by
   refine yNc ⟨w2,bs,m,ul,ub,uo,uc,vn,bI,oI,vc,gc,0,cc,es,M,allC es 0⟩ ⟨hgc,?_,?_,HM.2.2.2.2.2.2,hmv,hN,?_,?_,hcI,?_,HM.2.1,hM4,rfl,λp hp=>yPq es _ 0 p hp⟩
   .intro k x hx;obtain⟨h1,h2,h3⟩:=hBk k x hx;exact⟨by rw[hb2.cell (p:=(xd ub _)) hul];exact h1,by rw[hb2.cell (p:=(xd ub _)) hul];exact h2,h3.k hb2 qr⟩
   .have:=hb2.size;show ub<w2.heap.size;omega
   .exact hI.k hb2 hbl
   .have:=hb2.size;show bI<w2.heap.size;omega
   .exact(HM.1.k hb2 hgl).sl
  have HFin:Hid (RunM bs m es hints M):=.inl ⟨hbe,HM.2.1⟩;clear hgc hgr HQ hI hbl hcI hN hmv hBk hul hb2 hbe;go_wp2_with fail;refine HBy.mono ?_;rintro e wo ⟨a,n,c,rfl,H3⟩;have HX:Hid (yA wo w 39 3 (w+1) [false,xh,xi 0]/\(∀X:Ww,Chg (λq=>q=w.heap.size+1) wo X->RunM bs m es hints M/\Below w w X)):=by
   obtain⟨_,_,_,k2,k3⟩:=HR2.out;have hb:Below w w wo:=k3.trans (H3.out.mono k3.size);exact⟨k2.k H3.out,λX hX=>⟨HFin,Chg.k hb hX hb.size (λq z=>by omega)⟩⟩
  obtain⟨ops,hops⟩:=qE M;rw[<-hops]at HX|-;clear H3 HFin HR2 hops c0 c1 c2;as_aux_lemma=>exact zSpZ
end Go.Proofs.YtnnagkfoiganfaaGreatDoor
