import Derived.Test.YtnnagkfoiganfaaGreatDoorRkAR
namespace Go.Proofs.YtnnagkfoiganfaaGreatDoor.exRunCode
open Go.ChangeShapes Go.WideShapes Go.ChangeAt Go.RowKit Go.Deep XD XI XU XG XP XK XW XT XF XE XH _root_.List _root_.Nat Go.Proofs.Tryz
set_option linter.unusedVariables false
set_option linter.unusedSimpArgs false
set_option maxRecDepth 100000
structure InCo(w:World)(u v:Value)(bs:List Bk)(m:Bk):Prop where
 bks:yCg w u bs
 ins:yAy w v m.l
theorem InCo.below{w w':World}{u v:Value}{bs:List Bk}{m:Bk}(h:InCo w u v bs m)(hb:Below w w w'):InCo w' u v bs m:=⟨h.bks.below hb,h.ins.below hb qr⟩
theorem xEz{bs fs:List Bk}(h:fs.map Bk.vw=bs.map Bk.vw)(ho:∀x∈bs,x.ok):∀x∈fs,x.ok:=by intro x hx;obtain⟨i,hi⟩:=getElem?_of_mem hx;have hl:=congrArg List.length h;simp only[length_map]at hl;have a0:=qf hi;obtain⟨y,hy⟩:∃y,bs[i]?=some y:=qg qo;have h2:=congrArg (λl=>l[i]?) h;simp only[getElem?_map,hi,hy,Option.map_some,Option.some.injEq,Bk.vw,Prod.mk.injEq]at h2;have oy:=ho y (mem_of_getElem? hy);exact⟨by rw[h2.1];exact oy.cnt,by rw[h2.2];exact oy.ins⟩
theorem yX0(W0:World)(u:Value)(bs:List Bk)(m:Bk) w (hb:Below W0 W0 w) (h:Hid (InCo W0 u m.v bs m)) (h1:bs.length+totB bs+m.l.length<=1048576):
  Calls prog 19 #[.agg #[u,m.v,xi m.cnt]] w λe w'=>
   ∃g gm fs,e=.returned (.agg #[xg g bs.length bs.length,xg gm m.l.length m.l.length,xi m.cnt])/\Hid (InCo w' (xg g bs.length bs.length) (xg gm m.l.length m.l.length) fs m/\fs.map Bk.vw=bs.map Bk.vw)/\Below W0 W0 w'/\(∀b o,b<W0.heap.size->w'.cell? (xd b o)=W0.cell? (xd b o)):=by
 have h2:=h.out.below hb;refine(yHd u bs m w h2.bks h2.ins h1).mono ?_;rintro e w' ⟨g,gm,fs,rfl,hI,hv,hM,a0⟩;have k:=hb.trans (a0.mono hb.size);exact⟨g,gm,fs,rfl,⟨⟨hI,hM⟩,hv⟩,k,λb o hlt=>k.cell (p:=(xd b o)) hlt⟩
theorem yZt(W0:World)(u v u' v':Value)(bs bs':List Bk)(m:Bk) w (hb:Below W0 W0 w) (h:Hid (InCo W0 u v bs m)) (h':Hid (InCo w u' v' bs' m)) (hv:bs.map Bk.vw=bs'.map Bk.vw):
  Calls prog 22 #[.agg #[u,v,xi m.cnt],.agg #[u',v',xi m.cnt]] w λe w'=>e=.returned true/\Below W0 W0 w':=by
 have h2:=h.out.below hb;refine(yWx u u' bs bs' ⟨v,m.cnt,m.l⟩ ⟨v',m.cnt,m.l⟩ w h2.bks h'.out.bks hv h2.ins h'.out.ins rfl).mono ?_;rintro e w' ⟨he,a0⟩;exact⟨he,hb.trans (a0.mono hb.size)⟩
theorem ySe{bs fs:List Bk}{m n:Bk}{es:List Ent}{hints ok:Bool}{out:List Ent}{ops:Nat}(h:bs.map Bk.vw=fs.map Bk.vw)(hm:m.vw=n.vw)(k:RunM bs m es hints ok out ops):RunM fs n es hints ok out ops:=by
 have hg:=xB1 h hm;have a1:bs= []↔fs= []:=by have:=congrArg List.length h;simp only[length_map]at this;rw[<-length_eq_zero_iff,<-length_eq_zero_iff,this]
 have a0:=hm;simp only[Prod.mk.injEq]at a0;unfold RunM at k|-;rw[hg,h,hm,a1,a0.1,a0.2]at k;exact k
theorem yYa{m:Int×List Ix}{Bs:List (Int×List Ix)}{es:List Ent}:∀(f i:Nat)(out:List Ent),RwsR m Bs ((yFx es f i).map (segE es)) out->out.length<=es.length-i
 |0,i,out,h=>by
  unfold yFx at h
  cases h
  simp
 |f+1,i,out,h=>by
  unfold yFx at h
  split at h
  .rename_i hi
   rw[map_cons]at h
   cases h with
   |cons h1 h2 h3=>
    have ih:=yYa f (rEnd es i) _ h3
    have hle:rEnd es i<=es.length:=yNp es i _ i (Nat.le_of_lt hi)
    have hgt:=ySj hi
    have h4:=h2.len
    rw[yC9 hle]at h4
    rw[length_append]
    omega
  .cases h
   simp
theorem xA5{bs:List Bk}{m:Bk}{es:List Ent}{hints ok:Bool}{out:List Ent}{ops:Nat}(h:RunM bs m es hints ok out ops):out.length<=es.length:=by
 rcases h with⟨_,_,rfl,_⟩|⟨_,_,⟨_,h,_⟩|⟨_,h⟩⟩
 .simp
 .exact Nat.le_trans (yYa _ 0 _ h) qo
 .exact Nat.le_trans h.le.2 h.le.1
theorem yU4:∀(l:List Bk),yA6 l<=totB l*11+l.length
 | []=>by simp[yA6,totB]
 |x::r=>by
  have:=yU4 r
  simp only[yA6,totB,length_cons]
  omega
theorem yXy:∀{bs fs:List Bk},fs.map Bk.vw=bs.map Bk.vw->totB fs=totB bs
 | [],[],_=>rfl
 | [],_::_,h=>by simp at h
 |_::_,[],h=>by simp at h
 |b::bs,f::fs,h=>by
  simp only[map_cons,List.cons.injEq,Prod.mk.injEq]at h
  simp only[totB]
  rw[yXy h.2,h.1.2]
theorem xBu{bs fs:List Bk}{n:Nat}(h:fs.map Bk.vw=bs.map Bk.vw)(hn:bs.length+totB bs+n<=1048576):yA6 fs<=12582912/\∀x∈fs,x.l.length<=1048576:=by have h1:=yXy h;have h2:=congrArg List.length h;simp only[length_map]at h2;have h3:=yU4 fs;exact⟨qo,λx hx=>by have:=yUh hx;omega⟩
structure RwJ(W0:World)(b4 s8 s9 s11:Nat)(ok:Bool)(sa:Option Addr)(sn sc:Nat)(out:List Ent)(ops:Nat)(cx mx:Value)(cnt:Int)(ia:Option Addr)(ic:Nat)(X:World):Prop where
 bel:Below W0 W0 X
 bS:yA X W0 39 3 s8 [ok,.slice sa sn sc,xi ops]
 bX:yA X W0 34 3 s9 [cx,mx,xi cnt]
 bI:yA X W0 39 3 s11 [ok,.slice ia sn ic,xi ops]
 rS:RowC X b4 (.slice sa sn sc) out
 rl:∀q,(Value.slice sa sn sc).ownBlock=some q->q<s8
 le:W0.heap.size<=b4/\b4<=s8/\s8<s9/\s9<s11
section
variable {W0:World} {b4 s8 s9 s11:Nat} {ok:Bool} {sa:Option Addr} {sn sc:Nat} {out:List Ent} {ops:Nat} {cx mx:Value} {cnt:Int} {ia:Option Addr} {ic:Nat} {X X':World}
theorem RwJ.chg(h:RwJ W0 b4 s8 s9 s11 ok sa sn sc out ops cx mx cnt ia ic X){S:Nat->Prop}(hc:Chg S X X')(hS:∀q,S q->s8<q/\¬q=s9/\¬q=s11):RwJ W0 b4 s8 s9 s11 ok sa sn sc out ops cx mx cnt ia ic X':=by
 have hl:=h.le
 exact {h with
  bel:=Chg.below h.bel hc h.bel.size (λq z=>qw (hS q z))
  bS:=h.bS.chg hc (λz=>qw (hS _ z))
  bX:=h.bX.chg hc (λz=>(hS _ z).2.1 rfl)
  bI:=h.bI.chg hc (λz=>(hS _ z).2.2 rfl)
  rS:=h.rS.chg hc (λk hk z=>qv (hS _ z) (h.rl k hk))}
theorem RwJ.below(h:RwJ W0 b4 s8 s9 s11 ok sa sn sc out ops cx mx cnt ia ic X)(hb:Below X X X'):RwJ W0 b4 s8 s9 s11 ok sa sn sc out ops cx mx cnt ia ic X':=h.chg (S:=λ_=>False) (Chg.of_below hb) (λ_ q=>q.elim)
end
set_option maxHeartbeats 16000000 in
theorem xHn(u:Value) bs (m:Bk) (v:Value) es (hints:Bool) (w:World) (h:yCg w u bs) (hok:∀x∈bs,x.ok) (hm:yAy w m.v m.l) (hmo:m.ok) (hc:yEz w v es) (hoe:∀e∈es,e.ok) (hk:∀e∈es,e.kind=0) (hT:TabD w):
  (xf 4 #[.agg #[u,m.v,xi m.cnt],v,hints] w true:Prop):=by
 have HE:=qH3 (⟨h,hm⟩:InCo w u m.v bs m) hok hmo;have HC:=qH3 hc hoe hk;have dd:Hid (∀wx,Below w w wx->TabD wx):=λwx hx=>hT.chg (S:=λk=>w.heap.size<=k) ⟨hx.os,hx.tape,hx.output,hx.size,λj hj hn=>hx.block j qo⟩ (λq=>qw hT.lt);have hu:=h.cells;have dy:=hm.cells;obtain⟨va,vn,vc,rfl⟩:∃a n c,v=.slice a n c:=by rcases hc with⟨a,cap,rfl,_⟩|⟨b,off,cap,rfl,_⟩<;>exact⟨_,_,_,rfl⟩
 clear h hok hm hmo hc hoe hk hT;obtain⟨W0,aw⟩:=qW (xw w #[u,m.v,xi m.cnt] 51);have aj:=qN aw
 have cO:w.heap.size<W0.heap.size:=by rw[aw];simp
 have HK:Hid (∀wx,Below W0 W0 wx->(xk wx w 0 u/\xk wx w 1 m.v/\xk wx w 2 (xi m.cnt))/\InCo wx u m.v bs m/\yEz wx (.slice va vn vc) es/\TabD wx):=by
  intro wx hx;refine⟨⟨?_,?_,?_⟩,(HE.1.below aj).below hx,(HC.1.below aj qr).below hx qr,dd.out wx (aj.trans (hx.mono qo))⟩;all_goals rw[hx.cell (by exact cO),aw]
  all_goals simp
 obtain⟨⟨a0,a1,a2⟩,cf,_,_⟩:=HK.out W0 (Below.refl _ _);have cF:=qH1 cf;clear cf;go_enter func4,ntmps4;go_upto_region 2 with fail;rw[<-aw];clear aw;go_wp2_with fail;refine(yVx u bs m _ _ cF.bks HE.2.1 cF.ins HE.2.2 qo qo).mono ?_;rintro e w1 ⟨x,rfl,hx,aA⟩;have dK:=aA.size;by_cases hx0:x<0
 .clear hx;go_wp2;go_ret;exact⟨rfl,aj.trans (aA.mono qo)⟩
 have hn:bs.length+totB bs+m.l.length<=1048576:=qo
 have dx:x<=1048576:=qo
 clear hx a0 a1 a2;have db:=qH1 ((HK.out w1 aA).2.2.1);go_wp2_with fail;refine(yR4 _ es x w1 db.out HC.2.1 qo qo).mono ?_;rintro e w2 ⟨y,rfl,hy,hb2⟩;have dB:=hb2.size;have j2:=aA.trans (hb2.mono qo);by_cases hy0:y<0
 .clear hy;go_wp2;go_ret;exact⟨rfl,aj.trans (j2.mono qo)⟩
 have aa:es.length<=1048576:=qo
 clear hy;obtain⟨⟨a0,a1,a2⟩,c1,_,_⟩:=HK.out w2 j2;have cE:=qH1 c1;clear c1;go_wp2_with fail;refine(yHd u bs m _ cE.bks cE.ins hn).mono ?_;rintro e w3 ⟨g3,b6,aC,rfl,hF,bF,ch,cW⟩;have j3:=j2.trans (cW.mono j2.size);have bg:=qH2 (⟨hF,ch⟩:InCo w3 (xg g3 bs.length bs.length) (xg b6 m.l.length m.l.length) aC m) bF;have d8:=qH1 ((HK.out w3 j3).2.2.1);clear hF bF ch a0 a1 a2;go_wp2_with fail;refine(yD9 _ es w3 d8.out aa).mono ?_;rintro e w4 ⟨g4,rfl,bU,bJ⟩;have j4:=j3.trans (bJ.mono j3.size);have ba:=qH2 (bg.1.below bJ) bU;clear bU;go_wp2_with fail;refine(yPe (m:=⟨xg b6 m.l.length m.l.length,m.cnt,m.l⟩) ba.1.bks (xEz bg.2 HE.2.1) ba.1.ins ⟨HE.2.2.cnt,HE.2.2.ins⟩ ba.2 HC.2.1 HC.2.2 aa hints rfl).mono ?_;rintro e w5 ⟨ok,sa,sn,sc,ops,rfl,H5⟩;obtain⟨out,bv,bQ,bA,bH⟩:=H5.out;have j5:=j4.trans (bH.mono j4.size);have ag:=qH3 bv (ySe bg.2 rfl bQ) bA;have cR:=bH.size;clear H5 bv bQ bA;obtain⟨W6,au⟩:=qW (xw w5 #[ok,.slice sa sn sc,xi ops] 39);have bG:=qN au
 have cN:=qS au
 have dk:Hid (yA W6 W0 39 3 w5 [ok,.slice sa sn sc,xi ops]):=by rw[au];exact yAa w5 _ j5.size rfl
 have j6:=j5.trans (bG.mono j5.size);obtain⟨⟨a0,a1,a2⟩,bZ,_,_⟩:=HK.out W6 j6;have cC:=qH1 bZ;clear bZ;go_upto_region 9 with fail;rw[<-au];clear au;go_wp2_with fail;refine(yL3 u bs m _ cC.bks cC.ins hn).mono ?_;rintro e w7 ⟨gx,a3,a6,rfl,aY,bD,aV⟩;have cQ:=aV.size;obtain⟨W8,ar⟩:=qW (xw w7 #[xg gx bs.length bs.length,xg a3 m.l.length m.l.length,xi m.cnt] 34);have aU:=qN ar
 have dv:=qS ar
 have j7:=j6.trans (aV.mono j6.size);have dj:Hid (yA W8 W0 34 3 w7 [xg gx bs.length bs.length,xg a3 m.l.length m.l.length,xi m.cnt]):=by rw[ar];exact yAa w7 _ j7.size rfl
 have j8:=j7.trans (aU.mono j7.size);have af:=qH3 (aY.below aU) bD (λq hq=>aY.blk hq:(∀q,cdB (xg gx bs.length bs.length) (xg a3 m.l.length m.l.length) a6 q->W6.heap.size<=q/\q<w7.heap.size));have d7:=qH1 ((HK.out W8 j8).2.2.1);clear aY bD a0 a1 a2;go_upto_region 10 with fail;rw[<-ar];clear ar;go_wp2_with fail;refine(yD9 _ es W8 d7.out aa).mono ?_;rintro e w9 ⟨gy,rfl,aZ,an⟩;have dz:=an.size;have dM:=aZ.lt;have j9:=j8.trans (an.mono j8.size);have ae:=qH3 (af.1.below an) aZ ((HK.out w9 j9).2.2.2);have b8:=dj.below an;obtain⟨x0,x1,x2⟩:=b8.c3;have di:Hid (yA w9 W0 34 3 w7 [xg gx bs.length bs.length,xg a3 m.l.length m.l.length,xi m.cnt]):=b8;clear aZ b8;go_wp2_with fail;refine(yIg (m:=⟨xg a3 m.l.length m.l.length,m.cnt,m.l⟩) (ae.1.row.inB ae.1.each) (xEz af.2.1 HE.2.1) ae.1.main.in ⟨HE.2.2.cnt,HE.2.2.ins⟩ ae.2.1 HC.2.1 HC.2.2 aa ae.2.2 hints rfl).mono ?_;rintro e a8 ⟨ac,ia,im,ic,ab,rfl,cJ⟩;obtain⟨a4,him,bP,bz,ai⟩:=cJ.out;obtain⟨rfl,rfl,rfl⟩:=(ySe af.2.1 (n:=m) rfl bP).one ag.2.1;obtain rfl:im=sn:=by rw[him];exact ag.1.symm
 have bw:=ai.size;have a7:Hid (RowC a8 w9 (.slice ia im ic) a4/\im=a4.length/\a4.length<=1048576):=⟨bz,him,Nat.le_trans (xA5 ag.2.1) aa⟩;have aP:Below W0 W0 a8:=j9.trans (ai.mono j9.size);clear cJ him bP bz x0 x1 x2;obtain⟨ad,av⟩:=qW (xw a8 #[ac,.slice ia im ic,xi ab] 39);have ah:=qN av
 have dw:=qS av
 have aJ:Hid (RwJ W0 w4 w5 w7 a8 ac sa im sc a4 ab (xg gx bs.length bs.length) (xg a3 m.l.length m.l.length) m.cnt ia ic ad):=by
  have bu:Below W6 W6 W8:=aV.trans (aU.mono cQ);have aO:Below W6 W6 w9:=bu.trans (an.mono bu.size);have k6:Below W6 W6 ad:=(aO.trans (ai.mono aO.size)).trans (ah.mono (Nat.le_trans aO.size bw));have k9:Below w9 w9 ad:=ai.trans (ah.mono bw);have k5:Below w5 w5 ad:=bG.trans (k6.mono qo);have d3:yA ad W0 39 3 a8 [ac,.slice ia im ic,xi ab]:=by rw[av];exact yAa a8 _ aP.size rfl
  exact {bel:=aP.trans (ah.mono aP.size),bS:=dk.below k6,bX:=di.below k9,bI:=d3,rS:=ag.2.2.below k5,rl:=λq hq=>(ag.2.2.blk hq).2,le:=⟨j4.size,cR,qo,qo⟩}
 have aF:Hid (CdO ad W6 (xg gx bs.length bs.length) (xg a3 m.l.length m.l.length) a6 m.l/\OwnC ad W8 gy es.length es/\RowC ad w9 (.slice ia im ic) a4):=⟨(ae.1.below ai).below ah,(ae.2.1.below ai ae.2.1.lt.2).below ah qo,a7.1.below ah⟩;obtain⟨x0,x1,x2⟩:=aJ.bI.c3;obtain⟨y0,y1,y2⟩:=aJ.bS.c3;go_upto_region 12 with fail;rw[<-av];clear av;go_wp2_with fail;refine(yDw aF.2.2 a7.2.1 aJ.rS a7.2.1).mono ?_;rintro e a5 ⟨rfl,aq⟩;have dJ:=aq.size;have cA:=aJ.below aq;have aI:Hid (RwJ W0 w4 w5 w7 a8 ac sa im sc a4 ab (xg gx bs.length bs.length) (xg a3 m.l.length m.l.length) m.cnt ia ic a5):=cA;have ak:Hid (CdO a5 W6 (xg gx bs.length bs.length) (xg a3 m.l.length m.l.length) a6 m.l/\OwnC a5 W8 gy es.length es/\RowC a5 w9 (.slice ia im ic) a4):=⟨aF.1.below aq,aF.2.1.below aq qo,aF.2.2.below aq⟩;clear x0 x1 x2 y0 y1 y2 cA;obtain⟨x0,x1,x2⟩:=aI.bX.c3;obtain⟨⟨a0,a1,a2⟩,ce,_,_⟩:=HK.out a5 aI.bel;have dh:Hid (InCo a5 u m.v bs m):=ce;have d5:Hid (InCo a5 (xg gx bs.length bs.length) (xg a3 m.l.length m.l.length) a6 m):=⟨ak.1.row.inB ak.1.each,ak.1.main.in⟩;clear ce;have dt:W0.heap.size<=a5.heap.size:=aI.bel.size;go_upto_region 14 with fail;go_cut[48] (λs wx=>s=false/\Below a5 a5 wx);case first=>
  have cN:w7.heap.size<a5.heap.size:=qo
  have du:w.heap.size<a5.heap.size:=qo
  have HV:Hid (∀gs:List Bk,gs.map Bk.vw=bs.map Bk.vw->a6.map Bk.vw=gs.map Bk.vw):=λgs q=>by rw[af.2.1,q]
  go_region_with (first
   |(go_at_call 19;refine(yX0 a5 u bs m _ ?hB dh hn).mono ?_;(case hB=>(repeat (first|assumption|exact Below.refl _ _|refine Below.drew ?_)));rintro e w' ⟨g3,b6,aC,rfl,cG,dP,dN⟩)
   |(go_at_call 22;refine(yZt a5 _ _ _ _ a6 aC m _ ?hB d5 cG.1 (HV.out aC cG.2)).mono ?_;(case hB=>(repeat (first|assumption|exact Below.refl _ _|refine Below.drew ?_)));rintro e w' ⟨rfl,dO⟩))
  all_goals go_wp2_with fail
  all_goals go_meet
  all_goals exact⟨rfl,by assumption⟩
 case rest=>
 obtain⟨rfl,ao⟩:=hcut;obtain⟨a9,cP⟩:=qW wc;subst cP;have dI:=ao.size;have cz:Hid (RwJ W0 w4 w5 w7 a8 ac sa im sc a4 ab (xg gx bs.length bs.length) (xg a3 m.l.length m.l.length) m.cnt ia ic a9):=aI.below ao;have aE:Hid (CdO a9 W6 (xg gx bs.length bs.length) (xg a3 m.l.length m.l.length) a6 m.l/\OwnC a9 W8 gy es.length es/\RowC a9 w9 (.slice ia im ic) a4):=⟨ak.1.below ao,ak.2.1.below ao qo,ak.2.2.below ao⟩;have da:Hid (yEz a9 (.slice va vn vc) es):=(HK.out a9 cz.bel).2.2.1;clear x0 x1 x2 a0 a1 a2;go_wp2_with fail;refine(yD9 _ es a9 da.out aa).mono ?_;rintro e bo ⟨gz,rfl,bW,aX⟩;have dH:=aX.size;have cl:Hid (OwnC bo a9 gz es.length es/\OwnC bo W8 gy es.length es):=⟨bW,aE.2.1.below aX qo⟩;clear bW;go_wp2_with fail;refine(yKd cl.2 cl.1).mono ?_;rintro e al ⟨rfl,bN⟩;have dG:=bN.size;have az:Below a9 a9 al:=aX.trans (bN.mono qo);have ax:Hid (RwJ W0 w4 w5 w7 a8 ac sa im sc a4 ab (xg gx bs.length bs.length) (xg a3 m.l.length m.l.length) m.cnt ia ic al):=cz.below az;have aD:Hid (CdO al W6 (xg gx bs.length bs.length) (xg a3 m.l.length m.l.length) a6 m.l/\OwnC al W8 gy es.length es/\RowC al w9 (.slice ia im ic) a4):=⟨aE.1.below az,aE.2.1.below az qo,aE.2.2.below az⟩;obtain⟨x0,x1,x2⟩:=ax.bX.c3;obtain⟨dL,cT⟩:yA6 a6<=12582912/\∀x∈a6,x.l.length<=1048576:=xBu af.2.1 hn;go_wp2_with fail;refine(yP1 aD.1 1 qj qj qo cT qo).mono ?_;rintro e ay ⟨rfl,am⟩;have dF:=am.size;have dg:Hid (RwJ W0 w4 w5 w7 a8 ac sa im sc a4 ab (xg gx bs.length bs.length) (xg a3 m.l.length m.l.length) m.cnt ia ic ay):=ax.chg am (λq z=>qv (af.2.2 q z) ax.le);have b9:Hid (OwnC ay W8 gy es.length es/\RowC ay w9 (.slice ia im ic) a4):=⟨yAh aD.2.1 am (λk hk z=>by
  have h8:gy=k:=by simpa [Value.ownBlock]using hk
  have:=af.2.2 k z;omega),aD.2.2.chg am (λk hk z=>qv ((aD.2.2.blk hk).1) (af.2.2 k z))⟩
 clear am x0 x1 x2;go_wp2_with fail;refine(yF7 W8 gy es.length es (1+(yA6 a6:Int)+(m.l.length:Int)*11) _ b9.1 qo qo aa).mono ?_;rintro e aN ⟨fy,rfl,_,_,_,aR⟩;have dE:=aR.size;have aT:Chg (λk=>k=gy) ay aN:=Chg.of_grown aR (λk q=>by cases q;rfl);have aH:Hid (RwJ W0 w4 w5 w7 a8 ac sa im sc a4 ab (xg gx bs.length bs.length) (xg a3 m.l.length m.l.length) m.cnt ia ic aN):=dg.chg aT (λq z=>qw ax.le);have cm:Hid (RowC aN w9 (.slice ia im ic) a4):=b9.2.chg aT (λk hk z=>qw ((b9.2.blk hk).1));have cV:¬(1+(yA6 a6:Int)+(m.l.length:Int)*11+(es.length:Int)*5<0):=qo
 clear aR aT;obtain⟨x0,x1,x2⟩:=aH.bI.c3;obtain⟨y0,y1,y2⟩:=aH.bS.c3;go_wp2_with fail;refine(yDw cm.out a7.2.1 aH.rS a7.2.1).mono ?_;rintro e dq ⟨rfl,aW⟩;have dD:=aW.size;have cy:=qH1 (aH.below aW);have d6:=qH1 (cm.below aW);clear cV x0 x1 x2 y0 y1 y2;obtain⟨x0,x1,x2⟩:=cy.bI.c3;go_wp2_with fail;refine(yJx d6.out a7.2.1 a7.2.2).mono ?_;rintro e dp ⟨fz,rfl,bT,aQ,bB,aS⟩;have dC:=aS.size;have cw:=qH1 (cy.chg aS (λq z=>qv (a7.1.blk z) ax.le));have aK:=qH4 bT (by rw[aQ];exact a7.2.1:im=fz.length) (by rw[aQ];exact a7.2.2:fz.length<=1048576) bB;clear bT aQ bB aS x0 x1 x2;obtain⟨x0,x1,x2⟩:=cw.bI.c3;go_wp2_with fail;refine(yJ7 aK.1 aK.2.1 aK.2.2.1 aK.2.2.2).mono ?_;rintro e cL ⟨rfl,bM⟩;have dA:=bM.size;have cu:=qH1 (cw.below bM);have cU:¬(1+(im:Int)*5<0):=qo
 obtain⟨⟨a0,a1,a2⟩,c0,_,_⟩:=HK.out cL cu.bel;have cD:=qH1 c0;clear c0 x0 x1 x2;go_wp2_with fail;refine(yHd u bs m _ cD.bks cD.ins hn).mono ?_;rintro e aM ⟨d1,cj,d2,rfl,ci,bE,cg,cZ⟩;have ct:=qH1 (cu.below cZ);have bj:=qH2 (⟨ci,cg⟩:InCo aM (xg d1 bs.length bs.length) (xg cj m.l.length m.l.length) d2 m) bE;have d9:=qH1 ((HK.out aM ct.bel).2.2.1);clear ci bE cg a0 a1 a2 cU;go_wp2_with fail;refine(yD9 _ es aM d9.out aa).mono ?_;rintro e cK ⟨dQ,rfl,bV,bL⟩;have co:=qH1 (ct.below bL);have aG:=qH3 (bj.1.below bL) bV ((HK.out cK co.bel).2.2.2);clear bV;go_wp2_with fail;refine(yIg (m:=⟨xg cj m.l.length m.l.length,m.cnt,m.l⟩) aG.1.bks (xEz bj.2 HE.2.1) aG.1.ins ⟨HE.2.2.cnt,HE.2.2.ins⟩ aG.2.1 HC.2.1 HC.2.2 aa aG.2.2 hints rfl).mono ?_;rintro e aL ⟨bt,ja,jm,jc,bq,rfl,cH⟩;obtain⟨dr,bC,bO,bx,cY⟩:=cH.out;obtain⟨rfl,rfl,rfl⟩:=(ySe bj.2 (n:=m) rfl bO).one ag.2.1;obtain rfl:jm=im:=by rw[bC];exact ag.1.symm
 have cn:=qH1 (co.below cY);have df:=qH1 bx;clear cH bC bO bx;obtain⟨d4,aB⟩:=qW (xw aL #[bt,.slice ja jm jc,xi bq] 39);have bK:=qN aB
 have dl:Hid (yA d4 W0 39 3 aL [bt,.slice ja jm jc,xi bq]):=by rw[aB];exact yAa aL _ cn.bel.size rfl
 have bf:=qH1 (cn.below bK);have de:=qH1 (df.below bK);obtain⟨x0,x1,x2⟩:=dl.c3;obtain⟨y0,y1,y2⟩:=bf.bS.c3;go_upto_region 32 with fail;rw[<-aB];clear aB;go_wp2_with fail;refine(yDw de.out a7.2.1 bf.rS a7.2.1).mono ?_;rintro e dn ⟨rfl,cX⟩;have cM:=aj.trans ((bf.below cX).bel.mono qo);go_wp2;go_ret;exact⟨rfl,cM⟩
end Go.Proofs.YtnnagkfoiganfaaGreatDoor.exRunCode
