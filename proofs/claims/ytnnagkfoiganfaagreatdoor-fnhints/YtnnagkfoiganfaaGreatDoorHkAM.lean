import Derived.Test.YtnnagkfoiganfaaGreatDoorHkAI
import Derived.Test.YtnnagkfoiganfaaGreatDoorHkAH
namespace Go.Proofs.YtnnagkfoiganfaaGreatDoor
open Go.ChangeShapes Go.WideShapes Go.ChangeAt Go.RowKit Go.Deep XD XI XU XG XP XK XW XT XF XE XH XY _root_.List _root_.Nat Go.Proofs.Tryz
open _root_.List renaming getElem?_eq_getElem->AA,mem_or_eq_of_mem_set->AB,mem_of_getElem?->AC
set_option linter.unusedVariables false
set_option linter.unusedSimpArgs false
set_option maxRecDepth 100000
set_option maxHeartbeats 64000000
variable {S:Nat->Prop} {f x0 x1:Ent} {p:Prop} {w w1 W W':Ww} {n O cb g cp len:Nat} {bv:Vv} {L:List Ent}
section
def DeR(w W:Ww)(g cp len:Nat):Prop:=∃es:List Ent,len=es.length/\(∀e∈es,e.fine)/\OwnE W w g cp es
section
theorem DeR.lt(h:DeR w W g cp len):w.heap.size<=g/\g<W.heap.size:=by obtain⟨xs,h1,h2,h3⟩:=h;exact h3.lt
theorem DeR.i(h:DeR w W g cp len)(hc:Chg S W W')(hn:¬S g):DeR w W' g cp len:=by obtain⟨xs,h1,h2,h3⟩:=h;exact⟨xs,h1,h2,yAg h3 hc (λk q=>by simp[Value.ownBlock]at q;subst q;exact hn)⟩
theorem DeR.caps(h:DeR w W g cp len):len<=cp:=by
 obtain⟨es,rfl,-,-,⟨h,-⟩|⟨_,_,_,h,_,_,h2,_⟩⟩:=h
 .cases h
 .cases h;exact h2
theorem DeR.go(hd:DInv O cb bv n w W)(h:DeR w W g cp len)(hd':DInv O cb bv n W W'):DInv O cb bv n w W'/\DeR w W' g cp len:=
 ⟨⟨hd'.d,hd.c.trans hd'.c,hd.lt,hd.hb⟩,h.i hd'.c (qv h.lt hd.lt)⟩
variable {ops:Array Oper} {rest:List Oper} {o:Oper} {a:Act} {Q:Exit->Act->Ww->Prop} {s x:Operand}
theorem apE(hgd:o.guard=none)(ho:o.op=.call {callee:=.builtin .append,args:=#[s,x],argTypes:=#[87,87]})
  (hs:a.eval s=(xg g len cp)) (hx:a.eval x=(xg W 1 1)) (HA:Hid (DInv O cb bv n w W/\DeR w W g cp len)) (hf:f.fine) (hl:len<=1000)
  (h:∀g' cp' w',Hid (DInv O cb bv n w w'/\DeR w w' g' cp' (len+1))->wpList prog ops Q rest (a.put o.dst (xg g' (len+1) cp')) w'):wpList prog ops Q (o::rest) a (xw W #[f.j,f.E,f.C,xu f.ts,xi f.f,f.val] 165):=by
 have hb:Below W W (xw W #[f.j,f.E,f.C,xu f.ts,xi f.f,f.val] 165):=qB;obtain⟨HD,es,rfl,h2,h3⟩:=HA;have hd:=HD.k hb;refine wpA hgd (apK yNx ho w es [f] hs hx rfl rfl (h3.k hb h3.lt.2) (show OwnE _ W W 1 [f]from yAa W _ qr rfl).at (lN (by omega)) hd.c.size λg' cp' w' hO hgr _=>h g' cp' w' ⟨hd.grow hgr (λk q=>by cases q;exact h3.lt.1),es++ [f],by simp,λe he=>?_,hO⟩);rcases List.mem_append.1 he with q|q
 .exact h2 e q
 .simp at q;subst q;exact hf
end
def WrI(O cb:Nat)(bv:Vv)(n:Nat)(w:Ww)(nv iv:Vv)(W:Ww):Prop:=∃i g cp len:Nat,iv=(xi i)/\nv=(xg g len cp)/\i<=100/\len<=i/\Hid (DInv O cb bv n w W/\DeR w W g cp len)
theorem zWa (h:p:=by
 refine wGen (by exact zN:EE O cb bv n w3 eb _) ?_;intro W H;obtain⟨f,-,hf,⟨k0,k1,k2,k3,k4,k5⟩,z⟩:=EE.ec H;have HX:=qH1 (H3.2.go H3.1 H.dinv);go_wp2_with (at_builtin;refine apE rfl rfl rfl rfl HX hf qo ?_);intro g4 c4 w4 H4;refine zX ?_;exact⟨i+1,g4,c4,_,rfl,rfl,qo,qo,H4⟩):p:=h
theorem xC4(O cb:Nat)(bv:Vv)(n:Nat)(most:Nat) w (h:DInv O cb bv n w w) (hm:most<=100):
  Calls prog 79 #[xp cb,xi most] w λr w'=>∃g cp len:Nat,r=.returned (xg g len cp)/\len<=100/\Hid (DInv O cb bv n w w'/\DeR w w' g cp len):=by
 have HD:=qH1 h;clear h;go_enter func79,ntmps79;go_wp2_with fail;refine(yAp O cb bv n ((most:Int)/2+1) _ HD.d qo qo).mono ?_;rintro e w1 ⟨x,rfl,hx0,hx1,hd⟩;have H1:=qH1 (HD.call hd);have H2:Hid (DInv O cb bv n w (xw w1 #[] 165)/\DeR w (xw w1 #[] 165) w1 0 0):=⟨H1.k (qB),[],rfl,λe he=>(by cases he),World.ownsRow_made w1 #[] 0 hd.2.size (Nat.zero_le _) (by simp)⟩;have hN:(most:Int)/2+x<=100:=qo
 obtain⟨N,hN2⟩:=qE ((most:Int)/2+x);rw[<-hN2]at hN;clear hd;go_wp2_with fail;rw[<-hN2];clear hN2 hx0 hx1;go_loopw[6,7] (λnv iv wr=>WrI O cb bv n w nv iv wr) (λ_ i _=>200-(intOf i).toNat);case atStart=>exact⟨0,_,0,0,rfl,rfl,qo,qo,H2.out⟩
 case round=>
  obtain⟨i,g,cp,len,rfl,rfl,hi,hl,HX⟩:=hrel;by_cases hlt:(i:Int)<N
  .go_wp2_with fail;refine(xGt O cb bv n _ HX.1.d).mono ?_;rintro e w3 ⟨f,rfl,hf,hd⟩;have H3:=qH1 (HX.2.go HX.1 ((DInv.start HX.1.d).call hd));obtain⟨W4,hW4⟩:=qE (xw w3 #[.string f.j,.string f.E,.string f.C,.int .u64 f.ts,.int .i64 f.f,.string f.val] 165:Ww);have H4:EE O cb bv n w3 w3.heap.size W4:=BX.new hd.1 ⟨f,rfl,hf⟩ rfl hW4;obtain⟨eb,heb⟩:=qE w3.heap.size;rw[<-heb]at H4;have hge:¬g=eb:=by have:=H3.2.lt;omega
   have hgl:=H3.2.lt.2;clear hd hf;go_upto_region 7 with fail;rw[<-hW4,<-heb];clear hW4 heb;by_cases h0:len=0
   .have z0:¬(0:Int)<(len:Int):=qo
    clear h0;go_upto_region 12 with fail;exact zWa
   .have h0':(0:Int)<(len:Int):=qo
    go_wp2_with fail;refine(yBb O cb bv n 2 _ H4.dinv.d qo qo).mono ?_;rintro e w5 ⟨v,rfl,hv,hd⟩;have H5:=(H4.call hd).1;clear hd;rcases hv with rfl|rfl
    .go_wp2_with fail;refine(yAp O cb bv n (len:Int) _ H5.dinv.d qo qo).mono ?_;rintro e w6 ⟨j,rfl,hj0,hj1,hd⟩;obtain⟨j,rfl⟩:∃k:Nat,j=(k:Int):=⟨j.toNat,qo⟩;obtain⟨f6,H6,hf6,⟨k0,k1,k2,k3,k4,k5⟩,z⟩:=EE.ec (H5.call hd).1;obtain⟨-,es,hel,hes,hO⟩:=H3.2.go H3.1 H6.dinv;obtain⟨y,hy⟩:∃y,es[j]?=some y:=⟨_,AA qo⟩;obtain⟨d0,d1,d2,d3,d4,d5⟩:=hO.at j y hy;simp only[Nat.zero_add]at d0 d1 d2 d3 d4 d5;have hyf:=hes y (AC hy);have hy1:=hyf.j;have hy2:=hyf.E;have hy3:=hyf.C;have hcp:=H3.2.caps;clear hd hel hes hO hy hyf;go_upto_region 12 with fail;exact zWa
    .go_upto_region 12 with fail;exact zWa
  .go_wp2_with fail;go_ret;exact⟨g,cp,len,rfl,qo,HX.out⟩
end
def CelP(O cb:Nat)(bv:Vv)(n:Nat)(w:Ww)(e:Ending)(w':Ww):Prop:=∃(g cp:Nat)(L:List Ent),e=.returned (xg g L.length cp)/\L.length<=100/\Hid (OwnC w' w g cp L/\DInv O cb bv n w w'/\(∀e∈L,e.ok)/\(∀e∈L,e.f=0))
theorem yK2(O cb:Nat)(a:Option Addr)(n cap:Nat) w (h:yAm O cb (.slice a n cap) n w) (hn:n<=1048576):
  Calls prog 33 #[xp cb,.slice a n cap] w (CelP O cb (.slice a n cap) n w):=by
 have HD:Hid (DInv O cb (.slice a n cap) n w w):=DInv.start h;clear h;go_enter func33,ntmps33;go_wp2_with fail;refine(yWi a n cap w hn).mono ?_;rintro e w1 ⟨k,rfl,hk,rfl⟩;have HW:=xC4 O cb (.slice a n cap) n (k+6) w1 HD.out (by omega);rw[show((k+6:Nat):Int)=(k:Int)+6 by omega]at HW;go_wp2_with fail;refine HW.mono ?_;rintro e w2 ⟨g,cp,len,rfl,hl,HL⟩;obtain⟨es,hel,hes,hO⟩:=HL.2;have HE:=qH1 hes;have HR:=xDm g 0 cp es w2 hO.at (λe he=>(hes e he).ok) hO.lt.2 qo;rw[<-hel]at HR;have HN:=qH1 hel;clear HW hes hO hel;go_wp2_with fail;refine HR.mono ?_;rintro e w3 ⟨g3,c3,L,rfl,hO3,hb3,hR3⟩
 have HE:Hid (CelP O cb (.slice a n cap) n w1 (.returned (xg g3 L.length c3)) w3):=
  ⟨g3,c3,L,rfl,by have:=HN.out;have:=hR3.1;omega,hO3.mono HL.1.c.size,HL.1.k hb3,λe he=>(hR3.2 e he).1,λe he=>(hR3.2 e he).2⟩
 clear hO3 hb3 hR3 HR;go_wp2_with fail;go_ret;exact HE.out
section
def DmeP(w:Ww)(e:Ending)(w':Ww):Prop:=∃(b o c:Nat)(ys:List Nd)(g cp:Nat)(L:List Ent),e=.returned (.tuple #[.agg #[(xy b o ys.length c)],xg g L.length cp])/\ys.length<=1001/\L.length<=100/\Hid (((∀e∈ys,e.ok)/\yD1 w' b o ys/\(w<=b/\b<w')/\(ys.length<=c/\c<=maxLen))/\(OwnC w' w g cp L/\(∀e∈L,e.ok)/\(∀e∈L,e.f=0))/\Below w w w')
theorem xEv{wr:Ww}(h:DInv O cb bv n w1 wr)(hl:Below w w w1)(hc:w<cb):Below w w wr:=Chg.k hl h.c hl.size (λk q=>qo)
def DmF(O cb:Nat)(bv:Vv)(n:Nat)(w1:Ww)(tb b o c len:Nat)(W:Ww):Prop:=¬b=tb/\yA W w1 25 1 tb [(xy b o len c)]/\DInv O cb bv n w1 W/\AnyR Nd.ok w1 W b o len c
def DmL(w1:Ww)(g cp len:Nat)(W:Ww):Prop:=∃L:List Ent,len=L.length/\(∀e∈L,e.ok)/\(∀e∈L,e.f=0)/\OwnC W w1 g cp L
section
variable {tb b o c k:Nat}
theorem DmF.go(h:DmF O cb bv n w1 tb b o c len W)(hd:DInv O cb bv n W W'):DmF O cb bv n w1 tb b o c len W':=by have h1:=h.2.1.lt;have h2:=h.2.2.1.lt;have h3:=h.2.2.2.2.1;exact⟨h.1,h.2.1.i hd.c qo,⟨hd.d,h.2.2.1.c.trans hd.c,h2,h.2.2.1.hb⟩,h.2.2.2.i hd.c qo⟩
theorem xHy(h:DmF O cb bv n w1 tb b o c len W)(hl:len<=1001)(hL:DmL w1 g cp k W)(hk:k<=100)(hb:Below w w w1)(hc:w<cb)(hr:yA w1 w 25 1 w [.slice none 0 0]):∃WF,WF=W.setCell (xd w.heap.size 0) (.slice (some ⟨b,o,none⟩) len c)/\W.cell? (xd w.heap.size 0)=some (.slice none 0 0)/\W.frozen? ⟨w.heap.size,0,none⟩=false/\WF.cell? ⟨w.heap.size,0,none⟩=some (.slice (some ⟨b,o,none⟩) len c)/\Hid (DmeP w (.returned (.tuple #[.agg #[(xy b o len c)],.slice (some ⟨g,0,none⟩) k cp])) WF):=by obtain⟨-,-,hd,⟨ys,rfl,q1,q2⟩,q3,q4⟩:=h;obtain⟨L,rfl,l1,l2,l3⟩:=hL;have hr':=hr.i hd.c qo;have hw:=hr.lt.2;have hg:=l3.lt;have hcF:Chg (λk=>k=w) W (W.setCell ⟨w.heap.size,0,none⟩ (.slice (some ⟨b,o,none⟩) ys.length c)):=Chg.D _ _ _ _ rfl;have hl2:=xEv hd hb hc;exact⟨_,rfl,hr'.z rfl,hr'.frozen 0,(hr'.set 0 _).z rfl,b,o,c,ys,g,cp,L,rfl,hl,hk,⟨q1,yXh q2 hcF q3.2 (by omega),⟨by omega,Nat.lt_of_lt_of_le q3.2 hcF.size⟩,q4⟩,⟨yAg (l3.mono (Nat.le_of_lt hw)) hcF (λk q z=>by simp[Value.ownBlock]at q;omega),l1,l2⟩,Chg.k hl2 hcF hl2.size (λk q=>by omega)⟩
theorem xEm(h:DmF O cb bv n w1 tb b o c len W)(l1:∀e∈L,e.ok)(l2:∀e∈L,e.f=0)(l3:OwnC W w1.heap.size g cp L)(hg:b<g/\tb<g)(h0:L[0]?=some x0)(h1:L[1]?=some x1):∃W9,W9=(((((W.setCell ⟨g,0,none⟩ (.string x1.j)).setCell ⟨g,1,none⟩ (.string x1.E)).setCell ⟨g,2,none⟩ (.string x1.C)).setCell ⟨g,3,none⟩ (.int .u64 x1.ts)).setCell (xd g 4) (.string x1.val))/\Hid (DmF O cb bv n w1 tb b o c len W9)/\Hid (DmL w1 g cp L.length W9):=by
 have hp:=l3.put 0 x0 x1 h0;simp only[Nat.zero_mul,Nat.zero_add]at hp;have hm:=AC h1;have hs:∀W j u,DmF O cb bv n w1 tb b o c len W->DmF O cb bv n w1 tb b o c len (xt W g j u):=λW j u h=>by have hq:=h.2.2.2.put h.2.2.1 l3.lt.1 qo j u;exact⟨h.1,h.2.1.i (Chg.D (S:=λk=>k=g) _ _ _ _ rfl) qo,hq.1,hq.2⟩
 exact⟨_,rfl,hs _ _ _ (hs _ _ _ (hs _ _ _ (hs _ _ _ (hs _ _ _ h)))),L.set 0 x1,by simp,λe he=>(AB he).elim (l1 e) (λq=>by rw[q];exact l1 _ hm),λe he=>(AB he).elim (l2 e) (λq=>by rw[q];exact l2 _ hm),hp⟩
end
theorem zDm(h:p:=by have⟨WF,hWF,r0,rf,p0,HZ⟩:=HF _ _ _ _ _ _ _ _ _ H9 hl HL9 hL;have t6:=H9.2.1.z (j:=0) rfl;go_wp2_with fail;rw[<-hWF];exact bodyPost_ret (v:=.tuple #[.agg #[(xy b o len c)],xg gl M cl]) (by simp[results,results6,go_sem,p0]) rfl HZ):p:=h
theorem yIu(bv:Vv)(n:Nat)(w:Ww)(h:yDp w w bv n):Calls prog 6 #[bv] w (DmeP w):=by
 obtain⟨a,cap,rfl⟩:=h.slice;have hn:=h.1;have⟨W0,hW0⟩:=qE (xw w #[.slice none 0 0] 25:Ww);have hb0:Below w.heap.size w W0:=hW0▸qB
 have hz0:W0.heap.size=w+1:=by rw[hW0];simp
 have hr0:yA W0 w.heap.size 25 1 w.heap.size [.slice none 0 0]:=hW0▸(yAa w _ (Nat.le_refl _) rfl)
 have H0:=qH1 (h.up hb0);go_enter func6,ntmps6;go_wp2_with fail;rw[<-hW0];clear hW0;apply (xAr _ n W0 H0.out).mono;rintro e w1 ⟨rfl,hD1,hb1⟩;have⟨cb,hcb⟩:=qE W0.heap.size;rw[<-hcb]at hD1|-;have H1:=qH1 hD1;have HF:Hid (∀W b o c len tb g cp k,DmF cb cb (.slice a n cap) n w1 tb b o c len W->len<=1001->DmL w1 g cp k W->k<=100->_):=λW b o c len tb g cp k q1 q2 q3 q4=>xHy q1 q2 q3 q4 (hb0.trans (hb1.mono hb0.size)) qo (hr0.k hb1);clear hD1 hb1 hcb H0 h hb0 hz0 hr0;go_wp2_with fail;apply (yFj cb cb (.slice a n cap) n w1 H1.out).mono;rintro e w2 ⟨b,o,c,len,rfl,h0,hl,K⟩;have⟨tb,htb⟩:=qE w2.heap.size;have⟨W3,hW3⟩:=qE (w2.alloc (Obj.cells #[(xy b o len c)] 25):Ww);have H3:Hid (DmF cb cb (.slice a n cap) n w1 tb b o c len W3):=by
  have k3:Below w2.heap.size w2 W3:=hW3▸qB
  exact⟨by have:=K.2.2.1;omega,by rw[hW3,htb];exact yAa w2 _ K.1.c.size rfl,K.1.k k3,K.2.ok.k k3⟩
 clear K;go_upto_region 3 with fail;rw[<-hW3,<-htb];clear hW3 htb;go_wp2_with fail;apply (yBb cb cb (.slice a n cap) n 12 _ H3.2.2.1.d qo qo).mono;rintro e w4 ⟨v,rfl,hv,hd⟩;have H4:=qH1 (H3.go ((DInv.start H3.2.2.1.d).call hd));clear hd H3;go_upto_if 12 with fail;go_cut[] (λwx=>∃b o c len,len<=1001/\Hid (DmF cb cb (.slice a n cap) n w1 tb b o c len wx));case first=>
  rcases hv with rfl|rfl
  .go_wp2_with fail;apply (yPp cb cb (.slice a n cap) n w4 H4.2.2.1.d).mono;rintro e w5 ⟨b5,o5,c5,len5,rfl,-,hl5,K⟩;have H5:=H4.go K.1;have t0:=H5.2.1.z (j:=0) rfl;have tf:=H5.2.1.frozen 0;have hb5:=K.2.2.1;have ht:=H4.2.1.lt;have hA:=H4.2.2.1.upA K;have hq:=hA.2.put hA.1 ht.1 qo 0 (.slice (some ⟨b5,o5,none⟩) len5 c5);have HQ:Hid (DmF cb cb (.slice a n cap) n w1 tb b5 o5 c5 len5 (w5.setCell ⟨tb,0,none⟩ (.slice (some ⟨b5,o5,none⟩) len5 c5))):=⟨qo,H5.2.1.set 0 _,hq.1,hq.2⟩;clear H5 hA hq K;go_wp2_with fail;go_meet;exact⟨_,_,_,_,hl5,HQ⟩
  .go_wp2_with fail;go_meet;exact⟨_,_,_,_,qo,H4⟩
 case rest=>
  clear hv H4;have⟨b,o,c,len,hl,H⟩:=hcut;go_wp2_with fail;apply (yK2 cb cb a n cap _ H.2.2.1.d hn).mono;rintro e w7 ⟨gl,cl,L,rfl,hL,K⟩;have H7:=qH1 (H.go K.2.1);have HL:Hid (OwnC w7 w1.heap.size gl cl L/\(∀e∈L,e.ok)/\(∀e∈L,e.f=0)/\b<gl/\tb<gl):=⟨K.1.mono H.2.2.1.c.size,K.2.2.1,K.2.2.2,by have:=K.1.lt;have:=H.2.2.2.2.1;omega,by have:=K.1.lt;have:=H.2.1.lt;omega⟩;have⟨M,hM⟩:=qE L.length;have HM:Hid (M=L.length):=hM;rw[<-hM]at hL|-;clear K hM H;have hclm:M<=cl/\cl<=9223372036854775807:=by have:=HL.1.caps;unfold maxLen at this;have:=HM.out;omega
  go_wp2_with fail;apply (yBb cb cb (.slice a n cap) n 25 _ H7.2.2.1.d qo qo).mono;rintro e w8 ⟨v,rfl,hv,hd⟩;have H9:Hid (DmF cb cb (.slice a n cap) n w1 tb b o c len w8):=H7.go ((DInv.start H7.2.2.1.d).call hd);have hO:Hid (OwnC w8 w1.heap.size gl cl L):=yAg HL.1 hd.2 (λk q z=>by simp[Value.ownBlock]at q;have:=H9.2.2.1.lt;have:=HL.1.lt;omega);have HL9:Hid (DmL w1 gl cl M w8):=⟨L,HM,HL.2.1,HL.2.2.1,hO⟩;clear hd;rcases hv with rfl|rfl
  .by_cases hM1:1<M
   .have zk:(1:Int)<(M:Int):=qo
    obtain⟨x0,hx0⟩:∃x,L[0]?=some x:=⟨_,AA (by have:=HM.out;omega)⟩;obtain⟨x1,hx1⟩:∃x,L[1]?=some x:=⟨_,AA (by have:=HM.out;omega)⟩;have⟨d0,d1,d2,d3,d4⟩:=hO.at 1 x1 hx1;have⟨e0,e1,e2,e3,e4⟩:=hO.at 0 x0 hx0;simp only[Nat.zero_add,Nat.zero_mul,Nat.one_mul]at d0 d1 d2 d3 d4 e0 e1 e2 e3 e4;have hfz:=λj=>World.ownsRow.frozenAt hO j;have⟨W9,hW9,H9,HL9⟩:=xEm H9 HL.2.1 HL.2.2.1 hO HL.2.2.2 hx0 hx1;rw[<-HM]at HL9;clear hx0 hx1;go_upto_region 8 with fail;rw[<-hW9];clear hW9 d0 d1 d2 d3 d4 e0 e1 e2 e3 e4 hfz;exact zDm
   .have zk:¬(1:Int)<(M:Int):=qo
    exact zDm
  .exact zDm
end
end Go.Proofs.YtnnagkfoiganfaaGreatDoor
