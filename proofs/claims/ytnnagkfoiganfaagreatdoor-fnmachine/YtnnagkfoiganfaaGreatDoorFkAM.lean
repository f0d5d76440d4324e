import Derived.Test.YtnnagkfoiganfaaGreatDoorFkAJ
import Derived.Test.YtnnagkfoiganfaaGreatDoorFkAI
namespace Go.Proofs.YtnnagkfoiganfaaGreatDoor
open Go.ChangeShapes Go.WideShapes Go.ChangeAt Go.RowKit Go.Deep XD XI XU XG XP XK XW XT XF XE XH XY _root_.List _root_.Nat Go.Proofs.Tryz
open _root_.List renaming mem_or_eq_of_mem_set->AA,getElem?_eq_getElem->AB
set_option linter.unusedVariables false
set_option linter.unusedSimpArgs false
set_option maxRecDepth 100000
set_option maxHeartbeats 64000000
variable {w1 wr w:Ww} {n O cb g o cp:Nat} {bv:Vv} {x0 x1:Ent} {L:List Ent} {p:Prop} {es xs:List Nd}
section
def DmeP(w:Ww)(e:Ending)(w':Ww):Prop:=∃(b o c:Nat)(ys:List Nd)(g cp:Nat)(L:List Ent),e=.returned (.tuple #[.agg #[(xy b o ys.length c)],xg g L.length cp])/\ys.length<=1001/\L.length<=100/\Hid (((∀e∈ys,e.ok)/\yCq w' b o ys/\(w<=b/\b<w')/\(ys.length<=c/\c<=maxLen))/\(OwnC w' w g cp L/\(∀e∈L,e.ok)/\(∀e∈L,e.f=0))/\Below w w w')
theorem xIw(h:DInv O cb bv n w1 wr)(hl:Below w w w1)(hc:w<cb):Below w w wr:=Chg.k hl h.c hl.size (λk q=>qo)
def DmF(O cb:Nat)(bv:Vv)(n:Nat)(w1:Ww)(tb b o c len:Nat)(W:Ww):Prop:=¬b=tb/\yA W w1 25 1 tb [(xy b o len c)]/\DInv O cb bv n w1 W/\AnyR Nd.ok w1 W b o len c
def DmL(w1:Ww)(g cp len:Nat)(W:Ww):Prop:=∃L:List Ent,len=L.length/\(∀e∈L,e.ok)/\(∀e∈L,e.f=0)/\OwnC W w1 g cp L
section
variable {W W':Ww} {tb b c len k:Nat}
theorem DmF.go(h:DmF O cb bv n w1 tb b o c len W)(hd:DInv O cb bv n W W'):DmF O cb bv n w1 tb b o c len W':=by have h1:=h.2.1.lt;have h2:=h.2.2.1.lt;have h3:=h.2.2.2.2.1;exact⟨h.1,h.2.1.i hd.c qo,⟨hd.d,h.2.2.1.c.trans hd.c,h2,h.2.2.1.hb⟩,h.2.2.2.i hd.c qo⟩
theorem xL3(h:DmF O cb bv n w1 tb b o c len W)(hl:len<=1001)(hL:DmL w1 g cp k W)(hk:k<=100)(hb:Below w w w1)(hc:w<cb)(hr:yA w1 w 25 1 w [.slice none 0 0]):∃WF,WF=W.setCell (xd w.heap.size 0) (.slice (some ⟨b,o,none⟩) len c)/\W.cell? (xd w.heap.size 0)=some (.slice none 0 0)/\W.frozen? ⟨w.heap.size,0,none⟩=false/\WF.cell? ⟨w.heap.size,0,none⟩=some (.slice (some ⟨b,o,none⟩) len c)/\Hid (DmeP w (.returned (.tuple #[.agg #[(xy b o len c)],.slice (some ⟨g,0,none⟩) k cp])) WF):=by obtain⟨-,-,hd,⟨ys,rfl,q1,q2⟩,q3,q4⟩:=h;obtain⟨L,rfl,l1,l2,l3⟩:=hL;have hr':=hr.i hd.c qo;have hw:=hr.lt.2;have hg:=l3.lt;have hcF:Chg (λk=>k=w) W (W.setCell ⟨w.heap.size,0,none⟩ (.slice (some ⟨b,o,none⟩) ys.length c)):=Chg.D _ _ _ _ rfl;have hl2:=xIw hd hb hc;exact⟨_,rfl,hr'.z rfl,hr'.frozen 0,(hr'.set 0 _).z rfl,b,o,c,ys,g,cp,L,rfl,hl,hk,⟨q1,xAa q2 hcF q3.2 (by omega),⟨by omega,Nat.lt_of_lt_of_le q3.2 hcF.size⟩,q4⟩,⟨yAh (l3.mono (Nat.le_of_lt hw)) hcF (λk q z=>by simp[Value.ownBlock]at q;omega),l1,l2⟩,Chg.k hl2 hcF hl2.size (λk q=>by omega)⟩
theorem xIp(h:DmF O cb bv n w1 tb b o c len W)(l1:∀e∈L,e.ok)(l2:∀e∈L,e.f=0)(l3:OwnC W w1.heap.size g cp L)(hg:b<g/\tb<g)(h0:L[0]?=some x0)(h1:L[1]?=some x1):∃W9,W9=(((((W.setCell ⟨g,0,none⟩ (.string x1.j)).setCell ⟨g,1,none⟩ (.string x1.E)).setCell ⟨g,2,none⟩ (.string x1.C)).setCell ⟨g,3,none⟩ (.int .u64 x1.ts)).setCell (xd g 4) (.string x1.val))/\Hid (DmF O cb bv n w1 tb b o c len W9)/\Hid (DmL w1 g cp L.length W9):=by
 have hp:=l3.put 0 x0 x1 h0;simp only[Nat.zero_mul,Nat.zero_add]at hp;have hm:=List.mem_of_getElem? h1;have hs:∀W j u,DmF O cb bv n w1 tb b o c len W->DmF O cb bv n w1 tb b o c len (xt W g j u):=λW j u h=>by have hq:=h.2.2.2.put h.2.2.1 l3.lt.1 qo j u;exact⟨h.1,h.2.1.i (Chg.D (S:=λk=>k=g) _ _ _ _ rfl) qo,hq.1,hq.2⟩
 exact⟨_,rfl,hs _ _ _ (hs _ _ _ (hs _ _ _ (hs _ _ _ (hs _ _ _ h)))),L.set 0 x1,by simp,λe he=>(AA he).elim (l1 e) (λq=>by rw[q];exact l1 _ hm),λe he=>(AA he).elim (l2 e) (λq=>by rw[q];exact l2 _ hm),hp⟩
end
theorem zDm(h:p:=by have⟨WF,hWF,r0,rf,p0,HZ⟩:=HF _ _ _ _ _ _ _ _ _ H9 hl HL9 hL;have t6:=H9.2.1.z (j:=0) rfl;go_wp2_with fail;rw[<-hWF];exact bodyPost_ret (v:=.tuple #[.agg #[(xy b o len c)],xg gl M cl]) (by simp[results,results6,go_sem,p0]) rfl HZ):p:=h
theorem yJm(bv:Vv)(n:Nat)(w:Ww)(h:yDx w w bv n):Calls prog 6 #[bv] w (DmeP w):=by
 obtain⟨a,cap,rfl⟩:=h.slice;have hn:=h.1;have⟨W0,hW0⟩:=qE (xw w #[.slice none 0 0] 25:Ww);have hb0:Below w.heap.size w W0:=hW0▸qB
 have hz0:W0.heap.size=w+1:=by rw[hW0];simp
 have hr0:yA W0 w.heap.size 25 1 w.heap.size [.slice none 0 0]:=hW0▸(yAa w _ (Nat.le_refl _) rfl)
 have H0:=qH1 (h.up hb0);go_enter func6,ntmps6;go_wp2_with fail;rw[<-hW0];clear hW0;apply (xD2 _ n W0 H0.out).mono;rintro e w1 ⟨rfl,hD1,hb1⟩;have⟨cb,hcb⟩:=qE W0.heap.size;rw[<-hcb]at hD1|-;have H1:=qH1 hD1;have HF:Hid (∀W b o c len tb g cp k,DmF cb cb (.slice a n cap) n w1 tb b o c len W->len<=1001->DmL w1 g cp k W->k<=100->_):=λW b o c len tb g cp k q1 q2 q3 q4=>xL3 q1 q2 q3 q4 (hb0.trans (hb1.mono hb0.size)) qo (hr0.k hb1);clear hD1 hb1 hcb H0 h hb0 hz0 hr0;go_wp2_with fail;apply (yFx cb cb (.slice a n cap) n w1 H1.out).mono;rintro e w2 ⟨b,o,c,len,rfl,h0,hl,K⟩;have⟨tb,htb⟩:=qE w2.heap.size;have⟨W3,hW3⟩:=qE (w2.alloc (Obj.cells #[(xy b o len c)] 25):Ww);have H3:Hid (DmF cb cb (.slice a n cap) n w1 tb b o c len W3):=by
  have k3:Below w2.heap.size w2 W3:=hW3▸qB
  exact⟨by have:=K.2.2.1;omega,by rw[hW3,htb];exact yAa w2 _ K.1.c.size rfl,K.1.k k3,K.2.ok.k k3⟩
 clear K;go_upto_region 3 with fail;rw[<-hW3,<-htb];clear hW3 htb;go_wp2_with fail;apply (yBh cb cb (.slice a n cap) n 12 _ H3.2.2.1.d qo qo).mono;rintro e w4 ⟨v,rfl,hv,hd⟩;have H4:=qH1 (H3.go ((DInv.start H3.2.2.1.d).call hd));clear hd H3;go_upto_if 12 with fail;go_cut[] (λwx=>∃b o c len,len<=1001/\Hid (DmF cb cb (.slice a n cap) n w1 tb b o c len wx));case first=>
  rcases hv with rfl|rfl
  .go_wp2_with fail;apply (yRj cb cb (.slice a n cap) n w4 H4.2.2.1.d).mono;rintro e w5 ⟨b5,o5,c5,len5,rfl,-,hl5,K⟩;have H5:=H4.go K.1;have t0:=H5.2.1.z (j:=0) rfl;have tf:=H5.2.1.frozen 0;have hb5:=K.2.2.1;have ht:=H4.2.1.lt;have hA:=H4.2.2.1.upA K;have hq:=hA.2.put hA.1 ht.1 qo 0 (.slice (some ⟨b5,o5,none⟩) len5 c5);have HQ:Hid (DmF cb cb (.slice a n cap) n w1 tb b5 o5 c5 len5 (w5.setCell ⟨tb,0,none⟩ (.slice (some ⟨b5,o5,none⟩) len5 c5))):=⟨qo,H5.2.1.set 0 _,hq.1,hq.2⟩;clear H5 hA hq K;go_wp2_with fail;go_meet;exact⟨_,_,_,_,hl5,HQ⟩
  .go_wp2_with fail;go_meet;exact⟨_,_,_,_,qo,H4⟩
 case rest=>
  clear hv H4;have⟨b,o,c,len,hl,H⟩:=hcut;go_wp2_with fail;apply (yMh cb cb a n cap _ H.2.2.1.d hn).mono;rintro e w7 ⟨gl,cl,L,rfl,hL,K⟩;have H7:=qH1 (H.go K.2.1);have HL:Hid (OwnC w7 w1.heap.size gl cl L/\(∀e∈L,e.ok)/\(∀e∈L,e.f=0)/\b<gl/\tb<gl):=⟨K.1.mono H.2.2.1.c.size,K.2.2.1,K.2.2.2,by have:=K.1.lt;have:=H.2.2.2.2.1;omega,by have:=K.1.lt;have:=H.2.1.lt;omega⟩;have⟨M,hM⟩:=qE L.length;have HM:Hid (M=L.length):=hM;rw[<-hM]at hL|-;clear K hM H;have hclm:M<=cl/\cl<=9223372036854775807:=by have:=HL.1.caps;unfold maxLen at this;have:=HM.out;omega
  go_wp2_with fail;apply (yBh cb cb (.slice a n cap) n 25 _ H7.2.2.1.d qo qo).mono;rintro e w8 ⟨v,rfl,hv,hd⟩;have H9:Hid (DmF cb cb (.slice a n cap) n w1 tb b o c len w8):=H7.go ((DInv.start H7.2.2.1.d).call hd);have hO:Hid (OwnC w8 w1.heap.size gl cl L):=yAh HL.1 hd.2 (λk q z=>by simp[Value.ownBlock]at q;have:=H9.2.2.1.lt;have:=HL.1.lt;omega);have HL9:Hid (DmL w1 gl cl M w8):=⟨L,HM,HL.2.1,HL.2.2.1,hO⟩;clear hd;rcases hv with rfl|rfl
  .by_cases hM1:1<M
   .have zk:(1:Int)<(M:Int):=qo
    obtain⟨x0,hx0⟩:∃x,L[0]?=some x:=⟨_,AB (by have:=HM.out;omega)⟩;obtain⟨x1,hx1⟩:∃x,L[1]?=some x:=⟨_,AB (by have:=HM.out;omega)⟩;have⟨d0,d1,d2,d3,d4⟩:=hO.at 1 x1 hx1;have⟨e0,e1,e2,e3,e4⟩:=hO.at 0 x0 hx0;simp only[Nat.zero_add,Nat.zero_mul,Nat.one_mul]at d0 d1 d2 d3 d4 e0 e1 e2 e3 e4;have hfz:=λj=>World.ownsRow.frozenAt hO j;have⟨W9,hW9,H9,HL9⟩:=xIp H9 HL.2.1 HL.2.2.1 hO HL.2.2.2 hx0 hx1;rw[<-HM]at HL9;clear hx0 hx1;go_upto_region 8 with fail;rw[<-hW9];clear hW9 d0 d1 d2 d3 d4 e0 e1 e2 e3 e4 hfz;exact zDm
   .have zk:¬(1:Int)<(M:Int):=qo
    exact zDm
  .exact zDm
end
def xM4(xs R:List Nd):Prop:=(¬yBe xs/\R= [])\/(yBe xs/\yLx xs R)
def NrmU(xs:List Nd)(w:Ww)(r:Ending)(w':Ww):Prop:=∃(a:Option Addr)(n c:Nat)(R:List Nd),r=.returned (.agg #[.slice a n c])/\xM3 w' w (.slice a n c) R/\xM4 xs R/\Below w w w'
theorem yBb.up{base' cap:Nat}(h:yBb w O g cap es)(hb:base'<=g):yBb w base' g cap es:=by
 refine⟨h.1,?_⟩;rcases h.2 with hn|⟨g',cap',cur,hv,h1,rest⟩
 .exact .inl hn
 .cases hv
  exact .inr ⟨_,_,cur,rfl,hb,rest⟩
theorem yMb(h:WdN w g o cp xs)(hok:∀e∈xs,e.ok):Calls prog 12 #[.agg #[(xy g o xs.length cp)]] w (NrmU xs w):=by
 have HO:=qH2 h hok;have hgl:=h.lt;have hcp:=h.caps;obtain⟨W0,hW0⟩:=qE (xw (w.alloc (Obj.cells #[(xy g o xs.length cp)] 25)) #[xh] 25:Ww);have hb0:Below w w W0:=by rw[hW0];exact(qB).alloc (by simp) _
 have hz0:W0.heap.size=w.heap.size+1+1:=by rw[hW0];simp
 have HK:Hid (∀wx,Below W0 W0 wx->xk wx w 0 (xy g o xs.length cp)/\xk wx (w+1) 0 xh/\wx.frozen? (xd (w+1) 0)=false/\WdN wx g o cp xs):=by
  intro wx hx;refine⟨?_,?_,?_,(HO.1.k hb0 hgl).k hx qo⟩
  .rw[hx.cell (p:=(xd w 0)) (by show w.heap.size<_;omega),hW0];simp[go_sem]
  .rw[hx.cell (p:=(xd (w+1) 0)) (by show w.heap.size+1<_;omega),hW0];simp[go_sem]
  .rw[hx.frozen (p:=(xd (w+1) 0)) (by show w.heap.size+1<_;omega),hW0];simp[go_sem]
 clear h hok;obtain⟨c0,_,_,hO0⟩:=HK.out W0 (Below.refl _ _);have HO0:=qH1 hO0;clear hO0;go_enter func12,ntmps12;go_upto_region 1 with fail;rw[<-hW0];clear hW0;go_wp2_with fail;refine(yEi HO0.out HO.2).mono ?_;rintro e w1 ⟨r,rfl,hr,hb1⟩;have HR:=qH1 hr;have s1:=hb1.size;have k1:=hb0.trans (hb1.mono qo);clear hr c0;obtain⟨c0,c1,c2,hO1⟩:=HK.out w1 hb1;have HO1:=qH1 hO1;clear hO1;cases r
 case false=>have HG:Hid (NrmU xs w (.returned (.agg #[xh])) (xt w1 (w+1) 0 xh)):=⟨_,_,_,[],rfl,.inl ⟨rfl,rfl⟩,.inl ⟨λq=>Bool.noConfusion (HR.2 q),rfl⟩,k1.setCell (by show _<=w.heap.size+1;omega) _⟩;go_wp2_with fail;exact bodyPost_ret (v:=.agg #[xh]) (by simp[results,results12,go_sem,c1]) rfl HG.out
 case true=>
 have hG:=HR.1 rfl;obtain⟨y,hy,hne,hyl,_⟩:=yNc hG;have HY:=qH2 hy hG;have HC:Hid (Calls prog 49 #[(xy g o xs.length cp),.func (Fn.func 50) #[] #[]] w1 (yWc xs w1)):=yRd HO1.at qo (yDd hG) hG.1;clear hy hne hG c1 c2 hyl;go_wp2_with fail;refine HC.mono ?_;rintro e w3 ⟨hb3,(⟨u,y',hf,rfl,hopd⟩|⟨hf,rfl⟩)⟩;case inr=>
  exfalso;refine hf y ?_;have h9:=TrV.fold _ HY.1 [];simpa using h9
 obtain rfl:y'=y:=by have h9:=TrV.fold _ HY.1 [];rw[hf]at h9;simpa using h9
 obtain⟨vg,vc,rfl,hv⟩:=hopd.Z;have hvb:=hopd.blk _ _ _ rfl;have s3:=hb3.size;have kw3:=hb1.trans (hb3.mono s1);have HG:Hid (NrmU xs w (.returned (.agg #[xg vg y'.length vc])) (xt w3 (w+1) 0 (xg vg y'.length vc))):=by refine⟨_,_,_,y',rfl,.inr ⟨vg,vc,rfl,?_⟩,.inr ⟨HY.2,HY.1⟩,(k1.trans (hb3.mono k1.size)).setCell (by show _<=w.heap.size+1;omega) _⟩;have h8:=hv.up qo;exact yBb.mono (ownsRow_setCell_below h8 (by show w.heap.size+1<_;omega) _) qo
 clear hopd hv hf;obtain⟨c0,c1,c2,_⟩:=HK.out w3 kw3;go_wp2_with fail;exact bodyPost_ret (v:=.agg #[xg vg y'.length vc]) (by simp[results,results12,go_sem,c1]) rfl (by simpa using HG.out)
end Go.Proofs.YtnnagkfoiganfaaGreatDoor
