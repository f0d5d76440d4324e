import Derived.Test.YtnnagkfoiganfaaGreatDoorHkAA
namespace Go.Proofs.YtnnagkfoiganfaaGreatDoor
open Go.ChangeShapes Go.WideShapes Go.ChangeAt Go.RowKit Go.Deep XD XI XU XG XP XK XW XT XF XE XH _root_.List _root_.Nat XY Go.Proofs.Tryz
open _root_.Go renaming heap_alloc2_new->AH,Ending->AK,bodyPost_ret->AL,run_endRound->AM,heap_alloc2_old->AR,wpIn_rangeFunc->AT
open _root_.Go.Instr renaming typeAssert->AA
open _root_.Go.Obj renaming cells->AD
open _root_.Go.Value renaming pointer->AG,ownBlock->AO,int->AS
open _root_.Go.World.ownsRow renaming lt->AC,cellAt->AF
open _root_.List renaming length_append->AB,setIfInBounds_toArray->AE,set_cons_succ->AI,set_cons_zero->AJ
open _root_.Nat renaming le_max_right->AN,le_max_left->AP,le_refl->AQ,zero_le->AU
set_option linter.unusedVariables false
set_option linter.unusedSimpArgs false
set_option maxRecDepth 100000
set_option maxHeartbeats 64000000
variable {vs us:List Vv} {g k RB k6 gq k' rb eb b gf l₀ O cp o:Nat} {S:Nat->Prop} {N M:Pat->Vv->Prop} {v v' y:Vv} {c:U8} {wr w6 W w:Ww} {op rp:Bool} {E:Prop} {Q:Exit->Act->Ww->Prop} {a:Act} {oo:Oper} {ops:Array Oper} {d args tmps lb:Array Vv} {x:Ent} {L:List Ent} {assign:Code} {fn:FuncId} {r₀:Loop} {ts:List Pat} {os:List (List Pat)}
abbrev yP0(b:U8):Vv:=.iface 348 (.agg #[.int .u8 (b.toNat:Int)])
def Bet(a b:Nat):Nat->Prop:=λk=>a<=k/\k<b
structure yC8(w:Ww)(R:Nat->Prop)(g:Nat)(vs:List Vv):Prop where
 blk:R g
 lt:g<w.heap.size
 val:∀(i:Nat) v,vs[i]?=some v->(xk w g i v:Prop)
variable {w':Ww} {R:Nat->Prop}
theorem yC8.i(h:yC8 w R g vs)(hc:Chg S w w')(hS:∀k,S k->¬R k):yC8 w' R g vs:=
 ⟨h.blk,Nat.lt_of_lt_of_le h.lt hc.size,λi v hv=>by rw[hc.z (p:=(xd g i)) h.lt (λq=>hS g q h.blk)];exact h.val i v hv⟩
def yP8(N:Pat->Vv->Prop)(w:Ww)(lo:Nat->Prop)(ts:List Pat)(u:Vv):Prop:=
 (ts= []/\u=xh)\/∃(g cp:Nat)(us:List Vv),u=(xg g ts.length cp)/\us.length=ts.length/\yC8 w lo g us/\∀(i:Nat) x t,us[i]?=some x->ts[i]?=some t->N t x
def ySk(N:Pat->Vv->Prop)(w:Ww)(lo:Nat->Prop)(os:List (List Pat))(u:Vv):Prop:=
 ∃(g cp:Nat)(us:List Vv),u=(xg g os.length cp)/\us.length=os.length/\yC8 w lo g us/\∀(i:Nat) x ts,us[i]?=some x->os[i]?=some ts->yP8 N w lo ts x
def yDo:Nat->Ww->(Nat->Prop)->Pat->Vv->Prop
 |0,_,_,_,_=>False
 |n+1,w,lo,.byte b,v=>v=yP0 b
 |n+1,w,lo,.cls f,v=>v=clsV f
 |n+1,w,lo,.rep t o r,v=>∃u,v=.iface 362 (.agg #[u,o,r])/\yDo n w lo t u
 |n+1,w,lo,.alt os,v=>∃u,v=.iface 304 (.agg #[u])/\ySk (yDo n w lo) w lo os u
variable {lo lo':Nat->Prop} {u:Vv}
theorem yP8.mono(hN:∀t v,N t v->M t v)(hV:∀g vs,yC8 w lo g vs->yC8 w' lo' g vs):yP8 N w lo ts u->yP8 M w' lo' ts u
 | .inl h=>.inl h
 | .inr ⟨g,cp,us,h1,h2,h3,h4⟩=>.inr ⟨g,cp,us,h1,h2,hV _ _ h3,λi x t hx ht=>hN _ _ (h4 i x t hx ht)⟩
theorem ySk.mono(hN:∀t v,N t v->M t v)(hV:∀g vs,yC8 w lo g vs->yC8 w' lo' g vs):ySk N w lo os u->ySk M w' lo' os u
 |⟨g,cp,us,h1,h2,h3,h4⟩=>⟨g,cp,us,h1,h2,hV _ _ h3,λi x t hx ht=>(h4 i x t hx ht).mono hN hV⟩
theorem yDo.mono:∀{n m:Nat}{w w':Ww}{lo lo':Nat->Prop}(hV:∀g vs,yC8 w lo g vs->yC8 w' lo' g vs){t:Pat}{v:Vv},n<=m->yDo n w lo t v->yDo m w' lo' t v
 |0,_,_,_,_,_,_,_,_,_,h=>h.elim
 |n+1,0,_,_,_,_,_,_,_,hm,_=>qo
 |n+1,m+1,w,w',lo,lo',hV,.byte b,v,_,h|n+1,m+1,w,w',lo,lo',hV,.cls f,v,_,h=>h
 |n+1,m+1,w,w',lo,lo',hV,.rep t o r,v,hm,⟨u,h1,h2⟩=>⟨u,h1,yDo.mono hV qo h2⟩
 |n+1,m+1,w,w',lo,lo',hV,.alt os,v,hm,⟨u,h1,h2⟩=>⟨u,h1,h2.mono (λt v q=>yDo.mono hV qo q) hV⟩
def yBt(w:Ww)(lo:Nat->Prop)(t:Pat)(v:Vv):Prop:=∃n,yDo n w lo t v
def yGo(w:Ww)(lo:Nat->Prop)(ts:List Pat)(u:Vv):Prop:=∃n,yP8 (yDo n w lo) w lo ts u
def yD2(w:Ww)(lo:Nat->Prop)(os:List (List Pat))(u:Vv):Prop:=∃n,ySk (yDo n w lo) w lo os u
theorem yJa(hc:Chg S w w')(hS:∀k,S k->¬lo k)(hl:∀k,k<w.heap.size->lo k->lo' k):∀g vs,yC8 w lo g vs->yC8 w' lo' g vs:=λg vs h=>by
 have h1:=h.i hc hS
 exact⟨hl g h.lt h1.blk,h1.lt,h1.val⟩
variable {t:Pat}
theorem yBt.K(h:yBt w lo t v)(hc:Chg S w w')(hS:∀k,S k->¬lo k)(hl:∀k,k<w.heap.size->lo k->lo' k):yBt w' lo' t v:=by have⟨n,hn⟩:=h;exact⟨n,hn.mono (yJa hc hS hl) qr⟩
theorem yGo.K(h:yGo w lo ts u)(hc:Chg S w w')(hS:∀k,S k->¬lo k)(hl:∀k,k<w.heap.size->lo k->lo' k):yGo w' lo' ts u:=by exact xBq
theorem yD2.K(h:yD2 w lo os u)(hc:Chg S w w')(hS:∀k,S k->¬lo k)(hl:∀k,k<w.heap.size->lo k->lo' k):yD2 w' lo' os u:=by exact xBq
theorem yJq(w:Ww)(lo:Nat->Prop)(b:U8):yBt w lo (.byte b) (yP0 b):=⟨1,rfl⟩
theorem yLm(w:Ww)(lo:Nat->Prop)(f:U8->Bool):yBt w lo (.cls f) (clsV f):=⟨1,rfl⟩
theorem yUw(h:yBt w lo t v)(o r:Bool):yBt w lo (.rep t o r) (.iface 362 (.agg #[v,o,r])):=by have⟨n,hn⟩:=h;exact⟨n+1,v,rfl,hn⟩
theorem yUx(h:yD2 w lo os u):yBt w lo (.alt os) (.iface 304 (.agg #[u])):=by have⟨n,hn⟩:=h;exact⟨n+1,u,rfl,hn⟩
theorem yOt:∀{ts:List Pat}{us:List Vv},us.length=ts.length->(∀(i:Nat) x t,us[i]?=some x->ts[i]?=some t->yBt w lo t x)->∃n,∀(i:Nat) x t,us[i]?=some x->ts[i]?=some t->yDo n w lo t x
 | [],[],_,_=>⟨0,λi x t hx=>by simp at hx⟩
 |t::ts,u::us,hl,h=>by
  have⟨n,hn⟩:=yOt (ts:=ts) (us:=us) (by simpa using hl) (λi x t hx ht=>h (i+1) x t (by simpa using hx) (by simpa using ht))
  have⟨m,hm⟩:=h 0 u t rfl rfl
  refine⟨max n m,λi x t' hx ht=>?_⟩
  cases i with
  |zero=>simp at hx ht;subst hx ht;exact hm.mono (λ_ _ q=>q) (AN _ _)
  |succ i=>exact(hn i x t' (by simpa using hx) (by simpa using ht)).mono (λ_ _ q=>q) (AP _ _)
theorem ySw:∀{os:List (List Pat)}{us:List Vv},us.length=os.length->(∀(i:Nat) x ts,us[i]?=some x->os[i]?=some ts->yGo w lo ts x)->∃n,∀(i:Nat) x ts,us[i]?=some x->os[i]?=some ts->yP8 (yDo n w lo) w lo ts x
 | [],[],_,_=>⟨0,λi x t hx=>by simp at hx⟩
 |t::ts,u::us,hl,h=>by
  have⟨n,hn⟩:=ySw (os:=ts) (us:=us) (by simpa using hl) (λi x t hx ht=>h (i+1) x t (by simpa using hx) (by simpa using ht))
  have⟨m,hm⟩:=h 0 u t rfl rfl
  refine⟨max n m,λi x t' hx ht=>?_⟩
  cases i with
  |zero=>simp at hx ht;subst hx ht;exact hm.mono (λ_ _ q=>q.mono (λ_ _ q=>q) (AN _ _)) (λ_ _ q=>q)
  |succ i=>exact(hn i x t' (by simpa using hx) (by simpa using ht)).mono (λ_ _ q=>q.mono (λ_ _ q=>q) (AP _ _)) (λ_ _ q=>q)
theorem yBt.iface(h:yBt w lo t v):∃T c,v=.iface T (.agg c):=by
 have⟨n,hn⟩:=h;cases n with
 |zero=>exact hn.elim
 |succ n=>
  cases t with
  |byte b|cls f=>exact⟨_,_,hn⟩
  |rep t o r|alt os=>have⟨u,h1,_⟩:=hn;exact⟨_,_,h1⟩
def OwnN(w:Ww)(O:Nat)(v:Vv)(us:List Vv):Prop:=w.ownsRow O 346 1 v us.length us
def OwnQ(w:Ww)(O g cp:Nat)(us:List Vv):Prop:=w.ownsRow O 316 1 (xg g us.length cp) us.length us
theorem OwnQ.lt(h:OwnQ w O g cp us):O<=g/\g<w.heap.size:=AC h g rfl
theorem OwnQ.vals(h:OwnQ w O g cp us)(hR:R g):yC8 w R g us:=by refine⟨hR,h.lt.2,λi v hv=>?_⟩;have hi:=qf hv;rw[AF h i qo,hv]
theorem OwnN.seq(h:OwnN w O v us)(hl:us.length=ts.length)(hN:∀(i:Nat) x t,us[i]?=some x->ts[i]?=some t->yBt w R t x)(hb:∀k,v.ownBlock=some k->R k):yGo w R ts v:=by
 have⟨n,hn⟩:=yOt hl hN;refine⟨n,?_⟩;have h':=h;rcases h.2 with⟨rfl,h0⟩|⟨g,cap,cur,rfl,h1,h2,h3⟩
 .left;refine⟨length_eq_zero_iff.1 qo,rfl⟩
 .right;have a0:=AC h' g rfl;refine⟨g,cap,us,by rw[hl],hl,⟨hb g rfl,a0.2,λi v hv=>?_⟩,hn⟩;have hi:=qf hv;rw[AF h' i qo,hv]
theorem Tryz.infoNode:(prog.info? 346).map (λi=>(i.zero,i.size,i.bytes))=some (some .nilIface,1,16):=qk
theorem Tryz.infoSeq:(prog.info? 316).map (λi=>(i.zero,i.size,i.bytes))=some (some (.agg #[xh]),1,24):=qk
def ChG(p:Ba)(i o:Nat):Prop:=(chkM (sb p) i o false).1=0
def yI9(p:Ba)(O g o:Nat)(w:Ww)(R:Nat->Pat->Prop)(e:AK)(w':Ww):Prop:=
 Chg (λk=>k=g) w w'/\∃(k:Nat)(t:Pat)(v:Vv),R k t/\e=.returned v/\yBt w' (Bet w w') t v/\PrAt w' O g p k o
def yZq(p:Ba)(O g i o:Nat)(w:Ww)(e:AK)(w':Ww):Prop:=
 Chg (λk=>k=g) w w'/\∃(k:Nat)(os:List (List Pat))(u:Vv),yE8 (sb p) o i k os/\(∀c,(sb p)[k]?=some c->yGl c/\¬c=124)/\e=.returned (.agg #[u])/\yD2 w' (Bet w w') os u/\PrAt w' O g p k o
def AltC(p:Ba)(m:Nat):Prop:=∀(O g i o:Nat)(w:Ww),p.size-i<=m->i<=p.size->o<=20->ChG p i o->PrAt w O g p i o->Calls prog 229 #[xp g] w (yZq p O g i o w)
def xBn(p:Ba)(m:Nat):Prop:=∀(O g i o:Nat)(w:Ww),p.size-i<=m->i<p.size->o<=20->(∀c,(sb p)[i]?=some c->¬yGl c)->ChG p i o->PrAt w O g p i o->Calls prog 260 #[xp g] w (yI9 p O g o w (yBx (sb p) o i))
theorem PrAt.open{i:Nat}{p:Ba}(h:PrAt w O g p i o)(o':Nat):PrAt (xt w g 2 (xi o')) O g p i o':=yA.set h 2 (xi o')
theorem yD2.slice(h:yD2 w lo os u):∃g n cp,u=(xg g n cp):=by have⟨n,g,cp,us,h1,_⟩:=h;exact⟨g,_,cp,h1⟩
theorem yYj{p:List U8}(h:(chkM p k o false).1=0)(hn:∀c,p[k]?=some c->yGl c/\¬c=124):(p[k]?=some 41/\¬o=0)\/(¬k<p.length/\o=0):=by
 by_cases hk:k<p.length
 .obtain⟨c,hc⟩:∃c,p[k]?=some c:=qg hk;have⟨h1,h2⟩:=hn c hc;rcases h1 with h1|h1|h1|h1
  .rw[yTw hc h1]at h;simp at h
  .exact absurd h1 h2
  .subst h1;rw[yEb hc]at h;by_cases ho:o=0
   .rw[iB ho]at h;simp at h
   .exact .inl ⟨hc,ho⟩
  .subst h1;rw[yTv hc]at h;simp at h
 .rw[yJ8 hk]at h;by_cases ho:0<o
  .rw[iB ho]at h;simp at h
  .exact .inr ⟨hk,qo⟩
variable {m:Nat}
theorem xA3{p:Ba}(H:AltC p m)(hp:p.size<=200)(O g q o:Nat) w (hm:p.size-(q+1)<=m) (hq:(sb p)[q]?=some 40) (ho:o<=20) (hc:ChG p q o) (h:PrAt w O g p (q+1) o):
  Calls prog 264 #[xp g] w (yI9 p O g o w (yBx (sb p) o q)):=by
 unfold ChG at hc;rw[yF1 hq]at hc;have ho20:¬o=20:=λe=>by rw[iB e]at hc;simp at hc
 rw[iA ho20]at hc;have HP:=qH2 hc hq;have aj:=h.lt.2;have ae:q+1<=p.size:=by have:=yAq hq;rw[yAe]at this;omega
 have c1:=h.z (j:=1) rfl;have c2:=h.z (j:=2) rfl;have f2:=h.frozen 2;have ag:¬(o:Int)=20:=qo
 have HW:Hid (PrAt (xt w g 2 (xi (o+1:Nat))) O g p (q+1) (o+1)/\Chg (λk=>k=g) w (xt w g 2 (xi (o+1:Nat)))):=⟨PrAt.open h (o+1),Chg.D w g 2 _ rfl⟩;have⟨W,hW⟩:=qW (xt w g 2 (xi (o+1:Nat)));have a9:W.heap.size=w:=by rw[hW];simp[World.setCell]
 rw[<-hW]at HW;have ac:W=(xt w g 2 (xi ((o:Int)+1))):=hW;have HZ:Hid (W.heap.size=w):=a9;clear hW a9 h hc hq;go_enter func264,ntmps264;go_upto_region 4 with fail;rw[<-ac];clear ac c1 c2 f2;go_wp2_with fail;apply (H O g (q+1) (o+1) W hm ae qo HP.1 HW.1).mono;rintro e w2 ⟨a8,k,os,u,hA,hN,rfl,hU,ad⟩
 obtain⟨gu,nu,cu,rfl⟩:=hU.slice;have ah:k<=p.size:=by have:=hA.le;rw[yAe]at this;exact this
 have HK:=qH1 ((yYj (by rw[<-hA.chk];exact HP.1) hN).elim (λq=>q.1) (λq=>by cases q.2))
 have HA:=qH1 hA;have a4:Hid (yD2 w2 (Bet w w2.heap.size) os (xg gu nu cu)/\PrAt w2 O g p k (o+1)/\Chg (λk=>k=g) w w2):=⟨by rw[<-HZ];exact hU,ad,HW.2.trans a8⟩;clear a8 hA hN hU ad HW;have⟨W3,a5⟩:=qW (w2.alloc (AD #[(xg gu nu cu)] 304));have ab:=a4.2.2.size;have a0:Hid (yD2 W3 (Bet w.heap.size w2.heap.size) os (xg gu nu cu)/\PrAt W3 O g p k (o+1)/\Chg (λk=>k=g) w W3/\yA W3 w.heap.size 304 1 w2.heap.size [(xg gu nu cu)]):=by
  have hb:Below w2 w2 W3:=a5▸qB
  refine⟨a4.1.K (S:=λ_=>False) (Chg.h hb) (λk q=>q.elim) (λk _ q=>q),yA.k a4.2.1 hb,a4.2.2.trans (Chg.h hb),?_⟩;rw[a5];exact yAa w2 _ ab rfl
 clear a4;go_upto_region 5 with fail;rw[<-a5];have⟨IB,a7⟩:=qE w2.heap.size;rw[<-a7]at a0;rw[<-a7];have ai:w<=IB:=by omega
 clear a5 a7 ab;go_wp2_with fail;apply (yD6 41 a0.2.1 hp).mono;rintro e w4 ⟨a1,(⟨hx,rfl,a2⟩|⟨hx,rfl,a2⟩)⟩;case inr=>exact absurd HK.out hx
 have HF:Hid (yD2 w4 (Bet w IB) os (xg gu nu cu)/\PrAt w4 O g p (k+1) (o+1)/\Chg (λk=>k=g) w w4/\yA w4 w 304 1 IB [xg gu nu cu]/\(sb p)[k]?=some 41):=
  ⟨a0.1.K a1 (λk q=>by subst q;exact λz=>qw z.1) (λk _ q=>q),a2,a0.2.2.1.trans a1,yA.i a0.2.2.2 a1 (by omega),hx⟩
 clear a1 hx a2 a0;go_wp2_with fail;apply (yI0 _ w4).mono;rintro e w5 ⟨rfl,aa⟩;rw[aa];clear aa;have d2:=HF.2.1.z (j:=2) rfl;have g2:=HF.2.1.frozen 2;have a3:Hid (yD2 (xt w4 g 2 (xi o)) (Bet w IB) os (xg gu nu cu)/\PrAt (xt w4 g 2 (xi o)) O g p (k+1) o/\Chg (λk=>k=g) w (xt w4 g 2 (xi o))/\yA (xt w4 g 2 (xi o)) w 304 1 IB [xg gu nu cu]):=by have hc:=Chg.D w4 g 2 (xi o) (S:=λk=>k=g) rfl;exact⟨HF.1.K hc (λk q=>by subst q;exact λz=>qw z.1) (λk _ q=>q),PrAt.open HF.2.1 o,HF.2.2.1.trans hc,yA.i HF.2.2.2.1 hc (by omega)⟩
 have HC:Hid (yBx (sb p) o q (k+1) (.alt os)):=yBx.group HP.2 ho20 HA.out HF.2.2.2.2;have⟨W6,a6⟩:=qW (xt w4 g 2 (xi o));rw[<-a6]at a3;clear HF HA;go_upto_region 7 with fail;rw[<-a6];clear a6 d2 g2;have b0:=a3.2.2.2.z (j:=0) rfl;go_wp2;go_ret;exact⟨a3.2.2.1,k+1,.alt os,_,HC,rfl,yUx (a3.1.K (S:=λ_=>False) (Chg.refl _ _) (λk q=>q.elim) (λk hk q=>⟨q.1,hk⟩)),a3.2.1⟩
theorem yG7{x:U8}(h:¬x=c):¬(x.toNat:Int)=(c.toNat:Int):=λq=>h (UInt8.toNat_inj.1 qo)
theorem xE0{p:Ba}(H:AltC p m)(hp:p.size<=200):xBn p (m+1):=by
 intro O g i o w hm hi ho he hc h;obtain⟨x,hx⟩:∃x,(sb p)[i]?=some x:=qg (by rw[yAe];exact hi);have HX:=qH2 hx (he x hx);have HP:=qH1 h;have ab:=h.lt.2;go_enter func260,ntmps260;go_wp2_with fail;apply (yFd HP hp HX.1).mono;rintro e w1 ⟨rfl,a4,a3⟩;have a0:Hid (PrAt w1 O g p (i+1) o/\Chg (λk=>k=g) w w1):=⟨a4,a3⟩;have aa:=a3.size;clear a4 a3 HP;by_cases h46:x=46
 .subst h46;go_upto_region 5 with fail;apply wp_region_list;refine yA5 rfl _ _ rfl (setA (λ_=>false)) (by simp;exact yP1) ?_;simp only[Act.put,Act.eval,AE,AI,AJ];refine yC0 rfl 263 #[.agg (setA (λ_=>false))] (by simp[execOp,go_sem,Act.eval,func263]) ?_;refine(yG4 (λ_=>false) w1).mono ?_;rintro e w2 ⟨rfl,hb2⟩;simp only[Act.put,Act.eval,AE,AI,AJ];refine yA5 rfl _ _ rfl (setA (λ_=>true)) (by simp[Act.eval];exact yKd _ (yAh _)) ?_;simp only[Act.put,Act.eval,AE,AI,AJ];go_wp2;go_ret;exact⟨a0.2.trans (Chg.h hb2),i+1,_,_,yBx.dot HX.1,rfl,yLm _ _ _,yA.k a0.1 hb2⟩
 have a8:¬(x.toNat:Int)=46:=yG7 (c:=46) h46;by_cases h92:x=92
 .subst h92;obtain⟨y,hy⟩:∃y,(sb p)[i+1]?=some y:=qg (by
   have h1:=yAq HX.1;unfold ChG at hc;rw[yH3 HX.1]at hc;by_cases e:i+1=(sb p).length
   .rw[iB e]at hc;simp at hc
   .omega)
  go_wp2_with fail;apply (yFd a0.1 hp hy).mono;rintro e w2 ⟨rfl,a2,a1⟩;have HF:Hid (PrAt w2 O g p (i+1+1) o/\Chg (λk=>k=g) w w2/\(sb p)[i+1]?=some y):=⟨a2,a0.2.trans a1,hy⟩;clear a1 hy a2;go_wp2;go_ret;exact⟨HF.2.1,i+1+1,_,_,yBx.esc HX.1 HF.2.2,rfl,yJq _ _ _,HF.1⟩
 have a6:¬(x.toNat:Int)=92:=yG7 (c:=92) h92;by_cases h40:x=40
 .subst h40;go_wp2_with fail;apply (xA3 H hp O g i o w1 qo HX.1 ho hc a0.1).mono;rintro e w2 ⟨a1,k,t,v,hR,rfl,hN,a2⟩;have HF:Hid (yBx (sb p) o i k t/\yBt w2 (Bet w w2) t v/\PrAt w2 O g p k o/\Chg (λk=>k=g) w w2):=⟨hR,hN.K (S:=λ_=>False) (Chg.refl _ _) (λk q=>q.elim) (λk hk q=>⟨qw q.1,hk⟩),a2,a0.2.trans a1⟩;obtain⟨T,c,rfl⟩:=hN.iface;clear a1 hR hN a2;go_wp2;go_ret;exact⟨HF.2.2.2,k,t,_,HF.1,rfl,HF.2.1,HF.2.2.1⟩
 have a9:¬(x.toNat:Int)=40:=yG7 (c:=40) h40;by_cases h91:x=91
 .subst h91;obtain⟨f,k,hk⟩:∃f k,yAt (sb p) (i+1)=.inl (f,k):=by
   unfold ChG at hc;rw[yEc HX.1]at hc;split at hc
   .next e he=>exact absurd hc (yL1 (c:=e.1) (k:=e.2) he)
   .next f k hk=>exact⟨f,k,hk⟩
  go_wp2_with fail;apply (yVj a0.1 hp hk).mono;rintro e w2 ⟨rfl,a2,a1⟩;have HF:Hid (PrAt w2 O g p k o/\Chg (λk=>k=g) w w2/\yAt (sb p) (i+1)=.inl (f,k)):=⟨a2,a0.2.trans a1,hk⟩;clear a1 hk a2;go_wp2;go_ret;exact⟨HF.2.1,k,_,_,yBx.class HX.1 HF.2.2,rfl,yLm _ _ _,HF.1⟩
 have a7:¬(x.toNat:Int)=91:=yG7 (c:=91) h91;have HS:Hid (¬yB3 x):=λq=>by
  rcases q with q|q|q|q|q
  .exact HX.2 q
  .exact h40 q
  .exact h91 q
  .exact h46 q
  .exact h92 q
 go_wp2;go_ret;exact⟨a0.2,i+1,_,_,yBx.plain HX.1 HS,rfl,yJq _ _ _,a0.1⟩
variable {l:List U8}
theorem yNe{p:List U8}{i:Nat}(h:inB p i l=true):∃c,p[i]?=some c/\c∈l:=by
 unfold inB at h;split at h
 .next c hc=>exact⟨c,hc,by simpa using h⟩
 .cases h
theorem yI1{p:List U8}{i:Nat}(h:inB p i l=false):∀c,p[i]?=some c->¬c∈l:=by intro c hc;unfold inB at h;rw[hc]at h;simpa using h
theorem yOr:c∈([42,43,63]:List U8)↔isOp c:=by simp[isOp]
structure RepJ(p:Ba)(O g i o j:Nat)(a:Pat)(v:Vv)(RB:Nat)(w:Ww)(k:Nat)(op rp:Bool)(wr:Ww):Prop where
 ops:yLe (sb p) o i j k a op rp
 rd:PrAt wr O g p k o
 A:yA wr w 362 3 RB [v,op,rp]
 node:yBt wr (Bet w RB) a v
 i:Chg (λk=>k=g) w wr
variable {p:Ba} {j:Nat}
theorem RepJ.K{i:Nat}{a:Pat}(h:RepJ p O g i o j a v RB w k op rp wr)(hb:Below wr wr w'):RepJ p O g i o j a v RB w k op rp w':=
 ⟨h.ops,yA.k h.rd hb,h.A.k hb,h.node.K (S:=λ_=>False) (Chg.h hb) (λk q=>q.elim) (λk _ q=>q),h.i.trans (Chg.h hb)⟩
theorem RepJ.step{g i:Nat}{a:Pat}{v:Vv}{RB:Nat}{k:Nat}{op rp:Bool}{wr:Ww}{c:U8}(h:RepJ p O g i o j a v RB w k op rp wr)(hg:g<w.heap.size)(hc:(sb p)[k]?=some c)(ho:isOp c)(hP:PrAt w' O g p (k+1) o)(hC:Chg (λk=>k=g) wr w'):
  RepJ p O g i o j a v RB w (k+1) (op || c != 43) (rp || c != 63) (xt (w'.setCell (xd RB 1) (op || c != 43)) RB 2 (rp || c != 63)):=by
 have hr:=h.A.lt.1;have c1:=Chg.D w' RB 1 (op || c != 43) (S:=λk=>k=RB) rfl;have c2:=Chg.D (xt w' RB 1 (op || c != 43)) RB 2 (rp || c != 63) (S:=λk=>k=RB) rfl;have c3:=c1.trans c2;refine⟨h.ops.more hc ho,yA.i hP c3 qo,((h.A.i hC qo).set 1 _).set 2 _,?_,((h.i.trans hC).absorb c3 (λj q=>.inr qo))⟩;exact(h.node.K hC (λk q=>by subst q;exact λz=>by have:=z.1;omega) (λk _ q=>q)).K c3 (λk q=>by subst q;exact λz=>by have:=z.2;omega) (λk _ q=>q)
def RepC(p:Ba)(m:Nat):Prop:=∀(O g i o:Nat)(w:Ww),p.size-i<=m->i<p.size->o<=20->(∀c,(sb p)[i]?=some c->¬yGl c)->ChG p i o->PrAt w O g p i o->Calls prog 257 #[xp g] w (yI9 p O g o w (ySg (sb p) o i))
theorem xC(H:xBn p m)(hp:p.size<=200):RepC p m:=by
 intro O g i o w hm hi ho he hc h;have HP:Hid (PrAt w O g p i o):=h;have al:=h.lt.2;go_enter func257,ntmps257;go_wp2_with fail;apply (H O g i o w hm hi ho he hc HP.out).mono;rintro e w1 ⟨a8,j,a,v,hA,rfl,hN,ag⟩;clear hc;obtain⟨T,cs,rfl⟩:=hN.iface;have a2:Hid (yBx (sb p) o i j a/\yBt w1 (Bet w w1) a (.iface T (.agg cs))/\PrAt w1 O g p j o/\Chg (λk=>k=g) w w1):=⟨hA,hN,ag,a8⟩;go_wp2_with fail;refine(yDu ⟨#[42,43,63]⟩ a2.2.2.1 hp).mono ?_;rintro e w2 ⟨rfl,hb2⟩
 have a1:Hid (yBt w2 (Bet w w2) a (.iface T (.agg cs))/\PrAt w2 O g p j o/\Chg (λk=>k=g) w w2):=
  ⟨a2.2.1.K (S:=λ_=>False) (Chg.h hb2) (λk q=>q.elim) (λk hk q=>⟨q.1,by have:=hb2.size;omega⟩),yA.k a2.2.2.1 hb2,a2.2.2.2.trans (Chg.h hb2)⟩
 have HA:Hid (yBx (sb p) o i j a):=a2.1;obtain⟨q,hq⟩:=qE (inB (sb p) j (sb ⟨#[42,43,63]⟩));have HQ:Hid (inB (sb p) j [42,43,63]=q):=hq.symm;rw[<-hq];clear hb2 hq a2;cases q
 .have HR:Hid (ySg (sb p) o i j a):=by have:=(yLe.zero HA.out).rep (λc hc a3=>yI1 HQ.out c hc (yOr.2 a3));rw[iB rfl]at this;exact this
  go_wp2_with fail;go_ret;exact⟨a1.2.2,j,a,_,HR.out,rfl,a1.1,a1.2.1⟩
 have ak:j<=p.size:=by have:=HA.le;rw[yAe]at this;exact this
 obtain⟨W3,a5⟩:=qE (xw w2 #[.iface T (.agg cs),false,false] 362:Ww);have ab:=a1.2.2.size;have a9:Hid (RepJ p O g i o j a (.iface T (.agg cs)) w2 w j false false W3):=by
  have hb:=qN a5
  refine⟨yLe.zero HA.out,yA.k a1.2.1 hb,?_,a1.1.K (S:=λ_=>False) (Chg.h hb) (λk q=>q.elim) (λk _ q=>q),a1.2.2.trans (Chg.h hb)⟩;rw[a5];exact yAa w2 _ ab rfl
 have an:Hid (∃c,(sb p)[j]?=some c/\isOp c):=by obtain⟨c,h1,h2⟩:=yNe HQ.out;exact⟨c,h1,yOr.1 h2⟩
 clear a1;go_wp2_with fail;rw[<-a5];obtain⟨RB,a6⟩:=qE w2.heap.size;rw[<-a6]at a9;rw[<-a6];have aq:w.heap.size<=RB:=by omega
 clear a5 a6 ab;go_loopw[5] (λsg wr=>∃(k:Nat)(op rp:Bool),j<=k/\k<=p.size/\(k=j->∃c,(sb p)[j]?=some c/\isOp c)/\RepJ p O g i o j a (.iface T (.agg cs)) RB w k op rp wr) (λ_ wr=>p.size-atOf wr g);case atStart=>exact⟨j,false,false,AQ _,ak,λ_=>an.out,a9.out⟩
 case round=>
  obtain⟨k,op,rp,au,ar,ac,hJ⟩:=hrel;have HJ:Hid (RepJ p O g i o j a (.iface T (.agg cs)) RB w k op rp wr/\(k=j->∃c,(sb p)[j]?=some c/\isOp c)/\atOf wr g=k):=⟨hJ,ac,yFp hJ.rd⟩;clear hJ ac a9;go_wp2_with fail;refine(yDu ⟨#[42,43,63]⟩ HJ.1.rd hp).mono ?_;rintro e w5 ⟨rfl,ae⟩;have a0:Hid (RepJ p O g i o j a (.iface T (.agg cs)) RB w k op rp w5):=HJ.1.K ae;obtain⟨q,hq⟩:=qE (inB (sb p) k (sb ⟨#[42,43,63]⟩));have aa:Hid (inB (sb p) k [42,43,63]=q):=hq.symm;rw[<-hq];clear ae hq;cases q
  .have HR:Hid (ySg (sb p) o i k (.rep a op rp)):=by
    have h1:=a0.ops.rep (λc hc a3=>yI1 aa.out c hc (yOr.2 a3));rw[iA (λq=>by
     obtain⟨c,hc,a3⟩:=HJ.2.1 q.symm
     rw[q]at hc
     exact yI1 aa.out c hc (yOr.2 a3))]at h1
    exact h1
   obtain⟨b0,b1,b2⟩:=a0.A.c3;go_wp2_with fail;go_ret;exact⟨a0.i,k,_,_,HR.out,rfl,yUw (a0.node.K (S:=λ_=>False) (Chg.refl _ _) (λk q=>q.elim) (λk hk q=>⟨q.1,hk⟩)) op rp,a0.rd⟩
  .obtain⟨c,hc,ad⟩:=yNe aa.out;have HC:Hid ((sb p)[k]?=some c/\isOp c):=⟨hc,yOr.1 ad⟩;have aj:k+1<=p.size:=by have:=yAq hc;rw[yAe]at this;omega
   clear hc ad;go_wp2_with fail;refine(yFd a0.rd hp HC.1).mono ?_;rintro e w6 ⟨rfl,af,a7⟩;have ai:=a0.step al HC.1 HC.2 af a7;have a4:=a0.A.i a7 (show¬RB=g by omega);have b1:=a4.z (j:=1) rfl;have b2:=a4.z (j:=2) rfl;have g1:=a4.frozen 1;have g2:=a4.frozen 2;have ah:=qH1 ai;have ao:=qH1 HJ.2.2;clear ai a4 af a7 a0 HJ;rcases HC.2 with rfl|rfl|rfl<;>cases op<;>cases rp
   all_goals go_wp2_with fail
   all_goals go_roundw
   all_goals first
    |exact⟨k+1,_,_,qo,aj,λq=>qo,ah.out⟩
    |exact Nat.lt_of_le_of_lt (Nat.le_of_eq (congrArg (p.size- ·) (yFp ah.rd))) (by rw[ao.out];omega)
section
def xE6(p:Ba)(O g i o:Nat)(w:Ww)(e:AK)(w':Ww):Prop:=
 Chg (λk=>k=g) w w'/\∃(k:Nat)(ts:List Pat)(u:Vv),yKj (sb p) o i k ts/\(∀c,(sb p)[k]?=some c->yGl c)/\e=.returned (.agg #[u])/\yGo w' (Bet w w') ts u/\PrAt w' O g p k o
def SeqC(p:Ba)(m:Nat):Prop:=∀(O g i o:Nat)(w:Ww),p.size-i<=m->i<=p.size->o<=20->ChG p i o->PrAt w O g p i o->Calls prog 243 #[xp g] w (xE6 p O g i o w)
def NR(lo:Nat)(v:Vv):Nat->Prop:=λk=>lo<=k/\¬v.ownBlock=some k
structure SeqJ(p:Ba)(O g i o:Nat)(w:Ww)(k:Nat)(ts:List Pat)(us:List Vv)(v:Vv)(wr:Ww):Prop where
 ok:yKj (sb p) o i k ts
 rd:PrAt wr O g p k o
 res:yA wr w 316 1 w [xh]
 A:yA wr w 316 1 (w+1) [v]
 j:OwnN wr (w+2) v us
 X:us.length=ts.length
 nodes:∀(i:Nat) x t,us[i]?=some x->ts[i]?=some t->yBt wr (NR (w+2) v) t x
 i:Chg (λk=>k=g) w wr
 glt:g<w
theorem OwnN.i(h:OwnN w O v us)(hc:Chg S w w')(hn:∀k,v.ownBlock=some k->¬S k):OwnN w' O v us:=yAg h hc hn
theorem OwnN.slice(h:OwnN w O v us):∃a cp,v=.slice a us.length cp:=by
 rcases h.2 with⟨rfl,h0⟩|⟨g,cap,cur,rfl,_⟩
 .exact⟨none,0,by rw[h0]⟩
 .exact⟨_,_,rfl⟩
variable {p:Ba} {i:Nat}
theorem SeqJ.K(h:SeqJ p O g i o w k ts us v wr)(hb:Below wr wr w'):SeqJ p O g i o w k ts us v w':=
 ⟨h.ok,yA.k h.rd hb,h.res.k hb,h.A.k hb,h.j.i (S:=λ_=>False) (Chg.h hb) (λ_ _ q=>q),h.X,λi x t hx ht=>(h.nodes i x t hx ht).K (S:=λ_=>False) (Chg.h hb) (λk q=>q.elim) (λk _ q=>q),h.i.trans (Chg.h hb),h.glt⟩
structure SeqK(p:Ba)(O g i o:Nat)(w:Ww)(k:Nat)(ts:List Pat)(us:List Vv)(v:Vv)(t:Pat)(x:Vv)(wr:Ww):Prop where
 ok:yKj (sb p) o i k (ts++ [t])
 rd:PrAt wr O g p k o
 res:yA wr w 316 1 w [xh]
 A:yA wr w 316 1 (w+1) [v]
 j:OwnN wr (w+2) v us
 X:us.length=ts.length
 nodes:∀(i:Nat) y s,(us++ [x])[i]?=some y->(ts++ [t])[i]?=some s->yBt wr (NR (w+2) v) s y
 i:Chg (λk=>k=g) w wr
 glt:g<w
variable {x:Vv}
theorem SeqK.K(h:SeqK p O g i o w k ts us v t x wr)(hb:Below wr wr w'):SeqK p O g i o w k ts us v t x w':=
 ⟨h.ok,yA.k h.rd hb,h.res.k hb,h.A.k hb,h.j.i (S:=λ_=>False) (Chg.h hb) (λ_ _ q=>q),h.X,λi x t hx ht=>(h.nodes i x t hx ht).K (S:=λ_=>False) (Chg.h hb) (λk q=>q.elim) (λk _ q=>q),h.i.trans (Chg.h hb),h.glt⟩
theorem yHq{α:Type}{l:List α}{a b:α}{i:Nat}(h:(l++ [a])[i]?=some b):l[i]?=some b\/(i=l.length/\b=a):=by
 by_cases hi:i<l.length
 .rw[getElem?_append_left hi]at h;exact .inl h
 .rw[getElem?_append_right qo]at h;have h2:=qf h;simp at h2;have:i-l.length=0:=qo
  rw[this]at h;simp at h;exact .inr ⟨qo,h.symm⟩
theorem SeqJ.rep(h:SeqJ p O g i o w k ts us v wr)(hC:Chg (λk=>k=g) wr w6)(hR:ySg (sb p) o k k6 t)(hN:yBt w6 (Bet wr w6) t x)(hP:PrAt w6 O g p k6 o):SeqK p O g i o w k6 ts us v t x w6:=by
 have hg:=h.glt;have hz:=h.i.size;have a0:=h.A.lt.2;have hv:∀j,v.ownBlock=some j->w+2<=j/\j<wr:=λj hj=>AC h.j j hj;refine⟨h.ok.more hR,hP,h.res.i hC qo,h.A.i hC qo,h.j.i hC (λj hj q=>qw ((hv j hj).1)),h.X,?_,h.i.trans hC,hg⟩;intro j y s hy hs;rcases yHq hy with hy|⟨hj,rfl⟩
 .rcases yHq hs with hs|⟨hj,rfl⟩
  .exact(h.nodes j y s hy hs).K hC (λq hq=>by subst hq;exact λz=>qw z.1) (λq _ z=>z)
  .have:=qf hy;have:=h.X;omega
 .rcases yHq hs with hs|⟨_,rfl⟩
  .have:=qf hs;have:=h.X;omega
  .refine hN.K (S:=λ_=>False) (Chg.refl _ _) (λq hq=>hq.elim) (λq _ z=>⟨?_,λe=>?_⟩)
   .have:=z.1;omega
   .have:=(hv q e).2;have:=z.1;omega
theorem SeqK.push(h:SeqK p O g i o w k ts us v t x wr)(hO:OwnN w' (w+2) v' (us++ [x]))(hg:wr.grownBy w' v.ownBlock)(hat:∀j,v'.ownBlock=some j->v.ownBlock=some j\/j=wr):
  SeqJ p O g i o w k (ts++ [t]) (us++ [x]) v' (xt w' (w+1) 0 v')/\xk w' (w+1) 0 v/\w'.frozen? (xd (w+1) 0)=false:=by
 have a3:=h.glt;have hv:∀j,v.ownBlock=some j->w+2<=j/\j<wr:=λj hj=>AC h.j j hj;have a1:∀j,v'.ownBlock=some j->w+2<=j/\j<w':=λj hj=>AC hO j hj;have hc:=Chg.M hg (λj hj=>hj);have hs:Chg (λj=>j=w+1) w' (xt w' (w+1) 0 v'):=Chg.D w' (w+1) 0 _ rfl;have a0:=h.A.i hc (λq=>qw ((hv _ q).1));refine⟨⟨h.ok,?_,?_,a0.set 0 _,hO.i hs (λj hj q=>qw ((a1 j hj).1)),by rw[AB,AB,h.X];rfl,?_,?_,a3⟩,a0.z (j:=0) rfl,a0.frozen 0⟩
 .exact yA.i (yA.i h.rd hc (λq=>qw ((hv _ q).1))) hs qo
 .exact(h.res.i hc (λq=>qw ((hv _ q).1))).i hs (by omega)
 .intro j y s hy a2;have h1:=(h.nodes j y s hy a2).K hc (λq hq z=>z.2 hq) (lo':=NR (w+2) v') (λq hq z=>⟨z.1,λe=>by rcases hat q e with e|e;exact z.2 e;omega⟩);exact h1.K hs (λq hq=>by subst hq;exact λz=>qw z.1) (λq _ z=>z)
 .exact(h.i.absorb hc (λj q=>.inr (qw ((hv j q).1)))).absorb hs (λj q=>.inr (by omega))
theorem yIq{K:Act->Ww->Prop}(w:Ww)(hgd:oo.guard=none) s x
  (ho:oo.op=.call {callee:=.builtin .append,args:=#[s,x],argTypes:=#[314,314]})
  (O n blk:Nat) (v y:Vv) (us:List Vv) (hn:n=us.length) (hs:a.eval s=v) (hx:a.eval x=(xg blk 1 1)) (hO:OwnN w O v us)
  (hc:(xk w blk 0 y:Prop)) (hy:y.oneCell'=true) (hlen:us.length<=1000) (hbase:O<=w)
  (h:∀g' cp' w',OwnN w' O (xg g' (n+1) cp') (us++ [y])->w.grownBy w' v.ownBlock->(v.ownBlock=some g'\/g'=w)->K (a.put oo.dst (xg g' (n+1) cp')) w'):if Region.wanted oo (yielded ops a.tmps)=true then Oper.wp prog oo a w K Q else E:=by
 subst hn;have⟨i,hi,a2,a1,a0⟩:=info_parts Tryz.infoNode;refine step_append_lies w hgd s x 314 ho O 346 i _ 1 16 underlying314 hi a2 a1 a0 rfl qj v us.length us hs hO (xd blk 0) 1 1 [y] hx rfl ?_ ?_ qj ?_ ?_ hbase w rfl ?_
 .exact xGd
 .intro u hu;simp at hu;subst hu;exact hy
 .unfold maxLen;omega
 .omega
 .intro g' cp' w' a5 a3 a4 a6;refine h g' cp' w' ?_ a3 a4;unfold OwnN;rw[AB];exact a5
variable {p:Ba}
theorem xB8(H:RepC p m)(hp:p.size<=200):SeqC p m:=by
 intro O g i o w hm hi ho hc h;have HC:=qH1 hc;have ak:=h.lt.2;have⟨W0,a1⟩:=qW (xw (w.alloc (AD #[xh] 316)) #[xh] 316);have ae:Hid (SeqJ p O g i o w i [] [] xh W0):=by
  have hb:=a1▸((qB).alloc (by simp) _)
  have h1:=a1▸(yA.ofHeap (vs:=#[.slice none 0 0]) (AR w _ _) qr rfl)
  have h2:yA W0 w 316 1 (w+1) [xh]:=a1▸(yA.ofHeap (vs:=#[.slice none 0 0]) (AH w _ _) qo rfl)
  exact⟨yKj.nil (by rw[yAe];exact hi),yA.k h hb,h1,h2,World.ownsRow_nil ..,rfl,λi x t hx=>by simp at hx,Chg.h hb,ak⟩
 go_enter func243,ntmps243;go_wp2;rw[<-a1];go_loopw[] (λwr=>∃(k:Nat)(ts:List Pat)(us:List Vv)(v:Vv),i<=k/\k<=p.size/\us.length<=k/\SeqJ p O g i o w k ts us v wr) (λwr=>p.size-atOf wr g);case atStart=>exact⟨i,[],[],_,AQ _,hi,AU _,ae⟩
 case round=>
  have⟨k,ts,us,v,ax,aw,ar,hJ⟩:=hrel;have HJ:=qH2 hJ (yFp hJ.rd);have⟨va,vc,ag⟩:=hJ.j.slice;subst ag;have a8:=HJ.1.rd.lt.2;have⟨c0,c1⟩:=HJ.1.rd.c2;have e0:∀n:Out wr,(xk n.u g 0 p:Prop):=λn=>(n.out.cell (p:=(xd g 0)) a8).trans c0;have e1:∀n:Out wr,(xk n.u g 1 (xi k):Prop):=λn=>(n.out.cell (p:=(xd g 1)) a8).trans c1;have⟨q,hq⟩:=qE (inB (sb p) k (sb ⟨#[42,43,63,124,41,93]⟩));have HQ:=qH1 hq.symm;have HI:Hid (∀n:Out wr,(xf 256 #[xp g,.string ⟨#[42,43,63,124,41,93]⟩] n.u q:Prop)):=λn=>hq▸(yDu _ (yA.k HJ.1.rd n.out) hp)
  clear c0 c1 hq;by_cases hgo:k<p.size/\q=false
  .obtain⟨a4,rfl⟩:=hgo;have z1:=qo
   have an:Hid (∀c,(sb p)[k]?=some c->¬yGl c):=λc hc he=>yI1 HQ c hc (by
    rcases he with(rfl|rfl|rfl)|rfl|rfl|rfl<;>simp)
   go_upto_region 2 with fail;apply yAv qk qk;repeat (go_big_quiet_step ((first|rfl|(go_at_call 256;exact Calls.out_of (HI _)))))
   apply wpQuiet_nil;rintro w1 ⟨⟨wx,hb1⟩,rfl⟩;have HJ1:=qH1 (HJ.1.K hb1);have ao:=qH1 HJ.2;have au:=hb1.size;clear e0 e1 HI hb1 HJ;have b0:=HJ1.A.z (j:=0) rfl;have av:=HJ1.A.lt.2;have am:Hid (∀w',Below w1 w1 w'->Calls prog 257 #[xp g] w' (yI9 p O g o w' (ySg (sb p) o k))):=λw' hb=>H O g k o w' qo a4 ho an (by
    unfold ChG;rw[yTx (λc h q=>an c h (.inl q)) false _,<-HJ1.ok.chk];exact HC) (yA.k HJ1.rd hb);go_upto_region 3 with fail
   go_region_law ((first
                |(go_simp;go_at_call 257;apply (am.out _ (Below.refl _ _).drew).mono;rintro e' w6 ⟨a7,k6,t,x,a5,rfl,a6,ab⟩;obtain⟨T6,a3,rfl⟩:=a6.iface;have a0:=qH2 ((HJ1.K (Below.refl _ _).drew).rep a7 a5 a6 ab) a5;have m6:=a0.1.A.z (j:=0) rfl;have af:=a0.1.A.lt.2;have aq:∀o,(xk (w6.alloc o) (w+1) 0 (.slice va us.length vc):Prop):=λo=>by {rw[((Below.refl w6 w6).alloc qr o).cell (p:=(xd (w+1) 0)) af];exact m6};clear a7 a5 a6 ab)
                |(refine yIq _ (by rfl) _ _ (by rfl) (w+2) us.length w6 (.slice va us.length vc) (.iface T6 (.agg a3)) us rfl (by rfl) (by rfl) ?hO ?hc rfl ?hl ?hb ?_
                  case hO=>exact(a0.1.K (qB)).j
                  case hc=>simp
                  case hl=>omega
                  case hb=>have:=(a0.1.K ((Below.refl _ _).alloc qr (AD #[.iface T6 (.agg a3)] 346))).A.lt.2;omega
                  intro g7 ay w7 ac a9 aa
                  have a2:=(a0.1.K ((Below.refl _ _).alloc qr (AD #[.iface T6 (.agg a3)] 346))).push ac a9 (λj hj=>by have aj:g7=j:=by {simpa [AO]using hj};rw[<-aj];exact aa)
                  have ad:=qH1 a2.1
                  have m7:=a2.2.1
                  have f7:=a2.2.2
                  clear a2 ac a9 aa)))
   all_goals go_wp2_with fail
   all_goals go_roundw
   all_goals first
    |exact⟨k6,ts++ [t],us++ [.iface T6 (.agg a3)],_,qw a0.2.lt,by have:=a0.2.le;rw[yAe]at this;exact this,by have:=a0.2.lt;rw[AB];simp;omega,ad.out⟩
    |(rw[ao,yFp ad.rd];have:=a0.2.lt;omega)
  .have HE:Hid (∀c,(sb p)[k]?=some c->yGl c):=by
    intro c hc;have hk:=yAq hc;rw[yAe]at hk;cases q
    .exact absurd ⟨hk,rfl⟩ hgo
    .have⟨d,hd,hm⟩:=yNe HQ;rw[hc]at hd;cases hd
     simp at hm;rcases hm with rfl|rfl|rfl|rfl|rfl|rfl<;>simp[yGl,isOp]
   have HX:=qH1 HJ.1;clear HQ HJ;have fin:∀w1,Below wr wr w1->Hid (SeqJ p O g i o w k ts us (.slice va us.length vc) w1):=λw1 hb=>HX.K hb;by_cases a4:k<p.size
   .have ah:q=true:=by
     cases q
     .exact absurd ⟨a4,rfl⟩ hgo
     .rfl
    subst ah;have z1:=qo
    clear hgo;go_upto_region 2 with fail;apply yAv qk qk;repeat (go_big_quiet_step ((first|rfl|(go_at_call 256;exact Calls.out_of (HI _)))))
    exact xGm
   .have z1:=qo
    clear hgo;go_upto_region 2 with fail;apply yAv qk qk;repeat (go_big_quiet_step (rfl))
    exact xGm
end
section
structure AltJ(p:Ba)(O g i o:Nat)(w:Ww)(k:Nat)(os:List (List Pat))(us:List Vv)(gq cp:Nat)(wr:Ww):Prop where
 ok:yE8 (sb p) o i k os
 nxt:∀c,(sb p)[k]?=some c->yGl c
 rd:PrAt wr O g p k o
 res:yA wr w 304 1 w [xh]
 j:OwnQ wr (w+1) gq cp us
 X:us.length=os.length
 seqs:∀(i:Nat) x ts,us[i]?=some x->os[i]?=some ts->yGo wr (λj=>w.heap.size+1<=j/\¬j=gq) ts x
 i:Chg (λk=>k=g) w wr
 glt:g<w.heap.size
theorem OwnQ.i(h:OwnQ w O gq cp us)(hc:Chg S w w')(hn:¬S gq):OwnQ w' O gq cp us:=yAg h hc (λk q=>by simp[AO]at q;subst q;exact hn)
variable {p:Ba} {i:Nat}
theorem AltJ.read(h:AltJ p O g i o w k os us gq cp wr)(hC:Chg (λk=>k=g) wr w')(hP:PrAt w' O g p k' o):
  yA w' w 304 1 w [xh]/\OwnQ w' (w+1) gq cp us/\(∀(i:Nat) x ts,us[i]?=some x->os[i]?=some ts->yGo w' (λj=>w.heap.size+1<=j/\¬j=gq) ts x)/\Chg (λk=>k=g) w w':=by
 have hg:=h.glt;have hq:=h.j.lt;exact⟨h.res.i hC qo,h.j.i hC qo,λi x ts hx ht=>(h.seqs i x ts hx ht).K hC (λq hq=>by subst hq;exact λz=>qw z.1) (λq _ z=>z),h.i.trans hC⟩
theorem xIt:ApT 302 316 1 (λl=>l) OwnQ AtV:=apTV ⟨underlying302,_,_,Tryz.infoSeq,rfl,qj,qj⟩ Iff.rfl
theorem yGo.slice(h:yGo w R ts u):∃a n cp,u=.slice a n cp:=by
 obtain⟨n,h|⟨g,cp,us,h1,_⟩⟩:=h
 .exact⟨_,_,_,h.2⟩
 .exact⟨_,_,_,h1⟩
variable {p:Ba}
theorem xCp(H:SeqC p m)(hp:p.size<=200):AltC p m:=by
 intro O g i o w hm hi ho hc h;have HC:=qH1 hc;have am:=h.lt.2;have⟨W0,a8⟩:=qW (xw w #[xh] 304);have a6:Hid (PrAt W0 O g p i o/\yA W0 w 304 1 w [xh]/\Chg (λk=>k=g) w W0/\W0.heap.size=w.heap.size+1):=by
  have hb:=qN a8
  refine⟨yA.k h hb,?_,Chg.h hb,by rw[a8];simp⟩;rw[a8];exact yAa w _ qr rfl
 go_enter func229,ntmps229;go_upto_region 1 with fail;rw[<-a8];clear a8;go_wp2_with fail;apply (H O g i o W0 hm hi ho hc a6.1).mono;rintro e w1 ⟨a9,k,ts,u,hS,hE,rfl,hU,aq⟩;obtain⟨ua,un,uc,rfl⟩:=hU.slice;have af:i<=k/\k<=p.size:=by have h1:=hS.le;have h2:=hS.lei;rw[yAe]at h1;exact⟨h2,h1⟩
 obtain⟨W2,ab⟩:=qW (xw w1 #[.slice ua un uc] 316);have ak:Hid (AltJ p O g i o w k [ts] [.slice ua un uc] w1 1 W2):=by
  have hb:=qN ab
  have hz:=a6.2.2.2;have hs:=a9.size;refine⟨yE8.one hS,hE,yA.k aq hb,(a6.2.1.i a9 qo).k hb,?_,rfl,?_,(a6.2.2.1.trans a9).trans (Chg.h hb),am⟩
  .rw[ab];exact World.ownsRow_lit w1 #[.slice ua un uc] 1 qo qj rfl
  .intro j x ss hx al;have hj:j=0:=by have:=qf hx;simpa using this
   subst hj;simp at hx al;subst hx al;exact hU.K (S:=λ_=>False) (Chg.h hb) (λq hq=>hq.elim) (λq hq z=>⟨qw z.1,qo⟩)
 clear a9 hS hE hU aq a6;go_wp2_with fail;rw[<-ab];obtain⟨aA,ah⟩:=qE w1;rw[<-ah]at ak;rw[<-ah];clear ab ah;go_loopw[3] (λsv wr=>∃(k gq cp:Nat)(os:List (List Pat))(us:List Vv),i<=k/\k<=p.size/\us.length<=k+1/\sv=(xg gq us.length cp)/\AltJ p O g i o w k os us gq cp wr) (λ_ wr=>p.size-atOf wr g);case atStart=>exact⟨k,aA,1,[ts],[.slice ua un uc],af.1,af.2,by simp,rfl,ak.out⟩
 case round=>
  obtain⟨k,gq,cp,os,us,aF,af,aC,rfl,hJ⟩:=hrel;have HJ:=qH2 hJ (yFp hJ.rd);clear hJ ak;go_wp2_with fail;refine(yD6 124 HJ.1.rd hp).mono ?_;rintro e w3 ⟨ae,(⟨hx,rfl,a1⟩|⟨hx,rfl,a1⟩)⟩
  .have az:k+1<=p.size:=by have:=yAq hx;rw[yAe]at this;omega
   have HX:=qH3 hx a1 (HJ.1.read ae a1);have a7:Hid (yE8 (sb p) o i k os/\us.length=os.length/\atOf wr g=k):=⟨HJ.1.ok,HJ.1.X,HJ.2⟩;clear ae hx a1 HJ;go_wp2_with fail;refine(H O g (k+1) o w3 qo az ho (by unfold ChG;rw[<-yJ9 HX.1 (a:=false),<-a7.1.chk];exact HC) HX.2.1).mono ?_;rintro e w4 ⟨ad,k4,aa,u4,ac,au,rfl,aj,ao⟩;obtain⟨a4,a2,a3,rfl⟩:=aj.slice;have ax:k+1<=k4/\k4<=p.size:=by have h1:=ac.le;have h2:=ac.lei;rw[yAe]at h1;exact⟨h2,h1⟩
   obtain⟨W5,a5⟩:=qW (xw w4 #[.slice a4 a2 a3] 316);have a0:Hid (yE8 (sb p) o i k4 (os++ [aa])/\(∀c,(sb p)[k4]?=some c->yGl c)/\PrAt W5 O g p k4 o/\yA W5 w 304 1 w [xh]/\OwnQ W5 (w+1) gq cp us/\(∀(i:Nat) x ts,(us++ [.slice a4 a2 a3])[i]?=some x->(os++ [aa])[i]?=some ts->yGo W5 (λj=>w.heap.size+1<=j/\¬j=gq) ts x)/\Chg (λk=>k=g) w W5/\xk W5 w4 0 (.slice a4 a2 a3)/\w.heap.size+1<=W5.heap.size):=by
    have hb:=qN a5
    have hq:=HX.2.2.2.1.lt;have aE:=ad.size;have aD:=hb.size;have hc:Chg (λk=>k=g) w3 W5:=ad.trans (Chg.h hb);refine⟨yE8.more a7.1 HX.1 ac,au,yA.k ao hb,HX.2.2.1.i hc qo,HX.2.2.2.1.i hc qo,?_,HX.2.2.2.2.2.trans hc,by rw[a5];simp,qo⟩;intro j y s hy hs;rcases yHq hy with hy|⟨hj,rfl⟩
    .rcases yHq hs with hs|⟨hj,rfl⟩
     .exact(HX.2.2.2.2.1 j y s hy hs).K hc (λq hq=>by subst hq;exact λz=>qw z.1) (λq _ z=>z)
     .have:=qf hy;have:=a7.2.1;omega
    .rcases yHq hs with hs|⟨_,rfl⟩
     .have:=qf hs;have:=a7.2.1;omega
     .exact aj.K (S:=λ_=>False) (Chg.h hb) (λq hq=>hq.elim) (λq _ z=>⟨qw z.1,λe=>qw z.1⟩)
   clear ad ac au aj ao HX;go_wp2_with (at_builtin;rw[<-a5];refine wpA rfl (apK xIt rfl (w+1) us [.slice a4 a2 a3] rfl rfl rfl rfl ?hO (atV1 ?hc rfl) (lN ?hl) ?hb ?_));case hO=>exact a0.2.2.2.2.1
   case hc=>exact a0.2.2.2.2.2.2.2.1
   case hl=>omega
   case hb=>exact a0.2.2.2.2.2.2.2.2
   intro g6 av w6 ar ag an;rw[<-a5]at ag;have aB:=qS a5
   have aw:Hid (AltJ p O g i o w k4 (os++ [aa]) (us++ [.slice a4 a2 a3]) g6 av w6):=by have hq:=a0.2.2.2.2.1.lt;have hc:Chg (λj=>j=gq) W5 w6:=Chg.M ag (λj hj=>by cases hj;rfl);refine⟨a0.1,a0.2.1,yA.i a0.2.2.1 hc (by omega),a0.2.2.2.1.i hc (by omega),ar,by rw[AB,AB,a7.2.1];rfl,?_,a0.2.2.2.2.2.2.1.absorb hc (λj q=>.inr (by omega)),am⟩;intro j y s hy hs;exact(a0.2.2.2.2.2.1 j y s hy hs).K hc (λq hq z=>z.2 hq) (λq hq z=>⟨z.1,λe=>by rcases an with r|r;exact z.2 qo;omega⟩)
   clear ar ag an a5 a0;go_wp2;go_roundw;case rel=>exact⟨k4,g6,av,os++ [aa],us++ [.slice a4 a2 a3],qo,ax.2,by rw[AB];simp;omega,by rw[AB];rfl,aw.out⟩
   case measure=>rw[a7.2.2,yFp aw.rd];omega
  .have HX:=qH3 HJ.1.ok (λc hc=>⟨HJ.1.nxt c hc,λq=>by subst q;exact hx hc⟩:(∀c,(sb p)[k]?=some c->yGl c/\¬c=124)) HJ.1.X;have HR:=HJ.1.read ae a1;have HF:=qH2 a1 HR;clear HR ae hx a1 HJ;have r0:=HF.2.1.z (j:=0) rfl;have rf:=HF.2.1.frozen 0;go_wp2;refine AL (v:=.agg #[xg gq us.length cp]) (by simp[results,results229,go_sem,World.cell?_setCell_same _ _ _ r0]) rfl ?_;have hc:=Chg.D w3 w 0 (xg gq us.length cp) (S:=λj=>j=w.heap.size) rfl;have hq:=HF.2.2.1.lt;refine⟨HF.2.2.2.2.absorb hc (λj q=>.inr qo),k,os,_,HX.1,HX.2.1,rfl,?_,yA.i HF.1 hc qo⟩;obtain⟨n,hn⟩:=ySw HX.2.2 (λi x ts hx ht=>(HF.2.2.2.1 i x ts hx ht).K (S:=λ_=>False) (Chg.refl _ _) (λ_ q=>q.elim) (lo':=λj=>w.heap.size+1<=j) (λ_ _ q=>q.1));have hA:yD2 w3 (λj=>w.heap.size+1<=j) os (xg gq us.length cp):=⟨n,gq,cp,us,by rw[HX.2.2],HX.2.2,HF.2.2.1.vals hq.1,hn⟩;exact hA.K hc (λj q=>by subst q;exact λz=>qo) (λj hj z=>⟨qo,qw hc.size⟩)
theorem yZg(hp:p.size<=200):∀m,xBn p m/\AltC p m
 |0=>by
  have h0:xBn p 0:=λO g i o w hm hi=>qo
  exact⟨h0,xCp (xB8 (xC h0 hp) hp) hp⟩
 |m+1=>by
  have h1:=xE0 (yZg hp m).2 hp
  exact⟨h1,xCp (xB8 (xC h1 hp) hp) hp⟩
theorem xBh(hp:p.size<=200)(O g i o:Nat) w (hi:i<=p.size) (ho:o<=20) (hc:ChG p i o) (h:PrAt w O g p i o):Calls prog 229 #[xp g] w (yZq p O g i o w):=
 (yZg hp (p.size-i)).2 O g i o w qr hi ho hc h
end
noncomputable def zeroOf(t:Nat):Vv:=((prog.info? t).bind (λi=>i.zero)).getD undef
theorem asBB(cs:Array Vv)(w:Ww):(AA (.iface 348 (.agg cs)) 346 348 true).run prog w=.ok (.tuple #[.agg cs,true]) w:=qk
theorem asCC(cs:Array Vv)(w:Ww):(AA (.iface 360 (.agg cs)) 346 360 true).run prog w=.ok (.tuple #[.agg cs,true]) w:=qk
theorem asCB(cs:Array Vv)(w:Ww):(AA (.iface 360 (.agg cs)) 346 348 true).run prog w=.ok (.tuple #[zeroOf 348,false]) w:=qk
theorem asRR(cs:Array Vv)(w:Ww):(AA (.iface 362 (.agg cs)) 346 362 true).run prog w=.ok (.tuple #[.agg cs,true]) w:=qk
theorem asRB(cs:Array Vv)(w:Ww):(AA (.iface 362 (.agg cs)) 346 348 true).run prog w=.ok (.tuple #[zeroOf 348,false]) w:=qk
theorem asRC(cs:Array Vv)(w:Ww):(AA (.iface 362 (.agg cs)) 346 360 true).run prog w=.ok (.tuple #[zeroOf 360,false]) w:=qk
theorem asSS(cs:Array Vv)(w:Ww):(AA (.iface 316 (.agg cs)) 346 316 true).run prog w=.ok (.tuple #[.agg cs,true]) w:=qk
theorem asSB(cs:Array Vv)(w:Ww):(AA (.iface 316 (.agg cs)) 346 348 true).run prog w=.ok (.tuple #[zeroOf 348,false]) w:=qk
theorem asSC(cs:Array Vv)(w:Ww):(AA (.iface 316 (.agg cs)) 346 360 true).run prog w=.ok (.tuple #[zeroOf 360,false]) w:=qk
theorem asSR(cs:Array Vv)(w:Ww):(AA (.iface 316 (.agg cs)) 346 362 true).run prog w=.ok (.tuple #[zeroOf 362,false]) w:=qk
theorem asAA(cs:Array Vv)(w:Ww):(AA (.iface 304 (.agg cs)) 346 304 true).run prog w=.ok (.tuple #[.agg cs,true]) w:=qk
theorem asAB(cs:Array Vv)(w:Ww):(AA (.iface 304 (.agg cs)) 346 348 true).run prog w=.ok (.tuple #[zeroOf 348,false]) w:=qk
theorem asAC(cs:Array Vv)(w:Ww):(AA (.iface 304 (.agg cs)) 346 360 true).run prog w=.ok (.tuple #[zeroOf 360,false]) w:=qk
theorem asAR(cs:Array Vv)(w:Ww):(AA (.iface 304 (.agg cs)) 346 362 true).run prog w=.ok (.tuple #[zeroOf 362,false]) w:=qk
theorem asAS(cs:Array Vv)(w:Ww):(AA (.iface 304 (.agg cs)) 346 316 true).run prog w=.ok (.tuple #[zeroOf 316,false]) w:=qk
theorem xAk(w:Ww):(xf 228 #[.nilIface] w (.agg #[xi 0,xi 0]):Prop):=by go_enter func228,ntmps228;go_wp2;refine AL (v:=.agg #[xi 0,xi 0]) (by simp[results,results228,go_sem]) rfl ⟨rfl,?_⟩;exact qB
theorem xDi(rb eb:Nat)(w:Ww):
  CallsD prog 227 #[xp rb,xp eb] .returning w λe u' w'=>e=.returned (.tuple #[])/\u'=.returning/\Below w w w':=by
 refine callsD_of_wpS func227 rfl λc₀ cs hu=>?_;apply wpS_seq;apply wpS_region;simp[wpOpsS,go_sem,recoverD,hu,ntmps227,Exit.thenS];apply (xAk w).mono;rintro e w1 ⟨rfl,a0⟩;simp[wpOpsS,go_sem];have ht:#[AG (some ⟨rb,0,none⟩),AG (some ⟨eb,0,none⟩)]++(((Array.replicate 12 undef).setIfInBounds 1 .nilIface).setIfInBounds 2 (Value.agg #[AS IntKind.i64 0,AS IntKind.i64 0])).setIfInBounds 0 (AG (some ⟨w1,0,none⟩))=#[.pointer (some ⟨rb,0,none⟩),.pointer (some ⟨eb,0,none⟩),.pointer (some ⟨w1,0,none⟩),.nilIface,.agg #[xi 0,xi 0],undef,undef,undef,undef,undef,undef,undef,undef,undef]:=by rfl
 rw[ht];have HB:Hid (Below w w (xw w1 #[xi 0,xi 0] 321)):=a0.trans ((Below.refl _ _).alloc a0.size _);apply wpS_of_wp;go_wp2;refine⟨rfl,.returning,?_,_,by simp[results,results227],rfl,rfl,HB⟩;cases c₀
 simp_all
def yA0(p:List U8):Int×Nat:=if 200<p.length then(1,0)else chkM p 0 0 false
theorem yPy(h:(yA0 l).1=0):l.length<=200/\(chkM l 0 0 false).1=0:=by
 unfold yA0 at h;split at h
 .cases h
 .exact⟨qo,h⟩
def yI8(p:Ba)(w:Ww)(e:AK)(w':Ww):Prop:=
 ∃(g n c:Nat)(os:List (List Pat)),e=.returned (.tuple #[.agg #[xg g n c],.agg #[xi 0,xi 0]])/\Below w w w'/\yE8 (sb p) 0 0 p.size os/\yD2 w' (Bet w w') os (xg g n c)
theorem xH{x:Vv}(hu:u.oneCell'=true)(ht:a.tmps.getD 2 undef=(xp rb))(ht2:a.tmps.getD 3 undef=(xp eb))(hr:yA w O 304 1 rb [u])(he:yA w O 158 2 eb [x,y]):
  (results Tryz.f212 a.tmps).run prog w=.ok (.tuple #[.agg #[u],.agg #[x,y]]) w:=by
 have p0:=hr.z (j:=0) rfl;have⟨q0,q1⟩:=he.c2;have h1:a.tmps[2]?.getD undef=(xp rb):=by rw[<-Array.getD_eq_getD_getElem?];exact ht
 have h2:a.tmps[3]?.getD undef=(xp eb):=by rw[<-Array.getD_eq_getD_getElem?];exact ht2
 simp[results,results212,go_sem,h1,h2,p0,q0,q1]
theorem xDj(p:Ba)(w wq:Ww)(a:Act)(rb eb g n c:Nat)(os:List (List Pat))(hd:a.defers= [{target:=Target.fn (Fn.func 227) #[xp rb,xp eb],args:=#[]}])
  (ht:a.tmps.getD 2 undef=(xp rb)) (ht2:a.tmps.getD 3 undef=(xp eb)) (hA:yE8 (sb p) 0 0 p.size os) (hU:yD2 wq (Bet w wq) os (xg g n c)) (hr:yA wq w 304 1 rb [xg g n c]) (he:yA wq w 158 2 eb [xi 0,xi 0]) (hB:Below w w wq):
  bodyPostD prog Tryz.f212 (λe w'=>yI8 p w e w') .ret a wq:=by
 show Leaves prog Tryz.f212 a.tmps (λe w'=>yI8 p w e w') a.defers .returning wq;rw[hd];apply leaves_cons (f:=227) (args:=#[.pointer (some ⟨rb,0,none⟩),.pointer (some ⟨eb,0,none⟩)]) (by simp) (by simp[go_sem]);apply (xDi rb eb wq).mono;rintro e u' w'' ⟨rfl,rfl,hb⟩;show Leaves prog Tryz.f212 a.tmps (λe w'=>yI8 p w e w') [] (settle .returning) w'';exact⟨_,xH rfl ht ht2 (hr.k hb) (he.k hb),g,n,c,os,rfl,hB.trans (hb.mono hB.size),hA,hU.K (S:=λ_=>False) (Chg.h hb) (λq hq=>hq.elim) (λq hq z=>⟨z.1,by have:=hb.size;omega⟩)⟩
theorem yC(p:Ba) w (hg:(yA0 (sb p)).1=0):Calls prog 212 #[p] w λe w'=>yI8 p w e w':=by
 have af:∀(fn:Fn)(first cap:Array Vv)(w:Ww),(Instr.makeFunc fn first cap).run prog w=.ok (.func fn first cap) w:=λ_ _ _ _=>rfl;have⟨W0,a6⟩:=qW (xw (w.alloc (AD #[xh] 304)) #[xi 0,xi 0] 158);have a2:Hid (yA W0 w 304 1 w [xh]/\yA W0 w 158 2 (w+1) [xi 0,xi 0]/\Below w w W0/\W0.heap.size=w.heap.size+2):=by rw[a6];refine⟨yA.ofHeap (vs:=#[.slice none 0 0]) (AR w _ _) qr rfl,yA.ofHeap (vs:=#[.int .i64 0,.int .i64 0]) (AH w _ _) qo rfl,(qB).alloc (by simp) _,by simp⟩
 have⟨g1,g2⟩:=yPy hg;rw[yAe]at g1;have HG:=qH1 g2;clear hg g2;have z:=qo
 have⟨W1,a3⟩:=qW (xw W0 #[p,xi 0,xi 0] 324);have a0:Hid (yA W1 w 304 1 w [xh]/\yA W1 w 158 2 (w+1) [xi 0,xi 0]/\PrAt W1 w (w+2) p 0 0/\Below w w W1/\W1.heap.size=w.heap.size+3):=by
  have hb:=qN a3
  have hz:=a2.2.2.2;refine⟨a2.1.k hb,a2.2.1.k hb,?_,a2.2.2.1.trans (hb.mono qo),by rw[a3];simp;omega⟩;rw[a3,<-hz];exact yAa W0 #[p,xi 0,xi 0] qo rfl
 go_enter_defers func212,ntmps212;go_upto_region 1 with fail;rw[<-a6];have ad:=a2.2.2.2;clear a6 a2;go_upto_region 5 with fail;rw[<-a3];clear a3 ad;go_wp2_with fail;refine(xBh g1 w (w+2) 0 0 W1 (AU _) (AU _) HG a0.2.2.1).mono ?_;rintro e w2 ⟨a5,k,os,u,hA,hN,rfl,hU,ac⟩
 obtain⟨gu,nu,cu,rfl⟩:=hU.slice;obtain rfl:k=p.size:=by have h1:=hA.le;rw[yAe]at h1;have h2:=(yYj (by rw[<-hA.chk];exact HG.out) hN).elim (λq=>absurd rfl q.2) (λq=>q.1);rw[yAe]at h2;omega
 have HA:=qH1 hA;have a4:Hid (yA w2 w 304 1 w [xh]/\yA w2 w 158 2 (w+1) [xi 0,xi 0]/\PrAt w2 w (w+2) p p.size 0/\Below w w w2/\yD2 w2 (λj=>w.heap.size+3<=j) os (xg gu nu cu)):=by refine⟨a0.1.i a5 qo,a0.2.1.i a5 qo,ac,Chg.k a0.2.2.2.1 a5 a0.2.2.2.1.size (λj q=>qo),hU.K (S:=λ_=>False) (Chg.refl _ _) (λq hq=>hq.elim) (λq _ z=>by have h1:=z.1;rw[a0.2.2.2.2]at h1;exact h1)⟩
 clear a5 hA hN hU ac a0;have⟨W3,aa⟩:=qW (xt w2 w 0 (xg gu nu cu));have a1:Hid (yA W3 w 304 1 w [xg gu nu cu]/\yA W3 w 158 2 (w+1) [xi 0,xi 0]/\PrAt W3 w (w+2) p p.size 0/\Below w w W3/\yD2 W3 (λj=>w.heap.size+3<=j) os (xg gu nu cu)):=by have hc:=Chg.D w2 w 0 (xg gu nu cu) (S:=λj=>j=w.heap.size) rfl;rw[aa];exact⟨a4.1.set 0 _,a4.2.1.i hc qo,yA.i a4.2.2.1 hc qo,yAc a4.2.2.2.1 qr 0 _,a4.2.2.2.2.K hc (λq hq=>by subst hq;exact λz=>qo) (λq _ z=>z)⟩
 have r0:=a4.1.z (j:=0) rfl;have rf:=a4.1.frozen 0;clear a4;go_upto_region 6 with fail;rw[<-aa];clear aa r0 rf;have c1:=a1.2.2.1.z (j:=1) rfl;go_wp2_with fail;refine(yI0 _ W3).mono ?_;rintro e w5 ⟨rfl,a7⟩;rw[a7];clear a7 c1;have r0:=a1.1.z (j:=0) rfl;have rf:=a1.1.frozen 0;have⟨e0,e1⟩:=a1.2.1.c2;have⟨f0,f1⟩:=a1.2.1.f2;have⟨W6,ab⟩:=qW (xt ((W3.setCell (xd w 0) (xg gu nu cu)).setCell (xd (w+1) 0) (xi 0)) (w+1) 1 (xi 0));have a8:Hid (yA W6 w 304 1 w [xg gu nu cu]/\yA W6 w 158 2 (w+1) [xi 0,xi 0]/\Below w w W6/\yD2 W6 (Bet w W6) os (xg gu nu cu)):=by have c1:=Chg.D W3 w 0 (xg gu nu cu) (S:=λj=>j=w.heap.size\/j=w.heap.size+1) (.inl rfl);have c2:=c1.trans (Chg.D _ (w+1) 0 (xi 0) (S:=λj=>j=w.heap.size\/j=w.heap.size+1) (.inr rfl));have c3:=c2.trans (Chg.D _ (w+1) 1 (xi 0) (S:=λj=>j=w.heap.size\/j=w.heap.size+1) (.inr rfl));rw[ab];exact⟨(((a1.1.set 0 _).Q qo 0 _).Q qo 1 _),(((a1.2.1.Q qo 0 _).set 0 _).set 1 _),yAc (yAc (yAc a1.2.2.2.1 qr 0 _) qo 0 _) qo 1 _,a1.2.2.2.2.K c3 (λq hq=>λz=>qo) (λq hq z=>⟨qo,qw c3.size⟩)⟩
 go_wp2_with fail;rw[<-ab];exact xDj p w W6 _ w (w+1) _ _ _ os rfl rfl rfl HA a8.2.2.2 a8.1 a8.2.1 a8.2.2.1
theorem yKy(p:Ba)(w:Ww)(hg:(yA0 (sb p)).1=0):(xf 183 #[p] w (.agg #[xi 0,xi 0]):Prop):=by
 have⟨W0,a4⟩:=qW (xw w #[xi 0,xi 0] 158);have a3:Hid (yA W0 w 158 2 w [xi 0,xi 0]/\Below w w W0):=a4▸⟨yAa w _ qr rfl,qB⟩
 go_enter func183,ntmps183;go_upto_region 1 with fail;rw[<-a4];clear a4;go_wp2_with fail;refine(yC p W0 hg).mono ?_;rintro e w1 ⟨ua,un,uc,_,rfl,a1,_,_⟩
 have⟨W2,a2⟩:=qW (xw (w1.alloc (AD #[xg ua un uc] 304)) #[xi 0,xi 0] 158);have a0:Hid (yA W2 w 158 2 w [xi 0,xi 0]/\yA W2 w 158 2 (w1+1) [xi 0,xi 0]/\Below w w W2):=by
  have hb2:Below w1 w1 W2:=by rw[a2];exact(qB).alloc (by simp) _
  have h1:=a3.2.size;have h2:=a1.size;refine⟨(a3.1.k a1).k hb2,?_,(a3.2.trans (a1.mono h1)).trans (hb2.mono qo)⟩;rw[a2];exact yA.ofHeap (vs:=#[.int .i64 0,.int .i64 0]) (AH w1 _ _) (by omega) rfl
 clear a1 a3;go_upto_region 2 with fail;rw[<-a2];clear a2;have⟨b0,b1⟩:=a0.2.1.c2;have⟨r0,r1⟩:=a0.1.c2;have⟨f0,f1⟩:=a0.1.f2;have a5:=(a0.1.set 0 (xi 0)).set 1 (xi 0);have⟨p0,p1⟩:=a5.c2;have a7:Hid (Below w w (xt (W2.setCell (xd w 0) (xi 0)) w 1 (xi 0))):=yAc (yAc a0.2.2 qr 0 _) qr 1 _;have⟨W3,a6⟩:=qW (xt (W2.setCell (xd w 0) (xi 0)) w 1 (xi 0));rw[<-a6]at p0 p1 a7;clear a5;go_wp2;rw[<-a6];refine AL (v:=.agg #[xi 0,xi 0]) (by simp[results,results183,go_sem,p0,p1]) rfl ⟨rfl,a7.out⟩
def inR(lo:Ba)(hh:Bool)(hi row:Ba):Bool:= !Op.bytesLess row.toList lo.toList && (!hh || Op.bytesLess row.toList hi.toList)
theorem yIt(lo hi row:Ba)(hh:Bool)(w:Ww):
  Calls prog 235 #[.agg #[lo,hh,hi],row] w λe w'=>
   e=.returned (inR lo hh hi row)/\Below w w w':=by
 unfold inR;cases hb:Op.bytesLess row.toList lo.toList<;>cases hh
 all_goals
  go_enter func235,ntmps235
  go_wp2
  go_ret
  exact⟨by simp,qB⟩
variable {p:Prop}
theorem yZu (h:p:=by
 intro g' cp' w' hO' hgr hat;have HJ7:Hid (PsJ p n w ts (j0+1) g' cp' (xs++ [b]) us' w'):=by have hb7:Below w6 w6 (xw w6 #[.int .u8 (b.toNat:Int)] 5):=qB;have hC:Chg (λj=>j=g) (xw w6 #[.int .u8 (b.toNat:Int)] 5) w':=Chg.M hgr (λj hj=>by cases hj;rfl);have hJ':=HJ6.K hb7;exact⟨HB.2,HP.out,hO',hJ'.res.i hC qo,Chg.k hJ'.k hC hJ'.k.size (λj q=>by omega)⟩
 clear hO' hgr hat;go_wp2;go_roundw;case rel=>exact⟨j0+1,g',cp',xs++ [b],us',by go_num,by omega,by simp;omega,by simp,HJ7.out⟩
 case measure=>simp[intOf];omega):p:=h
theorem xC3 (h:p:=by
 have hcv:=yHe HJ6.Z;obtain⟨r0,r1⟩:=HJ6.res.c2;obtain⟨f0,f1⟩:=HJ6.res.f2;obtain⟨W9,hW9⟩:=qW (set2 w6 w (.string ⟨xs.toArray⟩) (.bool false));have HW9:Hid (yA W9 w 268 2 w [.string ⟨xs.toArray⟩,.bool false]/\Below w w W9):=by rw[hW9];exact⟨yCs HJ6.res _ _,yAc (yAc HJ6.k (Nat.le_refl _) 0 _) (Nat.le_refl _) 1 _⟩
 obtain⟨p0,p1⟩:=HW9.1.c2;unfold set2 at hW9;go_wp2;rw[<-hW9,HP.out];refine bodyPost_ret (v:=.agg #[.string ⟨xs.toArray⟩,.bool false]) (by simp[results,results171,go_sem,p0,p1]) rfl ⟨rfl,HW9.2⟩):p:=h
theorem yKm(h:p:=by go_enter func208,ntmps208;go_wp2;go_ret;exact⟨rfl,rfl⟩):p:=h
theorem yZs (h:p:=by
 cases e1<;>cases e2
 all_goals
  go_enter func60,ntmps60
  go_wp2_with fail
  go_ret
  exact⟨by simp,up3 w _ _ _⟩):p:=h
theorem xGb(h:p:=by unfold OwnG;rw[length_append,length_singleton,flatMap_append,flatMap_singleton];exact hO'):p:=h
theorem xGa(h:p:=by go_enter func123,ntmps123;go_wp2;refine bodyPost_ret (v:=.agg #[xi br,.string bt]) (by simp[results,results123,go_sem]) rfl ⟨rfl,?_⟩;repeat (first|exact Below.refl _ _|refine Below.alloc ?_ (by first|(simp;done)|(simp;omega)) _|refine yAc ?_ (by first|(simp;done)|(simp;omega)) _ _)):p:=h
theorem xF9 (h:p:=by
 simp only[setCs,Nat.reduceAdd]at hV;rcases hk with rfl|rfl|rfl
 all_goals
  go_region
  rw[<-hV]
  clear hV
  go_wp2_with fail
  refine bodyPost_ret (v:=.tuple #[.bool M.1,M.2.v]) ?_ rfl ⟨rfl,hbV.drew⟩
  rw[HMe.out]
  simp[results,results121,go_sem,v0,v1,v2,v3,v4]):p:=h
theorem xF4(h:p:=by rw[<-hW9]at p0 p1 HZ9;go_wp2;rw[<-hW9];refine bodyPost_ret (v:=.agg #[.string ⟨#[]⟩,.bool false]) (by simp[results,results171,go_sem,p0,p1]) rfl ⟨rfl,HZ9.2⟩):p:=h
theorem xBw (h:p:=by
 go_roundw;case rel=>exact⟨x.b.toNat,sn,g,cp,m,cs,hr2,hs1,hs2,rfl,by rw[zb],HW2.1,HL.1,HR.1⟩
 case measure=>simp[intOf];omega):p:=h
theorem box4{a b c:Array Vv}{s t u v:Nat}(h:W=(xw (((w.alloc (.cells a s)).alloc (.cells b t)).alloc (.cells c u)) d v)):yA W w s a.size w a.toList/\yA W w t b.size (w+1) b.toList/\yA W w u c.size (w+1+1) c.toList/\yA W w v d.size (w+1+1+1) d.toList/\Below w w W:=by
 obtain⟨x,y,z,k⟩:=box3 (w:=w) (a:=a) (b:=b) (c:=c) (s:=s) (t:=t) (u:=u) rfl;have b3:=yAa (xw ((w.alloc (.cells a s)).alloc (.cells b t)) c u) (O:=w.heap.size) (t:=v) d (by simp;omega) rfl;rw[World.size_alloc,World.size_alloc,World.size_alloc]at b3;rw[h];exact⟨x.k qB,y.k qB,z.k qB,b3,k.alloc (by simp;omega) _⟩
theorem yTq{off:Nat}(h:yBu w b off L)(hb:b<w.heap.size)(hx:L[j]?=some x):
  (∀n:Out w,(xk n.u b (off+j*6) x.j:Prop))/\(∀n:Out w,(xk n.u b (off+j*6+1) x.E:Prop))/\(∀n:Out w,(xk n.u b (off+j*6+2) x.C:Prop))/\
  (∀n:Out w,(xk n.u b (off+j*6+3) (xu x.ts):Prop))/\(∀n:Out w,(xk n.u b (off+j*6+4) (xi x.f):Prop))/\(∀n:Out w,(xk n.u b (off+j*6+5) x.val:Prop)):=
 ⟨λn=>(h.k n.out hb j x hx).1,λn=>(h.k n.out hb j x hx).2.1,λn=>(h.k n.out hb j x hx).2.2.1,λn=>(h.k n.out hb j x hx).2.2.2.1,λn=>(h.k n.out hb j x hx).2.2.2.2.1,λn=>(h.k n.out hb j x hx).2.2.2.2.2⟩
theorem hidO(h:p):Hid p:=h
abbrev rcL(fn:FuncId)(tmps:Array Vv)(ps:Array Tmp)(assign body:Code)(D:Nat)(st:LoopState)(pe:Option Code):Obj:=.loop {state:=st,pending:=pe,fn,tmps,params:=ps,assign,body,defers:=D}
def RndP(rec:LoopState->Option Code->Obj)(l:Nat)(R:AK->Ww->Prop)(e:Exit)(W:Ww):Prop:=
 W.heap[l]?=some (rec .busy none)/\match e with
 | .normal=>R (.returned true) (W.putObj l (rec .ready none))
 | .ret=>R (.returned false) (W.putObj l (rec .done (some .ret)))
 | .exit id=>R (.returned false) (W.putObj l (rec .done (some (.exit id))))
 |_=>False
variable {ps:Array Tmp} {body:Code} {n:Nat}
theorem yEj{D l:Nat}{R:AK->Ww->Prop}(hl:W.heap[l]?=some (rcL fn tmps ps assign body D .ready none))(hs:args.size=ps.size)
  (h:assign.wpIn (Fence.wide.inRound l) n prog (Exit.then (λa' Wa=>Wa.heap[l]?=some (rcL fn tmps ps assign body D .ready none)/\body.wpIn (Fence.wide.inRound l) n prog (λe _ W3=>RndP (rcL fn tmps ps assign body D) l R e W3) a' (Wa.putObj l (rcL fn tmps ps assign body D .busy none))) (λ_ _ _=>False))
   {tmps:=(ps.zip args).foldl (λt (p,v)=>t.setIfInBounds p v) tmps,defers:= []} W):
  YieldAt Fence.wide n prog l args W R:=by
 have hy:=run_yield (P:=prog) (args:=args) hl hs;refine⟨fn,_,assign,body,hy,roundIn_of_wpIn trivial (wpIn_mono h ?_)⟩;intro e a' Wa hp;cases e with
 |normal=>
  have⟨a1,hb⟩:=hp;refine⟨_,run_beginRound a1 rfl,wpIn_mono hb ?_⟩;rintro e a3 W3 ⟨a0,hp⟩;cases e with
  |normal=>exact⟨_,_,AM none a0,hp⟩
  |ret=>exact⟨_,_,AM (some .ret) a0,hp⟩
  |exit id=>exact⟨_,_,AM (some (.exit id)) a0,hp⟩
  |goto t|panic ch|outgrown=>exact hp.elim
 |_=>exact hp
theorem yGi{g:Operand}(hg:a.eval g=.func (.func gf) #[] lb)(eg:∀args w,(callFunc gf args).run prog w=.ok (.enter gf args) w)(h1:1<=n)
  (h:∀fn W1,W1=(w.alloc (.deferred (some []))).alloc (rcL fn a.tmps ps assign body w .ready none)->CallsIn Fence.wide (n-1) prog gf (#[.func (.yield (w+1)) #[] #[]]++lb) W1 λe W2=>(∃v,e=.returned v)/\
   ((W2.heap[w.heap.size+1]?=some (rcL fn a.tmps ps assign body w .ready none)/\Q .normal {a with defers:={target:=.collected w,args:=#[]}::a.defers} (W2.putObj (w+1) (rcL fn a.tmps ps assign body w .exhausted none)))\/
    ∃c,W2.heap[w.heap.size+1]?=some (rcL fn a.tmps ps assign body w .done (some c))/\c.wpIn Fence.wide n prog Q {a with defers:={target:=.collected w,args:=#[]}::a.defers} (W2.putObj (w+1) (rcL fn a.tmps ps assign body w .exhausted (some c))))):
  (Code.rangeFunc g ps assign body).wpIn Fence.wide n prog Q a w:=by
 apply AT;intro fn a1;have⟨W1,a0⟩:=qE ((w.alloc (.deferred (some []))).alloc (rcL fn a.tmps ps assign body w .ready none))
 refine⟨w+1,[{target:=.collected w,args:=#[]}],W1,{target:=.fn (.func gf) lb,args:=#[.func (.yield (w+1)) #[] #[]]},W1,gf,
  #[.func (.yield (w+1)) #[] #[]]++lb,W1,by rw[a0];exact run_enterLoop_outer _ _ _ _ _,?_,λ_ _=>trivial,?_,λ_=>h1,?_⟩
 .simp only[resolve,hg];simp[go_sem]
 .simp[invoke,go_sem,eg]
 .apply (h fn W1 a0).mono;exact xFy
theorem yQv{g:Operand}(hl₀:w.heap[l₀]?=some (.loop r₀))(hg:a.eval g=.func (.func gf) #[] lb)(eg:∀args w,(callFunc gf args).run prog w=.ok (.enter gf args) w)(h1:1<=n)
  (h:∀fn W1,W1=w.alloc (rcL fn a.tmps ps assign body r₀.defers .ready none)->CallsIn Fence.wide (n-1) prog gf (#[.func (.yield w) #[] #[]]++lb) W1 λe W2=>(∃v,e=.returned v)/\
   ((W2.heap[w.heap.size]?=some (rcL fn a.tmps ps assign body r₀.defers .ready none)/\Q .normal a (W2.putObj w (rcL fn a.tmps ps assign body r₀.defers .exhausted none)))\/
    ∃c,W2.heap[w.heap.size]?=some (rcL fn a.tmps ps assign body r₀.defers .done (some c))/\c.wpIn (Fence.wide.inRound l₀) n prog Q a (W2.putObj w (rcL fn a.tmps ps assign body r₀.defers .exhausted (some c))))):
  (Code.rangeFunc g ps assign body).wpIn (Fence.wide.inRound l₀) n prog Q a w:=by
 apply AT;intro fn a1;have⟨W1,a0⟩:=qE (w.alloc (rcL fn a.tmps ps assign body r₀.defers .ready none))
 refine⟨w,[],W1,{target:=.fn (.func gf) lb,args:=#[.func (.yield w) #[] #[]]},W1,gf,
  #[.func (.yield w) #[] #[]]++lb,W1,by rw[a0];exact run_enterLoop_inner hl₀ _ _ _ _ _,?_,λ_ _=>trivial,?_,λ_=>h1,?_⟩
 .simp only[resolve,hg];simp[go_sem]
 .simp[invoke,go_sem,eg]
 .refine CallsIn.inRound l₀ ((h fn W1 a0).mono ?_);exact xFy
end Go.Proofs.YtnnagkfoiganfaaGreatDoor
