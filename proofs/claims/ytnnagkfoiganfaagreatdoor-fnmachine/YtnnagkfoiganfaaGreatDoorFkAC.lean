import Derived.Test.YtnnagkfoiganfaaGreatDoorFkAA
namespace Go.Proofs.YtnnagkfoiganfaaGreatDoor
open Go.ChangeShapes Go.WideShapes Go.ChangeAt Go.RowKit Go.Deep XD XI XU XG XP XK XW XT XF XE XH _root_.List _root_.Nat XY Go.Maps Go.Proofs.Tryz
open _root_.Array renaming getD_eq_getD_getElem?->AU,replicate->Ah
open _root_.Go renaming bodyPost_ret->AH,wpQuiet_nil->AY,heap_alloc2_new->Aa,Ending->Al,Leaves->Am,heap_alloc2_old->Ar,callsD_of_wpS->Au
open _root_.Go.ByteArray renaming toList_eq->AD
open _root_.Go.Instr renaming typeAssert->AB
open _root_.Go.Lib renaming compareBytes->AA
open _root_.Go.Obj renaming cells->AG
open _root_.Go.Op renaming bytesLess->AC
open _root_.Go.Value renaming pointer->AJ,int->AZ,ownBlock->Aj,agg->As
open _root_.Go.World renaming cell?_setCell_same->AL,ownsRow_lit->AR,ownsRow_made->Ae
open _root_.Go.World.ownsRow renaming lt->AE,cellAt->AK,frozenAt->AS,kept->AV,stored->Ap
open _root_.List renaming length_append->AF,length_map->AM,mem_of_getElem?->AO,setIfInBounds_toArray->AP,take_of_length_le->AW,getElem?_map->AX,mem_map->Ab,set_cons_succ->Ac,set_cons_zero->Ad,pairwise_cons->Af,take_add_one->Ag
open _root_.Nat renaming zero_le->AN,lt_of_lt_of_le->AQ,le_max_right->Ai,le_max_left->Ak,zero_add->An,le_trans->Ao,le_refl->Aq
open _root_.UInt8 renaming lt_iff_toNat_lt->AI,toNat_inj->AT
set_option linter.unusedVariables false
set_option linter.unusedSimpArgs false
set_option maxRecDepth 100000
set_option maxHeartbeats 64000000
variable {vs us:List Vv} {g RB k6 gq k' rb eb B g7 cp7 g5 cp5 ov O cp o:Nat} {S:Nat->Prop} {N M:Pat->Vv->Prop} {v v' y:Vv} {l:List U8} {op rp:Bool} {w6 wA w7 w wr:Ww} {E:Prop} {Q:Exit->Act->Ww->Prop} {oo:Oper} {ops:Array Oper} {ps:List MemPlace} {x:Ent} {ts:List Pat} {os:List (List Pat)}
abbrev yRw(b:U8):Vv:=.iface 348 (.agg #[.int .u8 (b.toNat:Int)])
def Bet(a b:Nat):Nat->Prop:=λk=>a<=k/\k<b
structure yDi(w:Ww)(R:Nat->Prop)(g:Nat)(vs:List Vv):Prop where
 blk:R g
 lt:g<w.heap.size
 val:∀(i:Nat) v,vs[i]?=some v->(xk w g i v:Prop)
variable {w':Ww} {R:Nat->Prop}
theorem yDi.i(h:yDi w R g vs)(hc:Chg S w w')(hS:∀k,S k->¬R k):yDi w' R g vs:=
 ⟨h.blk,AQ h.lt hc.size,λi v hv=>by rw[hc.z (p:=(xd g i)) h.lt (λq=>hS g q h.blk)];exact h.val i v hv⟩
def yR4(N:Pat->Vv->Prop)(w:Ww)(lo:Nat->Prop)(ts:List Pat)(u:Vv):Prop:=
 (ts= []/\u=xh)\/∃(g cp:Nat)(us:List Vv),u=(xg g ts.length cp)/\us.length=ts.length/\yDi w lo g us/\∀(i:Nat) x t,us[i]?=some x->ts[i]?=some t->N t x
def yUj(N:Pat->Vv->Prop)(w:Ww)(lo:Nat->Prop)(os:List (List Pat))(u:Vv):Prop:=
 ∃(g cp:Nat)(us:List Vv),u=(xg g os.length cp)/\us.length=os.length/\yDi w lo g us/\∀(i:Nat) x ts,us[i]?=some x->os[i]?=some ts->yR4 N w lo ts x
def yDv:Nat->Ww->(Nat->Prop)->Pat->Vv->Prop
 |0,_,_,_,_=>False
 |n+1,w,lo,.byte b,v=>v=yRw b
 |n+1,w,lo,.cls f,v=>v=clsV f
 |n+1,w,lo,.rep t o r,v=>∃u,v=.iface 362 (.agg #[u,o,r])/\yDv n w lo t u
 |n+1,w,lo,.alt os,v=>∃u,v=.iface 304 (.agg #[u])/\yUj (yDv n w lo) w lo os u
variable {lo lo':Nat->Prop} {u:Vv}
theorem yR4.mono(hN:∀t v,N t v->M t v)(hV:∀g vs,yDi w lo g vs->yDi w' lo' g vs):yR4 N w lo ts u->yR4 M w' lo' ts u
 | .inl h=>.inl h
 | .inr ⟨g,cp,us,h1,h2,h3,h4⟩=>.inr ⟨g,cp,us,h1,h2,hV _ _ h3,λi x t hx ht=>hN _ _ (h4 i x t hx ht)⟩
theorem yUj.mono(hN:∀t v,N t v->M t v)(hV:∀g vs,yDi w lo g vs->yDi w' lo' g vs):yUj N w lo os u->yUj M w' lo' os u
 |⟨g,cp,us,h1,h2,h3,h4⟩=>⟨g,cp,us,h1,h2,hV _ _ h3,λi x t hx ht=>(h4 i x t hx ht).mono hN hV⟩
theorem yDv.mono:∀{n m:Nat}{w w':Ww}{lo lo':Nat->Prop}(hV:∀g vs,yDi w lo g vs->yDi w' lo' g vs){t:Pat}{v:Vv},n<=m->yDv n w lo t v->yDv m w' lo' t v
 |0,_,_,_,_,_,_,_,_,_,h=>h.elim
 |n+1,0,_,_,_,_,_,_,_,hm,_=>qo
 |n+1,m+1,w,w',lo,lo',hV,.byte b,v,_,h|n+1,m+1,w,w',lo,lo',hV,.cls f,v,_,h=>h
 |n+1,m+1,w,w',lo,lo',hV,.rep t o r,v,hm,⟨u,h1,h2⟩=>⟨u,h1,yDv.mono hV qo h2⟩
 |n+1,m+1,w,w',lo,lo',hV,.alt os,v,hm,⟨u,h1,h2⟩=>⟨u,h1,h2.mono (λt v q=>yDv.mono hV qo q) hV⟩
def yBv(w:Ww)(lo:Nat->Prop)(t:Pat)(v:Vv):Prop:=∃n,yDv n w lo t v
def yGp(w:Ww)(lo:Nat->Prop)(ts:List Pat)(u:Vv):Prop:=∃n,yR4 (yDv n w lo) w lo ts u
def yD0(w:Ww)(lo:Nat->Prop)(os:List (List Pat))(u:Vv):Prop:=∃n,yUj (yDv n w lo) w lo os u
theorem yJ6(hc:Chg S w w')(hS:∀k,S k->¬lo k)(hl:∀k,k<w.heap.size->lo k->lo' k):∀g vs,yDi w lo g vs->yDi w' lo' g vs:=λg vs h=>by
 have h1:=h.i hc hS
 exact⟨hl g h.lt h1.blk,h1.lt,h1.val⟩
variable {t:Pat}
theorem yBv.K(h:yBv w lo t v)(hc:Chg S w w')(hS:∀k,S k->¬lo k)(hl:∀k,k<w.heap.size->lo k->lo' k):yBv w' lo' t v:=by have⟨n,hn⟩:=h;exact⟨n,hn.mono (yJ6 hc hS hl) qr⟩
theorem yGp.K(h:yGp w lo ts u)(hc:Chg S w w')(hS:∀k,S k->¬lo k)(hl:∀k,k<w.heap.size->lo k->lo' k):yGp w' lo' ts u:=by exact xE8
theorem yD0.K(h:yD0 w lo os u)(hc:Chg S w w')(hS:∀k,S k->¬lo k)(hl:∀k,k<w.heap.size->lo k->lo' k):yD0 w' lo' os u:=by exact xE8
theorem yKw(w:Ww)(lo:Nat->Prop)(b:U8):yBv w lo (.byte b) (yRw b):=⟨1,rfl⟩
theorem yM6(w:Ww)(lo:Nat->Prop)(f:U8->Bool):yBv w lo (.cls f) (clsV f):=⟨1,rfl⟩
theorem yW6(h:yBv w lo t v)(o r:Bool):yBv w lo (.rep t o r) (.iface 362 (.agg #[v,o,r])):=by have⟨n,hn⟩:=h;exact⟨n+1,v,rfl,hn⟩
theorem yW7(h:yD0 w lo os u):yBv w lo (.alt os) (.iface 304 (.agg #[u])):=by have⟨n,hn⟩:=h;exact⟨n+1,u,rfl,hn⟩
theorem yQf:∀{ts:List Pat}{us:List Vv},us.length=ts.length->(∀(i:Nat) x t,us[i]?=some x->ts[i]?=some t->yBv w lo t x)->∃n,∀(i:Nat) x t,us[i]?=some x->ts[i]?=some t->yDv n w lo t x
 | [],[],_,_=>⟨0,λi x t hx=>by simp at hx⟩
 |t::ts,u::us,hl,h=>by
  have⟨n,hn⟩:=yQf (ts:=ts) (us:=us) (by simpa using hl) (λi x t hx ht=>h (i+1) x t (by simpa using hx) (by simpa using ht))
  have⟨m,hm⟩:=h 0 u t rfl rfl
  refine⟨max n m,λi x t' hx ht=>?_⟩
  cases i with
  |zero=>simp at hx ht;subst hx ht;exact hm.mono (λ_ _ q=>q) (Ai _ _)
  |succ i=>exact(hn i x t' (by simpa using hx) (by simpa using ht)).mono (λ_ _ q=>q) (Ak _ _)
theorem yUz:∀{os:List (List Pat)}{us:List Vv},us.length=os.length->(∀(i:Nat) x ts,us[i]?=some x->os[i]?=some ts->yGp w lo ts x)->∃n,∀(i:Nat) x ts,us[i]?=some x->os[i]?=some ts->yR4 (yDv n w lo) w lo ts x
 | [],[],_,_=>⟨0,λi x t hx=>by simp at hx⟩
 |t::ts,u::us,hl,h=>by
  have⟨n,hn⟩:=yUz (os:=ts) (us:=us) (by simpa using hl) (λi x t hx ht=>h (i+1) x t (by simpa using hx) (by simpa using ht))
  have⟨m,hm⟩:=h 0 u t rfl rfl
  refine⟨max n m,λi x t' hx ht=>?_⟩
  cases i with
  |zero=>simp at hx ht;subst hx ht;exact hm.mono (λ_ _ q=>q.mono (λ_ _ q=>q) (Ai _ _)) (λ_ _ q=>q)
  |succ i=>exact(hn i x t' (by simpa using hx) (by simpa using ht)).mono (λ_ _ q=>q.mono (λ_ _ q=>q) (Ak _ _)) (λ_ _ q=>q)
theorem yBv.iface(h:yBv w lo t v):∃T c,v=.iface T (.agg c):=by
 have⟨n,hn⟩:=h;cases n with
 |zero=>exact hn.elim
 |succ n=>
  cases t with
  |byte b|cls f=>exact⟨_,_,hn⟩
  |rep t o r|alt os=>have⟨u,h1,_⟩:=hn;exact⟨_,_,h1⟩
def OwnN(w:Ww)(O:Nat)(v:Vv)(us:List Vv):Prop:=w.ownsRow O 346 1 v us.length us
def OwnQ(w:Ww)(O g cp:Nat)(us:List Vv):Prop:=w.ownsRow O 316 1 (xg g us.length cp) us.length us
theorem OwnQ.lt(h:OwnQ w O g cp us):O<=g/\g<w.heap.size:=AE h g rfl
theorem OwnQ.vals(h:OwnQ w O g cp us)(hR:R g):yDi w R g us:=by refine⟨hR,h.lt.2,λi v hv=>?_⟩;have hi:=qf hv;rw[AK h i qo,hv]
theorem OwnN.seq(h:OwnN w O v us)(hl:us.length=ts.length)(hN:∀(i:Nat) x t,us[i]?=some x->ts[i]?=some t->yBv w R t x)(hb:∀k,v.ownBlock=some k->R k):yGp w R ts v:=by
 have⟨n,hn⟩:=yQf hl hN;refine⟨n,?_⟩;have h':=h;rcases h.2 with⟨rfl,h0⟩|⟨g,cap,cur,rfl,h1,h2,h3⟩
 .left;refine⟨length_eq_zero_iff.1 qo,rfl⟩
 .right;have a0:=AE h' g rfl;refine⟨g,cap,us,by rw[hl],hl,⟨hb g rfl,a0.2,λi v hv=>?_⟩,hn⟩;have hi:=qf hv;rw[AK h' i qo,hv]
theorem Tryz.infoNode:(prog.info? 346).map (λi=>(i.zero,i.size,i.bytes))=some (some .nilIface,1,16):=qk
theorem Tryz.infoSeq:(prog.info? 316).map (λi=>(i.zero,i.size,i.bytes))=some (some (.agg #[xh]),1,24):=qk
def yJ4(p:Ba)(O g i o:Nat)(w:Ww)(R:Nat->Pat->Prop)(e:Al)(w':Ww):Prop:=
 Chg (λk=>k=g) w w'/\((∃(k:Nat)(t:Pat)(v:Vv),R k t/\e=.returned v/\yBv w' (Bet w w') t v/\PrAt w' O g p k o)\/(∃(c:Int)(k:Nat),¬c=0/\(∀a,chkM (sb p) i o a=(c,k))/\e=Pf c k))
def xCo(p:Ba)(O g i o:Nat)(w:Ww)(e:Al)(w':Ww):Prop:=
 Chg (λk=>k=g) w w'/\((∃(k:Nat)(os:List (List Pat))(u:Vv),yDz (sb p) o i k os/\(∀c,(sb p)[k]?=some c->yGn c/\¬c=124)/\e=.returned (.agg #[u])/\yD0 w' (Bet w w') os u/\PrAt w' O g p k o)\/(∃(c:Int)(k:Nat),¬c=0/\chkM (sb p) i o false=(c,k)/\e=Pf c k))
def AltC(p:Ba)(m:Nat):Prop:=∀(O g i o:Nat)(w:Ww),p.size-i<=m->i<=p.size->o<=20->PrAt w O g p i o->Calls prog 229 #[xp g] w (xCo p O g i o w)
def xE5(p:Ba)(m:Nat):Prop:=∀(O g i o:Nat)(w:Ww),p.size-i<=m->i<p.size->o<=20->(∀c,(sb p)[i]?=some c->¬yGn c)->PrAt w O g p i o->Calls prog 260 #[xp g] w (yJ4 p O g i o w (yB6 (sb p) o i))
variable {p:Ba}
theorem PrAt.open{i:Nat}(h:PrAt w O g p i o)(o':Nat):PrAt (xt w g 2 (xi o')) O g p i o':=yA.set h 2 (xi o')
theorem yD0.slice(h:yD0 w lo os u):∃g n cp,u=(xg g n cp):=by have⟨n,g,cp,us,h1,_⟩:=h;exact⟨g,_,cp,h1⟩
variable {m:Nat}
theorem xEh(H:AltC p m)(hp:p.size<=200)(O g q o:Nat) w (hm:p.size-(q+1)<=m) (hq:(sb p)[q]?=some 40) (ho:o<=20) (h:PrAt w O g p (q+1) o):
  Calls prog 264 #[xp g] w (yJ4 p O g q o w (yB6 (sb p) o q)):=by
 have HP:Hid (PrAt w O g p (q+1) o/\(sb p)[q]?=some 40):=⟨h,hq⟩;have aj:=h.lt.2;have ae:q+1<=p.size:=by have:=yAt hq;rw[yAd]at this;omega
 have c1:=h.z (j:=1) rfl;have c2:=h.z (j:=2) rfl;have f2:=h.frozen 2;by_cases ho20:o=20
 .subst ho20;go_enter func264,ntmps264;go_wp2;exact⟨rfl,Chg.refl _ _,.inr ⟨3,q,qj,λa=>by rw[yE HP.2,iB rfl],by first|rfl|simp⟩⟩
 have ag:¬(o:Int)=20:=qo
 have HW:Hid (PrAt (xt w g 2 (xi (o+1:Nat))) O g p (q+1) (o+1)/\Chg (λk=>k=g) w (xt w g 2 (xi (o+1:Nat)))):=⟨PrAt.open HP.1 (o+1),Chg.D w g 2 _ rfl⟩;have⟨W,hW⟩:=qW (xt w g 2 (xi (o+1:Nat)));have a9:W.heap.size=w:=by rw[hW];simp[World.setCell]
 rw[<-hW]at HW;have ac:W=(xt w g 2 (xi ((o:Int)+1))):=hW;have HZ:Hid (W.heap.size=w):=a9;clear hW a9;go_enter func264,ntmps264;go_upto_region 4 with fail;rw[<-ac];clear ac c1 c2 f2;go_wp2_with fail;apply (H O g (q+1) (o+1) W hm ae qo HW.1).mono;rintro e w2 ⟨a8,(⟨k,os,u,hA,hN,rfl,hU,ad⟩|⟨c,k,af,hk,rfl⟩)⟩;case inr=>
  refine⟨rfl,HW.2.trans a8,.inr ⟨c,k,af,λa=>?_,rfl⟩⟩;rw[yE HP.2,iA ho20,hk]
 obtain⟨gu,nu,cu,rfl⟩:=hU.slice;have ah:k<=p.size:=by have:=hA.le;rw[yAd]at this;exact this
 have HA:Hid (yDz (sb p) (o+1) (q+1) k os/\(∀c,(sb p)[k]?=some c->yGn c/\¬c=124)):=⟨hA,hN⟩;have a4:Hid (yD0 w2 (Bet w w2.heap.size) os (xg gu nu cu)/\PrAt w2 O g p k (o+1)/\Chg (λk=>k=g) w w2):=⟨by rw[<-HZ];exact hU,ad,HW.2.trans a8⟩;clear a8 hA hN hU ad HW;have⟨W3,a5⟩:=qW (w2.alloc (AG #[(xg gu nu cu)] 304));have ab:=a4.2.2.size;have a0:Hid (yD0 W3 (Bet w.heap.size w2.heap.size) os (xg gu nu cu)/\PrAt W3 O g p k (o+1)/\Chg (λk=>k=g) w W3/\yA W3 w.heap.size 304 1 w2.heap.size [(xg gu nu cu)]):=by
  have hb:Below w2 w2 W3:=a5▸qB
  refine⟨a4.1.K (S:=λ_=>False) (Chg.h hb) (λk q=>q.elim) (λk _ q=>q),yA.k a4.2.1 hb,a4.2.2.trans (Chg.h hb),?_⟩;rw[a5];exact yAa w2 _ ab rfl
 clear a4;go_upto_region 5 with fail;rw[<-a5];have⟨IB,a7⟩:=qE w2.heap.size;rw[<-a7]at a0;rw[<-a7];have ai:w<=IB:=by omega
 clear a5 a7 ab;go_wp2_with fail;apply (yEl 41 a0.2.1 hp).mono;rintro e w4 ⟨a1,(⟨hx,rfl,a2⟩|⟨hx,rfl,a2⟩)⟩;case inr=>
  have HF:Hid (PrAt w4 O g p k (o+1)/\Chg (λk=>k=g) w w4/\¬(sb p)[k]?=some 41):=⟨a2,a0.2.2.1.trans a1,hx⟩;clear a1 hx a2;go_wp2_with fail;apply (ySw HF.1).mono;rintro e w5 ⟨rfl,rfl⟩;refine⟨rfl,HF.2.1,.inr ⟨2,k,by decide,λa=>?_,rfl⟩⟩;rw[yE HP.2,iA ho20,HA.1.chk];by_cases hk:k<(sb p).length
  .obtain⟨c,hc⟩:∃c,(sb p)[k]?=some c:=qg hk;have⟨h1,h2⟩:=HA.2 c hc;rcases h1 with h1|h1|h1|h1
   .rw[yRu hc h1];rfl
   .exact absurd h1 h2
   .subst h1;exact absurd hc HF.2.2
   .subst h1;rw[yRt hc]
  .rw[yIl hk,iB (by omega)];have:=HA.1.le;rw[show k=(sb p).length by omega]
 have HF:Hid (yD0 w4 (Bet w IB) os (xg gu nu cu)/\PrAt w4 O g p (k+1) (o+1)/\Chg (λk=>k=g) w w4/\yA w4 w 304 1 IB [xg gu nu cu]/\(sb p)[k]?=some 41):=
  ⟨a0.1.K a1 (λk q=>by subst q;exact λz=>qw z.1) (λk _ q=>q),a2,a0.2.2.1.trans a1,yA.i a0.2.2.2 a1 (by omega),hx⟩
 clear a1 hx a2 a0;go_wp2_with fail;apply (yOe _ w4).mono;rintro e w5 ⟨rfl,aa⟩;rw[aa];clear aa;have d2:=HF.2.1.z (j:=2) rfl;have g2:=HF.2.1.frozen 2;have a3:Hid (yD0 (xt w4 g 2 (xi o)) (Bet w IB) os (xg gu nu cu)/\PrAt (xt w4 g 2 (xi o)) O g p (k+1) o/\Chg (λk=>k=g) w (xt w4 g 2 (xi o))/\yA (xt w4 g 2 (xi o)) w 304 1 IB [xg gu nu cu]):=by have hc:=Chg.D w4 g 2 (xi o) (S:=λk=>k=g) rfl;exact⟨HF.1.K hc (λk q=>by subst q;exact λz=>qw z.1) (λk _ q=>q),PrAt.open HF.2.1 o,HF.2.2.1.trans hc,yA.i HF.2.2.2.1 hc (by omega)⟩
 have HC:Hid (yB6 (sb p) o q (k+1) (.alt os)):=yB6.group HP.2 ho20 HA.1 HF.2.2.2.2;have⟨W6,a6⟩:=qW (xt w4 g 2 (xi o));rw[<-a6]at a3;clear HF HA;go_upto_region 7 with fail;rw[<-a6];clear a6 d2 g2;have b0:=a3.2.2.2.z (j:=0) rfl;go_wp2;go_ret;exact⟨a3.2.2.1,.inl ⟨k+1,.alt os,_,HC,rfl,yW7 (a3.1.K (S:=λ_=>False) (Chg.refl _ _) (λk q=>q.elim) (λk hk q=>⟨q.1,hk⟩)),a3.2.1⟩⟩
theorem yHn{x c:U8}(h:¬x=c):¬(x.toNat:Int)=(c.toNat:Int):=λq=>h (AT.1 qo)
theorem xI0(H:AltC p m)(hp:p.size<=200):xE5 p (m+1):=by
 intro O g i o w hm hi ho he h;obtain⟨x,hx⟩:∃x,(sb p)[i]?=some x:=qg (by rw[yAd];exact hi);have HX:Hid ((sb p)[i]?=some x/\¬yGn x):=⟨hx,he x hx⟩;have HP:Hid (PrAt w O g p i o):=h;have ab:=h.lt.2;go_enter func260,ntmps260;go_wp2_with fail;apply (yKn HP hp HX.1).mono;rintro e w1 ⟨rfl,a4,a3⟩;have a0:Hid (PrAt w1 O g p (i+1) o/\Chg (λk=>k=g) w w1):=⟨a4,a3⟩;have aa:=a3.size;clear a4 a3 HP;by_cases h46:x=46
 .subst h46;go_upto_region 5 with fail;apply wp_region_list;refine yBa rfl _ _ rfl (setA (λ_=>false)) (by simp;exact yRx) ?_;simp only[Act.put,Act.eval,AP,Ac,Ad];refine yD rfl 263 #[.agg (setA (λ_=>false))] (by simp[execOp,go_sem,Act.eval,func263]) ?_;refine(yHk (λ_=>false) w1).mono ?_;rintro e w2 ⟨rfl,hb2⟩;simp only[Act.put,Act.eval,AP,Ac,Ad];refine yBa rfl _ _ rfl (setA (λ_=>true)) (by simp[Act.eval];exact yLp _ (yAg _)) ?_;simp only[Act.put,Act.eval,AP,Ac,Ad];go_wp2;go_ret;exact⟨a0.2.trans (Chg.h hb2),.inl ⟨i+1,_,_,yB6.dot HX.1,rfl,yM6 _ _ _,yA.k a0.1 hb2⟩⟩
 have a8:¬(x.toNat:Int)=46:=yHn (c:=46) h46;by_cases h92:x=92
 .subst h92;go_wp2_with fail;apply (yH8 a0.1 hp qo).mono;rintro e w2 ⟨a1,(⟨y,hy,rfl,a2⟩|⟨hy,rfl⟩)⟩;case inr=>
   refine⟨rfl,a0.2.trans a1,.inr ⟨2,i+1,by decide,λa=>?_,rfl⟩⟩;have h1:=yAt HX.1;have h2:¬i+1<(sb p).length:=λq=>by rw[getElem?_eq_getElem q]at hy;cases hy
   rw[yIk HX.1,iB (by omega)];rw[show i+1=(sb p).length by omega]
  have HF:Hid (PrAt w2 O g p (i+1+1) o/\Chg (λk=>k=g) w w2/\(sb p)[i+1]?=some y):=⟨a2,a0.2.trans a1,hy⟩;clear a1 hy a2;go_wp2;go_ret;exact⟨HF.2.1,.inl ⟨i+1+1,_,_,yB6.esc HX.1 HF.2.2,rfl,yKw _ _ _,HF.1⟩⟩
 have a6:¬(x.toNat:Int)=92:=yHn (c:=92) h92;by_cases h40:x=40
 .subst h40;go_wp2_with fail;apply (xEh H hp O g i o w1 (by omega) HX.1 ho a0.1).mono;rintro e w2 ⟨a1,(⟨k,t,v,hR,rfl,hN,a2⟩|⟨c,k,a5,hk,rfl⟩)⟩;case inr=>exact⟨rfl,a0.2.trans a1,.inr ⟨c,k,a5,hk,rfl⟩⟩
  have HF:Hid (yB6 (sb p) o i k t/\yBv w2 (Bet w w2) t v/\PrAt w2 O g p k o/\Chg (λk=>k=g) w w2):=⟨hR,hN.K (S:=λ_=>False) (Chg.refl _ _) (λk q=>q.elim) (λk hk q=>⟨qw q.1,hk⟩),a2,a0.2.trans a1⟩;obtain⟨T,c,rfl⟩:=hN.iface;clear a1 hR hN a2;go_wp2;go_ret;exact⟨HF.2.2.2,.inl ⟨k,t,_,HF.1,rfl,HF.2.1,HF.2.2.1⟩⟩
 have a9:¬(x.toNat:Int)=40:=yHn (c:=40) h40;by_cases h91:x=91
 .subst h91;go_wp2_with fail;apply (yXt a0.1 hp (by omega)).mono;rintro e w2 ⟨a1,(⟨f,k,hk,rfl,a2⟩|⟨c,k,hk,rfl⟩)⟩;case inr=>exact⟨rfl,a0.2.trans a1,.inr ⟨c,k,yNl hk,λa=>by rw[yEr HX.1,hk],rfl⟩⟩
  have HF:Hid (PrAt w2 O g p k o/\Chg (λk=>k=g) w w2/\yAw (sb p) (i+1)=.inl (f,k)):=⟨a2,a0.2.trans a1,hk⟩;clear a1 hk a2;go_wp2;go_ret;exact⟨HF.2.1,.inl ⟨k,_,_,yB6.class HX.1 HF.2.2,rfl,yM6 _ _ _,HF.1⟩⟩
 have a7:¬(x.toNat:Int)=91:=yHn (c:=91) h91;have HS:Hid (¬yCr x):=λq=>by
  rcases q with q|q|q|q|q
  .exact HX.2 q
  .exact h40 q
  .exact h91 q
  .exact h46 q
  .exact h92 q
 go_wp2;go_ret;exact⟨a0.2,.inl ⟨i+1,_,_,yB6.plain HX.1 HS,rfl,yKw _ _ _,a0.1⟩⟩
theorem yO0{p:List U8}{i:Nat}(h:inB p i l=true):∃c,p[i]?=some c/\c∈l:=by
 unfold inB at h;split at h
 .next c hc=>exact⟨c,hc,by simpa using h⟩
 .cases h
theorem yJx{p:List U8}{i:Nat}(h:inB p i l=false):∀c,p[i]?=some c->¬c∈l:=by intro c hc;unfold inB at h;rw[hc]at h;simpa using h
theorem yQc{c:U8}:c∈([42,43,63]:List U8)↔isOp c:=by simp[isOp]
structure RepJ(p:Ba)(O g i o j:Nat)(a:Pat)(v:Vv)(RB:Nat)(w:Ww)(k:Nat)(op rp:Bool)(wr:Ww):Prop where
 ops:yMu (sb p) o i j k a op rp
 rd:PrAt wr O g p k o
 A:yA wr w 362 3 RB [v,op,rp]
 node:yBv wr (Bet w RB) a v
 i:Chg (λk=>k=g) w wr
theorem RepJ.K{i j:Nat}{a:Pat}{k:Nat}(h:RepJ p O g i o j a v RB w k op rp wr)(hb:Below wr wr w'):RepJ p O g i o j a v RB w k op rp w':=
 ⟨h.ops,yA.k h.rd hb,h.A.k hb,h.node.K (S:=λ_=>False) (Chg.h hb) (λk q=>q.elim) (λk _ q=>q),h.i.trans (Chg.h hb)⟩
theorem RepJ.step{g i j:Nat}{a:Pat}{v:Vv}{RB:Nat}{k:Nat}{op rp:Bool}{c:U8}(h:RepJ p O g i o j a v RB w k op rp wr)(hg:g<w.heap.size)(hc:(sb p)[k]?=some c)(ho:isOp c)(hP:PrAt w' O g p (k+1) o)(hC:Chg (λk=>k=g) wr w'):
  RepJ p O g i o j a v RB w (k+1) (op || c != 43) (rp || c != 63) (xt (w'.setCell (xd RB 1) (op || c != 43)) RB 2 (rp || c != 63)):=by
 have hr:=h.A.lt.1;have c1:=Chg.D w' RB 1 (op || c != 43) (S:=λk=>k=RB) rfl;have c2:=Chg.D (xt w' RB 1 (op || c != 43)) RB 2 (rp || c != 63) (S:=λk=>k=RB) rfl;have c3:=c1.trans c2;refine⟨h.ops.more hc ho,yA.i hP c3 qo,((h.A.i hC qo).set 1 _).set 2 _,?_,((h.i.trans hC).absorb c3 (λj q=>.inr qo))⟩;exact(h.node.K hC (λk q=>by subst q;exact λz=>by have:=z.1;omega) (λk _ q=>q)).K c3 (λk q=>by subst q;exact λz=>by have:=z.2;omega) (λk _ q=>q)
def RepC(p:Ba)(m:Nat):Prop:=∀(O g i o:Nat)(w:Ww),p.size-i<=m->i<p.size->o<=20->(∀c,(sb p)[i]?=some c->¬yGn c)->PrAt w O g p i o->Calls prog 257 #[xp g] w (yJ4 p O g i o w (yUf (sb p) o i))
theorem xFw(H:xE5 p m)(hp:p.size<=200):RepC p m:=by
 intro O g i o w hm hi ho he h;have HP:Hid (PrAt w O g p i o):=h;have al:=h.lt.2;go_enter func257,ntmps257;go_wp2_with fail;apply (H O g i o w hm hi ho he HP.out).mono;rintro e w1 ⟨a8,(⟨j,a,v,hA,rfl,hN,ag⟩|⟨c,k,am,hk,rfl⟩)⟩;case inr=>exact⟨rfl,a8,.inr ⟨c,k,am,hk,rfl⟩⟩
 obtain⟨T,cs,rfl⟩:=hN.iface;have a2:Hid (yB6 (sb p) o i j a/\yBv w1 (Bet w w1) a (.iface T (.agg cs))/\PrAt w1 O g p j o/\Chg (λk=>k=g) w w1):=⟨hA,hN,ag,a8⟩;go_wp2_with fail;refine(yD3 ⟨#[42,43,63]⟩ a2.2.2.1 hp).mono ?_;rintro e w2 ⟨rfl,hb2⟩
 have a1:Hid (yBv w2 (Bet w w2) a (.iface T (.agg cs))/\PrAt w2 O g p j o/\Chg (λk=>k=g) w w2):=
  ⟨a2.2.1.K (S:=λ_=>False) (Chg.h hb2) (λk q=>q.elim) (λk hk q=>⟨q.1,by have:=hb2.size;omega⟩),yA.k a2.2.2.1 hb2,a2.2.2.2.trans (Chg.h hb2)⟩
 have HA:Hid (yB6 (sb p) o i j a):=a2.1;obtain⟨q,hq⟩:=qE (inB (sb p) j (sb ⟨#[42,43,63]⟩));have HQ:Hid (inB (sb p) j [42,43,63]=q):=hq.symm;rw[<-hq];clear hb2 hq a2;cases q
 .have HR:Hid (yUf (sb p) o i j a):=by have:=(yMu.zero HA.out).rep (λc hc a3=>yJx HQ.out c hc (yQc.2 a3));rw[iB rfl]at this;exact this
  go_wp2_with fail;go_ret;exact⟨a1.2.2,.inl ⟨j,a,_,HR.out,rfl,a1.1,a1.2.1⟩⟩
 have ak:j<=p.size:=by have:=HA.le;rw[yAd]at this;exact this
 obtain⟨W3,a5⟩:=qE (xw w2 #[.iface T (.agg cs),false,false] 362:Ww);have ab:=a1.2.2.size;have a9:Hid (RepJ p O g i o j a (.iface T (.agg cs)) w2 w j false false W3):=by
  have hb:=qN a5
  refine⟨yMu.zero HA.out,yA.k a1.2.1 hb,?_,a1.1.K (S:=λ_=>False) (Chg.h hb) (λk q=>q.elim) (λk _ q=>q),a1.2.2.trans (Chg.h hb)⟩;rw[a5];exact yAa w2 _ ab rfl
 have an:Hid (∃c,(sb p)[j]?=some c/\isOp c):=by obtain⟨c,h1,h2⟩:=yO0 HQ.out;exact⟨c,h1,yQc.1 h2⟩
 clear a1;go_wp2_with fail;rw[<-a5];obtain⟨RB,a6⟩:=qE w2.heap.size;rw[<-a6]at a9;rw[<-a6];have aq:w.heap.size<=RB:=by omega
 clear a5 a6 ab;go_loopw[5] (λsg wr=>∃(k:Nat)(op rp:Bool),j<=k/\k<=p.size/\(k=j->∃c,(sb p)[j]?=some c/\isOp c)/\RepJ p O g i o j a (.iface T (.agg cs)) RB w k op rp wr) (λ_ wr=>p.size-atOf wr g);case atStart=>exact⟨j,false,false,Aq _,ak,λ_=>an.out,a9.out⟩
 case round=>
  obtain⟨k,op,rp,au,ar,ac,hJ⟩:=hrel;have HJ:Hid (RepJ p O g i o j a (.iface T (.agg cs)) RB w k op rp wr/\(k=j->∃c,(sb p)[j]?=some c/\isOp c)/\atOf wr g=k):=⟨hJ,ac,yF3 hJ.rd⟩;clear hJ ac a9;go_wp2_with fail;refine(yD3 ⟨#[42,43,63]⟩ HJ.1.rd hp).mono ?_;rintro e w5 ⟨rfl,ae⟩;have a0:Hid (RepJ p O g i o j a (.iface T (.agg cs)) RB w k op rp w5):=HJ.1.K ae;obtain⟨q,hq⟩:=qE (inB (sb p) k (sb ⟨#[42,43,63]⟩));have aa:Hid (inB (sb p) k [42,43,63]=q):=hq.symm;rw[<-hq];clear ae hq;cases q
  .have HR:Hid (yUf (sb p) o i k (.rep a op rp)):=by
    have h1:=a0.ops.rep (λc hc a3=>yJx aa.out c hc (yQc.2 a3));rw[iA (λq=>by
     obtain⟨c,hc,a3⟩:=HJ.2.1 q.symm
     rw[q]at hc
     exact yJx aa.out c hc (yQc.2 a3))]at h1
    exact h1
   obtain⟨b0,b1,b2⟩:=a0.A.c3;go_wp2_with fail;go_ret;exact⟨a0.i,.inl ⟨k,_,_,HR.out,rfl,yW6 (a0.node.K (S:=λ_=>False) (Chg.refl _ _) (λk q=>q.elim) (λk hk q=>⟨q.1,hk⟩)) op rp,a0.rd⟩⟩
  .obtain⟨c,hc,ad⟩:=yO0 aa.out;have HC:Hid ((sb p)[k]?=some c/\isOp c):=⟨hc,yQc.1 ad⟩;have aj:k+1<=p.size:=by have:=yAt hc;rw[yAd]at this;omega
   clear hc ad;go_wp2_with fail;refine(yKn a0.rd hp HC.1).mono ?_;rintro e w6 ⟨rfl,af,a7⟩;have ai:=a0.step al HC.1 HC.2 af a7;have a4:=a0.A.i a7 (show¬RB=g by omega);have b1:=a4.z (j:=1) rfl;have b2:=a4.z (j:=2) rfl;have g1:=a4.frozen 1;have g2:=a4.frozen 2;have ah:=qH1 ai;have ao:=qH1 HJ.2.2;clear ai a4 af a7 a0 HJ;rcases HC.2 with rfl|rfl|rfl<;>cases op<;>cases rp
   all_goals go_wp2_with fail
   all_goals go_roundw
   all_goals first
    |exact⟨k+1,_,_,qo,aj,λq=>qo,ah.out⟩
    |exact Nat.lt_of_le_of_lt (Nat.le_of_eq (congrArg (p.size- ·) (yF3 ah.rd))) (by rw[ao.out];omega)
section
def xI5(p:Ba)(O g i o:Nat)(w:Ww)(e:Al)(w':Ww):Prop:=
 Chg (λk=>k=g) w w'/\((∃(k:Nat)(ts:List Pat)(u:Vv),yLv (sb p) o i k ts/\(∀c,(sb p)[k]?=some c->yGn c)/\e=.returned (.agg #[u])/\yGp w' (Bet w w') ts u/\PrAt w' O g p k o)\/(∃(c:Int)(k:Nat),¬c=0/\chkM (sb p) i o false=(c,k)/\e=Pf c k))
def SeqC(p:Ba)(m:Nat):Prop:=∀(O g i o:Nat)(w:Ww),p.size-i<=m->i<=p.size->o<=20->PrAt w O g p i o->Calls prog 243 #[xp g] w (xI5 p O g i o w)
def NR(lo:Nat)(v:Vv):Nat->Prop:=λk=>lo<=k/\¬v.ownBlock=some k
structure SeqJ(p:Ba)(O g i o:Nat)(w:Ww)(k:Nat)(ts:List Pat)(us:List Vv)(v:Vv)(wr:Ww):Prop where
 ok:yLv (sb p) o i k ts
 rd:PrAt wr O g p k o
 res:yA wr w 316 1 w [xh]
 A:yA wr w 316 1 (w+1) [v]
 j:OwnN wr (w+2) v us
 X:us.length=ts.length
 nodes:∀(i:Nat) x t,us[i]?=some x->ts[i]?=some t->yBv wr (NR (w+2) v) t x
 i:Chg (λk=>k=g) w wr
 glt:g<w
theorem OwnN.i(h:OwnN w O v us)(hc:Chg S w w')(hn:∀k,v.ownBlock=some k->¬S k):OwnN w' O v us:=yAh h hc hn
theorem OwnN.slice(h:OwnN w O v us):∃a cp,v=.slice a us.length cp:=by
 rcases h.2 with⟨rfl,h0⟩|⟨g,cap,cur,rfl,_⟩
 .exact⟨none,0,by rw[h0]⟩
 .exact⟨_,_,rfl⟩
variable {p:Ba} {i:Nat} {k:Nat}
theorem SeqJ.K(h:SeqJ p O g i o w k ts us v wr)(hb:Below wr wr w'):SeqJ p O g i o w k ts us v w':=
 ⟨h.ok,yA.k h.rd hb,h.res.k hb,h.A.k hb,h.j.i (S:=λ_=>False) (Chg.h hb) (λ_ _ q=>q),h.X,λi x t hx ht=>(h.nodes i x t hx ht).K (S:=λ_=>False) (Chg.h hb) (λk q=>q.elim) (λk _ q=>q),h.i.trans (Chg.h hb),h.glt⟩
structure SeqK(p:Ba)(O g i o:Nat)(w:Ww)(k:Nat)(ts:List Pat)(us:List Vv)(v:Vv)(t:Pat)(x:Vv)(wr:Ww):Prop where
 ok:yLv (sb p) o i k (ts++ [t])
 rd:PrAt wr O g p k o
 res:yA wr w 316 1 w [xh]
 A:yA wr w 316 1 (w+1) [v]
 j:OwnN wr (w+2) v us
 X:us.length=ts.length
 nodes:∀(i:Nat) y s,(us++ [x])[i]?=some y->(ts++ [t])[i]?=some s->yBv wr (NR (w+2) v) s y
 i:Chg (λk=>k=g) w wr
 glt:g<w
variable {x:Vv}
theorem SeqK.K(h:SeqK p O g i o w k ts us v t x wr)(hb:Below wr wr w'):SeqK p O g i o w k ts us v t x w':=
 ⟨h.ok,yA.k h.rd hb,h.res.k hb,h.A.k hb,h.j.i (S:=λ_=>False) (Chg.h hb) (λ_ _ q=>q),h.X,λi x t hx ht=>(h.nodes i x t hx ht).K (S:=λ_=>False) (Chg.h hb) (λk q=>q.elim) (λk _ q=>q),h.i.trans (Chg.h hb),h.glt⟩
theorem yH6{α:Type}{l:List α}{a b:α}{i:Nat}(h:(l++ [a])[i]?=some b):l[i]?=some b\/(i=l.length/\b=a):=by
 by_cases hi:i<l.length
 .rw[getElem?_append_left hi]at h;exact .inl h
 .rw[getElem?_append_right qo]at h;have h2:=qf h;simp at h2;have:i-l.length=0:=qo
  rw[this]at h;simp at h;exact .inr ⟨qo,h.symm⟩
theorem SeqJ.rep(h:SeqJ p O g i o w k ts us v wr)(hC:Chg (λk=>k=g) wr w6)(hR:yUf (sb p) o k k6 t)(hN:yBv w6 (Bet wr w6) t x)(hP:PrAt w6 O g p k6 o):SeqK p O g i o w k6 ts us v t x w6:=by
 have hg:=h.glt;have hz:=h.i.size;have a0:=h.A.lt.2;have hv:∀j,v.ownBlock=some j->w+2<=j/\j<wr:=λj hj=>AE h.j j hj;refine⟨h.ok.more hR,hP,h.res.i hC qo,h.A.i hC qo,h.j.i hC (λj hj q=>qw ((hv j hj).1)),h.X,?_,h.i.trans hC,hg⟩;intro j y s hy hs;rcases yH6 hy with hy|⟨hj,rfl⟩
 .rcases yH6 hs with hs|⟨hj,rfl⟩
  .exact(h.nodes j y s hy hs).K hC (λq hq=>by subst hq;exact λz=>qw z.1) (λq _ z=>z)
  .have:=qf hy;have:=h.X;omega
 .rcases yH6 hs with hs|⟨_,rfl⟩
  .have:=qf hs;have:=h.X;omega
  .refine hN.K (S:=λ_=>False) (Chg.refl _ _) (λq hq=>hq.elim) (λq _ z=>⟨?_,λe=>?_⟩)
   .have:=z.1;omega
   .have:=(hv q e).2;have:=z.1;omega
theorem SeqK.push(h:SeqK p O g i o w k ts us v t x wr)(hO:OwnN w' (w+2) v' (us++ [x]))(hg:wr.grownBy w' v.ownBlock)(hat:∀j,v'.ownBlock=some j->v.ownBlock=some j\/j=wr):
  SeqJ p O g i o w k (ts++ [t]) (us++ [x]) v' (xt w' (w+1) 0 v')/\xk w' (w+1) 0 v/\w'.frozen? (xd (w+1) 0)=false:=by
 have a3:=h.glt;have hv:∀j,v.ownBlock=some j->w+2<=j/\j<wr:=λj hj=>AE h.j j hj;have a1:∀j,v'.ownBlock=some j->w+2<=j/\j<w':=λj hj=>AE hO j hj;have hc:=Chg.M hg (λj hj=>hj);have hs:Chg (λj=>j=w+1) w' (xt w' (w+1) 0 v'):=Chg.D w' (w+1) 0 _ rfl;have a0:=h.A.i hc (λq=>qw ((hv _ q).1));refine⟨⟨h.ok,?_,?_,a0.set 0 _,hO.i hs (λj hj q=>qw ((a1 j hj).1)),by rw[AF,AF,h.X];rfl,?_,?_,a3⟩,a0.z (j:=0) rfl,a0.frozen 0⟩
 .exact yA.i (yA.i h.rd hc (λq=>qw ((hv _ q).1))) hs (by omega)
 .exact(h.res.i hc (λq=>qw ((hv _ q).1))).i hs (by omega)
 .intro j y s hy a2;have h1:=(h.nodes j y s hy a2).K hc (λq hq z=>z.2 hq) (lo':=NR (w+2) v') (λq hq z=>⟨z.1,λe=>by rcases hat q e with e|e;exact z.2 e;omega⟩);exact h1.K hs (λq hq=>by subst hq;exact λz=>qw z.1) (λq _ z=>z)
 .exact(h.i.absorb hc (λj q=>.inr (qw ((hv j q).1)))).absorb hs (λj q=>.inr (by omega))
theorem yJh{a:Act}{K:Act->Ww->Prop}(w:Ww)(hgd:oo.guard=none) s x
  (ho:oo.op=.call {callee:=.builtin .append,args:=#[s,x],argTypes:=#[314,314]})
  (O n blk:Nat) (v y:Vv) (us:List Vv) (hn:n=us.length) (hs:a.eval s=v) (hx:a.eval x=(xg blk 1 1)) (hO:OwnN w O v us)
  (hc:(xk w blk 0 y:Prop)) (hy:y.oneCell'=true) (hlen:us.length<=1000) (hbase:O<=w)
  (h:∀g' cp' w',OwnN w' O (xg g' (n+1) cp') (us++ [y])->w.grownBy w' v.ownBlock->(v.ownBlock=some g'\/g'=w)->K (a.put oo.dst (xg g' (n+1) cp')) w'):if Region.wanted oo (yielded ops a.tmps)=true then Oper.wp prog oo a w K Q else E:=by
 subst hn;have⟨i,hi,a2,a1,a0⟩:=info_parts Tryz.infoNode;refine step_append_lies w hgd s x 314 ho O 346 i _ 1 16 underlying314 hi a2 a1 a0 rfl qj v us.length us hs hO (xd blk 0) 1 1 [y] hx rfl ?_ ?_ qj ?_ ?_ hbase w rfl ?_
 .exact xMg
 .intro u hu;simp at hu;subst hu;exact hy
 .unfold maxLen;omega
 .omega
 .intro g' cp' w' a5 a3 a4 a6;refine h g' cp' w' ?_ a3 a4;unfold OwnN;rw[AF];exact a5
variable {p:Ba}
theorem xFr(H:RepC p m)(hp:p.size<=200):SeqC p m:=by
 intro O g i o w hm hi ho h;have ak:=h.lt.2;have⟨W0,a1⟩:=qW (xw (w.alloc (AG #[xh] 316)) #[xh] 316);have ae:Hid (SeqJ p O g i o w i [] [] xh W0):=by
  have hb:Below w w W0:=a1▸((qB).alloc (by simp) _)
  have h1:yA W0 w 316 1 w [xh]:=a1▸(yA.ofHeap (vs:=#[.slice none 0 0]) (Ar w _ _) qr rfl)
  have h2:yA W0 w 316 1 (w+1) [xh]:=a1▸(yA.ofHeap (vs:=#[.slice none 0 0]) (Aa w _ _) qo rfl)
  exact⟨yLv.nil (by rw[yAd];exact hi),yA.k h hb,h1,h2,World.ownsRow_nil ..,rfl,λi x t hx=>by simp at hx,Chg.h hb,ak⟩
 go_enter func243,ntmps243;go_wp2;rw[<-a1];go_loopw[] (λwr=>∃(k:Nat)(ts:List Pat)(us:List Vv)(v:Vv),i<=k/\k<=p.size/\us.length<=k/\SeqJ p O g i o w k ts us v wr) (λwr=>p.size-atOf wr g);case atStart=>exact⟨i,[],[],_,Aq _,hi,AN _,ae⟩
 case round=>
  have⟨k,ts,us,v,ax,aw,ar,hJ⟩:=hrel;have HJ:=qH2 hJ (yF3 hJ.rd);have⟨va,vc,ag⟩:=hJ.j.slice;subst ag;have a8:=HJ.1.rd.lt.2;have⟨c0,c1⟩:=HJ.1.rd.c2;have e0:∀n:Out wr,(xk n.u g 0 p:Prop):=λn=>(n.out.cell (p:=(xd g 0)) a8).trans c0;have e1:∀n:Out wr,(xk n.u g 1 (xi k):Prop):=λn=>(n.out.cell (p:=(xd g 1)) a8).trans c1;have⟨q,hq⟩:=qE (inB (sb p) k (sb ⟨#[42,43,63,124,41,93]⟩));have HQ:=qH1 hq.symm;have HI:Hid (∀n:Out wr,(xf 256 #[xp g,.string ⟨#[42,43,63,124,41,93]⟩] n.u q:Prop)):=λn=>hq▸(yD3 _ (yA.k HJ.1.rd n.out) hp)
  clear c0 c1 hq;by_cases hgo:k<p.size/\q=false
  .obtain⟨a4,rfl⟩:=hgo;have z1:(k:Int)<(p.size:Int):=qo
   have an:Hid (∀c,(sb p)[k]?=some c->¬yGn c):=λc hc he=>yJx HQ c hc (by
    rcases he with(rfl|rfl|rfl)|rfl|rfl|rfl<;>simp)
   go_upto_region 2 with fail;apply yAv qk qk;repeat (go_big_quiet_step ((first|rfl|(go_at_call 256;exact Calls.out_of (HI _)))))
   apply AY;rintro w1 ⟨⟨wx,hb1⟩,rfl⟩;have HJ1:=qH1 (HJ.1.K hb1);have ao:=qH1 HJ.2;have au:=hb1.size;clear e0 e1 HI hb1 HJ;have b0:=HJ1.A.z (j:=0) rfl;have av:=HJ1.A.lt.2;have am:Hid (∀w',Below w1 w1 w'->Calls prog 257 #[xp g] w' (yJ4 p O g k o w' (yUf (sb p) o k))):=λw' hb=>H O g k o w' qo a4 ho an (yA.k HJ1.rd hb);go_upto_region 3 with fail
   go_region_law ((first
                |(go_simp;go_at_call 257;apply (am.out _ (Below.refl _ _).drew).mono;rintro e' w6 ⟨a7,(⟨k6,t,x,a5,rfl,a6,ab⟩|⟨c6,k6,al,ai,rfl⟩)⟩;(case inr=>exact⟨rfl,(HJ1.K (Below.refl _ _).drew).i.trans a7,.inr ⟨c6,k6,al,by rw[HJ1.ok.chk,ai],rfl⟩⟩);obtain⟨T6,a3,rfl⟩:=a6.iface;have a0:=qH2 ((HJ1.K (Below.refl _ _).drew).rep a7 a5 a6 ab) a5;have m6:=a0.1.A.z (j:=0) rfl;have af:=a0.1.A.lt.2;have aq:∀o,(xk (w6.alloc o) (w+1) 0 (.slice va us.length vc):Prop):=λo=>by {rw[((Below.refl w6 w6).alloc qr o).cell (p:=(xd (w+1) 0)) af];exact m6};clear a7 a5 a6 ab)
                |(refine yJh _ (by rfl) _ _ (by rfl) (w+2) us.length w6 (.slice va us.length vc) (.iface T6 (.agg a3)) us rfl (by rfl) (by rfl) ?hO ?hc rfl ?hl ?hb ?_
                  case hO=>exact(a0.1.K (qB)).j
                  case hc=>simp
                  case hl=>omega
                  case hb=>have:=(a0.1.K ((Below.refl _ _).alloc qr (AG #[.iface T6 (.agg a3)] 346))).A.lt.2;omega
                  intro g7 ay w7 ac a9 aa
                  have a2:=(a0.1.K ((Below.refl _ _).alloc qr (AG #[.iface T6 (.agg a3)] 346))).push ac a9 (λj hj=>by have aj:g7=j:=by {simpa [Aj]using hj};rw[<-aj];exact aa)
                  have ad:=qH1 a2.1
                  have m7:=a2.2.1
                  have f7:=a2.2.2
                  clear a2 ac a9 aa)))
   all_goals go_wp2_with fail
   all_goals go_roundw
   all_goals first
    |exact⟨k6,ts++ [t],us++ [.iface T6 (.agg a3)],_,qw a0.2.lt,by have:=a0.2.le;rw[yAd]at this;exact this,by have:=a0.2.lt;rw[AF];simp;omega,ad.out⟩
    |(rw[ao,yF3 ad.rd];have:=a0.2.lt;omega)
  .have HE:Hid (∀c,(sb p)[k]?=some c->yGn c):=by
    intro c hc;have hk:=yAt hc;rw[yAd]at hk;cases q
    .exact absurd ⟨hk,rfl⟩ hgo
    .have⟨d,hd,hm⟩:=yO0 HQ;rw[hc]at hd;cases hd
     simp at hm;rcases hm with rfl|rfl|rfl|rfl|rfl|rfl<;>simp[yGn,isOp]
   have HX:=qH1 HJ.1;clear HQ HJ;have fin:∀w1,Below wr wr w1->Hid (SeqJ p O g i o w k ts us (.slice va us.length vc) w1):=λw1 hb=>HX.K hb;by_cases a4:k<p.size
   .have ah:q=true:=by
     cases q
     .exact absurd ⟨a4,rfl⟩ hgo
     .rfl
    subst ah;have z1:(k:Int)<(p.size:Int):=qo
    clear hgo;go_upto_region 2 with fail;apply yAv qk qk;repeat (go_big_quiet_step ((first|rfl|(go_at_call 256;exact Calls.out_of (HI _)))))
    exact xKq
   .have z1:¬(k:Int)<(p.size:Int):=qo
    clear hgo;go_upto_region 2 with fail;apply yAv qk qk;repeat (go_big_quiet_step (rfl))
    exact xKq
end
section
structure AltJ(p:Ba)(O g i o:Nat)(w:Ww)(k:Nat)(os:List (List Pat))(us:List Vv)(gq cp:Nat)(wr:Ww):Prop where
 ok:yDz (sb p) o i k os
 nxt:∀c,(sb p)[k]?=some c->yGn c
 rd:PrAt wr O g p k o
 res:yA wr w 304 1 w [xh]
 j:OwnQ wr (w+1) gq cp us
 X:us.length=os.length
 seqs:∀(i:Nat) x ts,us[i]?=some x->os[i]?=some ts->yGp wr (λj=>w.heap.size+1<=j/\¬j=gq) ts x
 i:Chg (λk=>k=g) w wr
 glt:g<w.heap.size
theorem OwnQ.i(h:OwnQ w O gq cp us)(hc:Chg S w w')(hn:¬S gq):OwnQ w' O gq cp us:=yAh h hc (λk q=>by simp[Aj]at q;subst q;exact hn)
variable {p:Ba} {i:Nat} {k:Nat}
theorem AltJ.read(h:AltJ p O g i o w k os us gq cp wr)(hC:Chg (λk=>k=g) wr w')(hP:PrAt w' O g p k' o):
  yA w' w 304 1 w [xh]/\OwnQ w' (w+1) gq cp us/\(∀(i:Nat) x ts,us[i]?=some x->os[i]?=some ts->yGp w' (λj=>w.heap.size+1<=j/\¬j=gq) ts x)/\Chg (λk=>k=g) w w':=by
 have hg:=h.glt;have hq:=h.j.lt;exact⟨h.res.i hC qo,h.j.i hC qo,λi x ts hx ht=>(h.seqs i x ts hx ht).K hC (λq hq=>by subst hq;exact λz=>qw z.1) (λq _ z=>z),h.i.trans hC⟩
theorem xMy:ApT 302 316 1 (λl=>l) OwnQ AtV:=apTV ⟨underlying302,_,_,Tryz.infoSeq,rfl,qj,qj⟩ Iff.rfl
theorem yGp.slice(h:yGp w R ts u):∃a n cp,u=.slice a n cp:=by
 obtain⟨n,h|⟨g,cp,us,h1,_⟩⟩:=h
 .exact⟨_,_,_,h.2⟩
 .exact⟨_,_,_,h1⟩
variable {p:Ba}
theorem xGb(H:SeqC p m)(hp:p.size<=200):AltC p m:=by
 intro O g i o w hm hi ho h;have am:=h.lt.2;have⟨W0,a8⟩:=qW (xw w #[xh] 304);have a6:Hid (PrAt W0 O g p i o/\yA W0 w 304 1 w [xh]/\Chg (λk=>k=g) w W0/\W0.heap.size=w.heap.size+1):=by
  have hb:=qN a8
  refine⟨yA.k h hb,?_,Chg.h hb,by rw[a8];simp⟩;rw[a8];exact yAa w _ qr rfl
 go_enter func229,ntmps229;go_upto_region 1 with fail;rw[<-a8];clear a8;go_wp2_with fail;apply (H O g i o W0 hm hi ho a6.1).mono;rintro e w1 ⟨a9,(⟨k,ts,u,hS,hE,rfl,hU,aq⟩|⟨c,k,ai,hk,rfl⟩)⟩;case inr=>exact⟨rfl,a6.2.2.1.trans a9,.inr ⟨c,k,ai,hk,rfl⟩⟩
 obtain⟨ua,un,uc,rfl⟩:=hU.slice;have af:i<=k/\k<=p.size:=by have h1:=hS.le;have h2:=hS.lei;rw[yAd]at h1;exact⟨h2,h1⟩
 obtain⟨W2,ab⟩:=qW (xw w1 #[.slice ua un uc] 316);have ak:Hid (AltJ p O g i o w k [ts] [.slice ua un uc] w1 1 W2):=by
  have hb:=qN ab
  have hz:=a6.2.2.2;have hs:=a9.size;refine⟨yDz.one hS,hE,yA.k aq hb,(a6.2.1.i a9 qo).k hb,?_,rfl,?_,(a6.2.2.1.trans a9).trans (Chg.h hb),am⟩
  .rw[ab];exact AR w1 #[.slice ua un uc] 1 qo qj rfl
  .intro j x ss hx al;have hj:j=0:=by have:=qf hx;simpa using this
   subst hj;simp at hx al;subst hx al;exact hU.K (S:=λ_=>False) (Chg.h hb) (λq hq=>hq.elim) (λq hq z=>⟨qw z.1,qo⟩)
 clear a9 hS hE hU aq a6;go_wp2_with fail;rw[<-ab];obtain⟨aA,ah⟩:=qE w1;rw[<-ah]at ak;rw[<-ah];clear ab ah;go_loopw[3] (λsv wr=>∃(k gq cp:Nat)(os:List (List Pat))(us:List Vv),i<=k/\k<=p.size/\us.length<=k+1/\sv=(xg gq us.length cp)/\AltJ p O g i o w k os us gq cp wr) (λ_ wr=>p.size-atOf wr g);case atStart=>exact⟨k,aA,1,[ts],[.slice ua un uc],af.1,af.2,by simp,rfl,ak.out⟩
 case round=>
  obtain⟨k,gq,cp,os,us,aF,af,aC,rfl,hJ⟩:=hrel;have HJ:=qH2 hJ (yF3 hJ.rd);clear hJ ak;go_wp2_with fail;refine(yEl 124 HJ.1.rd hp).mono ?_;rintro e w3 ⟨ae,(⟨hx,rfl,a1⟩|⟨hx,rfl,a1⟩)⟩
  .have az:k+1<=p.size:=by have:=yAt hx;rw[yAd]at this;omega
   have HX:=qH3 hx a1 (HJ.1.read ae a1);have a7:Hid (yDz (sb p) o i k os/\us.length=os.length/\atOf wr g=k):=⟨HJ.1.ok,HJ.1.X,HJ.2⟩;clear ae hx a1 HJ;go_wp2_with fail;refine(H O g (k+1) o w3 qo az ho HX.2.1).mono ?_;rintro e w4 ⟨ad,(⟨k4,aa,u4,ac,au,rfl,aj,ao⟩|⟨c,k4,ai,ay,rfl⟩)⟩;case inr=>
    refine⟨rfl,HX.2.2.2.2.2.trans ad,.inr ⟨c,k4,ai,?_,rfl⟩⟩;rw[a7.1.chk,yLk HX.1,ay]
   obtain⟨a4,a2,a3,rfl⟩:=aj.slice;have ax:k+1<=k4/\k4<=p.size:=by have h1:=ac.le;have h2:=ac.lei;rw[yAd]at h1;exact⟨h2,h1⟩
   obtain⟨W5,a5⟩:=qW (xw w4 #[.slice a4 a2 a3] 316);have a0:Hid (yDz (sb p) o i k4 (os++ [aa])/\(∀c,(sb p)[k4]?=some c->yGn c)/\PrAt W5 O g p k4 o/\yA W5 w 304 1 w [xh]/\OwnQ W5 (w+1) gq cp us/\(∀(i:Nat) x ts,(us++ [.slice a4 a2 a3])[i]?=some x->(os++ [aa])[i]?=some ts->yGp W5 (λj=>w.heap.size+1<=j/\¬j=gq) ts x)/\Chg (λk=>k=g) w W5/\xk W5 w4 0 (.slice a4 a2 a3)/\w.heap.size+1<=W5.heap.size):=by
    have hb:=qN a5
    have hq:=HX.2.2.2.1.lt;have aE:=ad.size;have aD:=hb.size;have hc:Chg (λk=>k=g) w3 W5:=ad.trans (Chg.h hb);refine⟨yDz.more a7.1 HX.1 ac,au,yA.k ao hb,HX.2.2.1.i hc qo,HX.2.2.2.1.i hc qo,?_,HX.2.2.2.2.2.trans hc,by rw[a5];simp,qo⟩;intro j y s hy hs;rcases yH6 hy with hy|⟨hj,rfl⟩
    .rcases yH6 hs with hs|⟨hj,rfl⟩
     .exact(HX.2.2.2.2.1 j y s hy hs).K hc (λq hq=>by subst hq;exact λz=>qw z.1) (λq _ z=>z)
     .have:=qf hy;have:=a7.2.1;omega
    .rcases yH6 hs with hs|⟨_,rfl⟩
     .have:=qf hs;have:=a7.2.1;omega
     .exact aj.K (S:=λ_=>False) (Chg.h hb) (λq hq=>hq.elim) (λq _ z=>⟨qw z.1,λe=>qw z.1⟩)
   clear ad ac au aj ao HX;go_wp2_with (at_builtin;rw[<-a5];refine wpA rfl (apK xMy rfl (w+1) us [.slice a4 a2 a3] rfl rfl rfl rfl ?hO (atV1 ?hc rfl) (lN ?hl) ?hb ?_));case hO=>exact a0.2.2.2.2.1
   case hc=>exact a0.2.2.2.2.2.2.2.1
   case hl=>omega
   case hb=>exact a0.2.2.2.2.2.2.2.2
   intro g6 av w6 ar ag an;rw[<-a5]at ag;have aB:=qS a5
   have aw:Hid (AltJ p O g i o w k4 (os++ [aa]) (us++ [.slice a4 a2 a3]) g6 av w6):=by have hq:=a0.2.2.2.2.1.lt;have hc:Chg (λj=>j=gq) W5 w6:=Chg.M ag (λj hj=>by cases hj;rfl);refine⟨a0.1,a0.2.1,yA.i a0.2.2.1 hc (by omega),a0.2.2.2.1.i hc (by omega),ar,by rw[AF,AF,a7.2.1];rfl,?_,a0.2.2.2.2.2.2.1.absorb hc (λj q=>.inr (by omega)),am⟩;intro j y s hy hs;exact(a0.2.2.2.2.2.1 j y s hy hs).K hc (λq hq z=>z.2 hq) (λq hq z=>⟨z.1,λe=>by rcases an with r|r;exact z.2 qo;omega⟩)
   clear ar ag an a5 a0;go_wp2;go_roundw;case rel=>exact⟨k4,g6,av,os++ [aa],us++ [.slice a4 a2 a3],qo,ax.2,by rw[AF];simp;omega,by rw[AF];rfl,aw.out⟩
   case measure=>rw[a7.2.2,yF3 aw.rd];omega
  .have HX:=qH3 HJ.1.ok (λc hc=>⟨HJ.1.nxt c hc,λq=>by subst q;exact hx hc⟩:(∀c,(sb p)[k]?=some c->yGn c/\¬c=124)) HJ.1.X;have HR:=HJ.1.read ae a1;have HF:=qH2 a1 HR;clear HR ae hx a1 HJ;have r0:=HF.2.1.z (j:=0) rfl;have rf:=HF.2.1.frozen 0;go_wp2;refine AH (v:=.agg #[xg gq us.length cp]) (by simp[results,results229,go_sem,AL _ _ _ r0]) rfl ?_;have hc:=Chg.D w3 w 0 (xg gq us.length cp) (S:=λj=>j=w.heap.size) rfl;have hq:=HF.2.2.1.lt;refine⟨HF.2.2.2.2.absorb hc (λj q=>.inr qo),.inl ⟨k,os,_,HX.1,HX.2.1,rfl,?_,yA.i HF.1 hc qo⟩⟩;obtain⟨n,hn⟩:=yUz HX.2.2 (λi x ts hx ht=>(HF.2.2.2.1 i x ts hx ht).K (S:=λ_=>False) (Chg.refl _ _) (λ_ q=>q.elim) (lo':=λj=>w.heap.size+1<=j) (λ_ _ q=>q.1));have hA:yD0 w3 (λj=>w.heap.size+1<=j) os (xg gq us.length cp):=⟨n,gq,cp,us,by rw[HX.2.2],HX.2.2,HF.2.2.1.vals hq.1,hn⟩;exact hA.K hc (λj q=>by subst q;exact λz=>qo) (λj hj z=>⟨qo,qw hc.size⟩)
theorem xCc(hp:p.size<=200):∀m,xE5 p m/\AltC p m
 |0=>by
  have h0:xE5 p 0:=λO g i o w hm hi=>qo
  exact⟨h0,xGb (xFr (xFw h0 hp) hp) hp⟩
 |m+1=>by
  have h1:=xI0 (xCc hp m).2 hp
  exact⟨h1,xGb (xFr (xFw h1 hp) hp) hp⟩
theorem xE1(hp:p.size<=200)(O g i o:Nat) w (hi:i<=p.size) (ho:o<=20) (h:PrAt w O g p i o):Calls prog 229 #[xp g] w (xCo p O g i o w):=
 (xCc hp (p.size-i)).2 O g i o w qr hi ho h
end
theorem yZo(c a:Int)(w:Ww):(AB (pfV c a) 20 321 true).run prog w=.ok (.tuple #[.agg #[xi c,xi a],true]) w:=qk
theorem xDo(w:Ww):(xf 228 #[.nilIface] w (.agg #[xi 0,xi 0]):Prop):=by go_enter func228,ntmps228;go_wp2;refine AH (v:=.agg #[xi 0,xi 0]) (by simp[results,results228,go_sem]) rfl ⟨rfl,?_⟩;exact qB
theorem xHt(c a:Int)(w:Ww):(xf 228 #[pfV c a] w (.agg #[xi c,xi a]):Prop):=by
 have a4:=yZo;have⟨W,hW⟩:=qE (xw w #[xi 0,xi 0] 321:Ww);have HW:Hid (yA W w 321 2 w [xi 0,xi 0]/\Below w w W):=hW▸⟨yAa w _ qr rfl,qB⟩
 have⟨W2,a1⟩:=qE (xw W #[xi c,xi a] 321:Ww);have a0:Hid (yA W2 w 321 2 w [xi 0,xi 0]/\yA W2 w 321 2 W [xi c,xi a]/\Below w w W2):=by
  have hb:=qN a1
  refine⟨HW.1.k hb,?_,HW.2.trans (hb.mono HW.2.size)⟩;rw[a1];exact yAa W _ HW.2.size rfl
 go_enter func228,ntmps228;go_upto_region 1 with fail;rw[<-hW];clear hW;go_upto_region 7 with fail;rw[<-a1];clear a1 a4;have⟨b0,b1⟩:=a0.2.1.c2;have⟨r0,r1⟩:=a0.1.c2;have⟨f0,f1⟩:=a0.1.f2;have a3:=(a0.1.set 0 (xi c)).set 1 (xi a);have⟨p0,p1⟩:=a3.c2;have⟨W3,a2⟩:=qE (xt (W2.setCell (xd w 0) (xi c)) w 1 (xi a):Ww);rw[<-a2]at p0 p1;have a5:Hid (Below w w W3):=by show Below w w W3;rw[a2];exact yAb (yAb a0.2.2 qr 0 _) qr 1 _
 go_wp2;rw[<-a2];refine AH (v:=.agg #[xi c,xi a]) (by simp[results,results228,go_sem,p0,p1]) rfl ⟨rfl,a5⟩
theorem xDb(O rb eb:Nat)(c a:Int)(older:List PanicEntry)(w:Ww)(hc:¬c=0)(x:Vv)(hr:yA w O 304 1 rb [x])(he:yA w O 158 2 eb [xi 0,xi 0])(hne:¬rb=eb):
  CallsD prog 227 #[xp rb,xp eb] (.panicking ({v:=pfV c a,recovered:=false}::older)) w λe u' w'=>
   e=.returned (.tuple #[])/\u'=.panicking ({v:=pfV c a,recovered:=true}::older)/\yA w' O 304 1 rb [xh]/\yA w' O 158 2 eb [xi c,xi a]/\Chg (λk=>k=rb\/k=eb) w w':=by
 refine Au func227 rfl λc₀ cs hu=>?_;apply wpS_seq;apply wpS_region;simp[wpOpsS,go_sem,recoverD,hu,ntmps227,Exit.thenS];apply (xHt c a w).mono;rintro e w1 ⟨rfl,a0⟩;simp[wpOpsS,go_sem];have ht:#[AJ (some ⟨rb,0,none⟩),AJ (some ⟨eb,0,none⟩)]++(((Ah 12 undef).setIfInBounds 1 (pfV c a)).setIfInBounds 2 (As #[AZ IntKind.i64 c,AZ IntKind.i64 a])).setIfInBounds 0 (AJ (some ⟨w1,0,none⟩))=#[.pointer (some ⟨rb,0,none⟩),.pointer (some ⟨eb,0,none⟩),.pointer (some ⟨w1,0,none⟩),pfV c a,.agg #[xi c,xi a],undef,undef,undef,undef,undef,undef,undef,undef,undef]:=by rfl
 rw[ht];have⟨W2,a1⟩:=qE (xw w1 #[xi c,xi a] 321:Ww);have hb2:=qN a1
 have HB:Hid (yA W2 O 304 1 rb [x]/\yA W2 O 158 2 eb [xi 0,xi 0]/\Chg (λk=>k=rb\/k=eb) w W2):=
  ⟨(hr.k a0).k hb2,(he.k a0).k hb2,(Chg.h a0).trans (Chg.h hb2)⟩
 have d0:(xk W2 w1 0 (xi c):Prop):=by rw[a1];simp
 have d1:(xk W2 w1 1 (xi a):Prop):=by rw[a1];simp
 have a4:=(hr.k a0).lt.2;have a5:=(he.k a0).lt.2;have⟨FB,a3⟩:=qE w1.heap.size;rw[<-a1];rw[<-a3]at d0 d1|-;have n1:¬FB=rb:=qo
 have n2:¬FB=eb:=qo
 clear a1 a3 a0 hb2 hr he a4 a5;have r0:=HB.1.z (j:=0) rfl;have rf:=HB.1.frozen 0;have⟨e0,e1⟩:=HB.2.1.c2;have⟨f0,f1⟩:=HB.2.1.f2;have n3:¬eb=rb:=λq=>hne q.symm;have HF:∀w':Ww,Below W2 W2 w'->yA (xt ((w'.setCell (xd rb 0) xh).setCell (xd eb 0) (xi c)) eb 1 (xi a)) O 304 1 rb [xh]/\yA (xt ((w'.setCell (xd rb 0) xh).setCell (xd eb 0) (xi c)) eb 1 (xi a)) O 158 2 eb [xi c,xi a]/\Chg (λk=>k=rb\/k=eb) w (xt ((w'.setCell (xd rb 0) xh).setCell (xd eb 0) (xi c)) eb 1 (xi a)):=λw' hb=>by refine⟨((((HB.1.k hb).set 0 _).Q hne 0 _).Q hne 1 _),((((HB.2.1.k hb).Q n3 0 _).set 0 _).set 1 _),((((HB.2.2.trans (Chg.h hb)).trans (Chg.D _ rb 0 _ (.inl rfl))).trans (Chg.D _ eb 0 _ (.inr rfl))).trans (Chg.D _ eb 1 _ (.inr rfl)))⟩
 have a6:=qH1 HF;apply wpS_of_wp;go_upto_region 2 with fail;go_region;all_goals go_wp2
 have a2:=a6.out W2 (Below.refl _ _);have hdr:∀X:Ww,Below X X X.drew:=λX=>(Below.refl _ _).drew;exact⟨rfl,_,rfl,_,by simp[results,results227],rfl,rfl,a2.1.k (hdr _),a2.2.1.k (hdr _),a2.2.2.trans (Chg.h (hdr _))⟩
theorem xHe(rb eb:Nat)(w:Ww):
  CallsD prog 227 #[xp rb,xp eb] .returning w λe u' w'=>e=.returned (.tuple #[])/\u'=.returning/\Below w w w':=by
 refine Au func227 rfl λc₀ cs hu=>?_;apply wpS_seq;apply wpS_region;simp[wpOpsS,go_sem,recoverD,hu,ntmps227,Exit.thenS];apply (xDo w).mono;rintro e w1 ⟨rfl,a0⟩;simp[wpOpsS,go_sem];have ht:#[AJ (some ⟨rb,0,none⟩),AJ (some ⟨eb,0,none⟩)]++(((Ah 12 undef).setIfInBounds 1 .nilIface).setIfInBounds 2 (As #[AZ IntKind.i64 0,AZ IntKind.i64 0])).setIfInBounds 0 (AJ (some ⟨w1,0,none⟩))=#[.pointer (some ⟨rb,0,none⟩),.pointer (some ⟨eb,0,none⟩),.pointer (some ⟨w1,0,none⟩),.nilIface,.agg #[xi 0,xi 0],undef,undef,undef,undef,undef,undef,undef,undef,undef]:=by rfl
 rw[ht];have HB:Hid (Below w w (xw w1 #[xi 0,xi 0] 321)):=a0.trans ((Below.refl _ _).alloc a0.size _);apply wpS_of_wp;go_wp2;refine⟨rfl,.returning,?_,_,by simp[results,results227],rfl,rfl,HB⟩;cases c₀
 simp_all
def yAr(p:List U8):Int×Nat:=if 200<p.length then(1,0)else chkM p 0 0 false
def yEb(p:Ba)(w:Ww)(e:Al)(w':Ww):Prop:=
 ∃u:Vv,e=.returned (.tuple #[.agg #[u],.agg #[xi (yAr (sb p)).1,xi (yAr (sb p)).2]])/\Below w w w'/\
  (((yAr (sb p)).1=0/\∃os,yDz (sb p) 0 0 p.size os/\yD0 w' (Bet w w') os u)\/(¬(yAr (sb p)).1=0/\u=xh))
theorem yZb{a:Act}{x:Vv}(hu:u.oneCell'=true)(ht:a.tmps.getD 2 undef=(xp rb))(ht2:a.tmps.getD 3 undef=(xp eb))(hr:yA w O 304 1 rb [u])(he:yA w O 158 2 eb [x,y]):
  (results Tryz.f212 a.tmps).run prog w=.ok (.tuple #[.agg #[u],.agg #[x,y]]) w:=by
 have p0:=hr.z (j:=0) rfl;have⟨q0,q1⟩:=he.c2;have h1:a.tmps[2]?.getD undef=(xp rb):=by rw[<-AU];exact ht
 have h2:a.tmps[3]?.getD undef=(xp eb):=by rw[<-AU];exact ht2
 simp[results,results212,go_sem,h1,h2,p0,q0,q1]
theorem yZc(p:Ba)(w wq:Ww)(a:Act)(c:Int)(k rb eb:Nat)(x:Vv)(hrb:w<=rb)(heb:w<=eb)(hne:¬rb=eb)(hd:a.defers= [{target:=Target.fn (Fn.func 227) #[xp rb,xp eb],args:=#[]}])
  (ht:a.tmps.getD 2 undef=(xp rb)) (ht2:a.tmps.getD 3 undef=(xp eb)) (hM:yAr (sb p)=(c,k)) (hc:¬c=0) (hr:yA wq w 304 1 rb [x]) (he:yA wq w 158 2 eb [xi 0,xi 0]) (hB:Below w w wq):
  bodyPostD prog Tryz.f212 (λe w'=>yEb p w e w') (.panic [{v:=pfV c k,recovered:=false}]) a wq:=by
 show Am prog Tryz.f212 a.tmps (λe w'=>yEb p w e w') a.defers (.panicking [{v:=pfV c k,recovered:=false}]) wq;rw[hd];apply leaves_cons (f:=227) (args:=#[.pointer (some ⟨rb,0,none⟩),.pointer (some ⟨eb,0,none⟩)]) (by simp) (by simp[go_sem]);apply (xDb w rb eb c k [] wq hc x hr he hne).mono;rintro e u' w'' ⟨rfl,rfl,a0,a1,hC⟩;show Am prog Tryz.f212 a.tmps (λe w'=>yEb p w e w') [] (settle (.panicking [{v:=pfV c k,recovered:=true}])) _;refine⟨_,yZb rfl ht ht2 a0 a1,xh,by rw[hM],Chg.k hB hC hB.size (λj q=>qo),.inr ⟨by rw[hM];exact hc,rfl⟩⟩
theorem xHf(p:Ba)(w wq:Ww)(a:Act)(rb eb:Nat)(u:Vv)(os:List (List Pat))(hu:u.oneCell'=true)(hd:a.defers= [{target:=Target.fn (Fn.func 227) #[xp rb,xp eb],args:=#[]}])
  (ht:a.tmps.getD 2 undef=(xp rb)) (ht2:a.tmps.getD 3 undef=(xp eb)) (hM:yAr (sb p)=(0,0)) (hA:yDz (sb p) 0 0 p.size os) (hU:yD0 wq (Bet w wq) os u) (hr:yA wq w 304 1 rb [u]) (he:yA wq w 158 2 eb [xi 0,xi 0]) (hB:Below w w wq):
  bodyPostD prog Tryz.f212 (λe w'=>yEb p w e w') .ret a wq:=by
 show Am prog Tryz.f212 a.tmps (λe w'=>yEb p w e w') a.defers .returning wq;rw[hd];apply leaves_cons (f:=227) (args:=#[.pointer (some ⟨rb,0,none⟩),.pointer (some ⟨eb,0,none⟩)]) (by simp) (by simp[go_sem]);apply (xHe rb eb wq).mono;rintro e u' w'' ⟨rfl,rfl,hb⟩;show Am prog Tryz.f212 a.tmps (λe w'=>yEb p w e w') [] (settle .returning) w'';refine⟨_,yZb hu ht ht2 (hr.k hb) (he.k hb),u,by rw[hM];rfl,hB.trans (hb.mono hB.size),.inl ⟨by rw[hM],os,hA,hU.K (S:=λ_=>False) (Chg.h hb) (λq hq=>hq.elim) (λq hq z=>⟨z.1,by have:=hb.size;omega⟩)⟩⟩
noncomputable def zeroOf(t:Nat):Vv:=((prog.info? t).bind (λi=>i.zero)).getD undef
theorem asBB(cs:Array Vv)(w:Ww):(AB (.iface 348 (.agg cs)) 346 348 true).run prog w=.ok (.tuple #[.agg cs,true]) w:=qk
theorem asCC(cs:Array Vv)(w:Ww):(AB (.iface 360 (.agg cs)) 346 360 true).run prog w=.ok (.tuple #[.agg cs,true]) w:=qk
theorem asCB(cs:Array Vv)(w:Ww):(AB (.iface 360 (.agg cs)) 346 348 true).run prog w=.ok (.tuple #[zeroOf 348,false]) w:=qk
theorem asRR(cs:Array Vv)(w:Ww):(AB (.iface 362 (.agg cs)) 346 362 true).run prog w=.ok (.tuple #[.agg cs,true]) w:=qk
theorem asRB(cs:Array Vv)(w:Ww):(AB (.iface 362 (.agg cs)) 346 348 true).run prog w=.ok (.tuple #[zeroOf 348,false]) w:=qk
theorem asRC(cs:Array Vv)(w:Ww):(AB (.iface 362 (.agg cs)) 346 360 true).run prog w=.ok (.tuple #[zeroOf 360,false]) w:=qk
theorem asSS(cs:Array Vv)(w:Ww):(AB (.iface 316 (.agg cs)) 346 316 true).run prog w=.ok (.tuple #[.agg cs,true]) w:=qk
theorem asSB(cs:Array Vv)(w:Ww):(AB (.iface 316 (.agg cs)) 346 348 true).run prog w=.ok (.tuple #[zeroOf 348,false]) w:=qk
theorem asSC(cs:Array Vv)(w:Ww):(AB (.iface 316 (.agg cs)) 346 360 true).run prog w=.ok (.tuple #[zeroOf 360,false]) w:=qk
theorem asSR(cs:Array Vv)(w:Ww):(AB (.iface 316 (.agg cs)) 346 362 true).run prog w=.ok (.tuple #[zeroOf 362,false]) w:=qk
theorem asAA(cs:Array Vv)(w:Ww):(AB (.iface 304 (.agg cs)) 346 304 true).run prog w=.ok (.tuple #[.agg cs,true]) w:=qk
theorem asAB(cs:Array Vv)(w:Ww):(AB (.iface 304 (.agg cs)) 346 348 true).run prog w=.ok (.tuple #[zeroOf 348,false]) w:=qk
theorem asAC(cs:Array Vv)(w:Ww):(AB (.iface 304 (.agg cs)) 346 360 true).run prog w=.ok (.tuple #[zeroOf 360,false]) w:=qk
theorem asAR(cs:Array Vv)(w:Ww):(AB (.iface 304 (.agg cs)) 346 362 true).run prog w=.ok (.tuple #[zeroOf 362,false]) w:=qk
theorem asAS(cs:Array Vv)(w:Ww):(AB (.iface 304 (.agg cs)) 346 316 true).run prog w=.ok (.tuple #[zeroOf 316,false]) w:=qk
theorem yCj(p:Ba) w (hpm:p.size<=maxLen):Calls prog 212 #[p] w λe w'=>yEb p w e w':=by
 have af:∀(fn:Fn)(first cap:Array Vv)(w:Ww),(Instr.makeFunc fn first cap).run prog w=.ok (.func fn first cap) w:=λ_ _ _ _=>rfl;have⟨W0,a6⟩:=qW (xw (w.alloc (AG #[xh] 304)) #[xi 0,xi 0] 158);have a2:Hid (yA W0 w 304 1 w [xh]/\yA W0 w 158 2 (w+1) [xi 0,xi 0]/\Below w w W0/\W0.heap.size=w.heap.size+2):=by rw[a6];refine⟨yA.ofHeap (vs:=#[.slice none 0 0]) (Ar w _ _) qr rfl,yA.ofHeap (vs:=#[.int .i64 0,.int .i64 0]) (Aa w _ _) qo rfl,(qB).alloc (by simp) _,by simp⟩
 unfold maxLen at hpm;by_cases hp:200<p.size
 .have HM:Hid (yAr (sb p)=(1,0)):=by show yAr (sb p)=_;unfold yAr;rw[iB (by rw[yAd];exact hp)]
  have z:¬(p.size:Int)<=200:=qo
  have z2:(200:Int)<(p.size:Int):=qo
  go_enter_defers func212,ntmps212;go_upto_region 1 with fail;rw[<-a6];clear a6;have r0:=a2.1.z (j:=0) rfl;have rf:=a2.1.frozen 0;obtain⟨e0,e1⟩:=a2.2.1.c2;obtain⟨f0,f1⟩:=a2.2.1.f2;obtain⟨W1,a3⟩:=qW (xt ((W0.setCell (xd w 0) xh).setCell (xd (w+1) 0) (xi 1)) (w+1) 1 (xi 0));have a0:Hid (yA W1 w 304 1 w [xh]/\yA W1 w 158 2 (w+1) [xi 1,xi 0]/\Below w w W1):=by rw[a3];exact⟨(((a2.1.set 0 _).Q qo 0 _).Q qo 1 _),(((a2.2.1.Q qo 0 _).set 0 _).set 1 _),yAb (yAb (yAb a2.2.2.1 qr 0 _) qo 0 _) qo 1 _⟩
  go_wp2_with fail;rw[<-a3];show Am prog Tryz.f212 _ (λe w'=>yEb p w e w') [] .returning W1;refine⟨_,yZb (a:={tmps:=_,defers:= []}) rfl rfl rfl a0.1 a0.2.1,xh,by rw[HM.out];rfl,a0.2.2,.inr ⟨by rw[HM.out];decide,rfl⟩⟩
 have ae:p.size<=200:=qo
 have HM:Hid (yAr (sb p)=chkM (sb p) 0 0 false):=by show yAr (sb p)=_;unfold yAr;rw[iA (by rw[yAd];exact hp)]
 have z:(p.size:Int)<=200:=qo
 obtain⟨W1,a3⟩:=qW (xw W0 #[p,xi 0,xi 0] 324);have a0:Hid (yA W1 w 304 1 w [xh]/\yA W1 w 158 2 (w+1) [xi 0,xi 0]/\PrAt W1 w (w+2) p 0 0/\Below w w W1/\W1.heap.size=w.heap.size+3):=by
  have hb:=qN a3
  have hz:=a2.2.2.2;refine⟨a2.1.k hb,a2.2.1.k hb,?_,a2.2.2.1.trans (hb.mono qo),by rw[a3];simp;omega⟩;rw[a3,<-hz];exact yAa W0 #[p,xi 0,xi 0] qo rfl
 go_enter_defers func212,ntmps212;go_upto_region 1 with fail;rw[<-a6];have ad:=a2.2.2.2;clear a6 a2;go_upto_region 5 with fail;rw[<-a3];clear a3 ad;go_wp2_with fail;refine(xE1 ae w (w+2) 0 0 W1 (AN _) (AN _) a0.2.2.1).mono ?_;rintro e w2 ⟨a5,(⟨k,os,u,hA,hN,rfl,hU,ac⟩|⟨c,k,hc,hk,rfl⟩)⟩;case inr=>
  have hb2:=Chg.k a0.2.2.2.1 a5 a0.2.2.2.1.size (λj q=>by omega);exact yZc p w w2 _ c k w (w+1) _ qr qo qo rfl rfl rfl (by rw[HM.out,hk]) hc (a0.1.i a5 qo) (a0.2.1.i a5 qo) hb2
 obtain⟨gu,nu,cu,rfl⟩:=hU.slice;have ag:k<=p.size:=by have:=hA.le;rw[yAd]at this;exact this
 have HA:=qH2 hA hN;have a4:Hid (yA w2 w 304 1 w [xh]/\yA w2 w 158 2 (w+1) [xi 0,xi 0]/\PrAt w2 w (w+2) p k 0/\Below w w w2/\yD0 w2 (λj=>w.heap.size+3<=j) os (xg gu nu cu)):=by refine⟨a0.1.i a5 qo,a0.2.1.i a5 qo,ac,Chg.k a0.2.2.2.1 a5 a0.2.2.2.1.size (λj q=>qo),hU.K (S:=λ_=>False) (Chg.refl _ _) (λq hq=>hq.elim) (λq _ z=>by have h1:=z.1;rw[a0.2.2.2.2]at h1;exact h1)⟩
 clear a5 hA hN hU ac a0;obtain⟨W3,aa⟩:=qW (xt w2 w 0 (xg gu nu cu));have a1:Hid (yA W3 w 304 1 w [xg gu nu cu]/\yA W3 w 158 2 (w+1) [xi 0,xi 0]/\PrAt W3 w (w+2) p k 0/\Below w w W3/\yD0 W3 (λj=>w.heap.size+3<=j) os (xg gu nu cu)):=by have hc:=Chg.D w2 w 0 (xg gu nu cu) (S:=λj=>j=w.heap.size) rfl;rw[aa];exact⟨a4.1.set 0 _,a4.2.1.i hc qo,yA.i a4.2.2.1 hc qo,yAb a4.2.2.2.1 qr 0 _,a4.2.2.2.2.K hc (λq hq=>by subst hq;exact λz=>qo) (λq _ z=>z)⟩
 have r0:=a4.1.z (j:=0) rfl;have rf:=a4.1.frozen 0;clear a4;go_upto_region 6 with fail;rw[<-aa];clear aa r0 rf;have c1:=a1.2.2.1.z (j:=1) rfl;by_cases hke:k=p.size
 .have zk:(k:Int)=(p.size:Int):=qo
  have a9:Hid (yAr (sb p)=(0,0)/\yDz (sb p) 0 0 p.size os):=by refine⟨?_,by rw[<-hke];exact HA.1⟩;rw[HM.out,HA.1.chk,yIl (by rw[yAd];omega),iA qo]
  clear HA hke;go_wp2_with fail;refine(yKq _ a1.2.2.1).mono ?_;rintro e w5 ⟨a7,(⟨hc,rfl⟩|⟨hc,rfl⟩)⟩;case inr=>exfalso;(simp at hc)<;>omega
  rw[a7];clear a7 hc c1;have r0:=a1.1.z (j:=0) rfl;have rf:=a1.1.frozen 0;obtain⟨e0,e1⟩:=a1.2.1.c2;obtain⟨f0,f1⟩:=a1.2.1.f2;obtain⟨W6,ab⟩:=qW (xt ((W3.setCell (xd w 0) (xg gu nu cu)).setCell (xd (w+1) 0) (xi 0)) (w+1) 1 (xi 0));have a8:Hid (yA W6 w 304 1 w [xg gu nu cu]/\yA W6 w 158 2 (w+1) [xi 0,xi 0]/\Below w w W6/\yD0 W6 (Bet w W6) os (xg gu nu cu)):=by have c1:=Chg.D W3 w 0 (xg gu nu cu) (S:=λj=>j=w.heap.size\/j=w.heap.size+1) (.inl rfl);have c2:=c1.trans (Chg.D _ (w+1) 0 (xi 0) (S:=λj=>j=w.heap.size\/j=w.heap.size+1) (.inr rfl));have c3:=c2.trans (Chg.D _ (w+1) 1 (xi 0) (S:=λj=>j=w.heap.size\/j=w.heap.size+1) (.inr rfl));rw[ab];exact⟨(((a1.1.set 0 _).Q qo 0 _).Q qo 1 _),(((a1.2.1.Q qo 0 _).set 0 _).set 1 _),yAb (yAb (yAb a1.2.2.2.1 qr 0 _) qo 0 _) qo 1 _,a1.2.2.2.2.K c3 (λq hq=>λz=>qo) (λq hq z=>⟨qo,qw c3.size⟩)⟩
  go_wp2_with fail;rw[<-ab];exact xHf p w W6 _ w (w+1) _ os rfl rfl rfl rfl a9.1 a9.2 a8.2.2.2 a8.1 a8.2.1 a8.2.2.1
 .have zk:¬(k:Int)=(p.size:Int):=qo
  have a9:Hid (yAr (sb p)=(2,k)):=by
   show yAr (sb p)=_;obtain⟨c,hc⟩:∃c,(sb p)[k]?=some c:=qg (by rw[yAd];omega);obtain⟨h1,h2⟩:=HA.2 c hc;rw[HM.out,HA.1.chk];rcases h1 with h1|h1|h1|h1
   .rw[yRu hc h1];rfl
   .exact absurd h1 h2
   .subst h1;rw[yEq hc,iB rfl]
   .subst h1;rw[yRt hc]
  clear HA hke;go_wp2_with fail;refine(yKq _ a1.2.2.1).mono ?_;rintro e w5 ⟨a7,(⟨hc,rfl⟩|⟨hc,rfl⟩)⟩
  .exfalso;(simp at hc)<;>omega
  rw[a7];exact yZc p w W3 _ 2 k w (w+1) _ qr qo qo rfl rfl rfl a9.out qj a1.1 a1.2.1 a1.2.2.2.1
theorem yMc(p:Ba)(w:Ww)(hpm:p.size<=maxLen):(xf 183 #[p] w (.agg #[xi (yAr (sb p)).1,xi (yAr (sb p)).2]):Prop):=by
 have⟨W0,a4⟩:=qW (xw w #[xi 0,xi 0] 158);have a3:Hid (yA W0 w 158 2 w [xi 0,xi 0]/\Below w w W0):=a4▸⟨yAa w _ qr rfl,qB⟩
 have⟨c,hc⟩:=qE ((yAr (sb p)).1);have⟨k,hk⟩:=qE ((yAr (sb p)).2);rw[<-hc,<-hk];go_enter func183,ntmps183;go_upto_region 1 with fail;rw[<-a4];clear a4;go_wp2_with fail;refine(yCj p W0 hpm).mono ?_;rintro e w1 ⟨u,rfl,a1,hu⟩;rw[<-hc,<-hk];obtain⟨ua,un,uc,rfl⟩:∃a n cp,u=.slice a n cp:=by
  exact xJq
 clear hu hc hk;obtain⟨W2,a2⟩:=qW (xw (w1.alloc (AG #[.slice ua un uc] 304)) #[xi c,xi k] 158);have a0:Hid (yA W2 w 158 2 w [xi 0,xi 0]/\yA W2 w 158 2 (w1+1) [xi c,xi k]/\Below w w W2):=by
  have hb2:Below w1 w1 W2:=by rw[a2];exact(qB).alloc (by simp) _
  have h1:=a3.2.size;have h2:=a1.size;refine⟨(a3.1.k a1).k hb2,?_,(a3.2.trans (a1.mono h1)).trans (hb2.mono (by omega))⟩;rw[a2];exact yA.ofHeap (vs:=#[.int .i64 c,.int .i64 (k:Int)]) (Aa w1 _ _) (by omega) rfl
 clear a1 a3;go_upto_region 2 with fail;rw[<-a2];clear a2;obtain⟨b0,b1⟩:=a0.2.1.c2;obtain⟨r0,r1⟩:=a0.1.c2;obtain⟨f0,f1⟩:=a0.1.f2;have a5:=(a0.1.set 0 (xi c)).set 1 (xi k);obtain⟨p0,p1⟩:=a5.c2;have a7:Hid (Below w w (xt (W2.setCell (xd w 0) (xi c)) w 1 (xi k))):=yAb (yAb a0.2.2 qr 0 _) qr 1 _;obtain⟨W3,a6⟩:=qW (xt (W2.setCell (xd w 0) (xi c)) w 1 (xi k));rw[<-a6]at p0 p1 a7;clear a5;go_wp2;rw[<-a6];refine AH (v:=.agg #[xi c,xi k]) (by simp[results,results183,go_sem,p0,p1]) rfl ⟨rfl,a7.out⟩
def cB(a b:Ba):Int:=AA a.data.toList b.data.toList
theorem yC8:∀a b:List U8,AC a b=true->AA a b= -1
 | [],[]=>by simp[AC]
 | [],_::_=>by simp[AA]
 |_::_,[]=>by simp[AC]
 |a::x,b::y=>by
  intro h
  simp only[AC,Bool.or_eq_true,decide_eq_true_eq,Bool.and_eq_true,beq_iff_eq]at h
  unfold AA
  rcases h with h|⟨rfl,h⟩
  .rw[iB h]
  .have hn:¬a<a:=by simp
   rw[iA hn,iA hn];exact yC8 x y h
theorem yC6:∀a:List U8,AA a a=0
 | []=>rfl
 |a::x=>by
  unfold AA
  have hn:¬a<a:=by simp
  rw[iA hn,iA hn];exact yC6 x
theorem yC7:∀a b:List U8,AC a b=false->(a==b)=false->AA a b=1
 | [],[]=>by simp
 | [],_::_=>by simp[AC]
 |_::_,[]=>by simp[AA]
 |a::x,b::y=>by
  intro h h2
  simp only[AC,Bool.or_eq_false_iff,decide_eq_false_iff_not]at h
  unfold AA
  rw[iA h.1]
  by_cases hb:b<a
  .rw[iB hb]
  .rw[iA hb]
   have hab:a=b:=by have h1:=h.1;rw[AI]at h1 hb;exact AT.1 qo
   subst hab
   refine yC7 x y ?_ ?_
   .simpa using h.2
   .simpa using h2
theorem yIg(a b:List U8):AA a b= -1\/AA a b=0\/AA a b=1:=by
 cases h:AC a b
 .cases h2:(a==b)
  .exact .inr (.inr (yC7 a b h h2))
  .rw[beq_iff_eq]at h2;subst h2;exact .inr (.inl (yC6 a))
 .exact .inl (yC8 a b h)
theorem yEj(a b:Ba):cB a b= -1\/cB a b=0\/cB a b=1:=yIg _ _
variable {a b:Ba}
theorem yPk(h:AC a.toList b.toList=true):cB a b= -1:=by rw[AD,AD]at h;exact yC8 _ _ h
theorem yPj(h:AC a.toList b.toList=false)(h2:(a.toList==b.toList)=false):cB a b=1:=by rw[AD,AD]at h h2;exact yC7 _ _ h h2
theorem xIy(h2:(a.toList==b.toList)=true):cB a b=0:=by rw[AD,AD,beq_iff_eq]at h2;unfold cB;rw[h2];exact yC6 _
def yAp(a b:Int):Int:=if a=0 then b else a
def yA2(k l:Int):Int:=if k=2 then(if l=2 then 0 else-1)else(if l=2 then 1 else 0)
def yEc(t u:Int):Int:=if u<t then-1 else if t<u then 1 else 0
def yAf(a b:Ent):Int:=yAp (cB a.j b.j) (yAp (cB a.E b.E) (yAp (cB a.C b.C) (yAp (yA2 a.f b.f) (yEc a.ts b.ts))))
theorem yO{k:IntKind}{a b:Int}(h:a=b):Ending.returned (.int k a)=.returned (.int k b):=by rw[h]
theorem xAv(a b:Ba) w:
  Calls prog 147 #[a,b] w λe w'=>e=.returned (xi (cB a b))/\w'=w:=by
 cases h:AC a.toList b.toList
 .cases h2:(a.toList==b.toList)
  .have H:=qH1 (yPj h h2);exact xGp
  .have H:=qH1 (xIy h2);exact xGp
 .have H:=qH1 (yPk h);exact xGp
theorem yTg(a b:Int) w:
  Calls prog 146 #[xi a,xi b] w λe w'=>e=.returned (xi (yAp a b))/\w'=w:=by
 unfold yAp;by_cases h:a=0
 .have h':(a != 0)=false:=by simp[h]
  rw[iB h];go_enter func146,ntmps146;go_wp2;go_ret;exact⟨rfl,rfl⟩
 .have h':(a != 0)=true:=by simp[h]
  rw[iA h];go_enter func146,ntmps146;go_wp2;go_ret;exact⟨rfl,rfl⟩
set_option maxRecDepth 100000 in
theorem yIf(a b:Ba) w:
  Calls prog 231 #[a,b] w λe w'=>e=.returned (xi (cB a b))/\w'=w:=by
 go_enter func231,ntmps231;go_wp2;rw[run_callFunc_extern func245 qk qk qk (e:=Extern.BytealgCompare.compare) qk,Lib.run_compareString];simp only[Result.andThen];rw[Oper.upon_value];go_wp2;go_ret;exact⟨rfl,rfl⟩
theorem yHd(a b:Ba) w:
  Calls prog 213 #[a,b] w λe w'=>e=.returned (xi (cB a b))/\w'=w:=by
 go_enter func213,ntmps213;go_wp2_with (go_at_call 231;apply (yIf _ _ _).mono;rintro e w' ⟨rfl,rfl⟩);go_ret;exact⟨rfl,rfl⟩
theorem yXs(a b:Int) w:
  Calls prog 188 #[xu a,xu b] w λe w'=>e=.returned (xi (yEc b a))/\w'=w:=by
 unfold yEc;by_cases h:a<b
 .rw[iB h];exact xGl
 .rw[iA h];by_cases h2:b<a
  .rw[iB h2];exact xGl
  .rw[iA h2];exact xGl
def tri(x:Int):Prop:=x= -1\/x=0\/x=1
theorem yHa{a b:Int}(h:tri a)(k:tri b):tri (yAp a b):=by
 unfold yAp;split
 .exact k
 .exact h
theorem yNr(k l:Int):tri (yA2 k l):=by
 unfold yA2 tri;repeat' split
 all_goals omega
theorem xK9(k l:Int):tri (yEc k l):=by
 unfold yEc tri;repeat' split
 all_goals omega
theorem yE4 a b:yAf a b= -1\/yAf a b=0\/yAf a b=1:=
 yHa (yEj _ _) (yHa (yEj _ _) (yHa (yEj _ _) (yHa (yNr _ _) (xK9 _ _))))
def yFh(a b:Ent):Int:=yAp (cB a.j b.j) (yAp (cB a.E b.E) (cB a.C b.C))
theorem yBu(a b:Ent)(w:Ww):
  (xf 187 #[a.v,b.v] w (xi (yFh a b)):Prop):=by
 unfold yFh yAp Ent.v;by_cases h1:cB a.j b.j=0
 .have g1:(cB a.j b.j != 0)=false:=by simp[h1]
  rw[iB h1];by_cases h2:cB a.E b.E=0
  .have g2:(cB a.E b.E != 0)=false:=by simp[h2]
   rw[iB h2];exact xGu
  .have g2:(cB a.E b.E != 0)=true:=by simp[h2]
   rw[iA h2];exact xGu
 .have g1:(cB a.j b.j != 0)=true:=by simp[h1]
  rw[iA h1];exact xGu
theorem yHx(a b c:Int):yAp (yAp a b) c=yAp a (yAp b c):=by
 unfold yAp;by_cases h:a=0
 .simp[h]
 .simp[h]
theorem yGc(a b:Ent):yAf a b=yAp (yFh a b) (yAp (yA2 a.f b.f) (yEc a.ts b.ts)):=by unfold yAf yFh;rw[yHx,yHx]
variable {a b:Ent}
theorem xAy(h:¬yFh a b=0):yAf a b=yFh a b:=by rw[yGc];unfold yAp;rw[iA h]
theorem yTl(h:yFh a b=0)(h1:a.f=2)(h2:¬b.f=2):yAf a b= -1:=by rw[yGc];unfold yAp yA2;simp[h,h1,h2]
theorem yTk(h:yFh a b=0)(h1:¬a.f=2)(h2:b.f=2):yAf a b=1:=by rw[yGc];unfold yAp yA2;simp[h,h1,h2]
theorem xAx(h:yFh a b=0)(h1:(a.f=2)↔(b.f=2)):yAf a b=yEc a.ts b.ts:=by
 rw[yGc];unfold yAp yA2;by_cases h2:a.f=2
 .simp[h,h2,h1.1 h2]
 .have h3:¬b.f=2:=λx=>h2 (h1.2 x);simp[h,h2,h3]
theorem yTz(a b:Ent)(w:Ww):
  (xf 148 #[a.v,b.v] w (xi (yAf a b)):Prop):=by
 by_cases h1:yFh a b=0
 .have g1:(yFh a b != 0)=false:=by simp[h1]
  by_cases ha:a.f=2
  .have ga:(a.f==2)=true:=by simp[ha]
   by_cases hb:b.f=2
   .have gb:(b.f==2)=true:=by simp[hb]
    exact xKm
   .have gb:(b.f==2)=false:=by simp[hb]
    have H:=qH1 (yTl h1 ha hb);clear h1 ha hb;go_enter func148,ntmps148;go_wp2_with fail;apply (yBu a b _).mono;rintro e w1 ⟨rfl,hb1⟩;exact xJp
  .have ga:(a.f==2)=false:=by simp[ha]
   by_cases hb:b.f=2
   .have gb:(b.f==2)=true:=by simp[hb]
    have H:=qH1 (yTk h1 ha hb);clear h1 ha hb;go_enter func148,ntmps148;go_wp2_with fail;refine(yBu a b _).mono ?_;rintro e w1 ⟨rfl,hb1⟩;exact xJp
   .have gb:(b.f==2)=false:=by simp[hb]
    exact xKm
 .have g1:(yFh a b != 0)=true:=by simp[h1]
  have H:=qH1 (xAy h1);clear h1;go_enter func148,ntmps148;go_wp2_with fail;refine(yBu a b _).mono ?_;rintro e w1 ⟨rfl,hb1⟩;exact xKk
def kt(a b:Ent)(K T:Int):Prop:=yAf a b=yAp (cB a.j b.j) (yAp (cB a.E b.E) (yAp (cB a.C b.C) (yAp K T)))
theorem xMv{K T:Int}(hk:yA2 a.f b.f=K)(ht:yEc a.ts b.ts=T):kt a b K T:=by unfold kt yAf;rw[hk,ht]
theorem kinds(a b:Ent):
  ((a.f==2)=true/\(a.f != 2)=false/\(b.f==2)=true/\(b.f != 2)=false/\yA2 a.f b.f=0)\/
  ((a.f==2)=true/\(a.f != 2)=false/\(b.f==2)=false/\(b.f != 2)=true/\yA2 a.f b.f= -1)\/
  ((a.f==2)=false/\(a.f != 2)=true/\(b.f==2)=true/\(b.f != 2)=false/\yA2 a.f b.f=1)\/
  ((a.f==2)=false/\(a.f != 2)=true/\(b.f==2)=false/\(b.f != 2)=true/\yA2 a.f b.f=0):=by
 unfold yA2;by_cases ha:a.f=2<;>by_cases hb:b.f=2<;>simp[ha,hb]
theorem tss(a b:Ent):
  (b.ts<a.ts/\¬a.ts<b.ts/\yEc a.ts b.ts= -1)\/(¬b.ts<a.ts/\a.ts<b.ts/\yEc a.ts b.ts=1)\/(¬b.ts<a.ts/\¬a.ts<b.ts/\yEc a.ts b.ts=0):=by
 unfold yEc;by_cases h1:b.ts<a.ts
 .exact .inl ⟨h1,qo,by simp[h1]⟩
 .by_cases h2:a.ts<b.ts
  .exact .inr (.inl ⟨h1,h2,by simp[h1,h2]⟩)
  .exact .inr (.inr ⟨h1,h2,by simp[h1,h2]⟩)
theorem yDp(a b:Ent)(w:Ww):
  (xf 95 #[a.v,b.v] w (xi (yAf a b)):Prop):=by
 unfold Ent.v;rcases kinds a b with⟨ga,a1,gb,a0,hk⟩|⟨ga,a1,gb,a0,hk⟩|⟨ga,a1,gb,a0,hk⟩|⟨ga,a1,gb,a0,hk⟩;all_goals rcases tss a b with⟨h1,h2,ht⟩|⟨h1,h2,ht⟩|⟨h1,h2,ht⟩
 all_goals
  have H:=xMv hk ht
  clear hk ht
  go_enter func95,ntmps95
  go_wp2
  go_quiet ((first|(go_at_call 147;exact Calls.quiet_of_same (xAv _ _ _))|(go_at_call 146;exact Calls.quiet_of_same (yTg _ _ _))))
  go_wp2
  go_ret
  exact⟨yO H.symm,below_drewN ((qB).alloc (by simp) _) _⟩
def Ent.vld(e:Ent):Bool:=vE e.j e.E e.C e.f e.val
def yEh(a b:Ent):Bool:=(a.j.toList==b.j.toList) && ((a.E.toList==b.E.toList) && (a.C.toList==b.C.toList))
theorem yEg(a b:Ent)(w:Ww):
  (xf 96 #[a.v,b.v] w (yEh a b):Prop):=by
 unfold yEh Ent.v;cases h1:(a.j.toList==b.j.toList)
 .exact xGr
 .cases h2:(a.E.toList==b.E.toList)
  .exact xGr
  .exact xGr
theorem yIh(a:Ent)(w:Ww):
  (xf 216 #[a.v] w (.agg #[a.j,a.E,a.C]):Prop):=by
 unfold Ent.v;go_enter func216,ntmps216;go_wp2;refine AH (v:=.agg #[a.j,a.E,a.C]) (by simp[results,results216,go_sem]) rfl ⟨rfl,?_⟩;exact(qB).alloc (by simp) _
def yCn(p e:Ent):Bool:=(yAf p e== -1) && !((p.f==2) && ((e.f==2) && yEh p e))
def xM7(es:List Ent):Prop:=es.length<=10000/\∀e∈es,e.vld=true
def xMc(es:List Ent):Prop:=∀i p e,es[i]?=some p->es[i+1]?=some e->yCn p e=true
def yBp(es:List Ent):Prop:=xM7 es/\xMc es
theorem iffF{p:Prop}(h:¬p):(false=true↔p):=⟨λx=>Bool.noConfusion x,λx=>absurd x h⟩
theorem iffT{p:Prop}(h:p):(true=true↔p):=⟨λ_=>h,λ_=>rfl⟩
variable {es:List Ent} {e:Ent}
theorem ySb{k:Nat}(h:∀x∈es.take k,x.vld=true)(he:es[k]?=some e)(hv:e.vld=true):∀x∈es.take (k+1),x.vld=true:=by
 intro x hx;rw[Ag,he]at hx;simp at hx;rcases hx with hx|rfl
 .exact h x hx
 .exact hv
def yF5(es:List Ent)(k:Nat):Prop:=∀i p e,i+1<k->es[i]?=some p->es[i+1]?=some e->yCn p e=true
variable {p:Ent}
theorem yFq(h:yF5 es (m+1))(hp:es[m]?=some p)(he:es[m+1]?=some e)(ho:yCn p e=true):yF5 es (m+1+1):=by
 intro i p' e' hi h1 h2;by_cases hm:i=m
 .subst hm;rw[hp]at h1;rw[he]at h2;simp at h1 h2;subst h1 h2;exact ho
 .exact h i p' e' qo h1 h2
theorem yKs{k:Nat}(h:yF5 es k)(hk:es.length<=k):xMc es:=by intro i p e h1 h2;have:=qf h2;exact h i p e qo h1 h2
def yCk(e:Ent):List Ent->Bool->List Ent
 | [],done=>if done then []else [e]
 |x::r,done=>
  if yAf x e= -1 then x::yCk e r done
  else if yAf x e=0 then(if done then yCk e r true else e::yCk e r true)
  else(if done then x::yCk e r true else e::x::yCk e r true)
def into(L:List Ent)(e:Ent):List Ent:=yCk e L false
theorem yRs:∀a b:List U8,AA a b=0↔a=b
 | [],[]| [],_::_|_::_,[]=>by simp[AA]
 |a::x,b::y=>by
  unfold AA
  by_cases h1:a<b
  .rw[iB h1]
   constructor
   .intro h;cases h
   .intro h
    simp at h
    rw[h.1]at h1
    simp at h1
  .rw[iA h1]
   by_cases h2:b<a
   .rw[iB h2]
    constructor
    .intro h;cases h
    .intro h
     simp at h
     rw[h.1]at h2
     simp at h2
   .rw[iA h2,yRs x y]
    have hab:a=b:=by rw[AI]at h1 h2;exact AT.1 qo
    simp[hab]
theorem yV3:∀a b:List U8,AA b a= -AA a b
 | [],[]| [],_::_|_::_,[]=>by simp[AA]
 |a::x,b::y=>by
  unfold AA
  have:=yV3 x y
  simp only[AI]
  by_cases h1:a.toNat<b.toNat
  .have h2:¬b.toNat<a.toNat:=qo
   simp[h1,h2]
  .by_cases h2:b.toNat<a.toNat
   .simp[h1,h2]
   .simp[h1,h2,this]
theorem yNj:∀a b c:List U8,AA a b= -1->AA b c= -1->AA a c= -1
 | [],[],_| [],_::_,[]| [],_::_,_::_|_::_,[],_|_::_,_::_,[]=>by simp[AA]
 |a::x,b::y,c::z=>by
  have ih:=yNj x y z
  unfold AA
  simp only[AI]
  intro h1 h2
  by_cases h3:a.toNat<c.toNat
  .simp[h3]
  .by_cases p1:a.toNat<b.toNat
   .by_cases p2:b.toNat<c.toNat
    .omega
    .by_cases p3:c.toNat<b.toNat
     .simp[p2,p3]at h2
     .omega
   .by_cases p2:b.toNat<a.toNat
    .simp[p1,p2]at h1
    .by_cases q1:b.toNat<c.toNat
     .omega
     .by_cases q2:c.toNat<b.toNat
      .simp[q1,q2]at h2
      .simp[p1,p2]at h1
       simp[q1,q2]at h2
       have r1:¬c.toNat<a.toNat:=qo
       simp[h3,r1]
       exact ih h1 h2
theorem yB5{a b:Ba}:cB a b=0↔a=b:=by
 unfold cB;rw[yRs];constructor
 .intro h;cases a;cases b;simp at h;simpa using h
 .intro h;rw[h]
theorem yJ(a b:Ba):cB b a= -cB a b:=yV3 _ _
theorem yPi{a b c:Ba}(h:cB a b= -1)(k:cB b c= -1):cB a c= -1:=yNj _ _ _ h k
theorem yDm{a b c a' b' c':Int}(h0:a=0->b=0->c=0)(h1:a= -1->b= -1->c= -1)(h2:a= -1->b=0->c= -1)(h3:a=0->b= -1->c= -1)
  (ta:tri a) (tb:tri b) (k:a'= -1->b'= -1->c'= -1) (x:yAp a a'= -1) (y:yAp b b'= -1):yAp c c'= -1:=by
 unfold yAp at*;unfold tri at*;by_cases ha:a=0
 .rw[iB ha]at x;by_cases hb:b=0
  .rw[iB hb]at y;rw[iB (h0 ha hb)];exact k x y
  .rw[iA hb]at y;have:=h3 ha y;rw[iA qo];exact this
 .rw[iA ha]at x;by_cases hb:b=0
  .have:=h2 x hb;rw[iA qo];exact this
  .rw[iA hb]at y;have:=h1 x y;rw[iA qo];exact this
theorem yT5(a b c:Ba):(cB a b=0->cB b c=0->cB a c=0)/\(cB a b= -1->cB b c= -1->cB a c= -1)/\(cB a b= -1->cB b c=0->cB a c= -1)/\(cB a b=0->cB b c= -1->cB a c= -1):=by
 refine⟨λh k=>?_,λh k=>yPi h k,λh k=>?_,λh k=>?_⟩
 .rw[yB5]at*;rw[h,k]
 .rw[yB5]at k;rw[<-k];exact h
 .rw[yB5]at h;rw[h];exact k
theorem yI4{c:Ent}(h:yAf a b= -1)(k:yAf b c= -1):yAf a c= -1:=by
 have⟨r0,r1,r2,r3⟩:=yT5 a.j b.j c.j;have⟨f0,f1,f2,f3⟩:=yT5 a.E b.E c.E;have⟨q0,q1,q2,q3⟩:=yT5 a.C b.C c.C;refine yDm r0 r1 r2 r3 (yEj _ _) (yEj _ _) (λh k=>?_) h k;refine yDm f0 f1 f2 f3 (yEj _ _) (yEj _ _) (λh k=>?_) h k;refine yDm q0 q1 q2 q3 (yEj _ _) (yEj _ _) (λh k=>?_) h k;refine yDm ?_ ?_ ?_ ?_ (yNr _ _) (yNr _ _) (λh k=>?_) h k
 .unfold yA2;(repeat' split)<;>omega
 .unfold yA2;(repeat' split)<;>omega
 .unfold yA2;(repeat' split)<;>omega
 .unfold yA2;(repeat' split)<;>omega
 .unfold yEc at*;(repeat' split at h)<;>(repeat' split at k)<;>(repeat' split)<;>omega
def Ord(l:List Ent):Prop:=l.Pairwise λa b=>yAf a b= -1
variable {a b:Int}
theorem yD6:yAp a b=0↔a=0/\b=0:=by
 unfold yAp;by_cases h:a=0
 .simp[h]
 .simp[h]
theorem yQ0:yA2 a b=0↔(a=2↔b=2):=by unfold yA2;by_cases h:a=2<;>by_cases k:b=2<;>simp[h,k]
theorem yWh:yEc a b=0↔a=b:=by unfold yEc;(repeat' split)<;>omega
theorem yTj{a b:Ent}:yAf a b=0↔a.j=b.j/\a.E=b.E/\a.C=b.C/\(a.f=2↔b.f=2)/\a.ts=b.ts:=by unfold yAf;rw[yD6,yD6,yD6,yD6,yB5,yB5,yB5,yQ0,yWh]
theorem yOx{c:Int}(h:a=2↔b=2):yA2 a c=yA2 b c:=by
 unfold yA2;by_cases k:a=2
 .rw[iB k,iB (h.1 k)]
 .rw[iA k,iA (λx=>k (h.2 x))]
theorem yDc{a b c:Ent}(h:yAf a b=0):yAf a c=yAf b c:=by have⟨h1,h2,h3,h4,h5⟩:=yTj.1 h;unfold yAf;rw[h1,h2,h3,h5,yOx h4]
abbrev Ent.five(e:Ent):List Vv:= [.string e.j,.string e.E,.string e.C,.int .u64 e.ts,.string e.val]
abbrev Ent.c(e:Ent):Vv:=.agg #[e.j,e.E,e.C,xu e.ts,e.val]
def yEt(es:List Ent):List Vv:=es.flatMap Ent.five
theorem yPg es fs:yEt (es++fs)=yEt es++yEt fs:=by simp[yEt]
theorem yOv(es:List Ent):(yEt es).length=es.length*5:=yB4 (f:=Ent.five) (λ_=>rfl) es
theorem yX1 es:∀(k:Nat)(e:Ent),es[k]?=some e->∀j,j<5->(yEt es)[k*5+j]?=e.five[j]?:=yCg (f:=Ent.five) (λ_=>rfl) es
theorem yX0(es:List Ent):∀(k:Nat)(e e':Ent)(u:Vv)(j:Nat),es[k]?=some e->j<5->e'.five=e.five.set j u->(yEt es).set (k*5+j) u=yEt (es.set k e'):=λk e e' u j=>yEo (f:=Ent.five) (λ_=>rfl) es k e e' j u
def yBy(w:Ww)(b off:Nat)(es:List Ent):Prop:=
 ∀i e,es[i]?=some e->xk w b (off+i*5) e.j/\xk w b (off+i*5+1) e.E/\xk w b (off+i*5+2) e.C/\
  xk w b (off+i*5+3) (xu e.ts)/\xk w b (off+i*5+4) e.val
theorem yBy.k{b off:Nat}(h:yBy w b off es)(hb:Below B w w')(hlt:b<B):yBy w' b off es:=by have c:=λo=>hb.cell (p:=(xd b o)) hlt;intro i e he;simpa only[c]using h i e he
def OwnC(w:Ww)(O g cap:Nat)(es:List Ent):Prop:=w.ownsRow O 70 5 (xg g es.length cap) es.length (yEt es)
variable {cap:Nat}
theorem OwnC.at(h:OwnC w O g cap es):yBy w g 0 es:=by
 intro i e he;have hi:=qf he;have c:=λj (hj:j<5)=>(AK h (i*5+j) qo).trans (yX1 es i e he j hj);refine⟨?_,?_,?_,?_,?_⟩
 .simpa using c 0 qo
 .simpa using c 1 qo
 .simpa using c 2 qo
 .simpa using c 3 qo
 .simpa using c 4 qo
theorem OwnC.lt(h:OwnC w O g cap es):O<=g/\g<w.heap.size:=AE h g rfl
theorem OwnC.k(h:OwnC w O g cap es)(hb:Below B w w')(hg:g<B):OwnC w' O g cap es:=by exact xGv
theorem OwnC.set(h:OwnC w O g cap es)(k j:Nat)(e e':Ent)(u:Vv)(hk:es[k]?=some e)(hj:j<5)(hc:e'.five=e.five.set j u):
  OwnC (xt w g (k*5+j) u) O g cap (es.set k e'):=by
 have:=(Ap h (k*5+j) u).1;rw[yX0 es k e e' u j hk hj hc]at this;unfold OwnC;rw[length_set];exact this
theorem OwnC.mono{base':Nat}(h:OwnC w O g cap es)(hb:base'<=O):OwnC w base' g cap es:=by exact yYe
theorem OwnC.caps{R:List Ent}(h:OwnC w O g cp R):R.length<=cp/\cp<=maxLen:=by exact yNn
theorem yGa(w:Ww):OwnC (xw w #[] 70) w w 0 []:=Ae w #[] 0 qr (AN _) (by simp)
theorem Tryz.infoCel:(prog.info? 70).map (λi=>(i.zero,i.size,i.bytes))=some (some (.agg #[xe,xe,xe,xu 0,xe]),5,72):=qk
theorem yIn(wx:Ww)(f:Ent):yBy (xw wx #[f.j,f.E,f.C,xu f.ts,f.val] 70) wx 0 [f]:=by exact xE6
theorem xEm(e:Ent):∀u∈e.five,u.oneCell'=true:=by intro u h;simp at h;rcases h with rfl|rfl|rfl|rfl|rfl<;>rfl
theorem yY:ApT 26 70 5 yEt OwnC yBy:=apTG ⟨underlying26,_,_,Tryz.infoCel,rfl,qj,qj⟩ (λ_=>rfl) Iff.rfl λh=>yNf (f:=Ent.five) (sz:=5) (λ_=>rfl) qj (λi e he j u hu=>by
 obtain⟨c0,c1,c2,c3,c4⟩:=h i e he;match j,hu with
 |0,hu=>cases hu;exact c0
 |1,hu=>cases hu;exact c1
 |2,hu=>cases hu;exact c2
 |3,hu=>cases hu;exact c3
 |4,hu=>cases hu;exact c4) λx _=>xEm x
theorem xI:laidOutB prog=true:=qk
def Rh:Vv->Option (DataW Vv×List MemPlace):=λv=>some (.held v,[])
theorem xM2{x:DataW Vv}(h:Rh v=some (x,ps)):x=.held v/\ps= []:=by unfold Rh at h;simp at h;exact⟨h.1.symm,h.2⟩
theorem xEo(w:Ww)(e:Ent):yBx (xw w #[e.j,e.E,e.C,xu e.ts,xi e.f,e.val] 165) w 0 [e]:=by exact xE6
def putE(x:Ent):Ent:={x with f:=0}
theorem yKc(e:Ent)(w:Ww):
  (xf 97 #[.agg #[e.j,e.E,e.C,xu e.ts,e.val]] w (putE e).v:Prop):=by
 go_enter func97,ntmps97;go_wp2;refine AH (v:=(putE e).v) (by simp[results,results97,go_sem,putE]) rfl ⟨rfl,?_⟩;exact(qB).alloc (by simp) _
theorem yB3(e:Ent)(w:Ww):
  (xf 99 #[.agg #[e.j,e.E,e.C,xu e.ts,e.val]] w (putE e).v:Prop):=by
 go_enter func99,ntmps99;go_wp2;refine AH (v:=(putE e).v) (by simp[results,results99,go_sem,putE]) rfl ⟨rfl,?_⟩;exact(qB).alloc (by simp) _
def yFf(L:List Ent)(m:Nat):List Ent:=(L.take m).map putE
variable {L:List Ent}
theorem ySs(h:L[m]?=some x):yFf L (m+1)=yFf L m++ [putE x]:=by unfold yFf;rw[Ag,h];simp
theorem yWv(h:m<=L.length):(yFf L m).length=m:=by simp[yFf];omega
theorem yWw(h:L.length<=m):yFf L m=L.map putE:=by unfold yFf;rw[AW h]
structure PInv(w:Ww)(ov:Nat)(L:List Ent)(m g5 cp5:Nat)(wr:Ww):Prop where
 hdr:(xk wr ov 0 (xg g5 m cp5):Prop)
 free:wr.frozen? (xd ov 0)=false
 lt:ov<wr.heap.size
 Z:w.heap.size<ov
 j:OwnE wr w g5 cp5 (yFf L m)
 ne:¬g5=ov
 new:w.heap.size<g5
 res:(xk wr w 0 xh:Prop)
 rfree:wr.frozen? (xd w 0)=false
 k:Below w w wr
theorem PInv.step{ov:Nat}{g5 cp5:Nat}(h:PInv w ov L m g5 cp5 wr)(hb:Below wr wr w'):PInv w ov L m g5 cp5 w' where
 hdr:=by rw[hb.cell (p:=(xd ov 0)) h.lt];exact h.hdr
 free:=by rw[hb.frozen (p:=(xd ov 0)) h.lt];exact h.free
 lt:=qv hb.size h.lt
 Z:=h.Z
 j:=h.j.k hb h.j.lt.2
 ne:=h.ne
 new:=h.new
 res:=by rw[hb.cell (p:=(xd w 0)) (by have:=h.Z;have:=h.lt;show w.heap.size<wr.heap.size;omega)];exact h.res
 rfree:=by rw[hb.frozen (p:=(xd w 0)) (by have:=h.Z;have:=h.lt;show w.heap.size<wr.heap.size;omega)];exact h.rfree
 k:=h.k.trans (hb.mono h.k.size)
theorem PInv.push(h:PInv w ov L m g5 cp5 wA)(hx:L[m]?=some x)(hO:OwnE w7 w g7 cp7 (yFf L m++ [putE x]))(hgr:wA.grownBy w7 (some g5))(hgg:g5=g7\/g7=wA.heap.size):
  PInv w ov L (m+1) g7 cp7 (xt w7 ov 0 (xg g7 (m+1) cp7))/\xk w7 ov 0 (xg g5 m cp5)/\w7.frozen? (xd ov 0)=false:=by
 have a0:Chg (λk=>k=g5) wA w7:=Chg.M hgr (λk hk=>by cases hk;rfl);have a1:Chg (λk=>k=ov) w7 (xt w7 ov 0 (xg g7 (m+1) cp7)):=Chg.D _ _ _ _ rfl;have s7:=a0.size;have s8:=a1.size;have hl:=h.lt;have ho:=h.Z;have hn:=h.new;have c7:(xk w7 ov 0 (xg g5 m cp5):Prop):=by rw[a0.z (p:=(xd ov 0)) hl (λq=>h.ne q.symm)];exact h.hdr
 have f7:w7.frozen? (xd ov 0)=false:=by rw[a0.frozen (p:=(xd ov 0)) hl (λq=>h.ne q.symm)];exact h.free
 have a2:¬g7=ov:=by
  rcases hgg with q|q
  .rw[<-q];exact h.ne
  .omega
 refine⟨?_,c7,f7⟩
 exact {
  hdr:=AL _ _ _ c7
  free:=by rw[World.frozen?_setCell];exact f7
  lt:=qo
  Z:=ho
  j:=by
   rw[ySs hx]
   exact AV hO (yDs w7 ov 0 _) (.inr (λq=>a2 (Option.some.inj q)))
  ne:=a2
  new:=by
   rcases hgg with q|q
   .rw[<-q];exact hn
   .omega
  res:=by
   rw[a1.z (p:=(xd w 0)) (by show w.heap.size<w7.heap.size;omega) (by show¬w.heap.size=ov;omega),a0.z (p:=(xd w 0)) (by show w.heap.size<wA.heap.size;omega) (by show¬w.heap.size=g5;omega)]
   exact h.res
  rfree:=by
   rw[a1.frozen (p:=(xd w 0)) (by show w.heap.size<w7.heap.size;omega) (by show¬w.heap.size=ov;omega),a0.frozen (p:=(xd w 0)) (by show w.heap.size<wA.heap.size;omega) (by show¬w.heap.size=g5;omega)]
   exact h.rfree
  k:=Chg.k (Chg.k h.k a0 h.k.size (λk q=>by omega)) a1 (by omega) (λk q=>by omega)}
theorem yZi(g cap:Nat)(L:List Ent)(O:Nat)(w:Ww)(hC:OwnC w O g cap L)(hn:L.length<=1048576):
  Calls prog 44 #[xg g L.length cap] w λr w'=>
   ∃g' cp,r=.returned (.agg #[xg g' L.length cp])/\OwnE w' w g' cp (L.map putE)/\Below w w w':=by
 have HC:=qH1 hC;have ac:=hC.lt.2;have⟨Wa,a2⟩:=qW (xw w #[xh] 89);have af:=qN a2
 have a9:=qS a2
 have⟨Wb,a3⟩:=qW (xw Wa #[] 165);have ae:=qN a3
 have a6:Wb.heap.size=w.heap.size+1+1:=by rw[a3];simp[a9]
 have⟨Wc,a1⟩:=qW (xw Wb #[xg (w+1) 0 0] 89);have a7:=qN a1
 have ar:Wc.heap.size=w.heap.size+1+1+1:=by rw[a1];simp[a6]
 have HP:Hid (PInv w (w+1+1) L 0 (w+1) 0 Wc):=by
  have k1:=ae.trans (a7.mono qo)
  exact {
   hdr:=by rw[a1,<-a6];simp
   free:=by
    rw[a1,<-a6]
    exact AS (AR (base:=0) (e:=89) (size:=1) Wb #[xg (w+1) 0 0] 1 (AN _) qj rfl) 0
   lt:=qo
   Z:=qo
   j:=by
    have h0:OwnE Wb w (w+1) 0 []:=by
     rw[a3,<-a9]
     exact Ae Wa #[] 0 qo (AN _) (by simp)
    exact h0.k a7 qo
   ne:=qo
   new:=qo
   res:=by rw[k1.cell (p:=(xd w 0)) (by show w.heap.size<Wa.heap.size;omega),a2];simp
   rfree:=by
    rw[k1.frozen (p:=(xd w 0)) (by show w.heap.size<Wa.heap.size;omega),a2]
    exact AS (AR (base:=0) (e:=89) (size:=1) w #[xh] 1 (AN _) qj rfl) 0
   k:=af.trans (k1.mono qo)}
 go_enter func44,ntmps44;go_wp2;rw[<-a2,<-a3,<-a1];generalize w.heap.size+1+1=ov at*;generalize w.heap.size+1=g0 at*;go_loopw[4] (λi wr=>∃(m g5 cp5:Nat),m<=L.length/\i=(xi m)/\PInv w ov L m g5 cp5 wr) (λi _=>L.length-(intOf i).toNat);case atStart=>exact⟨0,_,_,AN _,rfl,HP.out⟩
 case round=>
  obtain⟨m,g5,cp5,hm,rfl,hI⟩:=hrel;have HI:=qH1 hI;have a5:=hI.k;have ai:=a5.size;have h0:=hI.hdr;have aw:=hI.free;have al:=hI.j.lt.2;have ak:=hI.lt;by_cases hlt:m<L.length
  .obtain⟨x,hx⟩:∃x,L[m]?=some x:=qg hlt;have⟨c0,c1,c2,c3,c4⟩:=(HC.k a5 ac).at m x hx;simp only[An,Nat.zero_mul]at c0 c1 c2 c3 c4;have HX:=qH2 hx ((HC.k a5 ac).at);have ah:Hid (m=(yFf L m).length):=(yWv hm).symm;have aj:(yFf L m).length<=2^30:=by rw[<-ah.out];omega
   have zm:(m:Int)<(L.length:Int):=qo
   have ao:g≠ov:=qw HI.Z
   have av:g<wr.heap.size:=qo
   go_upto_region 5 with fail
   go_region_law ((first
        |(go_simp;go_at_call 97;apply (yKc x _).mono;rintro e' w6 ⟨rfl,am⟩;have a0:Below wr wr w6:=((Below.refl wr wr).drew).trans am;have m6:=(HI.step a0).hdr;have aq:∀o,(xk (w6.alloc o) ov 0 (xg g5 m cp5):Prop):=λo=>by {rw[((Below.refl w6 w6).alloc qr o).cell (p:=(xd ov 0)) (AQ ak a0.size)];exact m6})
        |(refine stA (by rfl) (apK yPn (by rfl) w (yFf L m) [putE x] (by rfl) (by rfl) ah.out rfl ?hO ?hc (lN aj) ?hb ?_)
          case hO=>exact(HI.step a0).j.k (qB) (AQ al a0.size)
          case hc=>exact xEo w6 (putE x)
          case hb=>exact Ao ai (Ao a0.size (by simp))
          intro g7 a8 w7 ag ab ad
          have a4:=((HI.step a0).step ((Below.refl w6 w6).alloc qr (AG #[(putE x).j,(putE x).E,(putE x).C,xu (putE x).ts,xi (putE x).f,(putE x).val] 165))).push HX.1 ag ab (ad.imp Eq.symm λq=>by simpa using q)
          have an:Hid (PInv w ov L (m+1) g7 a8 (xt w7 ov 0 (xg g7 (m+1) a8))):=a4.1
          have m7:=a4.2.1
          have f7:=a4.2.2
          clear a4 ag ab ad)))
   all_goals go_wp2
   all_goals go_roundw
   all_goals first
    |exact⟨m+1,g7,a8,qo,by go_num,an.out⟩
    |(go_light;simp[intOf];omega)
  .have aa:m=L.length:=qo
   have HF:Hid (OwnE wr w g5 cp5 (L.map putE)):=by have:=HI.j;rw[yWw qo]at this;exact this
   have r0:=HI.res;have rf:=HI.rfree;have HM:Hid (m=L.length):=aa;have zm:¬(m:Int)<(L.length:Int):=qo
   have au:=HI.new;clear aa;go_wp2;refine AH (v:=.agg #[xg g5 m cp5]) (by simp[results,results44,go_sem,AL _ _ _ r0]) rfl ⟨g5,cp5,by rw[HM.out],?_,?_⟩
   .exact AV HF.out (yDs wr w 0 _) (.inr (λq=>by have h2:g5=w.heap.size:=Option.some.inj q;omega))
   .exact a5.setCell qr _
theorem yZ2(h:(yAf p e != -1)=true):yCn p e=false:=by unfold yCn;simp at h;simp[h]
theorem yZ1(h:(yAf p e != -1)=false)(h2:(p.f==2)=false):yCn p e=true:=by unfold yCn;simp at h;simp[h,h2]
theorem yZ0(h:(yAf p e != -1)=false)(h2:(e.f==2)=false):yCn p e=true:=by unfold yCn;simp at h;simp[h,h2]
theorem yVh(h:(yAf p e != -1)=false)(h2:(p.f==2)=true)(h3:(e.f==2)=true):yCn p e= !yEh p e:=by unfold yCn;simp at h;simp[h,h2,h3]
theorem yZs(p e:Ent):
  ((yAf p e != -1)=true/\yCn p e=false)\/((yAf p e != -1)=false/\(p.f==2)=false/\yCn p e=true)\/
  ((yAf p e != -1)=false/\(p.f==2)=true/\(e.f==2)=false/\yCn p e=true)\/
  ((yAf p e != -1)=false/\(p.f==2)=true/\(e.f==2)=true/\yEh p e=true/\yCn p e=false)\/
  ((yAf p e != -1)=false/\(p.f==2)=true/\(e.f==2)=true/\yEh p e=false/\yCn p e=true):=by
 cases h1:(yAf p e != -1)
 .cases h2:(p.f==2)
  .exact .inr (.inl ⟨rfl,rfl,yZ1 h1 h2⟩)
  .cases h3:(e.f==2)
   .exact .inr (.inr (.inl ⟨rfl,rfl,rfl,yZ0 h1 h3⟩))
   .cases h4:yEh p e
    .exact .inr (.inr (.inr (.inr ⟨rfl,rfl,rfl,rfl,by rw[yVh h1 h2 h3,h4];rfl⟩)))
    .exact .inr (.inr (.inr (.inl ⟨rfl,rfl,rfl,rfl,by rw[yVh h1 h2 h3,h4];rfl⟩)))
 .exact .inl ⟨rfl,yZ2 h1⟩
theorem yH5(b off cap:Nat)(es:List Ent)(w:Ww)(hE:yBx w b off es)(hok:∀e∈es,e.ok)(hB:b<w.heap.size)(hlen:es.length<=cap)(hcap:cap<=maxLen):
  Calls prog 43 #[.agg #[(xy b off es.length cap)]] w λe w'=>
   ∃r:Bool,e=.returned r/\(r=true↔yBp es)/\Below w w w':=by
 have⟨W0,a1⟩:=qW (xw w #[(xy b off es.length cap)] 89);have a0:=qN a1
 have ab:w.heap.size<W0.heap.size:=by rw[a1];simp
 have ca:(xk W0 w 0 (xy b off es.length cap):Prop):=by rw[a1];simp
 have HE:=qH1 (hE.k a0 hB);have HO:=qH1 hok;unfold maxLen at hcap;by_cases hbig:10000<es.length
 .have H:Hid (¬yBp es):=λh=>qw h.1.1
  go_enter func43,ntmps43;go_wp2;go_ret;exact⟨_,rfl,iffF H.out,qB⟩
 go_enter func43,ntmps43;go_wp2;rw[<-a1];go_loopw[3] (λi wr=>∃(k:Nat),k<=es.length/\i=(xi k)/\(∀x∈es.take k,x.vld=true)/\yF5 es k/\Below W0 W0 wr) (λi _=>es.length-(intOf i).toNat);case atStart=>exact⟨0,AN _,rfl,by simp,λi p e hi=>qo,Below.refl _ _⟩
 case round=>
  obtain⟨k,hk,rfl,hv,hP,hb⟩:=hrel;have HV:=qH2 hv hP;have ac:=hb.size;have a8:(xk wr w 0 (xy b off es.length cap):Prop):=by rw[hb.cell (p:=(xd w 0)) (by show w.heap.size<_;omega)];exact ca
  by_cases hlt:k<es.length
  .obtain⟨e,he⟩:∃e,es[k]?=some e:=qg hlt;have a6:=HE.k hb qo;have⟨c0,c1,c2,c3,c4,c5⟩:=a6 k e he;have HK:=qH3 (HO.out e (AO he)) he a6;go_wp2_with fail;apply (yGu e.j e.E e.C e.val e.ts e.f _ HK.1.j HK.1.E HK.1.C HK.1.val).mono;rintro e' w1 ⟨rfl,a2⟩;obtain⟨ag,ae⟩:=yX5 a2;have aa:wr.heap.size<w1.heap.size:=by have:=a2.size;simp at this;omega
   have hb2:=(hb.alloc hb.size (AG #[e.j,e.E,e.C,xu e.ts,xi e.f,e.val] 165)).trans (a2.mono (by simp;omega));clear c0 c1 c2 c3 c4 c5;cases hv:vE e.j e.E e.C e.f e.val
   .have H:Hid (¬yBp es):=λh=>by have:=h.1.2 e (AO HK.2.1);unfold Ent.vld at this;rw[hv]at this;cases this
    go_wp2;go_ret;exact⟨_,rfl,iffF H.out,a0.trans (hb2.mono qo)⟩
   .have H:=qH1 (ySb HV.1 HK.2.1 hv);by_cases hk0:k=0
    .subst hk0;refine zY ?_;exact⟨0+1,qo,by go_num,H.out,λi p e hi=>qo,hb2⟩
    .obtain⟨m,rfl⟩:∃m,k=m+1:=⟨k-1,qo⟩;obtain⟨p,hp⟩:∃e,es[m]?=some e:=qg qo;have a7:=((Below.refl _ _).alloc qr (AG #[e.j,e.E,e.C,xu e.ts,xi e.f,e.val] 165)).trans (a2.mono (by simp));have ah:(xk w1 w 0 (xy b off es.length cap):Prop):=by rw[a7.cell (p:=(xd w 0)) (by show w.heap.size<_;omega)];exact a8
     obtain⟨d0,d1,d2,d3,d4,d5⟩:=HK.2.2.k a7 qo m p hp;have HKp:=qH1 hp;clear hp;have hw:IntKind.i64.wrap (m:Int)=(m:Int):=Go.IntWalk.i64_in _ qo;go_wp2_with fail;refine(yDp p e _).mono ?_;rintro e' w2 ⟨rfl,a5⟩;obtain⟨af,ad⟩:=yX5 a5;have a9:w1.heap.size<w2.heap.size:=by have:=a5.size;simp at this;omega
     have hb4:=(hb2.alloc hb2.size (AG #[p.j,p.E,p.C,xu p.ts,xi p.f,p.val] 165)).trans (a5.mono (by have:=hb2.size;simp;omega));clear d0 d1 d2 d3 d4 d5;rcases yZs p e with⟨g1,ho⟩|⟨g1,g2,ho⟩|⟨g1,g2,g3,ho⟩|⟨g1,g2,g3,g4,ho⟩|⟨g1,g2,g3,g4,ho⟩
     .have H2:Hid (¬yBp es):=λh=>by have:=h.2 m p e HKp.out HK.2.1;rw[ho]at this;cases this
      go_wp2;go_ret;exact⟨_,rfl,iffF H2.out,a0.trans (hb4.mono qo)⟩
     .exact xKb
     .exact xKb
     .have H2:Hid (¬yBp es):=λh=>by have:=h.2 m p e HKp.out HK.2.1;rw[ho]at this;cases this
      go_wp2_with fail;refine(yEg p e _).mono ?_;rintro e' w3 ⟨rfl,a4⟩;have a3:=hb4.trans (a4.mono hb4.size);go_wp2;go_ret;exact⟨_,rfl,iffF H2.out,a0.trans (a3.mono qo)⟩
     .have H2:=qH1 (yFq HV.2 HKp.out HK.2.1 ho);go_wp2_with fail;refine(yEg p e _).mono ?_;rintro e' w3 ⟨rfl,a4⟩;have a3:=hb4.trans (a4.mono hb4.size);refine zY ?_;exact⟨m+1+1,qo,by go_num,H.out,H2.out,a3⟩
  .go_wp2;go_ret;refine⟨_,rfl,iffT ⟨⟨qo,λe he=>?_⟩,yKs HV.2 qo⟩,a0.trans (hb.mono qo)⟩;have:=HV.1;rw[AW qo]at this;exact this e he
theorem xHo(h:e.ok):(putE e).ok:=⟨h.j,h.E,h.C,h.val,h.ts,(show(Lit.int .i64 0).wf=true by decide)⟩
theorem yM3 a b:yCn (putE a) (putE b)=(yAf (putE a) (putE b)== -1):=by unfold yCn putE;simp
theorem yLo(a b:Ent)(w:Ww):
  (xf 100 #[a.c,b.c] w (xi (yAf (putE a) (putE b))):Prop):=by
 unfold Ent.c;have⟨W0,a5⟩:=qW (xw (w.alloc (AG #[a.j,a.E,a.C,xu a.ts,a.val] 70)) #[b.j,b.E,b.C,xu b.ts,b.val] 70);have a6:Below w w W0:=a5▸((qB).alloc (by simp) _)
 have a7:W0.heap.size=w+2:=by rw[a5];simp
 have HA:Hid (yBy W0 w 0 [a]/\yBy W0 (w+1) 0 [b]):=by rw[a5];refine⟨(yIn w a).k (qB) (by simp),?_⟩;have:=yIn (xw w #[a.j,a.E,a.C,xu a.ts,a.val] 70) b;simpa using this
 have q:∀n:Out W0,yBy n.u w 0 [a]/\yBy n.u (w+1) 0 [b]:=λn=>⟨HA.1.k n.out qo,HA.2.k n.out qo⟩;have a0:∀n:Out W0,(xk n.u w 0 a.j:Prop):=λn=>by simpa using ((q n).1 0 a rfl).1
 have a1:∀n:Out W0,(xk n.u w 1 a.E:Prop):=λn=>by simpa using ((q n).1 0 a rfl).2.1
 have a2:∀n:Out W0,(xk n.u w 2 a.C:Prop):=λn=>by simpa using ((q n).1 0 a rfl).2.2.1
 have a3:∀n:Out W0,(xk n.u w 3 (xu a.ts):Prop):=λn=>by simpa using ((q n).1 0 a rfl).2.2.2.1
 have a4:∀n:Out W0,(xk n.u w 4 a.val:Prop):=λn=>by simpa using ((q n).1 0 a rfl).2.2.2.2
 have b0:∀n:Out W0,(xk n.u (w+1) 0 b.j:Prop):=λn=>by simpa using ((q n).2 0 b rfl).1
 have b1:∀n:Out W0,(xk n.u (w+1) 1 b.E:Prop):=λn=>by simpa using ((q n).2 0 b rfl).2.1
 have b2:∀n:Out W0,(xk n.u (w+1) 2 b.C:Prop):=λn=>by simpa using ((q n).2 0 b rfl).2.2.1
 have b3:∀n:Out W0,(xk n.u (w+1) 3 (xu b.ts):Prop):=λn=>by simpa using ((q n).2 0 b rfl).2.2.2.1
 have b4:∀n:Out W0,(xk n.u (w+1) 4 b.val:Prop):=λn=>by simpa using ((q n).2 0 b rfl).2.2.2.2
 go_enter func100,ntmps100;go_upto_region 1 with fail;rw[<-a5];have a9:Nonempty (Out W0):=⟨⟨W0,Below.refl _ _⟩⟩;apply yAv qk qk;repeat (go_big_quiet_step ((first|(go_at_call 99;exact Calls.out_of (yB3 _ _))|(go_at_call 148;exact Calls.out_of (yTz (putE a) (putE b) _)))))
 apply AY;rintro w1 ⟨⟨wx,a8⟩,rfl⟩;go_wp2;go_ret;exact⟨rfl,a6.trans (a8.mono a6.size)⟩
def yIp(P:Prop)(w:Ww)(e:Al)(w':Ww):Prop:=∃r:Bool,e=.returned r/\(r=true↔P)/\Below w w w'
theorem ySx es:yF5 es 1:=λi p e hi=>qo
theorem yQ9{i:Nat}{c:Ent}(h:yBp (L.map putE))(hp:L[i]?=some p)(hc:L[i+1]?=some c):yAf (putE p) (putE c)= -1:=by have h1:=h.2 i (putE p) (putE c) (by rw[AX,hp];rfl) (by rw[AX,hc];rfl);rw[yM3]at h1;simpa using h1
theorem yMd(g cap:Nat)(L:List Ent)(O:Nat) w (hC:OwnC w O g cap L) (hok:∀e∈L,e.ok) (hn:L.length<=1048576):
  Calls prog 45 #[xg g L.length cap] w (yIp (yBp (L.map putE)) w):=by
 have HC:=qH2 hC hok;have ai:=hC.lt.2;by_cases hbig:10000<L.length
 .have H:Hid (¬yBp (L.map putE)):=λh=>by have:=h.1.1;rw[AM]at this;omega
  have z:(10000:Int)<(L.length:Int):=qo
  go_enter func45,ntmps45;go_wp2;go_ret;exact⟨_,rfl,iffF H,Below.refl _ _⟩
 have z:¬(10000:Int)<(L.length:Int):=qo
 go_enter func45,ntmps45;go_wp2;go_loopw[10] (λiv wr=>∃(k:Nat),k<=L.length/\iv=(xi k)/\(∀x∈L.take k,(putE x).vld=true)/\yF5 (L.map putE) k/\Below w w wr) (λiv _=>L.length-(intOf iv).toNat);case atStart=>exact⟨0,AN _,rfl,by simp,λi p e hi=>qo,Below.refl _ _⟩
 case round=>
  obtain⟨k,hk,rfl,hv,hP,hb⟩:=hrel;have HV:=qH2 hv hP;have hs:=hb.size;by_cases hlt:k<L.length
  .obtain⟨c,hc⟩:∃c,L[k]?=some c:=qg hlt;have a5:=qH2 hc (HC.2 c (AO hc));have HR:=qH1 (HC.1.at.k hb ai);have⟨c0,c1,c2,c3,c4⟩:=HR k c hc;simp only[An]at c0 c1 c2 c3 c4;have zk:(k:Int)<(L.length:Int):=qo
   have⟨W1,a6⟩:=qW (xw wr #[c.j,c.E,c.C,xu c.ts,c.val] 70);have HW1:Hid (yBy W1 wr 0 [c]/\yBy W1 g 0 L/\Below w w W1/\W1.heap.size=wr+1):=by
    have ab:=qN a6
    refine⟨by rw[a6];exact yIn wr c,HR.k ab qo,hb.trans (ab.mono hs),by rw[a6];simp⟩
   go_upto_region 6 with fail;rw[<-a6];clear a6 c0 c1 c2 c3 c4 HR;have ag:=HW1.2.2.2;have q:∀n:Out W1,yBy n.u wr 0 [c]:=λn=>HW1.1.k n.out qo;have a0:∀n:Out W1,(xk n.u wr 0 c.j:Prop):=λn=>by simpa using ((q n) 0 c rfl).1
   have a1:∀n:Out W1,(xk n.u wr 1 c.E:Prop):=λn=>by simpa using ((q n) 0 c rfl).2.1
   have a2:∀n:Out W1,(xk n.u wr 2 c.C:Prop):=λn=>by simpa using ((q n) 0 c rfl).2.2.1
   have a3:∀n:Out W1,(xk n.u wr 3 (xu c.ts):Prop):=λn=>by simpa using ((q n) 0 c rfl).2.2.2.1
   have a4:∀n:Out W1,(xk n.u wr 4 c.val:Prop):=λn=>by simpa using ((q n) 0 c rfl).2.2.2.2
   have al:Nonempty (Out W1):=⟨⟨W1,Below.refl _ _⟩⟩;have⟨bv,a9⟩:=qE ((putE c).vld);have a7:Hid (∀n:Out W1,(xf 98 #[(putE c).v] n.u bv:Prop)):=λn=>a9▸(yMa _ _ _ _ _ _ n.u a5.2.j a5.2.E a5.2.C a5.2.val)
   have af:=qH1 a9.symm;clear a9;cases bv
   .have HF:Hid (¬yBp (L.map putE)):=λh=>by have:=h.1.2 (putE c) (Ab.2 ⟨c,AO a5.1,rfl⟩);rw[af]at this;cases this
    apply yAv qk qk;repeat (go_big_quiet_step ((first|(go_at_call 99;exact Calls.out_of (yB3 _ _))|(go_at_call 98;exact Calls.out_of (a7 _)))))
    exact xFh
   have ac:Hid (∀x∈L.take (k+1),(putE x).vld=true):=by
    intro x hx;rw[Ag,a5.1]at hx;rcases List.mem_append.1 hx with hx|hx
    .exact HV.1 x hx
    .simp at hx;subst hx;exact af
   by_cases hk0:k=0
   .subst hk0;apply yAv qk qk;repeat (go_big_quiet_step ((first|(go_at_call 99;exact Calls.out_of (yB3 _ _))|(go_at_call 98;exact Calls.out_of (a7 _)))))
    apply AY;rintro w2 ⟨⟨wx,hb2⟩,rfl⟩;refine zY ?_;exact⟨1,qo,by go_num,ac,ySx _,HW1.2.2.1.trans (hb2.mono HW1.2.2.1.size)⟩
   obtain⟨m,rfl⟩:∃m,k=m+1:=⟨k-1,qo⟩;obtain⟨p,hp⟩:∃p,L[m]?=some p:=qg qo;have ad:=qH1 hp;have q:∀n:Out W1,yBy n.u g 0 L:=λn=>HW1.2.1.k n.out (qw HW1.2.2.2);have p0:∀n:Out W1,(xk n.u g (m*5) p.j:Prop):=λn=>by simpa using ((q n) m p hp).1
   have p1:∀n:Out W1,(xk n.u g (m*5+1) p.E:Prop):=λn=>by simpa using ((q n) m p hp).2.1
   have p2:∀n:Out W1,(xk n.u g (m*5+2) p.C:Prop):=λn=>by simpa using ((q n) m p hp).2.2.1
   have p3:∀n:Out W1,(xk n.u g (m*5+3) (xu p.ts):Prop):=λn=>by simpa using ((q n) m p hp).2.2.2.1
   have p4:∀n:Out W1,(xk n.u g (m*5+4) p.val:Prop):=λn=>by simpa using ((q n) m p hp).2.2.2.2
   clear q hp;have⟨kc,a8⟩:=qE (yAf (putE p) (putE c));have ae:Hid (∀n:Out W1,(xf 100 #[p.c,c.c] n.u (xi kc):Prop)):=λn=>a8▸(yLo p c n.u)
   have aa:=qH1 a8;have zm:(m:Int)<(L.length:Int):=qo
   have ak:(0:Int)<(m:Int)+1:=qo
   clear a8;by_cases hneg:0<=kc
   .have HF:Hid (¬yBp (L.map putE)):=λh=>by have:=yQ9 h ad a5.1;rw[<-aa]at this;omega
    apply yAv qk qk;repeat (go_big_quiet_step ((first|(go_at_call 99;exact Calls.out_of (yB3 _ _))|(go_at_call 98;exact Calls.out_of (a7 _))|(go_at_call 100;exact Calls.out_of (ae.out _)))))
    exact xFh
   .have aj:Hid (yF5 (L.map putE) (m+1+1)):=by
     refine yFq HV.2 (p:=putE p) (e:=putE c) (by rw[AX,ad];rfl) (by rw[AX,a5.1];rfl) ?_;rw[yM3];rcases yE4 (putE p) (putE c)with h|h|h
     .rw[h];rfl
     .rw[aa,h]at hneg;omega
     .rw[aa,h]at hneg;omega
    apply yAv qk qk;repeat (go_big_quiet_step ((first|(go_at_call 99;exact Calls.out_of (yB3 _ _))|(go_at_call 98;exact Calls.out_of (a7 _))|(go_at_call 100;exact Calls.out_of (ae _)))))
    apply AY;rintro w2 ⟨⟨wx,hb2⟩,rfl⟩;refine zY ?_;exact⟨m+1+1,qo,by go_num,ac,aj,HW1.2.2.1.trans (hb2.mono HW1.2.2.1.size)⟩
  .have ah:k=L.length:=qo
   have HF:Hid (yBp (L.map putE)):=by refine⟨⟨by rw[AM];omega,λe he=>?_⟩,yKs HV.2 (by rw[AM];omega)⟩;obtain⟨x,hx,rfl⟩:=Ab.1 he;exact HV.1 x (by rw[AW qo];exact hx)
   have zk:¬(k:Int)<(L.length:Int):=qo
   clear ah;go_wp2;go_ret;exact⟨_,rfl,iffT HF,hb⟩
theorem yGv(g cap:Nat)(L:List Ent)(O:Nat) w (hC:OwnC w O g cap L) (hok:∀e∈L,e.ok) (hn:L.length<=1048576):
  Calls prog 9 #[xg g L.length cap] w (yIp (yBp (L.map putE)) w):=by
 have HC:Hid (OwnC w O g cap L/\∀e∈L,e.ok):=⟨hC,hok⟩;go_enter func9,ntmps9;go_wp2_with fail;apply (yZi g cap L O w HC.1 hn).mono;rintro e w1 ⟨g1,a0,rfl,a1,a2⟩;have HO:Hid (OwnE w1 w g1 a0 (L.map putE)/\a0<=maxLen/\L.length<=a0):=by
  refine⟨a1,?_⟩;rcases a1.2 with⟨h0,_⟩|⟨g',a4,cur,hv,_,_,hn,a3,_,_⟩
  .cases h0
  .simp only[Value.slice.injEq,Option.some.injEq,Addr.mk.injEq,and_true,true_and]at hv;obtain⟨rfl,rfl⟩:=hv;rw[AM]at hn;exact⟨a3,hn⟩
 have hl:L.length=(L.map putE).length:=(AM ..).symm;have HV:Hid (Calls prog 43 #[.agg #[xg g1 L.length a0]] w1 λe w'=>∃r:Bool,e=.returned r/\(r=true↔yBp (L.map putE))/\Below w1 w1 w'):=by show Calls _ _ _ _ _;have:=yH5 g1 0 a0 (L.map putE) w1 HO.1.at (λe he=>by obtain⟨x,hx,rfl⟩:=Ab.1 he;exact xHo (HC.2 x hx)) HO.1.lt.2 (by rw[AM];exact HO.2.2) HO.2.1;rw[AM]at this;exact this
 clear a1 hl;go_wp2_with fail;apply HV.mono;rintro e w2 ⟨r,rfl,hr,hb2⟩;have HR:Hid (r=true↔yBp (L.map putE)):=hr;clear hr;go_wp2;go_ret;exact⟨r,rfl,HR,a2.trans (hb2.mono a2.size)⟩
def hit(x e:Ent):Bool:=yEh x e && ((x.ts==e.ts) || ((e.f==2) && decide (x.ts<=e.ts)))
theorem yW2(h:yCn p e=true):yAf p e= -1:=by
 unfold yCn at h;simp only[Bool.and_eq_true,decide_eq_true_eq,Bool.not_eq_true',beq_iff_eq]at h
 first
  |exact h.1
  |exact h.2
  |(have h1:=h.1;have h2:=h.2;rcases yE4 p e with q|q|q<;>simp_all)
theorem yM2:∀(l:List Ent),(∀i p e,l[i]?=some p->l[i+1]?=some e->yAf p e= -1)->Ord l
 | [],_=>List.Pairwise.nil
 | [a],_=>by simp[Ord]
 |a::b::r,h=>by
  have ih:=yM2 (b::r) (λi p e h1 h2=>h (i+1) p e (by simpa using h1) (by simpa using h2))
  have hab:=h 0 a b rfl rfl
  refine Af.2 ⟨λx hx=>?_,ih⟩
  rcases mem_cons.1 hx with rfl|hx
  .exact hab
  .exact yI4 hab ((Af.1 ih).1 x hx)
theorem yKt(h:yBp es):Ord es:=yM2 es (λi p e h1 h2=>yW2 (h.2 i p e h1 h2))
end Go.Proofs.YtnnagkfoiganfaaGreatDoor
