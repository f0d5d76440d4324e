import Derived.Test.YtnnagkfoiganfaaGreatDoorRkAB
import Derived.Test.YtnnagkfoiganfaaGreatDoorRkAD
import Derived.Test.YtnnagkfoiganfaaGreatDoorRkAC
namespace Go.Proofs.YtnnagkfoiganfaaGreatDoor
open Go.ChangeShapes Go.WideShapes Go.ChangeAt Go.RowKit Go.Deep XD XI XU XG XP XK XW XT XF XE XH _root_.List _root_.Nat Go.Proofs.Tryz
set_option linter.unusedVariables false
set_option linter.unusedSimpArgs false
set_option maxRecDepth 100000
set_option maxHeartbeats 40000000
theorem yYl(b:UInt8)(w:World):(Instr.typeAssert (yRd b) 346 348 true).run prog w=.ok (.tuple #[.agg #[.int .u8 (b.toNat:Int)],true]) w:=qk
theorem xBi{T:Nat}(hT:T=360\/T=362\/T=304)(cs:Array Value)(w:World):(Instr.typeAssert (.iface T (.agg cs)) 346 348 true).run prog w=.ok (.tuple #[.agg #[.int .u8 0],false]) w:=by rcases hT with rfl|rfl|rfl<;>kernel_rfl
variable {w:World} {base:Nat}
theorem yG7{g cap:Nat}{zs:List UInt8}(h:OwnY w base g cap zs):(convert 22 9 (xg g zs.length cap)).run prog w=.ok (.string ⟨zs.toArray⟩) w:=by refine run_convert_bytes_back (P:=prog) w 22 9 5 (xd g 0) cap zs underlying22 underlying5 underlying9 ?_;intro i hi;have:=World.ownsRow.cellAt h i qo;rw[Addr.add_mid,Nat.zero_add,this,getElem?_map,getElem?_eq_getElem hi];rfl
theorem yBt.kind{lo:Nat->Prop}{t:Pat}{v:Value}(h:yBt w lo t v):(∃b,t=.byte b/\v=yRd b)\/(¬yQk t/\∃T cs,v=.iface T (.agg cs)/\(T=360\/T=362\/T=304)):=by
 obtain⟨n,hn⟩:=h;cases n with
 |zero=>exact hn.elim
 |succ n=>
  cases t with
  |byte b=>exact .inl ⟨b,rfl,hn⟩
  |cls f=>exact .inr ⟨λh=>h,_,_,hn,.inl rfl⟩
  |rep t o r=>obtain⟨u,h1,_⟩:=hn;exact .inr ⟨λh=>h,_,_,h1,.inr (.inl rfl)⟩
  |alt os=>obtain⟨u,h1,_⟩:=hn;exact .inr ⟨λh=>h,_,_,h1,.inr (.inr rfl)⟩
variable {R:Nat->Prop} {u:Value}
theorem yFz.nth{ts:List Pat}(h:yFz w R ts u):∃a cp,u=.slice a ts.length cp/\∀k t,ts[k]?=some t->∃gs v,a=some ⟨gs,0,none⟩/\gs<w.heap.size/\xk w gs k v/\yBt w R t v:=by
 obtain⟨n,h|⟨g,cp,us,h1,h2,h3,h4⟩⟩:=h
 .obtain⟨rfl,rfl⟩:=h;exact⟨none,0,rfl,λk t ht=>by simp at ht⟩
 .refine⟨_,cp,h1,λk t ht=>?_⟩;have hk:=qf ht;obtain⟨v,hv⟩:∃v,us[k]?=some v:=qg qo;exact⟨g,v,rfl,h3.lt,h3.val k v hv,n,h4 k v t hv ht⟩
structure PxJ(w:World)(ts:List Pat)(k g cp:Nat)(xs:List UInt8)(wr:World):Prop where
 len:xs.length=k
 pre:yBh ts=(xs++(yBh (ts.drop k)).1,(yBh (ts.drop k)).2)
 own:OwnY wr (w+2) g cp xs
 res:yA wr w 268 2 (w+1) [xe,false]
 below:Below w w wr
def set2(w:World)(g:Nat)(a b:Value):World:=(xt (w.setCell (xd g 0) a) g 1 b)
theorem yCr{t g:Nat}{x y:Value}(h:yA w base t 2 g [x,y])(a b:Value):yA (set2 w g a b) base t 2 g [a,b]:=((h.set 0 a).set 1 b)
theorem ySl{ts:List Pat}(h:yFz w R ts u)(hl:ts.length<=1000):(xf 222 #[.agg #[u]] w (.agg #[.string ⟨(yBh ts).1.toArray⟩,(yBh ts).2]):Prop):=by
 obtain⟨a,cp,rfl,hn⟩:=h.nth;have HN:=qH1 hn;clear h hn;obtain⟨n,a8⟩:=qE ts.length;have HL:=qH1 a8;rw[<-a8]at hl|-;clear a8;obtain⟨W0,a7⟩:=qW (xw ((w.alloc (Obj.cells #[.slice a n cp] 316)).alloc (Obj.cells #[xe,false] 268)) #[] 5);have ad:Hid (PxJ w ts 0 (w+2) 0 [] W0/\xk W0 w 0 (.slice a n cp)):=by
  obtain⟨V,hV⟩:=qW (xw (w.alloc (Obj.cells #[.slice a n cp] 316)) #[xe,false] 268);have hz:V.heap.size=w.heap.size+2:=by rw[hV];simp
  have am:Below w w V:=by rw[hV];exact(qB).alloc (by simp) _
  have b1:yA V w 316 1 w [.slice a n cp]:=by rw[hV];exact yA.ofHeap (vs:=#[.slice a n cp]) (heap_alloc2_old w _ _) qr rfl
  have b2:yA V w 268 2 (w+1) [xe,false]:=by rw[hV];exact yA.ofHeap (vs:=#[.string ⟨#[]⟩,.bool false]) (heap_alloc2_new w _ _) qo rfl
  have ac:Below V V W0:=by rw[a7,<-hV];exact qB
  refine⟨⟨rfl,by simp,?_,b2.below ac,am.trans (ac.mono qo)⟩,(b1.below ac).cell (j:=0) rfl⟩;rw[a7,<-hV,<-hz];exact yU0 V qr
 go_enter func222,ntmps222;go_upto_region 2 with fail;rw[<-a7];clear a7;have c0:=ad.2;go_wp2_with fail;clear c0;go_loopw[3,12] (λo i wr=>∃(k g cq:Nat)(xs:List UInt8),k<=n/\i=(xi k)/\o=(xg g k cq)/\PxJ w ts k g cq xs wr) (λ_ i _=>n-(intOf i).toNat);case atStart=>exact⟨0,_,0,[],zero_le _,rfl,rfl,ad.1⟩
 case round=>
  obtain⟨k,g,cq,xs,hk,rfl,rfl,hJ⟩:=hrel;have HJ:Hid (PxJ w ts k g cq xs wr):=hJ;have ar:=hJ.own.lt;have a6:=hJ.len;have af:=hJ.below.size;obtain⟨r0,r1⟩:=hJ.res.c2;obtain⟨f0,f1⟩:=hJ.res.f2;clear hJ ad;by_cases hlt:k<n
  .have zk:(k:Int)<(n:Int):=qo
   obtain⟨t,ht⟩:∃t,ts[k]?=some t:=qg (qw HL.out);obtain⟨gs,v,rfl,al,hv,hN⟩:=HN.out k t ht;have ae:(xk wr gs k v:Prop):=by rw[(Chg.of_below HJ.below (S:=λ_=>False)).cell (p:=(xd gs k)) al (λq=>q)];exact hv
   have ah:ts.drop k=t::ts.drop (k+1):=by rw[drop_eq_getElem_cons (qw HL.out)];congr 1;exact Option.some.inj ((getElem?_eq_getElem (qw HL.out)).symm.trans ht)
   have HD:Hid (ts.drop k=t::ts.drop (k+1)):=ah;clear hv ah ht;rcases hN.kind with⟨b,rfl,rfl⟩|⟨ag,T,cs,rfl,hT⟩
   .have ha:=yYl b;clear hN;have HP:Hid (yBh ts=((xs++ [b])++(yBh (ts.drop (k+1))).1,(yBh (ts.drop (k+1))).2)):=by show yBh ts=_;rw[HJ.pre,HD.out];simp[yBh]
    obtain⟨W5,a2⟩:=qW (xw wr #[.int .u8 (b.toNat:Int)] 348);have a3:=qN a2
    have ak:=qS a2
    have a1:Hid (PxJ w ts k g cq xs W5):=⟨HJ.len,HJ.pre,HJ.own.below a3,HJ.res.below a3,HJ.below.trans (a3.mono af)⟩;have b5:(xk W5 wr 0 (.int .u8 (b.toNat:Int)):Prop):=by rw[a2];exact(yAa wr (base:=0) (t:=348) (sz:=1) #[.int .u8 (b.toNat:Int)] (zero_le _) rfl).cell (j:=0) rfl
    go_upto_region 6 with fail;rw[<-a2];clear a2 ae r0 r1 f0 f1 ha HJ;obtain⟨W6,a0⟩:=qW (xw W5 #[.int .u8 (b.toNat:Int)] 5);have ab:=qN a0
    have aq:=qS a0
    have a5:Hid (PxJ w ts k g cq xs W6/\yXk W6 (wr+1) 0 [b]):=by refine⟨⟨a1.len,a1.pre,a1.own.below ab,a1.res.below ab,a1.below.trans (ab.mono qo)⟩,?_⟩;rw[a0,<-ak];exact(yGu W5 qr b rfl).at
    go_wp2_with (at_builtin;rw[<-a0];refine yBg _ rfl _ _ rfl (w+2) g cq k (wr+1) 0 1 1 xs [b] rfl rfl ?hn rfl ?hO ?hc ?hl ?hb ?_);case hn=>exact a6.symm
    case hO=>exact a5.1.own
    case hc=>exact a5.2
    case hl=>simp;omega
    case hb=>omega
    intro g' aj w' ai a9 an;rw[<-a0]at a9;have ao:Hid (PxJ w ts (k+1) g' aj (xs++ [b]) w'):=by have hC:Chg (λj=>j=g) W6 w':=Chg.of_grown a9 (λj hj=>by cases hj;rfl);refine⟨by simp[a6],HP.out,ai,a5.1.res.chg hC (by omega),?_⟩;exact Chg.below a5.1.below hC a5.1.below.size (λj q=>by omega)
    clear ai a9 an a0 b5;refine zY ?_;exact⟨k+1,g',aj,xs++ [b],qo,by go_num,rfl,ao.out⟩
   .have ha:=xBi hT cs;have HP:Hid (yBh ts=(xs,false)):=by show yBh ts=_;rw[HJ.pre,HD.out,yGt ag];simp
    obtain⟨W5,a2⟩:=qW (xw wr #[.int .u8 0] 348);have a3:=qN a2
    have a1:Hid (PxJ w ts k g cq xs W5):=⟨HJ.len,HJ.pre,HJ.own.below a3,HJ.res.below a3,HJ.below.trans (a3.mono af)⟩;go_upto_region 6 with fail;rw[<-a2];clear a2 ae r0 r1 f0 f1 ha HJ hN ag hT;have aa:=yG7 a1.own;rw[a6]at aa;obtain⟨r0,r1⟩:=a1.res.c2;obtain⟨f0,f1⟩:=a1.res.f2;obtain⟨W6,a0⟩:=qW (set2 W5 (w+1) (.string ⟨xs.toArray⟩) false);have a4:Hid (yA W6 w 268 2 (w+1) [.string ⟨xs.toArray⟩,false]/\Below w w W6):=by rw[a0];exact⟨yCr a1.res _ _,yAc (yAc a1.below qo 0 _) qo 1 _⟩
    obtain⟨p0,p1⟩:=a4.1.c2;unfold set2 at a0;go_wp2_with fail;rw[<-a0];rw[HP.out];refine bodyPost_ret (v:=.agg #[.string ⟨xs.toArray⟩,false]) (by simp[results,results222,go_sem,p0,p1]) rfl ⟨rfl,a4.2⟩
  .have zk:¬(k:Int)<(n:Int):=qo
   have HP:Hid (yBh ts=(xs,true)):=by show yBh ts=_;rw[HJ.pre,drop_eq_nil_of_le (qw HL.out)];simp[yBh]
   have aa:=yG7 HJ.own;rw[a6]at aa;obtain⟨W6,a0⟩:=qW (set2 wr (w+1) (.string ⟨xs.toArray⟩) true);have a4:Hid (yA W6 w 268 2 (w+1) [.string ⟨xs.toArray⟩,true]/\Below w w W6):=by rw[a0];exact⟨yCr HJ.res _ _,yAc (yAc HJ.below qo 0 _) qo 1 _⟩
   obtain⟨p0,p1⟩:=a4.1.c2;unfold set2 at a0;go_wp2_with fail;rw[<-a0];rw[HP.out];refine bodyPost_ret (v:=.agg #[.string ⟨xs.toArray⟩,true]) (by simp[results,results222,go_sem,p0,p1]) rfl ⟨rfl,a4.2⟩
theorem yDo.nth{os:List (List Pat)}(h:yDo w R os u):∃g cp,u=(xg g os.length cp)/\g<w.heap.size/\∀k ts,os[k]?=some ts->∃v,xk w g k v/\yFz w R ts v:=by obtain⟨n,g,cp,us,h1,h2,h3,h4⟩:=h;refine⟨g,cp,h1,h3.lt,λk ts ht=>?_⟩;have hk:=qf ht;obtain⟨v,hv⟩:∃v,us[k]?=some v:=qg qo;exact⟨v,h3.val k v hv,n,h4 k v ts hv ht⟩
theorem ySm(p:ByteArray)(hp:p.size<=maxLen):(yAj (sb p)).1=0->∃os,yDn (sb p) 0 0 p.size os:=by
 intro h;obtain⟨e,w',fr,⟨u,_,_,(⟨_,os,h1,_⟩|⟨h1,_⟩)⟩,_⟩:=yA5 p default hp []
 .exact⟨os,h1⟩
 .exact absurd h h1
def yVk(p:ByteArray)(r:List UInt8×Bool):Prop:=(¬(yAj (sb p)).1=0->r=([],false))/\((yAj (sb p)).1=0->∀os,yDn (sb p) 0 0 p.size os->r=yUy os)
theorem yJl(p:ByteArray)(hp:p.size<=maxLen):∃r,yVk p r:=by
 by_cases h:(yAj (sb p)).1=0
 .obtain⟨os,ho⟩:=ySm p hp h;refine⟨yUy os,λq=>absurd h q,λ_ us hu=>yW (by rw[yAe];exact ho) (by rw[yAe];exact hu)⟩
 .exact⟨_,λ_=>rfl,λq=>absurd q h⟩
theorem yUq{A:List UInt8->Pat->Prop}(hA:∀xs t,A xs t->0<xs.length):∀{ts:List Pat}{xs:List UInt8},SeqG A ts xs->ts.length<=xs.length
 | [],_,_=>zero_le _
 |_::ts,_,⟨ys,zs,h1,⟨us,ops,a,h2,h3,_⟩,h4⟩=>by
  have:=yUq hA h4
  have:=hA _ _ h3
  rw[h1,h2]
  simp
  omega
theorem yJ5(p:ByteArray)(w:World)(hpm:p.size<=maxLen)(r:List UInt8×Bool)(hr:yVk p r):(xf 198 #[p] w (.agg #[.string ⟨r.1.toArray⟩,r.2]):Prop):=by
 have HR:=qH1 hr;clear hr;obtain⟨W0,aa⟩:=qW (xw w #[xe,false] 268);have a6:Hid (yA W0 w 268 2 w [xe,false]/\Below w w W0):=by rw[aa];exact⟨yAa w _ qr rfl,qB⟩
 obtain⟨c,hc⟩:=qE ((yAj (sb p)).1);obtain⟨k,hk⟩:=qE ((yAj (sb p)).2);have HC:=qH1 hc;go_enter func198,ntmps198;go_upto_region 1 with fail;rw[<-aa];clear aa;go_wp2_with fail;refine(yA5 p W0 hpm).mono ?_;rintro e w1 ⟨u,rfl,a4,hu⟩;rw[<-hc,<-hk];have HU:=qH1 hu;obtain⟨ua,un,uc,rfl⟩:∃a n cp,u=.slice a n cp:=by
  rcases hu with⟨_,os,_,hU⟩|⟨_,rfl⟩
  .obtain⟨g,n,cp,rfl⟩:=hU.slice;exact⟨_,_,_,rfl⟩
  .exact⟨_,_,_,rfl⟩
 clear hu hc hk;have h1:=a6.2.size;have h2:=a4.size;obtain⟨W2,a3⟩:=qW (xw (w1.alloc (Obj.cells #[.slice ua un uc] 304)) #[xi c,xi k] 158);have hb2:Below w1 w1 W2:=by rw[a3];exact(qB).alloc (by simp) _
 have a1:Hid (yA W2 w 268 2 w [xe,false]/\yA W2 w 158 2 (w1+1) [xi c,xi k]/\yA W2 w 304 1 w1 [.slice ua un uc]/\Below w w W2):=by
  refine⟨(a6.1.below a4).below hb2,?_,?_,(a6.2.trans (a4.mono h1)).trans (hb2.mono qo)⟩
  .rw[a3];exact yA.ofHeap (vs:=#[.int .i64 c,.int .i64 (k:Int)]) (heap_alloc2_new w1 _ _) qo rfl
  .rw[a3];exact yA.ofHeap (vs:=#[.slice ua un uc]) (heap_alloc2_old w1 _ _) qo rfl
 have ab:Hid (((yAj (sb p)).1=0/\∃os,yDn (sb p) 0 0 p.size os/\yDo W2 (Bet W0 w1) os (.slice ua un uc))\/(¬(yAj (sb p)).1=0/\Value.slice ua un uc=xh)):=by
  rcases HU.out with⟨q,os,ho,hU⟩|q
  .exact .inl ⟨q,os,ho,hU.move (S:=λ_=>False) (Chg.of_below hb2) (λq hq=>hq.elim) (λq _ z=>z)⟩
  .exact .inr q
 clear a4 hb2 a6 HU;go_upto_region 2 with fail;rw[<-a3];clear a3;have b0:=a1.2.1.cell (j:=0) rfl;have a0:=a1.2.2.1.cell (j:=0) rfl;obtain⟨r0,r1⟩:=a1.1.c2;obtain⟨f0,f1⟩:=a1.1.f2;have a7:∀(hz:¬c=0\/¬(un:Int)=1),r=([],false):=λhz=>by
  rcases ab.out with⟨q,os,ho,hU⟩|⟨q,hn⟩
  .obtain⟨g,cp,e,_,_⟩:=hU.nth;simp at e;have:=HR.2 q os ho;rw[this];have a2:c=0:=by rw[HC.out];exact q
   rcases os with _|⟨o1,_|⟨o2,os⟩⟩
   .rfl
   .exfalso;simp at e;rcases hz with hz|hz
    .exact hz a2
    .exact hz (by rw[e.2.1];rfl)
   .rfl
  .exact HR.1 q
 by_cases hz:¬c=0\/¬(un:Int)=1
 .have e:=a7 hz;subst e;clear a7;obtain⟨W6,hW6⟩:=qW (set2 W2 w xe false);have HW6:Hid (yA W6 w 268 2 w [xe,false]/\Below w w W6):=by rw[hW6];exact⟨yCr a1.1 _ _,yAc (yAc a1.2.2.2 qr 0 _) qr 1 _⟩
  obtain⟨p0,p1⟩:=HW6.1.c2;unfold set2 at hW6;by_cases a2:c=0
  .have a8:=hz.elim (λq=>absurd a2 q) (λq=>q);have ad:((un:Int) != 1)=true:=by simpa using a8
   subst a2;exact xF9
  .have zc:(c != 0)=true:=by simpa using a2
   exact xF9
 .have a2:=Classical.not_not.1 (λq=>hz (.inl q));have a8:=Classical.not_not.1 (λq=>hz (.inr q));clear hz a7;have q0:(yAj (sb p)).1=0:=by rw[<-HC.out];exact a2
  obtain⟨g,ts,v,rfl,ac,hS,hP,hl⟩:∃g ts v,ua=some ⟨g,0,none⟩/\xk W2 g 0 v/\yFz W2 (Bet W0 w1) ts v/\r=yBh ts/\ts.length<=1000:=by
   rcases ab.out with⟨q,os,ho,hU⟩|⟨q,hn⟩
   .obtain⟨g,cp,e,_,hn⟩:=hU.nth;simp at e;obtain⟨ts,rfl⟩:∃ts,os= [ts]:=by
     rcases os with _|⟨o1,_|⟨o2,os⟩⟩
     .exfalso;simp at e;omega
     .exact⟨o1,rfl⟩
     .exfalso;simp at e;omega
    obtain⟨v,hv,hS⟩:=hn 0 ts rfl;refine⟨g,ts,v,e.1,hv,hS,HR.2 q _ ho,?_⟩;obtain⟨n,hg⟩:=ho.gr;have h3:=yUq (λxs t (z:yAm n xs t)=>by obtain⟨c,ys,e,_⟩:=z.first;rw[e];simp) hg;have h4:=yAw (p:=sb p) (i:=0) (k:=p.size) (by rw[yAe];exact Nat.le_refl _);have h5:p.size<=200:=by apply Classical.byContradiction;intro h6;unfold yAj at q0;rw[if_pos (by rw[yAe];omega)]at q0;exact absurd q0 qj
    omega
   .exact absurd q0 q
  obtain⟨va,vn,vc,rfl⟩:=hS.slice;have HS:=qH1 hS;clear hS ab;subst a2;obtain rfl:un=1:=qo
  clear a8 q0;go_wp2_with fail;refine(ySl HS.out hl).mono ?_;rintro e w5 ⟨rfl,a9⟩;subst hP;have s2:=a1.2.2.2.size;have a5:=qH2 (a1.1.below a9) (a1.2.2.2.trans (a9.mono s2));clear ac b0 a0 r0 r1 f0 f1 a9;obtain⟨r0,r1⟩:=a5.1.c2;obtain⟨f0,f1⟩:=a5.1.f2;obtain⟨x,hx⟩:=qE (⟨(yBh ts).1.toArray⟩:ByteArray);obtain⟨y,hy⟩:=qE ((yBh ts).2:Bool);rw[<-hx,<-hy];obtain⟨W6,hW6⟩:=qW (set2 w5 w x y);have HW6:Hid (yA W6 w 268 2 w [x,y]/\Below w w W6):=by rw[hW6];exact⟨yCr a5.1 _ _,yAc (yAc a5.2 qr 0 _) qr 1 _⟩
  obtain⟨p0,p1⟩:=HW6.1.c2;unfold set2 at hW6;subst hx hy;go_wp2;rw[<-hW6];refine bodyPost_ret (v:=.agg #[.string ⟨(yBh ts).1.toArray⟩,(yBh ts).2]) (by simp[results,results198,go_sem,p0,p1]) rfl ⟨rfl,HW6.2⟩
inductive Ch(fa:Nat->Nat->Bool)(K:Nat):Nat->Nat->Prop
 |one {i j:Nat} (h:fa i j=true) (hij:i<=j):Ch fa K i j
 |more {i m j:Nat} (h:fa i m=true) (him:i<=m) (hm:m<K) (k:Ch fa K m j):Ch fa K i j
variable {fa:Nat->Nat->Bool} {K i j:Nat}
theorem Ch.le(h:Ch fa K i j):i<=j:=by
 induction h with
 |one _ h=>exact h
 |more _ h _ _ ih=>omega
theorem Ch.mono{K':Nat}(h:Ch fa K i j)(hK:K<=K'):Ch fa K' i j:=by
 induction h with
 |one h h'=>exact .one h h'
 |more h h1 h2 _ ih=>exact .more h h1 qo ih
theorem Ch.cat{m:Nat}(h:Ch fa K i m)(hm:m<K)(k:Ch fa K m j):Ch fa K i j:=by
 induction h with
 |one h h'=>exact .more h h' hm k
 |more h h1 h2 _ ih=>exact .more h h1 h2 (ih hm k)
theorem Ch.split(h:Ch fa (K+1) i j):Ch fa K i j\/(Ch fa K i K/\Ch fa K K j):=by
 induction h with
 |one h h'=>exact .inl (.one h h')
 | @more i m j h h1 h2 _ ih=>
   by_cases e:m=K
   .subst e;rcases ih with k|⟨_,k⟩
    .exact .inr ⟨.one h h1,k⟩
    .exact .inr ⟨.one h h1,k⟩
   .rcases ih with k|⟨k1,k2⟩
    .exact .inl (.more h h1 qo k)
    .exact .inr ⟨.more h h1 qo k1,k2⟩
theorem yGb(fa:Nat->Nat->Bool):∀(K i j:Nat),i<=j->(plK fa K i j=true↔Ch fa K i j)
 |0,i,j,hij=>by
  constructor
  .exact λh=>.one h hij
  .intro h
   cases h with
   |one h _=>exact h
   |more _ _ h _=>omega
 |K+1,i,j,hij=>by
  simp only[plK,Bool.or_eq_true,Bool.and_eq_true,decide_eq_true_eq]
  constructor
  .rintro(h|⟨⟨⟨h1,h2⟩,h3⟩,h4⟩)
   .exact((yGb fa K i j hij).1 h).mono qo
   .exact(((yGb fa K i K h1).1 h3).mono qo).cat qo (((yGb fa K K j h2).1 h4).mono qo)
  .intro h
   rcases h.split with k|⟨k1,k2⟩
   .exact .inl ((yGb fa K i j hij).2 k)
   .exact .inr ⟨⟨⟨k1.le,k2.le⟩,(yGb fa K i K k1.le).2 k1⟩,(yGb fa K K j k2.le).2 k2⟩
def RelW(s:List UInt8)(f:Nat->Nat->Bool)(P:List UInt8->Prop):Prop:=∀i j,i<=j->j<=s.length->(f i j=true↔P (cut s i j))
variable {s x:List UInt8}
theorem yQ3{y:List UInt8}(hij:i<=j)(hj:j<=s.length)(h:cut s i j=x++y):∃m,i<=m/\m<=j/\x=cut s i m/\y=cut s m j:=by obtain⟨h1,h2,h3⟩:=yQ4 h hj hij;exact⟨i+x.length,qo,h3,h1.symm,h2.symm⟩
variable {P:List UInt8->Prop}
theorem RelW.plus(h:RelW s fa P):RelW s (plK fa (s.length+1)) (Pls P):=by
 intro i j hij hj;rw[yGb fa _ i j hij];constructor
 .intro k;induction k with
  |one h' h1=>exact .one ((h _ _ h1 hj).1 h')
  | @more i m j h' h1 h2 k ih=>
    have a0:=k.le;rw[yBq h1 a0];exact .more ((h i m h1 qo).1 h') (ih a0 hj)
 .intro k;generalize hx:cut s i j=x at k;induction k generalizing i j with
  |one h'=>subst hx;exact .one ((h i j hij hj).2 h') hij
  |more h' k ih=>
   obtain⟨m,h1,h2,h3,h4⟩:=yQ3 hij hj hx;exact .more ((h i m h1 qo).2 (by rw[<-h3];exact h')) h1 qo (ih m j h2 hj h4.symm)
variable {Q:List UInt8->Prop}
theorem RelW.or{fb:Nat->Nat->Bool}(h:RelW s fa P)(k:RelW s fb Q):RelW s (λi j=>fa i j || fb i j) (λx=>P x\/Q x):=by intro i j hij hj;rw[Bool.or_eq_true,h i j hij hj,k i j hij hj]
theorem yV5(s:List UInt8):RelW s (λi j=>i==j) (λx=>x= []):=by
 intro i j hij hj;rw[beq_iff_eq];constructor
 .intro e;rw[e];exact yDe s j
 .intro e;have:=yAw (p:=s) (i:=i) hj;rw[e]at this;simp at this;omega
theorem RelW.then{fb:Nat->Nat->Bool}(h:RelW s fa P)(k:RelW s fb Q):RelW s (λi j=>thF fa fb i j (s.length+1)) (λx=>∃y z,x=y++z/\P y/\Q z):=by
 intro i j hij hj;rw[xEd];constructor
 .rintro⟨m,h0,h1,h2,h3,h4⟩;exact⟨cut s i m,cut s m j,yBq h1 h2,(h i m h1 qo).1 h3,(k m j h2 hj).1 h4⟩
 .rintro⟨y,z,hx,hy,hz⟩;obtain⟨m,h1,h2,h3,h4⟩:=yQ3 hij hj hx;exact⟨m,qo,h1,h2,(h i m h1 qo).2 (by rw[<-h3];exact hy),(k m j h2 hj).2 (by rw[<-h4];exact hz)⟩
theorem RelW.iff{f g:Nat->Nat->Bool}(h:RelW s f P)(hf:∀i j,i<=j->j<s.length+1->g i j=f i j)(hp:∀x,Q x↔P x):RelW s g Q:=by intro i j hij hj;rw[hf i j hij qo,h i j hij hj,hp]
theorem Pls.mono(h:∀x,P x->Q x)(k:Pls P x):Pls Q x:=by
 induction k with
 |one k=>exact .one (h _ k)
 |more k _ ih=>exact .more (h _ k) ih
theorem Pls.cat{y:List UInt8}(h:Pls P x)(k:Pls P y):Pls P (x++y):=by
 induction h with
 |one h=>exact .more h k
 |more h _ ih=>rw[append_assoc];exact .more h ih
theorem yPg(P:List UInt8->Prop)(o r:Bool)(x:List UInt8):Pls (RepL P o r) x↔RepL P o true x:=by
 have a0:∀y,RepL P o r y->RepL P o true y:=by
  intro y h;rcases h with h|h
  .exact .inl h
  .refine .inr ?_;rw[if_pos rfl];cases r with
   |true=>rw[if_pos rfl]at h;exact h
   |false=>rw[if_neg qj]at h;exact .one h
 constructor
 .intro k;induction k with
  |one h=>exact a0 _ h
  | @more y z h k ih=>
    rcases a0 y h with⟨ho,hy⟩|hy
    .rw[hy];exact ih
    .rcases ih with⟨ho,hz⟩|hz
     .rw[hz,append_nil];exact .inr hy
     .rw[if_pos rfl]at hy hz;exact .inr (by rw[if_pos rfl];exact hy.cat hz)
 .rintro(h|h)
  .exact .one (.inl h)
  .rw[if_pos rfl]at h;exact h.mono (λy hy=>.inr (by
    cases r with
    |true=>rw[if_pos rfl];exact .one hy
    |false=>rw[if_neg qj];exact hy))
theorem yUl(P:List UInt8->Prop)(o r:Bool)(x:List UInt8):(RepL P o r x\/x= [])↔RepL P true r x:=by
 constructor
 .rintro((⟨_,h⟩|h)|h)
  .exact .inl ⟨rfl,h⟩
  .exact .inr h
  .exact .inl ⟨rfl,h⟩
 .rintro(⟨_,h⟩|h)
  .exact .inr h
  .exact .inl (.inr h)
theorem yTv{p:List UInt8}{b:Bool}{f g:UInt8->Bool}{k:Nat}(h:clsM p j b f=.inl (g,k)):j<p.length:=by
 unfold clsM at h;split at h
 .assumption
 .cases h
theorem yZm{p:List UInt8}{it:Bool}{g f:UInt8->Bool}{n:Nat}(h:clsM p j it g=.inl (f,n)):
  (p[j]?=some 93/\it=true/\g=f/\j+1=n)\/
  ∃x lo k1,p[j]?=some x/\¬x=93/\chM p j=(lo,k1,true)/\k1<p.length/\∃y,p[k1]?=some y/\
   ((y=45/\∃hi m,chM p (k1+1)=(hi,m,true)/\clsM p m true (λc=>g c || (decide (lo<=c) && decide (c<=hi)))=.inl (f,n))\/
    (¬y=45/\clsM p k1 true (λc=>g c || (decide (lo<=c) && decide (c<=lo)))=.inl (f,n))):=by
 have hj:=yTv h;unfold clsM at h;rw[dif_pos hj]at h;split at h
 .next hc=>
  simp only[Sum.inl.injEq,Prod.mk.injEq]at h;exact .inl ⟨hc.1,hc.2,h.1,h.2⟩
 .split at h
  .cases h
  .next a b k hk=>
   refine .inr ?_;obtain⟨x,hx⟩:∃x,p[j]?=some x:=qg hj;unfold yBw at hk;split at hk
   .cases hk
   .next lo k1 hch=>
    have a0:¬x=93:=λq=>by unfold chM at hch;rw[hx]at hch;simp[q]at hch
    split at hk
    .next h45=>
     split at hk
     .cases hk
     .next hi m hch2=>
      split at hk
      .cases hk
      .simp only[Sum.inl.injEq,Prod.mk.injEq]at hk;obtain⟨rfl,rfl,rfl⟩:=hk;exact⟨x,lo,k1,hx,a0,hch,yAn h45,45,h45,.inl ⟨rfl,hi,m,hch2,h⟩⟩
    .next h45=>
     simp only[Sum.inl.injEq,Prod.mk.injEq]at hk;obtain⟨rfl,rfl,rfl⟩:=hk;have a1:=yTv h;obtain⟨y,hy⟩:∃y,p[k1]?=some y:=qg a1;exact⟨x,lo,k1,hx,a0,hch,a1,y,hy,.inr ⟨λq=>h45 (by rw[hy,q]),h⟩⟩
theorem yQb(q:ByteArray)(hq:q.size<=200)(b:UInt8)(f:UInt8->Bool)(h:yAq (sb q) 1=.inl (f,q.size)) w:Calls prog 255 #[q,.int .u8 (b.toNat:Int)] w λe w'=>e=.returned (f b)/\w'=w:=by
 obtain⟨ng,f0,j0,hj0,a0,hf,hng⟩:∃(ng:Bool)(f0:UInt8->Bool)(j0:Nat),j0=(if ng=true then 2 else 1)/\clsM (sb q) j0 false (λ_=>false)=.inl (f0,q.size)/\(∀c,f c=(f0 c != ng))/\(ng=true↔(sb q)[1]?=some 94):=by
  unfold yAq at h;split at h
  .next h94=>
   split at h
   .next g k hk=>
    simp only[Sum.inl.injEq,Prod.mk.injEq]at h;obtain⟨rfl,rfl⟩:=h;exact⟨true,g,2,rfl,hk,λc=>by show(!g c)=(g c != true);cases g c<;>rfl,⟨λ_=>h94,λ_=>rfl⟩⟩
   .cases h
  .next h94=>exact⟨false,f,1,rfl,h,λc=>by cases f c<;>rfl,⟨λq=>(by cases q),λq=>absurd q h94⟩⟩
 have hjl:=yTv a0;rw[yAe]at hjl;have a2:1<q.size:=by
  cases ng
  .simp at hj0;omega
  .have:=yAn (hng.1 rfl);rw[yAe]at this;exact this
 obtain⟨x1,hx1⟩:∃x,(sb q)[1]?=some x:=qg (by rw[yAe];exact a2);obtain⟨_,a3⟩:=yAr hx1;have HC0:=qH1 a0;have HFn:=qH1 hf;have z1:(1:Int)<(q.size:Int):=qo
 clear h a0 hf;cases ng
 case false=>
  have a1:((x1.toNat:Int)==94)=false:=beq_eq_false_iff_ne.2 (yA8 (c:=94) (λq=>by have h1:=hng.2 (by rw[hx1,q]);cases h1));obtain rfl:j0=1:=by simpa using hj0
  exact zzQ4
 case true=>
  have a1:((x1.toNat:Int)==94)=true:=by
   have h1:=hng.1 rfl;rw[hx1]at h1;cases h1
   rfl
  obtain rfl:j0=2:=by simpa using hj0
  exact zzQ4
def xC8(k:Int):Bool:=k%3==0
def mNd(k:Int):Nd:=⟨k,yAx (k+1).toNat,xC8 (k+1+1),yAx (k+1+1+1).toNat,k+1+1+1+1,k+1+1+1+1+1,k+1+1+1+1+1+1⟩
def yRl(w:World)(base:Nat)(u:Value)(R:List Nd):Prop:=(u=xh/\R= [])\/∃g cp,u=(xg g R.length cp)/\yC7 w base g cp R
variable {R:List Nd}
theorem yRl.row(h:yRl w base u R):∀g,u.ownBlock=some g->base<=g/\g<w.heap.size:=by
 intro g hg;rcases h with⟨rfl,_⟩|⟨g',cp,rfl,hO⟩
 .cases hg
 .have:g'=g:=Option.some.inj hg;subst this;exact hO.lt
theorem yRl.keptNe{w':World}{row:Option Nat}(h:yRl w base u R)(hg:w.grownBy w' row)(hne:∀g,u.ownBlock=some g->row≠some g):yRl w' base u R:=by
 rcases h with h|⟨g,cp,rfl,hO⟩
 .exact .inl h
 .exact .inr ⟨g,cp,rfl,World.ownsRow.kept hO hg (.inr (λq=>hne g rfl q.symm))⟩
theorem yRl.below{w':World}(h:yRl w base u R)(hb:Below w w w'):yRl w' base u R:=h.keptNe (yAu hb none) (λg q z=>by cases z)
end Go.Proofs.YtnnagkfoiganfaaGreatDoor
