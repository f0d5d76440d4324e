import Derived.Test.YtnnagkfoiganfaaGreatDoorFkAC
import Derived.Test.YtnnagkfoiganfaaGreatDoorFkAD
import Derived.Test.YtnnagkfoiganfaaGreatDoorFkAB
namespace Go.Proofs.YtnnagkfoiganfaaGreatDoor
open Go.ChangeShapes Go.WideShapes Go.ChangeAt Go.RowKit Go.Deep XD XI XU XG XP XK XW XT XF XE XH _root_.List _root_.Nat XY Go.Proofs.Tryz
open _root_.Go renaming bodyPost_ret->AJ,heap_alloc2_old->AL,heap_alloc2_new->AM
open _root_.List renaming mem_cons->AA,pairwise_cons->AC,mem_cons_of_mem->AF,mem_of_getElem?->AG,getElem?_eq_getElem->AH,drop_eq_nil_of_le->AK
open _root_.Nat renaming zero_le->AB,zero_add->AD,zero_mul->AE,le_refl->AI
set_option linter.unusedVariables false
set_option linter.unusedSimpArgs false
set_option maxRecDepth 100000
set_option maxHeartbeats 64000000
set_option linter.unnecessarySimpa false
variable {T g base' g' cp' k:Nat} {zs:List U8} {v x y:Vv} {t:Pat} {lo:Nat->Prop} {ts:List Pat} {os:List (List Pat)} {a b:Ba} {row:Option Nat} {fs es L:List Ent} {w':Ww} {s:Bool} {e:Ent}
theorem yZp(b:U8)(w:Ww):(Instr.typeAssert (yRw b) 346 348 true).run prog w=.ok (.tuple #[.agg #[.int .u8 (b.toNat:Int)],true]) w:=qk
theorem xDp(hT:T=360\/T=362\/T=304)(cs:Array Vv)(w:Ww):(Instr.typeAssert (.iface T (.agg cs)) 346 348 true).run prog w=.ok (.tuple #[.agg #[.int .u8 0],false]) w:=by rcases hT with rfl|rfl|rfl<;>kernel_rfl
variable {w:Ww} {O:Nat}
theorem yRp{cap:Nat}(h:OwnY w O g cap zs):(convert 22 9 (xg g zs.length cap)).run prog w=.ok (.string ⟨zs.toArray⟩) w:=by apply run_convert_bytes_back (P:=prog) w 22 9 5 (xd g 0) cap zs underlying22 underlying5 underlying9;intro i hi;have:=World.ownsRow.cellAt h i qo;rw[Addr.add_mid,AD,this,getElem?_map,AH hi];rfl
theorem yBv.f(h:yBv w lo t v):(∃b,t=.byte b/\v=yRw b)\/(¬yQ3 t/\∃T cs,v=.iface T (.agg cs)/\(T=360\/T=362\/T=304)):=by
 have⟨n,hn⟩:=h;cases n with
 |zero=>exact hn.elim
 |succ n=>
  cases t with
  |byte b=>exact .inl ⟨b,rfl,hn⟩
  |cls f=>exact .inr ⟨λh=>h,_,_,hn,.inl rfl⟩
  |rep t o r=>have⟨u,h1,_⟩:=hn;exact .inr ⟨λh=>h,_,_,h1,.inr (.inl rfl)⟩
  |alt os=>have⟨u,h1,_⟩:=hn;exact .inr ⟨λh=>h,_,_,h1,.inr (.inr rfl)⟩
variable {R:Nat->Prop} {u:Vv}
theorem yGp.nth(h:yGp w R ts u):∃a cp,u=.slice a ts.length cp/\∀k t,ts[k]?=some t->∃gs v,a=some ⟨gs,0,none⟩/\gs<w/\xk w gs k v/\yBv w R t v:=by
 obtain⟨n,h|⟨g,cp,us,h1,h2,h3,h4⟩⟩:=h
 .obtain⟨rfl,rfl⟩:=h;exact⟨none,0,rfl,λk t ht=>by simp at ht⟩
 .refine⟨_,cp,h1,λk t ht=>?_⟩;have hk:=qf ht;obtain⟨v,hv⟩:∃v,us[k]?=some v:=qg qo;exact⟨g,v,rfl,h3.lt,h3.val k v hv,n,h4 k v t hv ht⟩
structure PxJ(w:Ww)(ts:List Pat)(k g cp:Nat)(xs:List U8)(wr:Ww):Prop where
 X:xs.length=k
 pre:yCy ts=(xs++(yCy (ts.drop k)).1,(yCy (ts.drop k)).2)
 Z:OwnY wr (w+2) g cp xs
 res:yA wr w 268 2 (w+1) [xe,false]
 k:Below w w wr
def set2(w:Ww)(g:Nat)(a b:Vv):Ww:=(xt (w.setCell (xd g 0) a) g 1 b)
theorem yF9{t:Nat}(h:yA w O t 2 g [x,y])(a b:Vv):yA (set2 w g a b) O t 2 g [a,b]:=((h.set 0 a).set 1 b)
theorem ySt(h:yGp w R ts u)(hl:ts.length<=1000):(xf 222 #[.agg #[u]] w (.agg #[.string ⟨(yCy ts).1.toArray⟩,(yCy ts).2]):Prop):=by
 obtain⟨a,cp,rfl,hn⟩:=h.nth;have HN:=qH1 hn;have⟨n,a8⟩:=qE ts.length;have HL:=qH1 a8;rw[<-a8]at hl|-;clear a8;have⟨W0,a7⟩:=qW (xw ((w.alloc (Obj.cells #[.slice a n cp] 316)).alloc (Obj.cells #[xe,false] 268)) #[] 5);have ad:Hid (PxJ w ts 0 (w+2) 0 [] W0/\xk W0 w 0 (.slice a n cp)):=by
  have⟨V,hV⟩:=qW (xw (w.alloc (Obj.cells #[.slice a n cp] 316)) #[xe,false] 268);have hz:V.heap.size=w.heap.size+2:=by rw[hV];simp
  have am:Below w w V:=hV▸((qB).alloc (by simp) _)
  have b1:yA V w 316 1 w [.slice a n cp]:=hV▸(yA.ofHeap (vs:=#[.slice a n cp]) (AL w _ _) qr rfl)
  have b2:yA V w 268 2 (w+1) [xe,false]:=by rw[hV];exact yA.ofHeap (vs:=#[.string ⟨#[]⟩,.bool false]) (AM w _ _) qo rfl
  have ac:Below V V W0:=by rw[a7,<-hV];exact qB
  refine⟨⟨rfl,by simp,?_,b2.k ac,am.trans (ac.mono qo)⟩,(b1.k ac).z (j:=0) rfl⟩;rw[a7,<-hV,<-hz];exact xDs V qr
 go_enter func222,ntmps222;go_upto_region 2 with fail;rw[<-a7];clear a7;have c0:=ad.2;go_wp2_with fail;clear c0;go_loopw[3,12] (λo i wr=>∃(k g cq:Nat)(xs:List U8),k<=n/\i=(xi k)/\o=(xg g k cq)/\PxJ w ts k g cq xs wr) (λ_ i _=>n-(intOf i).toNat);case atStart=>exact⟨0,_,0,[],AB _,rfl,rfl,ad.1⟩
 case round=>
  obtain⟨k,g,cq,xs,hk,rfl,rfl,hJ⟩:=hrel;have HJ:Hid (PxJ w ts k g cq xs wr):=hJ;have ar:=hJ.Z.lt;have a6:=hJ.X;have af:=hJ.k.size;obtain⟨r0,r1⟩:=hJ.res.c2;obtain⟨f0,f1⟩:=hJ.res.f2;clear hJ ad;by_cases hlt:k<n
  .have zk:(k:Int)<(n:Int):=qo
   obtain⟨t,ht⟩:∃t,ts[k]?=some t:=qg (qw HL.out);obtain⟨gs,v,rfl,al,hv,hN⟩:=HN.out k t ht;have ae:(xk wr gs k v:Prop):=by rw[(Chg.h HJ.k (S:=λ_=>False)).z (p:=(xd gs k)) al (λq=>q)];exact hv
   have ah:ts.drop k=t::ts.drop (k+1):=by rw[drop_eq_getElem_cons (qw HL.out)];congr 1;exact Option.some.inj ((AH (qw HL.out)).symm.trans ht)
   have HD:Hid (ts.drop k=t::ts.drop (k+1)):=ah;clear hv ah ht;rcases hN.f with⟨b,rfl,rfl⟩|⟨ag,T,cs,rfl,hT⟩
   .have ha:=yZp b;clear hN;have HP:Hid (yCy ts=((xs++ [b])++(yCy (ts.drop (k+1))).1,(yCy (ts.drop (k+1))).2)):=by show yCy ts=_;rw[HJ.pre,HD.out];simp[yCy]
    obtain⟨W5,a2⟩:=qW (xw wr #[.int .u8 (b.toNat:Int)] 348);have a3:=qN a2
    have ak:=qS a2
    have a1:Hid (PxJ w ts k g cq xs W5):=⟨HJ.X,HJ.pre,HJ.Z.k a3,HJ.res.k a3,HJ.k.trans (a3.mono af)⟩;have b5:(xk W5 wr 0 (.int .u8 (b.toNat:Int)):Prop):=by rw[a2];exact(yAa wr (O:=0) (t:=348) (sz:=1) #[.int .u8 (b.toNat:Int)] (AB _) rfl).z (j:=0) rfl
    go_upto_region 6 with fail;rw[<-a2];clear a2 ae r0 r1 f0 f1 ha HJ;obtain⟨W6,a0⟩:=qW (xw W5 #[.int .u8 (b.toNat:Int)] 5);have ab:=qN a0
    have aq:=qS a0
    have a5:Hid (PxJ w ts k g cq xs W6/\xI7 W6 (wr+1) 0 [b]):=by refine⟨⟨a1.X,a1.pre,a1.Z.k ab,a1.res.k ab,a1.k.trans (ab.mono qo)⟩,?_⟩;rw[a0,<-ak];exact(xDr W5 qr b rfl).at
    go_wp2_with (at_builtin;rw[<-a0];refine wpA rfl (apK xMz rfl (w+2) xs [b] rfl rfl ?hn rfl ?hO ?hc ?hl ?hb ?_));case hn=>exact a6.symm
    case hO=>exact a5.1.Z
    case hc=>exact a5.2
    case hl=>simp;omega
    case hb=>omega
    intro g' aj w' ai a9 an;rw[<-a0]at a9;have ao:Hid (PxJ w ts (k+1) g' aj (xs++ [b]) w'):=by have hC:Chg (λj=>j=g) W6 w':=Chg.M a9 (λj hj=>by cases hj;rfl);refine⟨by simp[a6],HP.out,ai,a5.1.res.i hC (by omega),?_⟩;exact Chg.k a5.1.k hC a5.1.k.size (λj q=>by omega)
    clear ai a9 an a0 b5;refine zY ?_;exact⟨k+1,g',aj,xs++ [b],qo,by go_num,rfl,ao.out⟩
   .have ha:=xDp hT cs;have HP:Hid (yCy ts=(xs,false)):=by show yCy ts=_;rw[HJ.pre,HD.out,yKo ag];simp
    obtain⟨W5,a2⟩:=qW (xw wr #[.int .u8 0] 348);have a3:=qN a2
    have a1:Hid (PxJ w ts k g cq xs W5):=⟨HJ.X,HJ.pre,HJ.Z.k a3,HJ.res.k a3,HJ.k.trans (a3.mono af)⟩;go_upto_region 6 with fail;rw[<-a2];clear a2 ae r0 r1 f0 f1 ha HJ hN ag hT;have aa:=yRp a1.Z;rw[a6]at aa;obtain⟨r0,r1⟩:=a1.res.c2;obtain⟨f0,f1⟩:=a1.res.f2;obtain⟨W6,a0⟩:=qW (set2 W5 (w+1) (.string ⟨xs.toArray⟩) false);have a4:Hid (yA W6 w 268 2 (w+1) [.string ⟨xs.toArray⟩,false]/\Below w w W6):=by rw[a0];exact⟨yF9 a1.res _ _,yAb (yAb a1.k qo 0 _) qo 1 _⟩
    obtain⟨p0,p1⟩:=a4.1.c2;unfold set2 at a0;go_wp2_with fail;rw[<-a0];rw[HP.out];refine AJ (v:=.agg #[.string ⟨xs.toArray⟩,false]) (by simp[results,results222,go_sem,p0,p1]) rfl ⟨rfl,a4.2⟩
  .have zk:¬(k:Int)<(n:Int):=qo
   have HP:Hid (yCy ts=(xs,true)):=by show yCy ts=_;rw[HJ.pre,AK (qw HL.out)];simp[yCy]
   have aa:=yRp HJ.Z;rw[a6]at aa;obtain⟨W6,a0⟩:=qW (set2 wr (w+1) (.string ⟨xs.toArray⟩) true);have a4:Hid (yA W6 w 268 2 (w+1) [.string ⟨xs.toArray⟩,true]/\Below w w W6):=by rw[a0];exact⟨yF9 HJ.res _ _,yAb (yAb HJ.k qo 0 _) qo 1 _⟩
   obtain⟨p0,p1⟩:=a4.1.c2;unfold set2 at a0;go_wp2_with fail;rw[<-a0];rw[HP.out];refine AJ (v:=.agg #[.string ⟨xs.toArray⟩,true]) (by simp[results,results222,go_sem,p0,p1]) rfl ⟨rfl,a4.2⟩
theorem yD0.nth(h:yD0 w R os u):∃g cp,u=(xg g os.length cp)/\g<w/\∀k ts,os[k]?=some ts->∃v,xk w g k v/\yGp w R ts v:=by have⟨n,g,cp,us,h1,h2,h3,h4⟩:=h;refine⟨g,cp,h1,h3.lt,λk ts ht=>?_⟩;have hk:=qf ht;obtain⟨v,hv⟩:∃v,us[k]?=some v:=qg qo;exact⟨v,h3.val k v hv,n,h4 k v ts hv ht⟩
theorem ySu(p:Ba)(hp:p.size<=maxLen):(yAr (sb p)).1=0->∃os,yDz (sb p) 0 0 p.size os:=by
 intro h;obtain⟨e,w',fr,⟨u,_,_,(⟨_,os,h1,_⟩|⟨h1,_⟩)⟩,_⟩:=yCj p default hp []
 .exact⟨os,h1⟩
 .exact absurd h h1
def yW(p:Ba)(r:List U8×Bool):Prop:=(¬(yAr (sb p)).1=0->r=([],false))/\((yAr (sb p)).1=0->∀os,yDz (sb p) 0 0 p.size os->r=yM0 os)
theorem yKp(p:Ba)(hp:p.size<=maxLen):∃r,yW p r:=by
 by_cases h:(yAr (sb p)).1=0
 .have⟨os,ho⟩:=ySu p hp h;refine⟨yM0 os,λq=>absurd h q,λ_ us hu=>yWy (by rw[yAd];exact ho) (by rw[yAd];exact hu)⟩
 .exact⟨_,λ_=>rfl,λq=>absurd q h⟩
theorem yU3{A:List U8->Pat->Prop}(hA:∀xs t,A xs t->0<xs.length):∀{ts:List Pat}{xs:List U8},SeqG A ts xs->ts.length<=xs.length
 | [],_,_=>AB _
 |_::ts,_,⟨ys,zs,h1,⟨us,ops,a,h2,h3,_⟩,h4⟩=>by
  have:=yU3 hA h4
  have:=hA _ _ h3
  rw[h1,h2]
  simp
  omega
theorem yLa(p:Ba)(w:Ww)(hpm:p.size<=maxLen)(r:List U8×Bool)(hr:yW p r):(xf 198 #[p] w (.agg #[.string ⟨r.1.toArray⟩,r.2]):Prop):=by
 have HR:=qH1 hr;have⟨W0,aa⟩:=qW (xw w #[xe,false] 268);have a6:Hid (yA W0 w 268 2 w [xe,false]/\Below w w W0):=aa▸⟨yAa w _ qr rfl,qB⟩
 have⟨c,hc⟩:=qE ((yAr (sb p)).1);have⟨k,hk⟩:=qE ((yAr (sb p)).2);have HC:=qH1 hc;go_enter func198,ntmps198;go_upto_region 1 with fail;rw[<-aa];clear aa;go_wp2_with fail;apply (yCj p W0 hpm).mono;rintro e w1 ⟨u,rfl,a4,hu⟩;rw[<-hc,<-hk];have HU:=qH1 hu;obtain⟨ua,un,uc,rfl⟩:∃a n cp,u=.slice a n cp:=by
  exact xJq
 clear hu hc hk;have h1:=a6.2.size;have h2:=a4.size;have⟨W2,a3⟩:=qW (xw (w1.alloc (Obj.cells #[.slice ua un uc] 304)) #[xi c,xi k] 158);have hb2:Below w1 w1 W2:=a3▸((qB).alloc (by simp) _)
 have a1:Hid (yA W2 w 268 2 w [xe,false]/\yA W2 w 158 2 (w1+1) [xi c,xi k]/\yA W2 w 304 1 w1 [.slice ua un uc]/\Below w w W2):=by
  refine⟨(a6.1.k a4).k hb2,?_,?_,(a6.2.trans (a4.mono h1)).trans (hb2.mono qo)⟩
  .rw[a3];exact yA.ofHeap (vs:=#[.int .i64 c,.int .i64 (k:Int)]) (AM w1 _ _) qo rfl
  .rw[a3];exact yA.ofHeap (vs:=#[.slice ua un uc]) (AL w1 _ _) qo rfl
 have ab:Hid (((yAr (sb p)).1=0/\∃os,yDz (sb p) 0 0 p.size os/\yD0 W2 (Bet W0 w1) os (.slice ua un uc))\/(¬(yAr (sb p)).1=0/\Value.slice ua un uc=xh)):=by
  rcases HU with⟨q,os,ho,hU⟩|q
  .exact .inl ⟨q,os,ho,hU.K (S:=λ_=>False) (Chg.h hb2) (λq hq=>hq.elim) (λq _ z=>z)⟩
  .exact .inr q
 clear a4 hb2 a6 HU;go_upto_region 2 with fail;rw[<-a3];clear a3;have b0:=a1.2.1.z (j:=0) rfl;have a0:=a1.2.2.1.z (j:=0) rfl;have⟨r0,r1⟩:=a1.1.c2;have⟨f0,f1⟩:=a1.1.f2;have a7:∀(hz:¬c=0\/¬(un:Int)=1),r=([],false):=λhz=>by
  rcases ab with⟨q,os,ho,hU⟩|⟨q,hn⟩
  .have⟨g,cp,e,_,_⟩:=hU.nth;simp at e;have:=HR.2 q os ho;rw[this];have a2:c=0:=by rw[HC];exact q
   rcases os with _|⟨o1,_|⟨o2,os⟩⟩
   .rfl
   .exfalso;simp at e;rcases hz with hz|hz
    .exact hz a2
    .exact hz (by rw[e.2.1];rfl)
   .rfl
  .exact HR.1 q
 by_cases hz:¬c=0\/¬(un:Int)=1
 .have e:=a7 hz;subst e;clear a7;have⟨W6,hW6⟩:=qW (set2 W2 w xe false);have HW6:Hid (yA W6 w 268 2 w [xe,false]/\Below w w W6):=hW6▸⟨yF9 a1.1 _ _,yAb (yAb a1.2.2.2 qr 0 _) qr 1 _⟩
  have⟨p0,p1⟩:=HW6.1.c2;unfold set2 at hW6;by_cases a2:c=0
  .have a8:=hz.elim (λq=>absurd a2 q) (λq=>q);have ad:((un:Int) != 1)=true:=by simpa using a8
   subst a2;exact xJ9
  .have zc:(c != 0)=true:=by simpa using a2
   exact xJ9
 .have a2:=Classical.not_not.1 (λq=>hz (.inl q));have a8:=Classical.not_not.1 (λq=>hz (.inr q));clear hz a7;have q0:(yAr (sb p)).1=0:=by rw[<-HC];exact a2
  obtain⟨g,ts,v,rfl,ac,hS,hP,hl⟩:∃g ts v,ua=some ⟨g,0,none⟩/\xk W2 g 0 v/\yGp W2 (Bet W0 w1) ts v/\r=yCy ts/\ts.length<=1000:=by
   rcases ab with⟨q,os,ho,hU⟩|⟨q,hn⟩
   .have⟨g,cp,e,_,hn⟩:=hU.nth;simp at e;obtain⟨ts,rfl⟩:∃ts,os= [ts]:=by
     rcases os with _|⟨o1,_|⟨o2,os⟩⟩
     .exfalso;simp at e;omega
     .exact⟨o1,rfl⟩
     .exfalso;simp at e;omega
    have⟨v,hv,hS⟩:=hn 0 ts rfl;refine⟨g,ts,v,e.1,hv,hS,HR.2 q _ ho,?_⟩;have⟨n,hg⟩:=ho.gr;have h3:=yU3 (λxs t (z:yAu n xs t)=>by have⟨c,ys,e,_⟩:=z.first;rw[e];simp) hg;have h4:=yA5 (p:=sb p) (i:=0) (k:=p.size) (by rw[yAd];exact AI _);have h5:p.size<=200:=by apply Classical.byContradiction;intro h6;unfold yAr at q0;rw[iB (by rw[yAd];omega)]at q0;exact absurd q0 qj
    omega
   .exact absurd q0 q
  obtain⟨va,vn,vc,rfl⟩:=hS.slice;have HS:=qH1 hS;clear hS ab;subst a2;obtain rfl:un=1:=qo
  clear a8 q0;go_wp2_with fail;apply (ySt HS.out hl).mono;rintro e w5 ⟨rfl,a9⟩;subst hP;have s2:=a1.2.2.2.size;have a5:=qH2 (a1.1.k a9) (a1.2.2.2.trans (a9.mono s2));clear ac b0 a0 r0 r1 f0 f1 a9;have⟨r0,r1⟩:=a5.1.c2;have⟨f0,f1⟩:=a5.1.f2;have⟨x,hx⟩:=qE (⟨(yCy ts).1.toArray⟩:Ba);have⟨y,hy⟩:=qE ((yCy ts).2:Bool);rw[<-hx,<-hy];have⟨W6,hW6⟩:=qW (set2 w5 w x y);have HW6:Hid (yA W6 w 268 2 w [x,y]/\Below w w W6):=hW6▸⟨yF9 a5.1 _ _,yAb (yAb a5.2 qr 0 _) qr 1 _⟩
  have⟨p0,p1⟩:=HW6.1.c2;unfold set2 at hW6;subst hx hy;go_wp2;rw[<-hW6];refine AJ (v:=.agg #[.string ⟨(yCy ts).1.toArray⟩,(yCy ts).2]) (by simp[results,results198,go_sem,p0,p1]) rfl ⟨rfl,HW6.2⟩
theorem yD4 e:∀(L:List Ent)(d:Bool),(yCk e L d).length<=L.length+1
 | [],d=>by unfold yCk;split<;>simp
 |x::r,d=>by
  have h1:=yD4 e r d
  have h2:=yD4 e r true
  have h3:∀(L:List Ent),(yCk e L true).length<=L.length:=by
   intro L;induction L with
   |nil=>simp[yCk]
   |cons y s ih=>
    unfold yCk;split
    .simp;omega
    .split
     .simp;omega
     .simp;omega
  have h4:=h3 r
  unfold yCk
  split
  .simp;omega
  .split
   .split<;>simp<;>omega
   .split<;>simp<;>omega
theorem yQ5(b off cap:Nat)(L:List Ent)(e:Ent)(w:Ww)(hE:yBx w b off L)(hB:b<w.heap.size)(hlen:L.length<=1048576):
  Calls prog 135 #[(xy b off L.length cap),e.v] w λr w'=>
   ∃g cp,r=.returned (xg g (into L e).length cp)/\OwnE w' w g cp (into L e)/\Below w w w':=by
 unfold Ent.v;obtain⟨W0,hW0⟩:=qW (xw w #[e.j,e.E,e.C,xu e.ts,xi e.f,e.val] 165);have hb0:=qN hW0
 have hz0:=qS hW0
 have HX:Hid (yBx W0 w 0 [e]):=by
  show yBx W0 w 0 [e];intro j f hf;obtain rfl:j=0:=by have:=qf hf;simpa using this
  simp at hf;subst hf;rw[hW0];simp
 have HE:=qH1 (hE.k hb0 hB);have HS:Hid (OwnE (xw W0 #[] 165) (w+1) (w+1) 0 []):=by show OwnE (xw W0 #[] 165) (w+1) (w+1) 0 [];rw[<-hz0];exact World.ownsRow_made W0 #[] 0 qr (AB _) (by simp)
 clear hE;have HZ:=qH1 hz0;have hz1:w.heap.size<W0.heap.size:=qo
 have hz2:W0.heap.size<=w.heap.size+1:=qo
 clear hz0;go_enter func135,ntmps135;go_wp2_with fail;rw[<-hW0];clear hW0;go_loopw[5,6,7] (λo d i wr=>∃(k g cp:Nat)(fs:List Ent)(dn:Bool),k<=L.length/\i=(xi k)/\d=dn/\o=(xg g fs.length cp)/\fs++yCk e (L.drop k) dn=into L e/\OwnE wr (w+1) g cp fs/\Below W0 W0 wr) (λ_ _ i _=>L.length-(intOf i).toNat);case atStart=>exact⟨0,_,0,[],false,AB _,rfl,rfl,rfl,rfl,HS.out,qB⟩
 case round=>
  obtain⟨k,g,cp,fs,dn,hk,rfl,rfl,rfl,hin,hO,hb⟩:=hrel;have hfl:fs.length<=1048577:=by have h1:=congrArg List.length hin;have h2:=yD4 e L false;rw[List.length_append]at h1;unfold into at h1;omega
  have HI:=qH1 hin;have HO:=qH1 hO;have hg:=hO.lt;have hs:=hb.size;clear hin hO;by_cases hlt:k<L.length
  .obtain⟨x,hx⟩:∃x,L[k]?=some x:=qg hlt;have hdr:L.drop k=x::L.drop (k+1):=by rw[List.drop_eq_getElem_cons hlt];rw[AH hlt]at hx;simp at hx;rw[hx]
   have HD:=qH1 hdr;clear hdr;have hec:∀wx,Below W0 W0 wx->yBx wx b off L/\yBx wx w 0 [e]:=λwx h=>⟨HE.k h qo,HX.k h qo⟩;have HEC:=qH1 hec;clear hec;obtain⟨c0,c1,c2,c3,c4,c5⟩:=(HEC.out wr hb).1 k x hx;obtain⟨d0,d1,d2,d3,d4,d5⟩:=(HEC.out wr hb).2 0 e rfl;simp only[AD,AE]at d0 d1 d2 d3 d4 d5;have HXK:=qH1 hx;clear hx;have z2:(k:Int)<(L.length:Int):=qo
   go_upto_region 6 with fail;go_cut[8] (λs wx=>s=(xi (yAf x e))/\Below wr wr wx);case first=>
    go_region_with (go_at_call 95;refine(yDp x e _).mono ?_;rintro e' w' ⟨rfl,hbb⟩);all_goals go_wp2_with fail
    all_goals go_meet
    all_goals exact⟨rfl,((Below.refl _ _).drew).trans (hbb.mono (by simp))⟩
   case rest=>
   obtain⟨rfl,h3⟩:=hcut;have hb3:=hb.trans (h3.mono hb.size);have HO3:=qH1 (HO.k h3 hg.2);have hs3:=h3.size;clear c0 c1 c2 c3 c4 c5 d0 d1 d2 d3 d4 d5;obtain⟨c0,c1,c2,c3,c4,c5⟩:=(HEC.out wc hb3).1 k x HXK.out;obtain⟨d0,d1,d2,d3,d4,d5⟩:=(HEC.out wc hb3).2 0 e rfl;simp only[AD,AE]at d0 d1 d2 d3 d4 d5;have yLg:∀(wx:Ww)(f:Ent),yBx (xw wx #[f.j,f.E,f.C,xu f.ts,xi f.f,f.val] 165) wx 0 [f]:=by
    intro wx f j y hy;obtain rfl:j=0:=by have:=qf hy;simpa using this
    simp at hy;subst hy;simp
   have HN:=qH1 yLg;clear yLg;rcases yE4 x e with hc|hc|hc
   .have HC:=qH1 hc;go_wp2_with (at_builtin;refine wpA rfl (apK yPn rfl (w+1) fs [x] rfl rfl rfl rfl ?hO ?hc (lN ?hl) ?hb ?_));case hO=>exact HO3.k (qB) qo
    case hc=>exact HN.out wc x
    case hl=>omega
    case hb=>simp;omega
    intro g' cp' w' hO' hgr _;have HO':=qH1 hO';have hb':=(hb3.alloc hb3.size _).grown hgr (by simp;omega) (λj hj=>by cases hj;omega);clear hO' hgr;go_wp2;go_roundw;case rel=>
     go_light;refine⟨k+1,g',cp',fs++ [x],dn,qo,by go_num,rfl,by simp,?_,HO'.out,hb'⟩;exact zzU7
    case measure=>go_light;simp[intOf];omega
   .have HC:Hid (yAf x e=0):=hc;cases dn
    .go_wp2_with (at_builtin;refine wpA rfl (apK yPn rfl (w+1) (fs) [e] rfl rfl rfl rfl ?hO ?hc (lN ?hl) ?hb ?_));case hO=>exact HO3.k (qB) qo
     case hc=>exact HN.out wc e
     case hl=>omega
     case hb=>simp;omega
     intro g' cp' w' hO' hgr _;have HO':Hid (OwnE w' (w+1) g' cp' (fs++ [e])):=hO';have hb':Below W0 W0 w':=(hb3.alloc hb3.size _).grown hgr (by simp;omega) (λj hj=>by cases hj;omega);clear hO' hgr;go_wp2;go_roundw;case rel=>
      go_light;refine⟨k+1,g',cp',fs++ [e],true,qo,by go_num,rfl,by simp,?_,HO'.out,hb'⟩;exact zzU7
     case measure=>go_light;simp[intOf];omega
    .go_wp2;go_roundw;case rel=>
      go_light;refine⟨k+1,g,cp,fs,true,qo,by go_num,rfl,by simp,?_,HO3.out,hb3⟩;exact zzU7
     case measure=>go_light;simp[intOf];omega
   .have HC:Hid (yAf x e=1):=hc;cases dn
    .go_wp2_with (at_builtin;refine wpA rfl (apK yPn rfl (w+1) (fs) [e] rfl rfl rfl rfl ?hO ?hc (lN ?hl) ?hb ?_));case hO=>exact HO3.k (qB) qo
     case hc=>exact HN.out wc e
     case hl=>omega
     case hb=>simp;omega
     intro g1 cp1 w1 hO1 hgr1 _;have HO1:Hid (OwnE w1 (w+1) g1 cp1 (fs++ [e])):=hO1;have hb1:Below W0 W0 w1:=(hb3.alloc hb3.size _).grown hgr1 (by simp;omega) (λj hj=>by cases hj;omega);have hg1:=hO1.lt;have hs1:=hb1.size;clear hO1 hgr1 c0 c1 c2 c3 c4 c5;obtain⟨c0,c1,c2,c3,c4,c5⟩:=(HEC.out w1 hb1).1 k x HXK.out;go_wp2_with (at_builtin;refine wpA rfl (apK yPn rfl (w+1) (fs++ [e]) [x] rfl rfl (by simp) rfl ?hO ?hc (lN ?hl) ?hb ?_));case hO=>exact HO1.k (qB) hg1.2
     case hc=>exact HN.out w1 x
     case hl=>simp;omega
     case hb=>simp;omega
     intro g' cp' w' hO' hgr _;have HO':Hid (OwnE w' (w+1) g' cp' (fs++ [e,x])):=hO';have hb':Below W0 W0 w':=(hb1.alloc hb1.size _).grown hgr (by simp;omega) (λj hj=>by cases hj;omega);clear hO' hgr;go_wp2;go_roundw;case rel=>
      go_light;refine⟨k+1,g',cp',fs++ [e,x],true,qo,by go_num,rfl,by simp,?_,HO'.out,hb'⟩;exact zzU7
     case measure=>go_light;simp[intOf];omega
    .go_wp2_with (at_builtin;refine wpA rfl (apK yPn rfl (w+1) (fs) [x] rfl rfl rfl rfl ?hO ?hc (lN ?hl) ?hb ?_));case hO=>exact HO3.k (qB) qo
     case hc=>exact HN.out wc x
     case hl=>omega
     case hb=>simp;omega
     intro g' cp' w' hO' hgr _;have HO':Hid (OwnE w' (w+1) g' cp' (fs++ [x])):=hO';have hb':Below W0 W0 w':=(hb3.alloc hb3.size _).grown hgr (by simp;omega) (λj hj=>by cases hj;omega);clear hO' hgr;go_wp2;go_roundw;case rel=>
      go_light;refine⟨k+1,g',cp',fs++ [x],true,qo,by go_num,rfl,by simp,?_,HO'.out,hb'⟩;exact zzU7
     case measure=>go_light;simp[intOf];omega
  .have hdr:L.drop k= []:=AK qo;have HD:Hid (L.drop k= []):=hdr;clear hdr;have hkk:k=L.length:=qo
   cases dn
   .obtain⟨d0,d1,d2,d3,d4,d5⟩:=HX.k hb qo 0 e rfl;simp only[AD,AE]at d0 d1 d2 d3 d4 d5;have HF:Hid (fs++ [e]=into L e):=by have h:=HI.out;rw[HD.out]at h;exact h
    go_wp2_with (at_builtin;refine wpA rfl (apK yPn rfl (w+1) fs [e] rfl rfl rfl rfl ?hO ?hc (lN ?hl) ?hb ?_));case hO=>exact HO.k (qB) qo
    case hc=>exact xJx
    case hl=>omega
    case hb=>simp;omega
    intro g' cp' w' hO' hgr _;have HO':Hid (OwnE w' (w+1) g' cp' (fs++ [e])):=hO';have hb':Below W0 W0 w':=(hb.alloc hb.size _).grown hgr (by simp;omega) (λj hj=>by cases hj;omega);clear hO' hgr;go_wp2;go_ret;refine⟨g',cp',?_,?_,hb0.trans (hb'.mono qo)⟩
    .rw[<-HF.out];simp
    .rw[<-HF.out];exact HO'.mono qo
   .have HF:Hid (fs=into L e):=by have h:=HI.out;rw[HD.out]at h;show fs=into L e;simpa [yCk]using h
    go_wp2;go_ret;refine⟨g,cp,?_,?_,hb0.trans (hb.mono qo)⟩
    .rw[<-HF.out];rfl
    .rw[<-HF.out];exact HO.mono qo
theorem yYr(a b:Int):yEc b a= -yEc a b:=by
 unfold yEc;repeat' split
 all_goals omega
theorem yTh(a b:Int):yA2 b a= -yA2 a b:=by
 unfold yA2;repeat' split
 all_goals omega
theorem yE9(a b:Int):yAp (-a) (-b)= -yAp a b:=by
 unfold yAp;by_cases h:a=0
 .simp[h]
 .simp[h]
theorem yA3 a b:yAf b a= -yAf a b:=by unfold yAf;rw[yJ a.j b.j,yJ a.E b.E,yJ a.C b.C,yTh a.f b.f,yYr a.ts b.ts,yE9,yE9,yE9,yE9]
theorem yB1 a:yAf a a=0:=qw (yA3 a a)
theorem yKu:∀{l m:List Ent},Ord l->Ord m->(∀x,x∈l↔x∈m)->l=m
 | [],[],_,_,_=>rfl
 | [],b::m,_,_,h=>by have:=(h b).2 (by simp);simp at this
 |a::l,[],_,_,h=>by have:=(h a).1 (by simp);simp at this
 |a::l,b::m,hl,hm,h=>by
  have hl':=AC.1 hl
  have hm':=AC.1 hm
  have hab:a=b:=by
   rcases AA.1 ((h a).1 (by simp))with e|e
   .exact e
   .rcases AA.1 ((h b).2 (by simp))with e'|e'
    .exact e'.symm
    .have h1:=hm'.1 a e;have h2:=hl'.1 b e';have:=yA3 a b;omega
  subst hab
  congr 1
  refine yKu hl'.2 hm'.2 (λx=>⟨λhx=>?_,λhx=>?_⟩)
  .rcases AA.1 ((h x).1 (AF _ hx))with e|e
   .subst e;have:=hl'.1 x hx;rw[yB1]at this;omega
   .exact e
  .rcases AA.1 ((h x).2 (AF _ hx))with e|e
   .subst e;have:=hm'.1 x hx;rw[yB1]at this;omega
   .exact e
theorem yIc e:∀L:List Ent,(∀x∈L,yAf e x= -1)->yCk e L true=L
 | [],_=>rfl
 |x::r,h=>by
  have h1:=h x (by simp)
  have h2:=yA3 e x
  have h3:yAf x e=1:=qo
  unfold yCk
  rw[iA qo,iA qo,iB rfl,yIc e r (λy hy=>h y (AF _ hy))]
theorem yQ4 e:∀L:List Ent,Ord L->Ord (yCk e L false)/\∀x,x∈yCk e L false↔x=e\/(x∈L/\yAf x e≠0)
 | [],_=>⟨by simp[yCk,Ord],λx=>by simp[yCk]⟩
 |x::r,h=>by
  have h':=AC.1 h
  obtain⟨ih1,ih2⟩:=yQ4 e r h'.2
  rcases yE4 x e with hc|hc|hc
  .have e1:yCk e (x::r) false=x::yCk e r false:=by simp[yCk,hc]
   rw[e1]
   refine⟨AC.2 ⟨λy hy=>?_,ih1⟩,λy=>?_⟩
   .rcases(ih2 y).1 hy with rfl|⟨hy,_⟩
    .exact hc
    .exact h'.1 y hy
   .rw[AA,ih2,AA]
    constructor
    .rintro(rfl|rfl|⟨h1,h2⟩)
     .exact .inr ⟨.inl rfl,qo⟩
     .exact .inl rfl
     .exact .inr ⟨.inr h1,h2⟩
    .rintro(rfl|⟨rfl|h1,h2⟩)
     .exact .inr (.inl rfl)
     .exact .inl rfl
     .exact .inr (.inr ⟨h1,h2⟩)
  .have hr:∀y∈r,yAf e y= -1:=λy hy=>by rw[<-yDc hc];exact h'.1 y hy
   have e1:yCk e (x::r) false=e::r:=by simp[yCk,hc,yIc e r hr]
   rw[e1]
   refine⟨AC.2 ⟨hr,h'.2⟩,λy=>?_⟩
   rw[AA,AA]
   constructor
   .rintro(rfl|h1)
    .exact .inl rfl
    .have h2:=hr y h1;have h3:=yA3 e y;exact .inr ⟨.inr h1,qo⟩
   .rintro(rfl|⟨rfl|h1,h2⟩)
    .exact .inl rfl
    .exact absurd hc h2
    .exact .inr h1
  .have hx:yAf e x= -1:=qw (yA3 x e)
   have hr:∀y∈r,yAf e y= -1:=λy hy=>yI4 hx (h'.1 y hy);have e1:yCk e (x::r) false=e::x::r:=by simp[yCk,hc,yIc e r hr]
   rw[e1];refine⟨AC.2 ⟨λy hy=>?_,h⟩,λy=>?_⟩
   .rcases AA.1 hy with rfl|hy
    .exact hx
    .exact hr y hy
   .rw[AA];constructor
    .rintro(rfl|h1)
     .exact .inl rfl
     .refine .inr ⟨h1,?_⟩;have h3:=yA3 e y;rcases AA.1 h1 with rfl|h1
      .omega
      .have:=hr y h1;omega
    .rintro(rfl|⟨h1,_⟩)
     .exact .inl rfl
     .exact .inr h1
theorem toList_inj(h:a.toList=b.toList):a=b:=by
 rw[ByteArray.toList_eq,ByteArray.toList_eq]at h;cases a;cases b
 simp at h;simpa using h
theorem yK4(L:List Ent) e:(into L e).length<=L.length+1:=yD4 e L false
theorem yIv(e:Ent)(w:Ww):
  (xf 136 #[e.v] w e.c:Prop):=by
 unfold Ent.v;go_enter func136,ntmps136;go_wp2;refine AJ (v:=e.c) (by simp[results,results136,go_sem]) rfl ⟨rfl,?_⟩;exact(qB).alloc (by simp) _
theorem yLg(wx:Ww)(f:Ent):yBx (xw wx #[f.j,f.E,f.C,xu f.ts,xi f.f,f.val] 165) wx 0 [f]:=by exact xJx
variable {cp:Nat}
theorem OwnE.keptG(h:OwnE w O g cp fs)(hg:w.grownBy w' row)(hne:some g≠row):OwnE w' O g cp fs:=
 World.ownsRow.kept h hg (.inr hne)
theorem OwnC.ne_ent(h:OwnC w O g cp es)(h':OwnE w base' g' cp' fs):g≠g':=by
 rcases h.2 with⟨h0,_⟩|⟨g1,cap1,cur,hv,_,hc,_⟩
 .cases h0
 .rcases h'.2 with⟨h0,_⟩|⟨g2,cap2,cur2,hv2,_,hc2,_⟩
  .cases h0
  .simp only[Value.slice.injEq,Option.some.injEq,Addr.mk.injEq,and_true,true_and]at hv hv2;obtain⟨rfl,rfl⟩:=hv;obtain⟨rfl,rfl⟩:=hv2;intro q;rw[q,hc2]at hc;simp at hc
theorem yN5(a b:Ent)(hs:yEh a b=s)(w:Ww):
  (xf 96 #[a.v,b.v] w s:Prop):=hs▸yEg a b w
theorem yTq(b off cap:Nat)(es:List Ent)(w:Ww)(hE:yBx w b off es)(hok:∀e∈es,e.ok)(hB:b<w)(hlen:es.length<=1048576):
  Calls prog 134 #[(xy b off es.length cap)] w λe w'=>∃r:Bool,e=.returned r/\Below w w w':=by
 have HE:Hid (∀wx,Below w w wx->yBx wx b off es):=λwx hx=>hE.k hx hB;have HO:=qH1 hok;clear hE hok;by_cases hbig:10000<es.length
 .go_enter func134,ntmps134;go_wp2;go_ret;exact⟨_,rfl,Below.refl _ _⟩
 go_enter func134,ntmps134;go_wp2;go_loopw[3] (λi wr=>∃(k:Nat),k<=es.length/\i=(xi k)/\Below w w wr) (λi _=>es.length-(intOf i).toNat);case atStart=>exact⟨0,AB _,rfl,Below.refl _ _⟩
 case round=>
  obtain⟨k,hk,rfl,hb⟩:=hrel;by_cases hlt:k<es.length
  .obtain⟨e,he⟩:∃e,es[k]?=some e:=qg hlt;have⟨c0,c1,c2,c3,c4,c5⟩:=HE _ hb k e he;have HK:=hidO (HO e (AG he));clear he;go_wp2_with fail;apply (yGu e.j e.E e.C e.val e.ts e.f _ HK.j HK.E HK.C HK.val).mono;rintro e' w1 ⟨rfl,hb1⟩;have hb2:=hb.trans (hb1.mono hb.size);clear c0 c1 c2 c3 c4 c5 hb1;cases hv:vE e.j e.E e.C e.f e.val
   .go_wp2_with fail;go_ret;exact⟨_,rfl,hb2⟩
   .go_wp2_with fail;go_roundw;case rel=>exact⟨k+1,qo,by go_num,hb2⟩
    case measure=>go_light;simp[intOf];omega
  .go_wp2;go_ret;exact⟨_,rfl,hb⟩
theorem yVn{e x:Ent}:∀{L:List Ent}{d:Bool},x∈yCk e L d->x=e\/x∈L
 | [],d,h=>by cases d<;>simp[yCk]at h;exact .inl h
 |a::L,d,h=>by
  have ih:=λd=> @yVn e x L d
  unfold yCk at h
  repeat' split at h
  all_goals simp only[AA]at h|-
  all_goals grind
def RpL(k:Nat)(L:List Ent):Prop:=L.length<=k/\∀e∈L,e.ok/\e.f=0
theorem RpL.put(h:RpL k L)(he:e.ok/\e.f=0):RpL (k+1) (into L e):=
 ⟨qv (yK4 L e) h.1,λx hx=>(yVn hx).elim (λq=>q▸he) (h.2 x)⟩
theorem xHj(b off cap:Nat)(ws:List Ent)(w:Ww)(hE:yBx w b off ws)(hok:∀e∈ws,e.ok)(hB:b<w)(hlen:ws.length<=1048576):
  Calls prog 78 #[(xy b off ws.length cap)] w λr w'=>
   ∃(g cp:Nat)(L:List Ent),r=.returned (xg g L.length cp)/\OwnC w' w g cp L/\Below w w w'/\RpL ws.length L:=by
 have HE:=qH1 hE;have HO:=qH1 hok;clear hE hok;have⟨W0,hW0⟩:=qW (xw w #[] 70);have hb0:=qN hW0
 have hz0:w.heap.size<W0:=by rw[hW0];simp
 have HC0:Hid (OwnC W0 w w 0 []):=by show OwnC W0 w w 0 [];rw[hW0];exact yGa w
 have HE0:=qH1 (HE.k hb0 hB);go_enter func78,ntmps78;go_wp2_with fail;rw[<-hW0];clear hW0;apply (yTq b off cap ws _ HE0.out HO.out qo hlen).mono;rintro e w1 ⟨r,rfl,hb1⟩;have hs1:=hb1.size;have k1:=hb0.trans (hb1.mono qo);have HC1:=qH1 (HC0.k hb1 hz0);cases r
 .go_wp2;go_ret;exact⟨_,0,[],rfl,HC1,k1,by simp[RpL]⟩
 have⟨W1,hW1⟩:=qW (xw w1 #[] 165);have hbA:=qN hW1
 have hzA:w1.heap.size<W1:=by rw[hW1];simp
 have HL1:Hid (OwnE W1 w1 w1 0 []):=by show OwnE W1 w1 w1 0 [];rw[hW1];exact World.ownsRow_made w1 #[] 0 qr (AB _) (by simp)
 have HE1:=qH1 ((HE0.k hb1 qo).k hbA qo);have HCA:=qH1 (HC1.k hbA qo);go_wp2_with fail;rw[<-hW1];clear hW1;go_loopw[4,5] (λo i wr=>∃(k g cp:Nat)(L:List Ent),k<=ws.length/\i=(xi k)/\o=(xg g L.length cp)/\OwnE wr w1 g cp L/\RpL k L/\Below W1 W1 wr) (λ_ i _=>ws.length-(intOf i).toNat);case atStart=>exact⟨0,_,0,[],AB _,rfl,rfl,HL1,⟨AI _,λ_ h=>by cases h⟩,Below.refl _ _⟩
 case round=>
  obtain⟨k,g,cp,L,hk,rfl,rfl,hO,hK,hb⟩:=hrel;obtain⟨wo,rfl⟩:=qW wr;have HK:=qH2 hO hK;have hg:=hO.lt;have hLl:=hK.1;have hs:=hb.size;clear hO hK;by_cases hlt:k<ws.length
  .obtain⟨e,he⟩:∃e,ws[k]?=some e:=qg hlt;have HEo:=qH1 (HE1.k hb qo);have⟨c0,c1,c2,c3,c4,c5⟩:=HEo k e he;have HKe:=qH1 he;clear he;have⟨W2,hW2⟩:=qW (xw wo #[e.j,e.E,e.C,xu e.ts,xi e.f,e.val] 165);have hbW:=qN hW2
   have hzW:wo.heap.size<W2:=by rw[hW2];simp
   have hzE:=qS hW2
   have HN1:Hid (yBx W2 wo 0 [e]):=by show yBx W2 wo 0 [e];rw[hW2];exact yLg wo e
   have HL2:=qH1 (HK.1.k hbW hg.2);have hbX:=hb.trans (hbW.mono hs);cases g2:(e.f==0)
   .have HK2:Hid (¬e.f=0):=by show¬e.f=0;simpa using g2
    have⟨W3,hW3⟩:=qW (xw W2 #[] 165);have hb3:=qN hW3
    have hz3:W2.heap.size<W3:=by rw[hW3];simp
    have HL3:=qH1 (HL2.k hb3 qo);have HN3:=qH1 (HN1.k hb3 hzW);have HF3:Hid (OwnE W3 W2 W2 0 []):=by show OwnE W3 W2 W2 0 [];rw[hW3];exact World.ownsRow_made W2 #[] 0 qr (AB _) (by simp)
    go_wp2_with fail;rw[<-hW2,<-hzE,<-hW3];clear hW2 hW3 hzE c0 c1 c2 c3 c4 c5;go_loopw[7,8] (λl i wr=>∃(j g2 cp2:Nat)(F:List Ent),j<=L.length/\i=(xi j)/\l=(xg g2 F.length cp2)/\OwnE wr W2 g2 cp2 F/\(F.length<=j/\∀x∈F,x∈L)/\Below W2 W2 wr) (λ_ i _=>L.length-(intOf i).toNat);case atStart=>exact⟨0,_,0,[],AB _,rfl,rfl,HF3,⟨AI _,λ_ h=>by cases h⟩,hb3⟩
    case round=>
     obtain⟨j,g3,cp3,F,hj,rfl,rfl,hF,hFL,hbi⟩:=hrel;have HF:=qH1 hF;have HFL:=qH1 hFL;have hg3:=hF.lt;have hlf:=hFL.1;clear hF hFL;have hsi:=hbi.size;by_cases hjl:j<L.length
     .obtain⟨x,hx⟩:∃x,L[j]?=some x:=qg hjl;have HX:Hid (L[j]?=some x):=hx;have hec:∀wx,Below W2 W2 wx->yBx wx g 0 L/\yBx wx wo 0 [e]:=λwx h=>⟨(HL2.k h qo).at,HN1.k h hzW⟩;have HEC:Hid (∀wx,Below W2 W2 wx->yBx wx g 0 L/\yBx wx wo 0 [e]):=hec;clear hec hx;have⟨c0,c1,c2,c3,c4,c5⟩:=(HEC wr hbi).1 j x HX;have⟨d0,d1,d2,d3,d4,d5⟩:=(HEC wr hbi).2 0 e rfl;simp only[AD,AE]at c0 c1 c2 c3 c4 c5 d0 d1 d2 d3 d4 d5;have z2:(j:Int)<(L.length:Int):=qo
      go_upto_region 15 with fail;go_cut[9] (λs wx=>(∃h:Bool,s=h)/\Below wr wr wx);case first=>
       have⟨q0,q1,q2,q3,q4,q5⟩:=yVz (HEC wr hbi).1 qo HX;have⟨r0,r1,r2,r3,r4,r5⟩:=yVz (HEC wr hbi).2 qo (rfl: [e][0]?=some e);simp only[AD,AE]at q0 q1 q2 q3 q4 q5 r0 r1 r2 r3 r4 r5;clear c0 c1 c2 c3 c4 c5 d0 d1 d2 d3 d4 d5;have inh:Nonempty (Out wr):=⟨⟨wr,Below.refl _ _⟩⟩;cases hsc:yEh x e
       case' true=>cases hts:(x.ts==e.ts)
       case' true.false=>cases hk2:(e.f==2)
       all_goals apply yAv qk qk
       all_goals repeat (go_big_quiet_step ((go_at_call 96;exact Calls.out_of (yN5 x e hsc _))))
       all_goals apply wpQuiet_nil
       all_goals rintro wx ⟨⟨wy,hby⟩,rfl⟩
       all_goals go_wp2_with fail
       all_goals go_meet
       all_goals exact⟨⟨_,rfl⟩,hby⟩
      case rest=>
      obtain⟨⟨hh,rfl⟩,h3⟩:=hcut;have hb4:Below W2 W2 wc:=hbi.trans (h3.mono hsi);have HF4:=hidO (HF.k h3 hg3.2);have hs4:=h3.size;clear c0 c1 c2 c3 c4 c5 d0 d1 d2 d3 d4 d5;have⟨c0,c1,c2,c3,c4,c5⟩:=(HEC wc hb4).1 j x HX;simp only[AD,AE]at c0 c1 c2 c3 c4 c5;cases hh
      .go_wp2_with (at_builtin;refine wpA rfl (apK yPn rfl W2 F [x] rfl rfl rfl rfl ?hO ?hc (lN ?hl) ?hb ?_));case hO=>exact HF4.k (qB) qo
       case hc=>exact yLg wc x
       case hl=>omega
       case hb=>simp;omega
       intro g' cp' w' hO' hgr _;have HO':=hidO hO';have hb':Below W2 W2 w':=(hb4.alloc hb4.size _).grown hgr (by simp;omega) (λj hj=>by cases hj;omega);have HF':Hid ((F++ [x]).length<=j+1/\∀y∈F++ [x],y∈L):=⟨by simp;omega,λy hy=>(List.mem_append.1 hy).elim (HFL.2 y) (λq=>by rw[List.mem_singleton.1 q];exact AG HX)⟩;clear hO' hgr;go_wp2;go_roundw;case rel=>exact⟨j+1,g',cp',F++ [x],qo,by go_num,by simp,HO',HF',hb'⟩
       case measure=>go_light;simp[intOf];omega
      .go_wp2_with fail;go_roundw;case rel=>exact⟨j+1,g3,cp3,F,qo,by go_num,rfl,HF4,⟨qo,HFL.2⟩,hb4⟩
       case measure=>go_light;simp[intOf];omega
     .have HS':Hid (RpL (k+1) F):=⟨qo,λx hx=>HK.2.2 x (HFL.2 x hx)⟩;have hb5:Below W1 W1 wr:=hbX.trans (hbi.mono qo);go_wp2_with fail;go_roundw;case rel=>exact⟨k+1,g3,cp3,F,qo,by go_num,rfl,HF.mono qo,HS',hb5⟩
      case measure=>go_light;simp[intOf];omega
   .have HK2:Hid (e.f=0):=by show e.f=0;simpa using g2
    have HS':=hidO (HK.2.put ⟨HO e (AG HKe),HK2⟩);go_wp2_with fail;rw[<-hW2];clear hW2 hzE c0 c1 c2 c3 c4 c5;apply (yQ5 g 0 cp L e _ HL2.at qo qo).mono;rintro e' w3 ⟨g',cp',rfl,hO',hb4⟩;have HO':Hid (OwnE w3 W2 g' cp' (into L e)):=hO';have hb5:=hbX.trans (hb4.mono qo);clear hO';go_wp2_with fail;go_roundw;case rel=>exact⟨k+1,g',cp',into L e,qo,by go_num,rfl,HO'.mono qo,HS',hb5⟩
    case measure=>go_light;simp[intOf];omega
  .have hkk:k=ws.length:=qo
   have HKK:Hid (RpL ws.length L):=hkk▸HK.2;clear hkk;have hbw:Below w w wo:=(k1.trans (hbA.mono qo)).trans (hb.mono qo);have HCo:Hid (OwnC wo w w 0 []):=HCA.k hb qo;go_wp2_with fail;go_loopw[3,10] (λo i wr=>∃(m g5 cp5:Nat),m<=L.length/\i=(xi m)/\o=(xg g5 m cp5)/\OwnC wr w g5 cp5 (L.take m)/\OwnE wr w1 g cp L/\Below w w wr) (λ_ i _=>L.length-(intOf i).toNat);case atStart=>exact⟨0,_,0,AB _,rfl,rfl,HCo,HK.1,hbw⟩
   case round=>
    obtain⟨m,g5,cp5,hm,rfl,rfl,hC,hL,hbm⟩:=hrel;have HM:Hid (OwnC wr w g5 cp5 (L.take m)/\OwnE wr w1 g cp L):=⟨hC,hL⟩;have hg5:=hC.lt;have hgl:=hL.lt;have hne:=hC.ne_ent hL;have hsm:=hbm.size;have HTM:Hid (m=(L.take m).length):=by show m=(L.take m).length;rw[List.length_take];omega
    clear hC hL;by_cases hlt:m<L.length
    .obtain⟨x,hx⟩:∃x,L[m]?=some x:=qg hlt;have HX:Hid (L.take (m+1)=L.take m++ [x]):=by show L.take (m+1)=L.take m++ [x];rw[List.take_add_one,hx];rfl
     have⟨c0,c1,c2,c3,c4,c5⟩:=HM.2.at m x hx;simp only[AD,AE]at c0 c1 c2 c3 c4 c5;clear hx;go_wp2_with fail;apply (yIv x _).mono;rintro e' w3 ⟨rfl,hb3⟩;have hs3:=hb3.size;have HM3:Hid (OwnC w3 w g5 cp5 (L.take m)/\OwnE w3 w1 g cp L):=⟨HM.1.k hb3 hg5.2,HM.2.k hb3 hgl.2⟩;have hbm3:Below w w w3:=hbm.trans (hb3.mono qo);clear c0 c1 c2 c3 c4 c5 hb3;go_wp2_with (at_builtin;refine wpA rfl (apK yY rfl w (L.take m) [x] rfl rfl HTM rfl ?hO ?hc (lN ?hl) ?hb ?_));case hO=>exact HM3.1.k (qB) qo
     case hc=>exact yIn w3 x
     case hl=>rw[<-HTM];omega
     case hb=>simp;omega
     intro g' cp' w' hO' hgr _;have HO':Hid (OwnC w' w g' cp' (L.take (m+1))):=by show OwnC w' w g' cp' (L.take (m+1));rw[HX];exact hO'
     have hb':Below w w w':=(hbm3.alloc hbm3.size _).grown hgr (by simp;omega) (λj hj=>by cases hj;omega);have HL':Hid (OwnE w' w1 g cp L):=OwnE.keptG (HM3.2.k (qB) qo) hgr (λq=>hne (Option.some.inj q).symm);clear hO' hgr;go_wp2_with fail;go_roundw;case rel=>exact⟨m+1,g',cp',qo,by go_num,rfl,HO',HL',hb'⟩
     case measure=>go_light;simp[intOf];omega
    .have HT:Hid (L.take m=L):=List.take_of_length_le qo;go_wp2_with fail;go_ret;refine⟨g5,cp5,L,?_,?_,hbm,HKK⟩
     .have e1:m=L.length:=qo
      show Ending.returned (Value.slice (some ⟨g5,0,none⟩) m cp5)=_;rw[e1]
     .have h:=HM.1;rw[HT]at h;exact h
theorem yY3(a:Option Addr)(n cap:Nat) w (hn:n<=1048576):
  Calls prog 80 #[.slice a n cap] w λe w'=>∃k:Nat,e=.returned (xi k)/\k<=22/\w'=w:=by
 by_cases hb:(22:Int)<8+(n:Int)/16
 .go_enter func80,ntmps80;go_wp2;go_ret;exact⟨22,rfl,AI _,rfl⟩
 .obtain⟨k,hk⟩:∃k:Nat,(8:Int)+(n:Int)/16=(k:Int):=⟨8+n/16,qo⟩;have hk2:k<=22:=qo
  go_enter func80,ntmps80;go_wp2;go_ret;exact⟨k,rfl,hk2,rfl⟩
theorem yQk(b off cap b' off' cap':Nat)(es:List Ent)(w:Ww)(hE:yBy w b off es)(hE':yBy w b' off' es)(hB:b<w.heap.size)(hB':b'<w.heap.size)(hlen:es.length<=maxLen):
  (xf 15 #[(xy b off es.length cap),(xy b' off' es.length cap')] w true:Prop):=by
 have HE:=qH2 hE hE';clear hE hE';unfold maxLen at hlen;go_enter func15,ntmps15;go_wp2;go_loopw[5] (λi wr=>∃(k:Nat),k<=es.length/\i=(xi k)/\Below w w wr) (λi _=>es.length-(intOf i).toNat);case atStart=>exact⟨0,AB _,rfl,Below.refl _ _⟩
 case round=>
  obtain⟨k,hk,rfl,hb⟩:=hrel;have hs2:=hb.size;by_cases hlt:k<es.length
  .obtain⟨e,he⟩:∃e,es[k]?=some e:=qg hlt;obtain⟨c0,c1,c2,c3,c4⟩:=HE.1.k hb hB k e he;obtain⟨d0,d1,d2,d3,d4⟩:=HE.2.k hb hB' k e he;clear he;go_upto_region 6 with fail;go_cut[25] (λs wx=>s=false/\Below w w wx);case first=>
    have z2:(k:Int)<(es.length:Int):=qo
    go_region;all_goals go_wp2_with fail
    all_goals go_meet
    all_goals exact⟨rfl,hb.drew⟩
   case rest=>
   obtain⟨rfl,h3⟩:=hcut;clear c0 c1 c2 c3 c4 d0 d1 d2 d3 d4;refine zY ?_;exact⟨k+1,qo,by go_num,h3⟩
  .go_wp2;go_ret;exact⟨rfl,hb⟩
theorem yS4(h:OwnC w O g cp es)(h':OwnC w base' g' cp' es):
  (xf 15 #[xg g es.length cp,xg g' es.length cp'] w true:Prop):=
 yQk g 0 cp g' 0 cp' es w h.at h'.at h.lt.2 h'.lt.2 (Nat.le_trans h.caps.1 h.caps.2)
end Go.Proofs.YtnnagkfoiganfaaGreatDoor
