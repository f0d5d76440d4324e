import Derived.Test.YtnnagkfoiganfaaGreatDoorHkAB
import Derived.Test.YtnnagkfoiganfaaGreatDoorHkAC
import Derived.Test.YtnnagkfoiganfaaGreatDoorHkAD
namespace Go.Proofs.YtnnagkfoiganfaaGreatDoor
open Go.ChangeShapes Go.WideShapes Go.ChangeAt Go.RowKit Go.Deep XD XI XU XG XP XK XW XT XF XE XH _root_.List _root_.Nat XY Go.Proofs.Tryz
open _root_.BitVec renaming ofInt->AK
open _root_.Go renaming bodyPost_ret->AM,run_convert_bytes_back->AR,heap_alloc2_old->AW,heap_alloc2_new->AX
open _root_.Go.World renaming ownsRow_made->AH
open _root_.Go.World.ownsRow renaming cellAt->AB,lt->AD,frozenAt->AG,stored->AI,kept->AV
open _root_.Int renaming eq_ofNat_of_zero_le->AO,emod_lt_of_pos->AS,emod_nonneg->AT
open _root_.List renaming getElem?_eq_getElem->AF,mem_of_getElem?->AJ,getElem?_map->AN,length_append->AU
open _root_.Nat renaming zero_le->AA,zero_add->AC,zero_mul->AE,le_refl->AL,le_trans->AP,mul_le_mul_right->AQ,add_mul->AY
set_option linter.unusedVariables false
set_option linter.unusedSimpArgs false
set_option maxRecDepth 100000
set_option maxHeartbeats 64000000
set_option linter.unnecessarySimpa false
variable {p:Prop} {zs:List U8} {g cap cp fuel:Nat} {v x y:Vv} {t:Pat} {lo:Nat->Prop} {ts:List Pat} {os:List (List Pat)} {Q:Exit->Act->Ww->Prop} {a:Act} {o:Oper} {rest:List Oper} {ops:Array Oper} {hh:Int} {row:Option Nat} {wr:Ww} {fs es L:List Ent} {s:Bool} {e:Ent}
def mixL(R S:PS)(k:Nat):List Vv:= [.int .u64 (if 0<k then(wdN R 0:Int)else(wdN S 0:Int)),.int .u64 (if 1<k then(wdN R 1:Int)else(wdN S 1:Int)),.int .u64 (if 2<k then(wdN R 2:Int)else(wdN S 2:Int)),.int .u64 (if 3<k then(wdN R 3:Int)else(wdN S 3:Int))]
theorem yXk R S:mixL R S 0=psL S:=by simp[mixL,psL]
theorem xAy R S:mixL R S 4=psL R:=by simp[mixL,psL]
theorem xD7 R S {k:Nat} (hk:k<4):(mixL R S k)[k]?=some (.int .u64 (wdN S k:Int)):=by rcases(by omega:k=0\/k=1\/k=2\/k=3)with rfl|rfl|rfl|rfl<;>simp[mixL]
theorem xAx R S {k:Nat} (hk:k<4):(mixL R S k).set k (xu (wdN R k))=mixL R S (k+1):=by rcases(by omega:k=0\/k=1\/k=2\/k=3)with rfl|rfl|rfl|rfl<;>simp[mixL]
theorem xHf S {k:Nat} (hk:k<4):(psL S)[k]?=some (.int .u64 (wdN S k:Int)):=by rcases(by omega:k=0\/k=1\/k=2\/k=3)with rfl|rfl|rfl|rfl<;>simp[psL]
abbrev z4:Array Vv:=#[.int .u64 0,.int .u64 0,.int .u64 0,.int .u64 0]
theorem zPJ (h:p:=by
 have HI:=qH1 (box3 (w:=w) (a:=(psL S).toArray) (s:=328) (b:=(psL T).toArray) (t:=328) (c:=z4) (u:=328) rfl)
 (first|go_enter func247,ntmps247|go_enter func234,ntmps234);go_wp2;go_loopw[6] (λiv wr=>∃k:Nat,k<=4/\iv=(xi k)/\Hid (yA wr w 328 4 w (mixL R S k)/\yA wr w 328 4 (w+1) (psL T)/\yA wr w 328 4 (w+1+1) z4.toList/\Below w w wr)) (λiv _=>4-(intOf iv).toNat);case atStart=>exact⟨0,qo,rfl,by rw[yXk];exact HI.out⟩
 case round=>
  obtain⟨k,hk,rfl,HJ⟩:=hrel;by_cases hlt:k<4
  .have zk:(k:Int)<4:=qo
   have c0:=HJ.1.z (xD7 R S hlt);have c1:=HJ.2.1.z (xHf T hlt);have f0:=HJ.1.frozen k;have wo:=hR k;go_upto_region 4 with fail;refine yAf 8 (λwz=>xk wz w k (xu (wdN S k))/\xk wz (w+1) k (xu (wdN T k))) qk ?_;apply ja 0 ⟨by simpa using c0,by simpa using c1⟩;iterate 7 apply jb ⟨by simpa using c0,by simpa using c1⟩
   refine qO 8 rfl λK hK=>?_;go_simp;apply hK.out _ _ (.inl rfl);refine jS ?_;refine qD ?_;have a0:Hid (yA (xt wr.drew w k (xu (wdN R k))) w 328 4 w (mixL R S (k+1))/\yA (xt wr.drew w k (xu (wdN R k))) w 328 4 (w+1) (psL T)/\yA (xt wr.drew w k (xu (wdN R k))) w 328 4 (w+1+1) z4.toList/\Below w w (xt wr.drew w k (xu (wdN R k)))):=by have kd:Below wr wr wr.drew:=(Below.refl _ _).drew;refine⟨?_,(HJ.2.1.k kd).Q qo _ _,(HJ.2.2.1.k kd).Q qo _ _,yAc HJ.2.2.2.drew qr _ _⟩;rw[<-xAx _ _ hlt];exact(HJ.1.k kd).set k _
   go_wp2_with fail;refine⟨⟨k+1,qo,by go_num,a0⟩,?_⟩;go_light;simp[intOf];omega
  .obtain rfl:k=4:=qo
   rw[xAy]at HJ;obtain⟨c0,c1,c2,c3⟩:=HJ.1.c4;obtain⟨d0,d1,d2,d3⟩:=HJ.2.2.1.c4;obtain⟨f0,f1,f2,f3⟩:=HJ.2.2.1.f4;have a1:=HJ.2.2.1.lt.2;go_wp2_with fail;refine bodyPost_ret (v:=psV R) (by simp[results,results247,results234,go_sem,d0,d1,d2,d3]) rfl ⟨rfl,?_⟩;repeat (first|exact HJ.2.2.2|refine Below.drew ?_|refine yAc ?_ qo _ _)):p:=h
theorem yDd S T (w:Ww):(xf 247 #[psV S,psV T] w (psV (sOr S T)):Prop):=by have hR:=xIi S T;generalize sOr S T=R at*;exact zPJ
theorem yJ7 S T (w:Ww):(xf 234 #[psV S,psV T] w (psV (sAnd S T)):Prop):=by have hR:=xG1 S T;generalize sAnd S T=R at*;exact zPJ
theorem yWz(b:U8)(w:Ww):(Instr.typeAssert (yP0 b) 346 348 true).run prog w=.ok (.tuple #[.agg #[.int .u8 (b.toNat:Int)],true]) w:=qk
theorem xAl{T:Nat}(hT:T=360\/T=362\/T=304)(cs:Array Vv)(w:Ww):(Instr.typeAssert (.iface T (.agg cs)) 346 348 true).run prog w=.ok (.tuple #[.agg #[.int .u8 0],false]) w:=by rcases hT with rfl|rfl|rfl<;>kernel_rfl
variable {w:Ww} {O:Nat}
theorem yHe(h:OwnY w O g cap zs):(convert 22 9 (xg g zs.length cap)).run prog w=.ok (.string ⟨zs.toArray⟩) w:=by apply AR (P:=prog) w 22 9 5 (xd g 0) cap zs underlying22 underlying5 underlying9;intro i hi;have:=AB h i qo;rw[Addr.add_mid,AC,this,AN,AF hi];rfl
theorem yBt.f(h:yBt w lo t v):(∃b,t=.byte b/\v=yP0 b)\/(¬yPc t/\∃T cs,v=.iface T (.agg cs)/\(T=360\/T=362\/T=304)):=by
 have⟨n,hn⟩:=h;cases n with
 |zero=>exact hn.elim
 |succ n=>
  cases t with
  |byte b=>exact .inl ⟨b,rfl,hn⟩
  |cls f=>exact .inr ⟨λh=>h,_,_,hn,.inl rfl⟩
  |rep t o r=>have⟨u,h1,_⟩:=hn;exact .inr ⟨λh=>h,_,_,h1,.inr (.inl rfl)⟩
  |alt os=>have⟨u,h1,_⟩:=hn;exact .inr ⟨λh=>h,_,_,h1,.inr (.inr rfl)⟩
variable {R:Nat->Prop} {u:Vv}
theorem yGo.nth(h:yGo w R ts u):∃a cp,u=.slice a ts.length cp/\∀k t,ts[k]?=some t->∃gs v,a=some ⟨gs,0,none⟩/\gs<w/\xk w gs k v/\yBt w R t v:=by
 obtain⟨n,h|⟨g,cp,us,h1,h2,h3,h4⟩⟩:=h
 .obtain⟨rfl,rfl⟩:=h;exact⟨none,0,rfl,λk t ht=>by simp at ht⟩
 .refine⟨_,cp,h1,λk t ht=>?_⟩;have hk:=qf ht;obtain⟨v,hv⟩:∃v,us[k]?=some v:=qg qo;exact⟨g,v,rfl,h3.lt,h3.val k v hv,n,h4 k v t hv ht⟩
structure PxJ(w:Ww)(ts:List Pat)(k g cp:Nat)(xs:List U8)(wr:Ww):Prop where
 X:xs.length=k
 pre:yBa ts=(xs++(yBa (ts.drop k)).1,(yBa (ts.drop k)).2)
 Z:OwnY wr (w+2) g cp xs
 res:yA wr w 268 2 (w+1) [xe,false]
 k:Below w w wr
def set2(w:Ww)(g:Nat)(a b:Vv):Ww:=(xt (w.setCell (xd g 0) a) g 1 b)
theorem yCs{t:Nat}(h:yA w O t 2 g [x,y])(a b:Vv):yA (set2 w g a b) O t 2 g [a,b]:=((h.set 0 a).set 1 b)
theorem yQx(h:yGo w R ts u)(hl:ts.length<=1000):(xf 222 #[.agg #[u]] w (.agg #[.string ⟨(yBa ts).1.toArray⟩,(yBa ts).2]):Prop):=by
 obtain⟨a,cp,rfl,hn⟩:=h.nth;have HN:=qH1 hn;have⟨n,a8⟩:=qE ts.length;have HL:=qH1 a8;rw[<-a8]at hl|-;clear a8;have⟨W0,a7⟩:=qW (xw ((w.alloc (Obj.cells #[.slice a n cp] 316)).alloc (Obj.cells #[xe,false] 268)) #[] 5);have ad:Hid (PxJ w ts 0 (w+2) 0 [] W0/\xk W0 w 0 (.slice a n cp)):=by
  have⟨V,hV⟩:=qW (xw (w.alloc (Obj.cells #[.slice a n cp] 316)) #[xe,false] 268);have hz:V.heap.size=w.heap.size+2:=by rw[hV];simp
  have am:Below w w V:=hV▸((qB).alloc (by simp) _)
  have b1:yA V w 316 1 w [.slice a n cp]:=hV▸(yA.ofHeap (vs:=#[.slice a n cp]) (AW w _ _) qr rfl)
  have b2:yA V w 268 2 (w+1) [xe,false]:=by rw[hV];exact yA.ofHeap (vs:=#[.string ⟨#[]⟩,.bool false]) (AX w _ _) qo rfl
  have ac:Below V V W0:=by rw[a7,<-hV];exact qB
  refine⟨⟨rfl,by simp,?_,b2.k ac,am.trans (ac.mono qo)⟩,(b1.k ac).z (j:=0) rfl⟩;rw[a7,<-hV,<-hz];exact yT V qr
 go_enter func222,ntmps222;go_upto_region 2 with fail;rw[<-a7];clear a7;have c0:=ad.2;go_wp2_with fail;clear c0;go_loopw[3,12] (λo i wr=>∃(k g cq:Nat)(xs:List U8),k<=n/\i=(xi k)/\o=(xg g k cq)/\PxJ w ts k g cq xs wr) (λ_ i _=>n-(intOf i).toNat);case atStart=>exact⟨0,_,0,[],AA _,rfl,rfl,ad.1⟩
 case round=>
  obtain⟨k,g,cq,xs,hk,rfl,rfl,hJ⟩:=hrel;have HJ:Hid (PxJ w ts k g cq xs wr):=hJ;have ar:=hJ.Z.lt;have a6:=hJ.X;have af:=hJ.k.size;obtain⟨r0,r1⟩:=hJ.res.c2;obtain⟨f0,f1⟩:=hJ.res.f2;clear hJ ad;by_cases hlt:k<n
  .have zk:(k:Int)<(n:Int):=qo
   obtain⟨t,ht⟩:∃t,ts[k]?=some t:=qg (qw HL.out);obtain⟨gs,v,rfl,al,hv,hN⟩:=HN.out k t ht;have ae:(xk wr gs k v:Prop):=by rw[(Chg.h HJ.k (S:=λ_=>False)).z (p:=(xd gs k)) al (λq=>q)];exact hv
   have ah:ts.drop k=t::ts.drop (k+1):=by rw[drop_eq_getElem_cons (qw HL.out)];congr 1;exact Option.some.inj ((AF (qw HL.out)).symm.trans ht)
   have HD:Hid (ts.drop k=t::ts.drop (k+1)):=ah;clear hv ah ht;rcases hN.f with⟨b,rfl,rfl⟩|⟨ag,T,cs,rfl,hT⟩
   .have ha:=yWz b;clear hN;have HP:Hid (yBa ts=((xs++ [b])++(yBa (ts.drop (k+1))).1,(yBa (ts.drop (k+1))).2)):=by show yBa ts=_;rw[HJ.pre,HD.out];simp[yBa]
    obtain⟨W5,a2⟩:=qW (xw wr #[.int .u8 (b.toNat:Int)] 348);have a3:=qN a2
    have ak:=qS a2
    have a1:Hid (PxJ w ts k g cq xs W5):=⟨HJ.X,HJ.pre,HJ.Z.k a3,HJ.res.k a3,HJ.k.trans (a3.mono af)⟩;have b5:(xk W5 wr 0 (.int .u8 (b.toNat:Int)):Prop):=by rw[a2];exact(yAa wr (O:=0) (t:=348) (sz:=1) #[.int .u8 (b.toNat:Int)] (AA _) rfl).z (j:=0) rfl
    go_upto_region 6 with fail;rw[<-a2];clear a2 ae r0 r1 f0 f1 ha HJ;obtain⟨W6,a0⟩:=qW (xw W5 #[.int .u8 (b.toNat:Int)] 5);have ab:=qN a0
    have aq:=qS a0
    have a5:Hid (PxJ w ts k g cq xs W6/\xBm W6 (wr+1) 0 [b]):=by refine⟨⟨a1.X,a1.pre,a1.Z.k ab,a1.res.k ab,a1.k.trans (ab.mono qo)⟩,?_⟩;rw[a0,<-ak];exact(yG3 W5 qr b rfl).at
    go_wp2_with (at_builtin;rw[<-a0];refine wpA rfl (apK xIv rfl (w+2) xs [b] rfl rfl ?hn rfl ?hO ?hc ?hl ?hb ?_));case hn=>exact a6.symm
    case hO=>exact a5.1.Z
    case hc=>exact a5.2
    case hl=>simp;omega
    case hb=>omega
    intro g' aj w' ai a9 an;rw[<-a0]at a9;have ao:Hid (PxJ w ts (k+1) g' aj (xs++ [b]) w'):=by have hC:Chg (λj=>j=g) W6 w':=Chg.M a9 (λj hj=>by cases hj;rfl);refine⟨by simp[a6],HP.out,ai,a5.1.res.i hC (by omega),?_⟩;exact Chg.k a5.1.k hC a5.1.k.size (λj q=>by omega)
    clear ai a9 an a0 b5;refine zY ?_;exact⟨k+1,g',aj,xs++ [b],qo,by go_num,rfl,ao.out⟩
   .have ha:=xAl hT cs;have HP:Hid (yBa ts=(xs,false)):=by show yBa ts=_;rw[HJ.pre,HD.out,yG2 ag];simp
    obtain⟨W5,a2⟩:=qW (xw wr #[.int .u8 0] 348);have a3:=qN a2
    have a1:Hid (PxJ w ts k g cq xs W5):=⟨HJ.X,HJ.pre,HJ.Z.k a3,HJ.res.k a3,HJ.k.trans (a3.mono af)⟩;go_upto_region 6 with fail;rw[<-a2];clear a2 ae r0 r1 f0 f1 ha HJ hN ag hT;have aa:=yHe a1.Z;rw[a6]at aa;obtain⟨r0,r1⟩:=a1.res.c2;obtain⟨f0,f1⟩:=a1.res.f2;obtain⟨W6,a0⟩:=qW (set2 W5 (w+1) (.string ⟨xs.toArray⟩) false);have a4:Hid (yA W6 w 268 2 (w+1) [.string ⟨xs.toArray⟩,false]/\Below w w W6):=by rw[a0];exact⟨yCs a1.res _ _,yAc (yAc a1.k qo 0 _) qo 1 _⟩
    obtain⟨p0,p1⟩:=a4.1.c2;unfold set2 at a0;go_wp2_with fail;rw[<-a0];rw[HP.out];refine AM (v:=.agg #[.string ⟨xs.toArray⟩,false]) (by simp[results,results222,go_sem,p0,p1]) rfl ⟨rfl,a4.2⟩
  .have zk:¬(k:Int)<(n:Int):=qo
   have HP:Hid (yBa ts=(xs,true)):=by show yBa ts=_;rw[HJ.pre,drop_eq_nil_of_le (qw HL.out)];simp[yBa]
   have aa:=yHe HJ.Z;rw[a6]at aa;obtain⟨W6,a0⟩:=qW (set2 wr (w+1) (.string ⟨xs.toArray⟩) true);have a4:Hid (yA W6 w 268 2 (w+1) [.string ⟨xs.toArray⟩,true]/\Below w w W6):=by rw[a0];exact⟨yCs HJ.res _ _,yAc (yAc HJ.k qo 0 _) qo 1 _⟩
   obtain⟨p0,p1⟩:=a4.1.c2;unfold set2 at a0;go_wp2_with fail;rw[<-a0];rw[HP.out];refine AM (v:=.agg #[.string ⟨xs.toArray⟩,true]) (by simp[results,results222,go_sem,p0,p1]) rfl ⟨rfl,a4.2⟩
theorem yD2.nth(h:yD2 w R os u):∃g cp,u=(xg g os.length cp)/\g<w/\∀k ts,os[k]?=some ts->∃v,xk w g k v/\yGo w R ts v:=by have⟨n,g,cp,us,h1,h2,h3,h4⟩:=h;refine⟨g,cp,h1,h3.lt,λk ts ht=>?_⟩;have hk:=qf ht;obtain⟨v,hv⟩:∃v,us[k]?=some v:=qg qo;exact⟨v,h3.val k v hv,n,h4 k v ts hv ht⟩
theorem yQy(p:Ba)(h:(yA0 (sb p)).1=0):∃os,yE8 (sb p) 0 0 p.size os:=by
 obtain⟨e,w',fr,⟨_,_,_,os,_,_,h1,_⟩,_⟩:=yC p default h [];exact⟨os,h1⟩
def yT4(p:Ba)(r:List U8×Bool):Prop:=(¬(yA0 (sb p)).1=0->r=([],false))/\((yA0 (sb p)).1=0->∀os,yE8 (sb p) 0 0 p.size os->r=yS7 os)
theorem yJo(p:Ba):∃r,yT4 p r:=by
 by_cases h:(yA0 (sb p)).1=0
 .have⟨os,ho⟩:=yQy p h;exact⟨yS7 os,λq=>absurd h q,λ_ us hu=>yUn (by rw[yAe];exact ho) (by rw[yAe];exact hu)⟩
 .exact⟨_,λ_=>rfl,λq=>absurd q h⟩
theorem ySy{A:List U8->Pat->Prop}(hA:∀xs t,A xs t->0<xs.length):∀{ts:List Pat}{xs:List U8},SeqG A ts xs->ts.length<=xs.length
 | [],_,_=>AA _
 |_::ts,_,⟨ys,zs,h1,⟨us,ops,a,h2,h3,_⟩,h4⟩=>by
  have:=ySy hA h4
  have:=hA _ _ h3
  rw[h1,h2]
  simp
  omega
theorem yJy(p:Ba)(w:Ww)(hg:(yA0 (sb p)).1=0)(r:List U8×Bool)(hr:yT4 p r):(xf 198 #[p] w (.agg #[.string ⟨r.1.toArray⟩,r.2]):Prop):=by
 have hs:=(yPy hg).1;rw[yAe]at hs;have⟨W0,aa⟩:=qW (xw w #[xe,false] 268);have a6:Hid (yA W0 w 268 2 w [xe,false]/\Below w w W0):=aa▸⟨yAa w _ qr rfl,qB⟩
 have HP:=qH1 (yC p W0 hg);have hr:=hr.2 hg;clear hg;go_enter func198,ntmps198;go_upto_region 1 with fail;rw[<-aa];clear aa;go_wp2_with fail;apply HP.out.mono;rintro e w1 ⟨ua,un,uc,os,rfl,a4,ho,hU⟩
 have HR:=qH2 (hr os ho) ho;clear hr ho HP;have h1:=a6.2.size;have h2:=a4.size;have⟨W2,a3⟩:=qW (xw (w1.alloc (Obj.cells #[xg ua un uc] 304)) #[xi 0,xi 0] 158);have hb2:Below w1 w1 W2:=a3▸((qB).alloc (by simp) _)
 have a1:Hid (yA W2 w 268 2 w [xe,false]/\yA W2 w 158 2 (w1+1) [xi 0,xi 0]/\yA W2 w 304 1 w1 [xg ua un uc]/\Below w w W2):=by
  refine⟨(a6.1.k a4).k hb2,?_,?_,(a6.2.trans (a4.mono h1)).trans (hb2.mono qo)⟩
  .rw[a3];exact yA.ofHeap (vs:=#[.int .i64 0,.int .i64 0]) (AX w1 _ _) qo rfl
  .rw[a3];exact yA.ofHeap (vs:=#[xg ua un uc]) (AW w1 _ _) qo rfl
 have HU:=qH1 (hU.K (S:=λ_=>False) (Chg.h hb2) (λq hq=>hq.elim) (λq _ z=>z):yD2 W2 (Bet W0 w1) os (xg ua un uc));clear a4 hb2 a6 hU;go_upto_region 2 with fail;rw[<-a3];clear a3;have b0:=a1.2.1.z (j:=0) rfl;have a0:=a1.2.2.1.z (j:=0) rfl;have⟨r0,r1⟩:=a1.1.c2;have⟨f0,f1⟩:=a1.1.f2;have⟨g,cp,e,_,hn⟩:=HU.nth;simp at e;by_cases hz:(un:Int)=1
 .obtain rfl:un=1:=qo
  obtain⟨ts,rfl⟩:=List.length_eq_one_iff.1 e.2.1.symm
  have⟨v,ac,hS⟩:=hn 0 ts rfl;obtain rfl:ua=g:=e.1;have⟨n,hg⟩:=HR.2.gr;have hl:ts.length<=1000:=by have h3:=ySy (λxs t (z:yAn n xs t)=>by have⟨c,ys,e,_⟩:=z.first;rw[e];simp) hg;have h4:=yAx (p:=sb p) (i:=0) (k:=p.size) (by rw[yAe];exact AL _);omega
  have hP:r=yBa ts:=HR.1
  have⟨va,vn,vc,hv⟩:=hS.slice;subst hv;have HS:=qH1 hS;clear hS hn e hz hg;go_wp2_with fail;apply (yQx HS.out hl).mono;rintro e w5 ⟨rfl,a9⟩;subst hP;have s2:=a1.2.2.2.size;have a5:=qH2 (a1.1.k a9) (a1.2.2.2.trans (a9.mono s2));clear ac b0 a0 r0 r1 f0 f1 a9;have⟨r0,r1⟩:=a5.1.c2;have⟨f0,f1⟩:=a5.1.f2;have⟨x,hx⟩:=qE (⟨(yBa ts).1.toArray⟩:Ba);have⟨y,hy⟩:=qE ((yBa ts).2:Bool);rw[<-hx,<-hy];have⟨W6,hW6⟩:=qW (set2 w5 w x y);have HW6:Hid (yA W6 w 268 2 w [x,y]/\Below w w W6):=hW6▸⟨yCs a5.1 _ _,yAc (yAc a5.2 qr 0 _) qr 1 _⟩
  have⟨p0,p1⟩:=HW6.1.c2;unfold set2 at hW6;subst hx hy;go_wp2;rw[<-hW6];refine AM (v:=.agg #[.string ⟨(yBa ts).1.toArray⟩,(yBa ts).2]) (by simp[results,results198,go_sem,p0,p1]) rfl ⟨rfl,HW6.2⟩
 .obtain rfl:r=([],false):=by
   rw[HR.1];rcases os with _|⟨o1,_|⟨o2,os⟩⟩
   .rfl
   .exact absurd (by rw[e.2.1];rfl) hz
   .rfl
  have⟨W6,hW6⟩:=qW (set2 W2 w xe false);have HW6:Hid (yA W6 w 268 2 w [xe,false]/\Below w w W6):=hW6▸⟨yCs a1.1 _ _,yAc (yAc a1.2.2.2 qr 0 _) qr 1 _⟩
  have⟨p0,p1⟩:=HW6.1.c2;unfold set2 at hW6;have a8:((un:Int) != 1)=true:=by simpa using hz
  clear e hn;exact xIc
theorem yBy(w:Ww)(hgd:o.guard=none) s x
  (ho:o.op=.call {callee:=.builtin .append,args:=#[s,x],argTypes:=#[22,22]})
  (O g cp n b off m cx:Nat) (l k:List U8) (hs:a.eval s=(xg g n cp)) (hx:a.eval x=.slice (some ⟨b,off,none⟩) m cx) (hn:n=l.length) (hm:m=k.length) (hO:OwnY w O g cp l)
  (hc:xBm w b off k) (hlen:l.length+k.length<=2^30) (hbase:O<=w.heap.size)
  (h:∀g' cp' w',OwnY w' O g' cp' (l++k)->w.grownBy w' (some g)->(g'=g\/g'=w.heap.size)->wpList prog ops Q rest (a.put o.dst (xg g' (n+m) cp')) w'):wpList prog ops Q (o::rest) a w:=by
 subst hn hm;obtain⟨i,hi,a4,a3,a2⟩:=info_parts Tryz.infoByte;refine wpList_append_own_at w hgd s x 22 ho O 5 i _ 1 1 underlying22 hi a4 a3 a2 rfl qj (xg g l.length cp) l.length (l.map ub) hs hO (xd b off) k.length cx (k.map ub) hx (by simp) ?_ (xB5 k) ?_ ?_ hbase ?_
 .intro j u hu;rw[AN]at hu;cases hk:k[j]? with
  |none=>rw[hk]at hu;cases hu
  |some r=>
   rw[hk]at hu;simp at hu;rw[Addr.add_mid,hc j r hk,<-hu]
 .unfold maxLen;omega
 .omega
 .intro v' w' a1 a6 a5 a0;rcases a1.2 with⟨h0,_⟩|⟨g',a7,cur,hv,_,_,hn,a8,_,_⟩
  .have:=(a5.1 h0).1;cases this
  .subst hv;refine h g' a7 w' ?_ a6 ?_
   .unfold OwnY;rw[AU,map_append];exact a1
   .simp[Value.ownBlock]at a0;exact a0
theorem yDv e:∀(L:List Ent)(d:Bool),(yE5 e L d).length<=L.length+1
 | [],d=>by unfold yE5;split<;>simp
 |x::r,d=>by
  have h1:=yDv e r d
  have h2:=yDv e r true
  have h3:∀(L:List Ent),(yE5 e L true).length<=L.length:=by
   intro L;induction L with
   |nil=>simp[yE5]
   |cons y s ih=>
    unfold yE5;split
    .simp;omega
    .split
     .simp;omega
     .simp;omega
  have h4:=h3 r
  unfold yE5
  split
  .simp;omega
  .split
   .split<;>simp<;>omega
   .split<;>simp<;>omega
theorem yX6(b off cap:Nat)(L:List Ent)(e:Ent)(w:Ww)(hE:yBu w b off L)(hB:b<w.heap.size)(hlen:L.length<=1048576):
  Calls prog 135 #[(xy b off L.length cap),e.v] w λr w'=>
   ∃g cp,r=.returned (xg g (into L e).length cp)/\OwnE w' w g cp (into L e)/\Below w w w':=by
 unfold Ent.v;obtain⟨W0,hW0⟩:=qW (xw w #[e.j,e.E,e.C,xu e.ts,xi e.f,e.val] 165);have hb0:=qN hW0
 have hz0:=qS hW0
 have HX:Hid (yBu W0 w 0 [e]):=by
  show yBu W0 w 0 [e];intro j f hf;obtain rfl:j=0:=by have:=qf hf;simpa using this
  simp at hf;subst hf;rw[hW0];simp
 have HE:=qH1 (hE.k hb0 hB);have HS:Hid (OwnE (xw W0 #[] 165) (w+1) (w+1) 0 []):=by show OwnE (xw W0 #[] 165) (w+1) (w+1) 0 [];rw[<-hz0];exact AH W0 #[] 0 qr (AA _) (by simp)
 clear hE;have HZ:=qH1 hz0;have hz1:w.heap.size<W0.heap.size:=qo
 have hz2:W0.heap.size<=w.heap.size+1:=qo
 clear hz0;go_enter func135,ntmps135;go_wp2_with fail;rw[<-hW0];clear hW0;go_loopw[5,6,7] (λo d i wr=>∃(k g cp:Nat)(fs:List Ent)(dn:Bool),k<=L.length/\i=(xi k)/\d=dn/\o=(xg g fs.length cp)/\fs++yE5 e (L.drop k) dn=into L e/\OwnE wr (w+1) g cp fs/\Below W0 W0 wr) (λ_ _ i _=>L.length-(intOf i).toNat);case atStart=>exact⟨0,_,0,[],false,AA _,rfl,rfl,rfl,rfl,HS.out,qB⟩
 case round=>
  obtain⟨k,g,cp,fs,dn,hk,rfl,rfl,rfl,hin,hO,hb⟩:=hrel;have hfl:fs.length<=1048577:=by have h1:=congrArg List.length hin;have h2:=yDv e L false;rw[AU]at h1;unfold into at h1;omega
  have HI:=qH1 hin;have HO:=qH1 hO;have hg:=hO.lt;have hs:=hb.size;clear hin hO;by_cases hlt:k<L.length
  .obtain⟨x,hx⟩:∃x,L[k]?=some x:=qg hlt;have hdr:L.drop k=x::L.drop (k+1):=by rw[List.drop_eq_getElem_cons hlt];rw[AF hlt]at hx;simp at hx;rw[hx]
   have HD:=qH1 hdr;clear hdr;have hec:∀wx,Below W0 W0 wx->yBu wx b off L/\yBu wx w 0 [e]:=λwx h=>⟨HE.k h qo,HX.k h qo⟩;have HEC:=qH1 hec;clear hec;obtain⟨c0,c1,c2,c3,c4,c5⟩:=(HEC.out wr hb).1 k x hx;obtain⟨d0,d1,d2,d3,d4,d5⟩:=(HEC.out wr hb).2 0 e rfl;simp only[AC,AE]at d0 d1 d2 d3 d4 d5;have HXK:=qH1 hx;clear hx;have z2:(k:Int)<(L.length:Int):=qo
   go_upto_region 6 with fail;go_cut[8] (λs wx=>s=(xi (yAr x e))/\Below wr wr wx);case first=>
    go_region_with (go_at_call 95;refine(yDg x e _).mono ?_;rintro e' w' ⟨rfl,hbb⟩);all_goals go_wp2_with fail
    all_goals go_meet
    all_goals exact⟨rfl,((Below.refl _ _).drew).trans (hbb.mono (by simp))⟩
   case rest=>
   obtain⟨rfl,h3⟩:=hcut;have hb3:=hb.trans (h3.mono hb.size);have HO3:=qH1 (HO.k h3 hg.2);have hs3:=h3.size;clear c0 c1 c2 c3 c4 c5 d0 d1 d2 d3 d4 d5;obtain⟨c0,c1,c2,c3,c4,c5⟩:=(HEC.out wc hb3).1 k x HXK.out;obtain⟨d0,d1,d2,d3,d4,d5⟩:=(HEC.out wc hb3).2 0 e rfl;simp only[AC,AE]at d0 d1 d2 d3 d4 d5;have yJ4:∀(wx:Ww)(f:Ent),yBu (xw wx #[f.j,f.E,f.C,xu f.ts,xi f.f,f.val] 165) wx 0 [f]:=by
    intro wx f j y hy;obtain rfl:j=0:=by have:=qf hy;simpa using this
    simp at hy;subst hy;simp
   have HN:=qH1 yJ4;clear yJ4;rcases yJx x e with hc|hc|hc
   .have HC:=qH1 hc;go_wp2_with (at_builtin;refine wpA rfl (apK yNx rfl (w+1) fs [x] rfl rfl rfl rfl ?hO ?hc (lN ?hl) ?hb ?_));case hO=>exact HO3.k (qB) qo
    case hc=>exact HN.out wc x
    case hl=>omega
    case hb=>simp;omega
    intro g' cp' w' hO' hgr _;have HO':=qH1 hO';have hb':=(hb3.alloc hb3.size _).grown hgr (by simp;omega) (λj hj=>by cases hj;omega);clear hO' hgr;go_wp2;go_roundw;case rel=>
     go_light;refine⟨k+1,g',cp',fs++ [x],dn,qo,by go_num,rfl,by simp,?_,HO'.out,hb'⟩;exact zzU7
    case measure=>go_light;simp[intOf];omega
   .have HC:Hid (yAr x e=0):=hc;cases dn
    .go_wp2_with (at_builtin;refine wpA rfl (apK yNx rfl (w+1) (fs) [e] rfl rfl rfl rfl ?hO ?hc (lN ?hl) ?hb ?_));case hO=>exact HO3.k (qB) qo
     case hc=>exact HN.out wc e
     case hl=>omega
     case hb=>simp;omega
     intro g' cp' w' hO' hgr _;have HO':Hid (OwnE w' (w+1) g' cp' (fs++ [e])):=hO';have hb':Below W0 W0 w':=(hb3.alloc hb3.size _).grown hgr (by simp;omega) (λj hj=>by cases hj;omega);clear hO' hgr;go_wp2;go_roundw;case rel=>
      go_light;refine⟨k+1,g',cp',fs++ [e],true,qo,by go_num,rfl,by simp,?_,HO'.out,hb'⟩;exact zzU7
     case measure=>go_light;simp[intOf];omega
    .go_wp2;go_roundw;case rel=>
      go_light;refine⟨k+1,g,cp,fs,true,qo,by go_num,rfl,by simp,?_,HO3.out,hb3⟩;exact zzU7
     case measure=>go_light;simp[intOf];omega
   .have HC:Hid (yAr x e=1):=hc;cases dn
    .go_wp2_with (at_builtin;refine wpA rfl (apK yNx rfl (w+1) (fs) [e] rfl rfl rfl rfl ?hO ?hc (lN ?hl) ?hb ?_));case hO=>exact HO3.k (qB) qo
     case hc=>exact HN.out wc e
     case hl=>omega
     case hb=>simp;omega
     intro g1 cp1 w1 hO1 hgr1 _;have HO1:Hid (OwnE w1 (w+1) g1 cp1 (fs++ [e])):=hO1;have hb1:Below W0 W0 w1:=(hb3.alloc hb3.size _).grown hgr1 (by simp;omega) (λj hj=>by cases hj;omega);have hg1:=hO1.lt;have hs1:=hb1.size;clear hO1 hgr1 c0 c1 c2 c3 c4 c5;obtain⟨c0,c1,c2,c3,c4,c5⟩:=(HEC.out w1 hb1).1 k x HXK.out;go_wp2_with (at_builtin;refine wpA rfl (apK yNx rfl (w+1) (fs++ [e]) [x] rfl rfl (by simp) rfl ?hO ?hc (lN ?hl) ?hb ?_));case hO=>exact HO1.k (qB) hg1.2
     case hc=>exact HN.out w1 x
     case hl=>simp;omega
     case hb=>simp;omega
     intro g' cp' w' hO' hgr _;have HO':Hid (OwnE w' (w+1) g' cp' (fs++ [e,x])):=hO';have hb':Below W0 W0 w':=(hb1.alloc hb1.size _).grown hgr (by simp;omega) (λj hj=>by cases hj;omega);clear hO' hgr;go_wp2;go_roundw;case rel=>
      go_light;refine⟨k+1,g',cp',fs++ [e,x],true,qo,by go_num,rfl,by simp,?_,HO'.out,hb'⟩;exact zzU7
     case measure=>go_light;simp[intOf];omega
    .go_wp2_with (at_builtin;refine wpA rfl (apK yNx rfl (w+1) (fs) [x] rfl rfl rfl rfl ?hO ?hc (lN ?hl) ?hb ?_));case hO=>exact HO3.k (qB) qo
     case hc=>exact HN.out wc x
     case hl=>omega
     case hb=>simp;omega
     intro g' cp' w' hO' hgr _;have HO':Hid (OwnE w' (w+1) g' cp' (fs++ [x])):=hO';have hb':Below W0 W0 w':=(hb3.alloc hb3.size _).grown hgr (by simp;omega) (λj hj=>by cases hj;omega);clear hO' hgr;go_wp2;go_roundw;case rel=>
      go_light;refine⟨k+1,g',cp',fs++ [x],true,qo,by go_num,rfl,by simp,?_,HO'.out,hb'⟩;exact zzU7
     case measure=>go_light;simp[intOf];omega
  .have hdr:L.drop k= []:=List.drop_eq_nil_of_le qo;have HD:Hid (L.drop k= []):=hdr;clear hdr;have hkk:k=L.length:=qo
   cases dn
   .obtain⟨d0,d1,d2,d3,d4,d5⟩:=HX.k hb qo 0 e rfl;simp only[AC,AE]at d0 d1 d2 d3 d4 d5;have HF:Hid (fs++ [e]=into L e):=by have h:=HI.out;rw[HD.out]at h;exact h
    go_wp2_with (at_builtin;refine wpA rfl (apK yNx rfl (w+1) fs [e] rfl rfl rfl rfl ?hO ?hc (lN ?hl) ?hb ?_));case hO=>exact HO.k (qB) qo
    case hc=>exact xFs
    case hl=>omega
    case hb=>simp;omega
    intro g' cp' w' hO' hgr _;have HO':Hid (OwnE w' (w+1) g' cp' (fs++ [e])):=hO';have hb':Below W0 W0 w':=(hb.alloc hb.size _).grown hgr (by simp;omega) (λj hj=>by cases hj;omega);clear hO' hgr;go_wp2;go_ret;refine⟨g',cp',?_,?_,hb0.trans (hb'.mono qo)⟩
    .rw[<-HF.out];simp
    .rw[<-HF.out];exact HO'.mono qo
   .have HF:Hid (fs=into L e):=by have h:=HI.out;rw[HD.out]at h;show fs=into L e;simpa [yE5]using h
    go_wp2;go_ret;refine⟨g,cp,?_,?_,hb0.trans (hb.mono qo)⟩
    .rw[<-HF.out];rfl
    .rw[<-HF.out];exact HO.mono qo
theorem yOb(e:Ent)(w:Ww):
  (xf 136 #[e.v] w e.c:Prop):=by
 unfold Ent.v;go_enter func136,ntmps136;go_wp2;refine AM (v:=e.c) (by simp[results,results136,go_sem]) rfl ⟨rfl,?_⟩;exact(qB).alloc (by simp) _
theorem yQ9(L:List Ent) e:(into L e).length<=L.length+1:=yDv e L false
theorem yJ4(wx:Ww)(f:Ent):yBu (xw wx #[f.j,f.E,f.C,xu f.ts,xi f.f,f.val] 165) wx 0 [f]:=by exact xFs
def yDp(w:Ww)(O:Nat)(bv:Vv)(n:Nat):Prop:=
 n<=1048576/\((∃a cap,bv=.slice a 0 cap/\n=0)\/∃b off cap,bv=(xy b off n cap)/\b<O/\∀k,k<n->∃x:Int,xk w b (off+k) (.int .u8 x)/\0<=x/\x<256)
def OwnL(w:Ww)(O cb:Nat)(vs:List Vv):Prop:=w.ownsRow O 134 3 (xg cb 1 1) 1 vs
structure yAm(O cb:Nat)(bv:Vv)(n:Nat)(w:Ww):Prop where
 Z:∃(i:Nat)(h:Int),i<=n/\OwnL w O cb [bv,xi i,xi h]
 code:yDp w O bv n
 O:O<=w
theorem xCo(x:Int):0<=bits .and .i64 x 255/\bits .and .i64 x 255<256:=by
 have h:(AK 64 x &&& AK 64 255).toNat<=255:=by rw[BitVec.toNat_and];exact AP Nat.and_le_right qj
 have e:bits .and .i64 x 255=IntKind.i64.wrap ((AK 64 x &&& AK 64 255).toNat:Int):=rfl;rw[e,IntKind.wrap_i64];omega
variable {T:Nat->Prop} {w':Ww} {bv:Vv} {n:Nat}
theorem yDp.i(h:yDp w O bv n)(hc:Chg T w w')(hb:O<=w)(hT:∀k,T k->O<=k):yDp w' O bv n:=by
 refine⟨h.1,?_⟩;rcases h.2 with h|⟨b,off,cap,hv,hlt,hx⟩
 .exact .inl h
 .refine .inr ⟨b,off,cap,hv,hlt,λk hk=>?_⟩;have⟨x,h1,h2⟩:=hx k hk;exact⟨x,by rw[hc.z (p:=(xd b (off+k))) (by show b<w;omega) (λq=>by have q1:O<=b:=hT _ q;omega)];exact h1,h2⟩
variable {cb:Nat}
theorem yAm.i(h:yAm O cb bv n w)(hc:Chg T w w')(hn:¬T cb)(hT:∀k,T k->O<=k):yAm O cb bv n w':=by have⟨i,hh,h1,h2⟩:=h.Z;exact⟨⟨i,hh,h1,yAg h2 hc (λk q=>by simp[Value.ownBlock]at q;subst q;exact hn)⟩,h.code.i hc h.O hT,qv hc.size h.O⟩
theorem yAm.k(h:yAm O cb bv n w)(hb:Below w w w'):yAm O cb bv n w':=
 h.i (T:=λ_=>False) (Chg.h hb) (λq=>q) (λk q=>q.elim)
theorem yAm.lt(h:yAm O cb bv n w):O<=cb/\cb<w:=by have⟨i,hh,h1,h2⟩:=h.Z;exact AD h2 cb rfl
theorem yAm.setH{i:Nat}(hi:i<=n)(h:OwnL w O cb [bv,xi i,xi hh])(hc:yDp w O bv n)(hb:O<=w)(h':Int):yAm O cb bv n (xt w cb 2 (xi h')):=by have hl:=AD h cb rfl;refine⟨⟨i,h',hi,(AI h 2 _).1⟩,hc.i (Chg.D (S:=λk=>k=cb) w cb 2 _ rfl) hb (λk q=>qo),?_⟩;have:=(Chg.D (S:=λk=>k=cb) w cb 2 (xi h') rfl).size;omega
theorem yAm.setI{i:Nat}(hi:i+1<=n)(h:OwnL w O cb [bv,xi i,xi hh])(hc:yDp w O bv n)(hb:O<=w):yAm O cb bv n (xt w cb 1 (xi (i+1:Nat))):=by have hl:=AD h cb rfl;refine⟨⟨i+1,hh,hi,(AI h 1 _).1⟩,hc.i (Chg.D (S:=λk=>k=cb) w cb 1 _ rfl) hb (λk q=>qo),?_⟩;have:=(Chg.D (S:=λk=>k=cb) w cb 1 (xi (i+1:Nat)) rfl).size;omega
theorem yHh(O cb:Nat)(bv:Vv)(n:Nat) w (h:yAm O cb bv n w):
  Calls prog 131 #[xp cb] w λe w'=>∃x:Int,e=.returned (xi x)/\0<=x/\x<256/\yAm O cb bv n w'/\Chg (λk=>k=cb) w w':=by
 have⟨i,hh,hin,hO⟩:=h.Z;have c0:=AB hO 0 qj;have c1:=AB hO 1 qj;have c2:=AB hO 2 qj;have f1:=AG hO 1;have f2:=AG hO 2;have⟨h1,hh1⟩:=qE (wrap64 (wrap64 (hh*6364136223846793005)+1442695040888963407));have⟨W1,hW1⟩:=qW (xt w cb 2 (xi h1));have hC1:Chg (λk=>k=cb) w W1:=hW1▸(Chg.D _ _ _ _ rfl)
 have HO1:Hid (OwnL W1 O cb [bv,xi i,xi h1]):=by show OwnL W1 _ _ _;rw[hW1];exact(AI hO 2 _).1
 have hD1:yAm O cb bv n W1:=hW1▸(yAm.setH hin hO h.code h.O h1)
 have HD:=qH2 hD1 hC1;clear hD1 hC1;have hcode:=h.code;have hn:=hcode.1;clear h hO;go_enter func131,ntmps131;go_upto_region 2 with fail;rw[<-hh1,<-hW1];have d0:=AB HO1 0 qj;have d1:=AB HO1 1 qj;have d2:=AB HO1 2 qj;have e1:=AG HO1 1;clear hh1 hW1 c0 c1 c2 f1 f2;go_quiet (fail);have⟨x0,hx0⟩:=qE (bits BinOp.and IntKind.i64 (bits BinOp.xor IntKind.i64 (h1/8589934592) (h1/35184372088832)) 255);have hx1:0<=x0/\x0<256:=hx0▸(xCo _)
 rw[<-hx0];clear hx0;rcases HD.1.code.2 with⟨a,cap,rfl,rfl⟩|⟨b,off,cap,rfl,hlt,hx⟩
 .have z:¬(i:Int)<0:=qo
  exact zzT8
 .by_cases hi:i<n
  .have⟨x,hc,hxa,hxb⟩:=hx i hi;have z:(i:Int)<(n:Int):=qo
   go_upto_region 3 with fail;go_quiet (fail);go_upto_region 4 with fail;go_quiet (fail);have⟨x2,hx2⟩:=qE (bits BinOp.and IntKind.i64 (x0+x) 255);have hx3:0<=x2/\x2<256:=hx2▸(xCo _)
   rw[<-hx2];clear hx2;go_wp2;go_ret;refine⟨x2,rfl,hx3.1,hx3.2,?_,?_⟩
   .have hb:=λq=>below_drewN (Below.refl W1 W1) q;exact yAm.setI qo (yAg (S:=λ_=>False) HO1 (Chg.h (hb _)) (λk _ q=>q)) (HD.1.k (hb _)).code (HD.1.k (hb _)).O
   .exact(HD.2.trans (Chg.h (below_drewN (Below.refl _ _) _))).trans (Chg.D (S:=λk=>k=cb) _ _ _ _ rfl)
  .have z:¬(i:Int)<(n:Int):=qo
   exact zzT8
abbrev Drew(O cb:Nat)(bv:Vv)(n:Nat)(w w':Ww):Prop:=yAm O cb bv n w'/\Chg (λk=>k=cb) w w'
theorem yAp(O cb:Nat)(bv:Vv)(n:Nat)(m:Int) w (h:yAm O cb bv n w) (hm:1<=m) (hm2:m<=1048576):
  Calls prog 74 #[xp cb,xi m] w λe w'=>∃x:Int,e=.returned (xi x)/\0<=x/\x<m/\Drew O cb bv n w w':=by
 have HD:=qH1 h;clear h;by_cases hs:m<=256
 .go_enter func74,ntmps74;go_wp2_with fail;apply (yHh O cb bv n _ HD.out).mono;rintro e w1 ⟨x,rfl,hx0,hx1,hD1,hC1⟩;have H1:=qH2 hD1 hC1;clear hD1 hC1;go_wp2;go_ret;exact⟨x%m,rfl,AT _ qo,AS _ qo,H1.1,H1.2⟩
 .go_enter func74,ntmps74;go_wp2_with fail;apply (yHh O cb bv n _ HD.out).mono;rintro e w1 ⟨x,rfl,hx0,hx1,hD1,hC1⟩;have H1:=qH2 hD1 hC1;clear hD1 hC1;go_wp2_with fail;apply (yHh O cb bv n _ H1.1).mono;rintro e w2 ⟨y,rfl,hy0,hy1,hD2,hC2⟩;have H2:=qH2 hD2 (H1.2.trans hC2);clear hD2 hC2;go_wp2_with fail;apply (yHh O cb bv n _ H2.1).mono;rintro e w3 ⟨z,rfl,hz0,hz1,hD3,hC3⟩;have H3:=qH2 hD3 (H2.2.trans hC3);clear hD3 hC3;go_wp2;go_ret;exact⟨(x*65536+y*256+z)%m,rfl,AT _ qo,AS _ qo,H3.1,H3.2⟩
theorem yBb(O cb:Nat)(bv:Vv)(n:Nat)(m:Int) w (h:yAm O cb bv n w) (hm:1<=m) (hm2:m<=1048576):
  Calls prog 31 #[xp cb,xi m] w λe w'=>∃v:Vv,e=.returned v/\(v=.bool true\/v=false)/\Drew O cb bv n w w':=by
 have HD:=qH1 h;clear h;go_enter func31,ntmps31;go_wp2_with fail;apply (yAp O cb bv n m _ HD.out hm hm2).mono;rintro e w1 ⟨x,rfl,hx0,hx1,hD1,hC1⟩;have H1:=qH2 hD1 hC1;clear hD1 hC1;cases hx:(x==0)
 .go_wp2;go_ret;exact⟨_,rfl,.inr rfl,H1.1,H1.2⟩
 .go_wp2_with fail;go_ret;exact⟨_,rfl,.inl rfl,H1.1,H1.2⟩
theorem Chg.grown_new(h:Chg T w wr)(hg:wr.grownBy w' row)(hr:∀k,row=some k->w<=k):Chg T w w':=
 ⟨hg.os.trans h.os,hg.tape.trans h.tape,hg.output.trans h.output,AP h.size hg.size,λk hk hn=>(hg.block k (Nat.lt_of_lt_of_le hk h.size) (λq=>qw (hr k q.symm))).trans (h.block k hk hn)⟩
theorem Chg.alloc_new(h:Chg T w wr)(o:Obj):Chg T w (wr.alloc o):=h.trans (Chg.h (qB))
abbrev u8v(z:U8):Vv:=.int .u8 (z.toNat:Int)
def OwnB(w:Ww)(O g cap:Nat)(zs:List U8):Prop:=w.ownsRow O 5 1 (xg g zs.length cap) zs.length (zs.map u8v)
theorem Tryz.infoU8:(prog.info? 5).map (λi=>(i.zero,i.size,i.bytes))=some (some (.int .u8 0),1,1):=qk
theorem apB:ApT 22 5 1 (λl=>l.map u8v) OwnB (λw b off l=>AtV w b off (l.map u8v)):=⟨⟨underlying22,_,_,Tryz.infoU8,rfl,qj,qj⟩,λ_ _=>List.map_append,λ_=>by simp,Iff.rfl,id⟩
theorem yTc(w:Ww)(O:Nat)(hb:O<=w):OwnB (xw w #[] 5) O w 0 []:=AH w #[] 0 hb (AA _) (by simp)
theorem yTs(h:OwnB w O g cap zs):(convert 22 9 (xg g zs.length cap)).run prog w=.ok (.string ⟨zs.toArray⟩) w:=by apply AR (P:=prog) w 22 9 5 (xd g 0) cap zs underlying22 underlying5 underlying9;intro i hi;have:=AB h i qo;rw[Addr.add_mid,AC,this,AN,AF hi];rfl
theorem yBi(O cb:Nat)(bv:Vv)(n:Nat)(a b:Int) w (h:yAm O cb bv n w) (ha:0<=a) (hab:a<=b) (hb:b<=100):
  Calls prog 178 #[xp cb,xi a,xi b] w λe w'=>∃s:Ba,e=.returned s/\s.size<=100/\Drew O cb bv n w w':=by
 have HD:=qH1 h;have hbase:=h.O;have hcb:=h.lt;clear h;go_enter func178,ntmps178;go_wp2_with fail;apply (yAp O cb bv n (b-a+1) _ HD.out qo qo).mono;rintro e w1 ⟨x,rfl,hx0,hx1,hD1,hC1⟩;have s1:=hC1.size;have H1:=qH2 hD1 hC1;clear hD1 hC1;have⟨W2,hW2⟩:=qE (xw w1 #[] 5:Ww);have hb2:=qN hW2
 have HB2:Hid (OwnB W2 w w1 0 []/\yAm O cb bv n W2/\Chg (λk=>k=cb) w W2):=by refine⟨?_,H1.1.k hb2,H1.2.trans (Chg.h hb2)⟩;rw[hW2];exact yTc w1 w s1
 obtain⟨m,hm⟩:∃m:Nat,a+x=(m:Int):=⟨(a+x).toNat,qo⟩;have hm2:m<=100:=qo
 go_wp2_with fail;rw[<-hW2];clear hW2 hm hb2;go_loopw[8,9] (λo i wr=>∃(k g cp:Nat)(zs:List U8),k<=m/\i=(xi k)/\o=(xg g k cp)/\zs.length=k/\OwnB wr w g cp zs/\yAm O cb bv n wr/\Chg (λk=>k=cb) w wr) (λ_ i _=>m-(intOf i).toNat);case atStart=>exact⟨0,_,0,[],AA _,rfl,rfl,rfl,HB2.1,HB2.2.1,HB2.2.2⟩
 case round=>
  obtain⟨k,g,cp,zs,hk,rfl,rfl,hzl,hO,hD,hC⟩:=hrel;have HI:=qH4 hzl hO hD hC;have hgl:=AD hO g rfl;clear hzl hO hD hC;by_cases hlt:k<m
  .have zk:(k:Int)<(m:Int):=qo
   go_wp2_with fail;apply (yAp O cb bv n 3 _ HI.2.2.1 qo qo).mono;rintro e w3 ⟨y,rfl,hy0,hy1,hD3,hC3⟩;have s3:=hC3.size;have HO3:=qH3 (yAg HI.2.1 hC3 (λk q=>by simp[Value.ownBlock]at q;subst q;omega)) hD3 (HI.2.2.2.trans hC3);clear hD3 hC3;obtain⟨z,hz⟩:∃z:U8,(97:Int)+y=(z.toNat:Int):=⟨UInt8.ofNat (97+y.toNat),by rw[UInt8.toNat_ofNat'];omega⟩;have HZ:=qH1 hz;have HKl:=qH1 HI.1.symm;have s4:=HO3.2.2.size;clear hz;go_wp2_with (at_builtin;refine wpA rfl (apK apB rfl w zs [z] rfl rfl HKl rfl ?hO (atV1 ?hc rfl) (lN ?hl) ?hb ?_));case hO=>exact yAg (S:=λ_=>False) HO3.1 (Chg.h (qB)) (λk _ q=>q)
   case hc=>unfold u8v;rw[<-HZ];simp
   case hl=>rw[<-HKl];omega
   case hb=>simp;omega
   intro g' cp' w' hO' hgr _;have HN:Hid ((zs++ [z]).length=k+1/\OwnB w' w g' cp' (zs++ [z])/\yAm O cb bv n w'/\Chg (λk=>k=cb) w w'):=by
    refine⟨by simp[HI.1],hO',?_,?_⟩
    .have hd:=HO3.2.1.k ((Below.refl w3 w3).alloc qr (Obj.cells #[.int .u8 (97+y)] 5));exact hd.i (Chg.M (S:=λk=>k=g) hgr (λk hk=>by cases hk;rfl)) qo (λk q=>qo)
    .exact Chg.grown_new (HO3.2.2.alloc_new _) hgr (λk hk=>by cases hk;omega)
   clear hO' hgr;go_wp2_with fail;go_roundw;case rel=>exact⟨k+1,g',cp',zs++ [z],qo,by go_num,rfl,HN.1,HN.2.1,HN.2.2.1,HN.2.2.2⟩
   case measure=>go_light;simp[intOf];omega
  .have zk:¬(k:Int)<(m:Int):=qo
   have hcv:=yTs HI.2.1;rw[HI.1]at hcv;have HS:Hid ((⟨zs.toArray⟩:Ba).size<=100):=by show(⟨zs.toArray⟩:Ba).size<=100;have:=HI.1;simp[ByteArray.size];omega
   go_wp2_with fail;go_ret;exact⟨_,rfl,HS,HI.2.2.1,HI.2.2.2⟩
theorem xBa(c:U8)(w:Ww):∃cx w',(convert 9 22 (.string ⟨#[c]⟩)).run prog w=.ok (xg w 1 cx) w'/\Below w w w'/\xk w' w 0 (.int .u8 (c.toNat:Int)):=by
 refine⟨_,_,run_bytes_of_string (P:=prog) w 9 22 5 ⟨#[c]⟩ underlying9 underlying22 underlying5,((Below.refl _ _).drew).alloc qr _,?_⟩;have hb:∀O:Obj,(w.drew.alloc O).heap[w.heap.size]?=some O:=λO=>by show(w.heap.push O)[w.heap.size]?=_;simp
 unfold World.cell?;rw[hb];simp[bytesRow];rw[Array.getElem?_append_left (by simp)];rfl
theorem yJu(c:U8)(m:Nat)(w:Ww)(hm:m<=1000):
  Calls prog 133 #[.string ⟨#[c]⟩,xi m] w λe w'=>∃s:Ba,e=.returned s/\s.size<=1000/\Below w w w':=by
 obtain⟨W2,hW2⟩:=qW (xw w #[] 5);have hb2:=qN hW2
 have HB2:Hid (OwnB W2 w w 0 []):=by show OwnB W2 _ _ _ _;rw[hW2];exact yTc w w qr
 go_enter func133,ntmps133;go_wp2_with fail;rw[<-hW2];clear hW2;go_loopw[5,6] (λo i wr=>∃(k g cp:Nat)(zs:List U8),k<=m/\i=(xi k)/\o=(xg g k cp)/\zs.length=k/\OwnB wr w g cp zs/\Below w w wr) (λ_ i _=>m-(intOf i).toNat);case atStart=>exact⟨0,_,0,[],AA _,rfl,rfl,rfl,HB2.out,hb2⟩
 case round=>
  obtain⟨k,g,cp,zs,hk,rfl,rfl,hzl,hO,hb⟩:=hrel;have HI:=qH2 hzl hO;have hgl:=AD hO g rfl;have hs:=hb.size;clear hzl hO;by_cases hlt:k<m
  .have zk:(k:Int)<(m:Int):=qo
   have HKl:=qH1 HI.1.symm;obtain⟨cx,W3,hrun,hb3,hc3⟩:=xBa c wr;have hs3:=hb3.size;go_wp2_with (at_builtin;refine wpA rfl (apK apB rfl w zs [c] rfl rfl HKl.out rfl ?hO (atV1 ?hc rfl) (lN ?hl) ?hb ?_));case hO=>exact yAg (S:=λ_=>False) HI.2 (Chg.h hb3) (λk _ q=>q)
   case hc=>exact hc3
   case hl=>rw[<-HKl.out];omega
   case hb=>omega
   intro g' cp' w' hO' hgr _;have HN:=qH2 (by simp[HI.1]:(zs++ [c]).length=k+1) hO';have hb':=(hb.trans (hb3.mono hs)).grown hgr qo (λj hj=>by cases hj;omega);clear hO' hgr hrun;go_wp2;go_roundw;case rel=>exact⟨k+1,g',cp',zs++ [c],qo,by go_num,rfl,HN.1,HN.2,hb'⟩
   case measure=>go_light;simp[intOf];omega
  .have zk:¬(k:Int)<(m:Int):=qo
   have hcv:=yTs HI.2;rw[HI.1]at hcv;have HS:Hid ((⟨zs.toArray⟩:Ba).size<=1000):=by show(⟨zs.toArray⟩:Ba).size<=1000;have:=HI.1;simp[ByteArray.size];omega
   go_wp2;go_ret;exact⟨_,rfl,HS.out,hb⟩
theorem yDi(O cb:Nat)(bv:Vv)(n blk nw:Nat)(w:Ww)(h:yAm O cb bv n w)(h1:1<=nw)(h2:nw<=100)(hne:¬blk=cb)(hlt:blk<w.heap.size)(hw:∀k,k<nw->∃s:Ba,xk w blk k s/\s.size<=1000):
  Calls prog 177 #[xp cb,xg blk nw nw] w λe w'=>∃s:Ba,e=.returned s/\s.size<=1000/\Drew O cb bv n w w':=by
 have HD:Hid (yAm O cb bv n w/\∀k,k<nw->∃s:Ba,xk w blk k s/\s.size<=1000):=⟨h,hw⟩;clear h hw;go_enter func177,ntmps177;go_wp2_with fail;refine(yAp O cb bv n (nw:Int) _ HD.1 qo qo).mono ?_;rintro e w1 ⟨x,rfl,hx0,hx1,hD1,hC1⟩;obtain⟨k,rfl⟩:=AO hx0;obtain⟨s,hs,hsz⟩:=HD.2 k qo;have c1:(xk w1 blk k s:Prop):=by rw[hC1.z (p:=(xd blk k)) hlt hne];exact hs
 have H1:=qH2 hD1 hC1;clear hD1 hC1 hs;go_wp2;go_ret;exact⟨s,rfl,hsz,H1.1,H1.2⟩
theorem xAc(O cb:Nat)(bv:Vv)(n:Nat) w (h:yAm O cb bv n w):
  Calls prog 179 #[xp cb] w λe w'=>∃s:Ba,e=.returned s/\s.size<=1000/\Drew O cb bv n w w':=by
 have HD:=qH1 h;clear h;go_enter func179,ntmps179;go_wp2_with fail;refine(yBb O cb bv n 40 _ HD.out qo qo).mono ?_;rintro e w1 ⟨v,rfl,hv,hD1,hC1⟩;have H1:=qH2 hD1 hC1;clear hD1 hC1;rcases hv with rfl|rfl
 .go_wp2_with fail;refine(yJu 97 64 _ qo).mono ?_;rintro e w2 ⟨s,rfl,hs,hb2⟩;have H2:=qH2 (H1.1.k hb2) (H1.2.trans (Chg.h hb2));go_wp2_with fail;go_ret;exact⟨s,rfl,hs,H2.1,H2.2⟩
 .go_wp2_with fail;refine(yBb O cb bv n 25 _ H1.1 qo qo).mono ?_;rintro e w2 ⟨v,rfl,hv,hD2,hC2⟩;have H2:=qH2 hD2 (H1.2.trans hC2);clear hD2 hC2;have hcl:=H2.1.lt.2;rcases hv with rfl|rfl
  .go_wp2_with fail;refine(yDi O cb bv n _ 6 _ (H2.1.k (qB)) qo qo qo (by simp) ?_).mono ?_
   .exact zzT0
   .rintro e w3 ⟨s,rfl,hs,hD3,hC3⟩;have H3:=qH2 hD3 ((H2.2.alloc_new _).trans hC3);clear hD3 hC3;go_wp2_with fail;go_ret;exact⟨s,rfl,hs,H3.1,H3.2⟩
  .go_wp2_with fail;refine(yBi O cb bv n 1 2 _ H2.1 qo qo qo).mono ?_;rintro e w3 ⟨s,rfl,hs,hD3,hC3⟩;have H3:=qH2 hD3 (H2.2.trans hC3);clear hD3 hC3;go_wp2_with fail;go_ret;exact⟨s,rfl,qo,H3.1,H3.2⟩
theorem xA6(O cb:Nat)(bv:Vv)(n:Nat) w (h:yAm O cb bv n w):
  Calls prog 180 #[xp cb] w λe w'=>∃s:Ba,e=.returned s/\s.size<=1000/\Drew O cb bv n w w':=by
 have HD:=qH1 h;clear h;go_enter func180,ntmps180;go_wp2_with fail;refine(yBb O cb bv n 3 _ HD.out qo qo).mono ?_;rintro e w1 ⟨v,rfl,hv,hD1,hC1⟩;have H1:=qH2 hD1 hC1;clear hD1 hC1;have hcl:=H1.1.lt.2;rcases hv with rfl|rfl
 .go_wp2;go_ret;exact⟨_,rfl,qj,H1.1,H1.2⟩
 .go_wp2_with fail;refine(yDi O cb bv n _ 6 _ (H1.1.k (qB)) qo qo qo (by simp) ?_).mono ?_
  .exact zzT0
  .exact zzT7
theorem yWt(O cb:Nat)(bv:Vv)(n:Nat) w (h:yAm O cb bv n w):
  Calls prog 181 #[xp cb] w λe w'=>∃s:Ba,e=.returned s/\s.size<=1000/\Drew O cb bv n w w':=by
 have HD:=qH1 h;clear h;go_enter func181,ntmps181;go_wp2_with fail;refine(yBb O cb bv n 12 _ HD.out qo qo).mono ?_;rintro e w1 ⟨v,rfl,hv,hD1,hC1⟩;have H1:=qH2 hD1 hC1;clear hD1 hC1;have hcl:=H1.1.lt.2;rcases hv with rfl|rfl
 .go_wp2_with fail;refine(yDi O cb bv n _ 4 _ (H1.1.k (qB)) qo qo qo (by simp) ?_).mono ?_
  .exact zzT9
  .exact zzT7
 .go_wp2_with fail;refine(yBi O cb bv n 1 2 _ H1.1 qo qo qo).mono ?_;exact zzT1
theorem xD(O cb:Nat)(bv:Vv)(n:Nat) w (h:yAm O cb bv n w):
  Calls prog 182 #[xp cb] w λe w'=>∃t:Int,e=.returned (xu t)/\(0<=t/\t<=18446744073709551615)/\Drew O cb bv n w w':=by
 have HD:=qH1 h;clear h;go_enter func182,ntmps182;go_wp2_with fail;refine(yBb O cb bv n 30 _ HD.out qo qo).mono ?_;rintro e w1 ⟨v,rfl,hv,hD1,hC1⟩;have H1:=qH2 hD1 hC1;clear hD1 hC1;rcases hv with rfl|rfl
 .go_wp2;go_ret;exact⟨_,rfl,⟨qo,qo⟩,H1.1,H1.2⟩
 .go_wp2_with fail;refine(yAp O cb bv n 6 _ H1.1 qo qo).mono ?_;rintro e w2 ⟨x,rfl,hx0,hx1,hD2,hC2⟩;have H2:=qH2 hD2 (H1.2.trans hC2);clear hD2 hC2;go_wp2_with fail;go_ret;exact⟨x,rfl,⟨qo,qo⟩,H2.1,H2.2⟩
theorem xAr(bv:Vv)(n:Nat)(w:Ww)(h:yDp w w bv n):
  Calls prog 29 #[bv] w λe w'=>e=.returned (xp w)/\yAm w w bv n w'/\Below w w w':=by
 have HC:Hid (yDp w w bv n):=h;have hn:=h.1;have fin:∀x:Int,yAm w w bv n (xw w #[bv,xi 0,xi x] 134)/\Below w w (xw w #[bv,xi 0,xi x] 134):=λx=>by have hb:Below w w (xw w #[bv,xi 0,xi x] 134):=qB;refine⟨⟨⟨0,x,AA _,?_⟩,HC.i (T:=λ_=>False) (Chg.h hb) qr (λk q=>q.elim),hb.size⟩,hb⟩;exact World.ownsRow_lit (base:=w.heap.size) (e:=134) (size:=3) w #[bv,xi 0,xi x] 1 qr qj rfl
 have HF:=qH1 fin;clear fin;rcases h.2 with⟨a,cap,rfl,rfl⟩|⟨b,off,cap,rfl,hlt,hx⟩
 .go_enter func29,ntmps29;go_wp2;go_loopw[3,4] (λh i wr=>(∃x:Int,h=(xi x))/\i=(xi 0)/\wr=w) (λ_ _ _=>0);case atStart=>exact⟨⟨_,rfl⟩,rfl,rfl⟩
  case round=>obtain⟨⟨x,rfl⟩,rfl,rfl⟩:=hrel;go_wp2;go_ret;exact⟨rfl,(HF.out x).1,(HF.out x).2⟩
 .have HX:=qH1 hx;clear hx h;go_enter func29,ntmps29;go_wp2;go_loopw[3,4] (λh i wr=>∃(k:Nat)(x:Int),k<=n/\h=(xi x)/\i=(xi k)/\wr=w) (λ_ i _=>n-(intOf i).toNat);case atStart=>exact⟨0,_,AA _,rfl,rfl,rfl⟩
  case round=>
   obtain⟨k,x,hk,rfl,rfl,rfl⟩:=hrel;by_cases hkn:k<n
   .obtain⟨y,hc,hy0,hy1⟩:=HX.out k hkn;have zk:(k:Int)<(n:Int):=qo
    go_wp2;go_roundw;case rel=>exact⟨k+1,_,qo,rfl,by go_num,trivial⟩
    case measure=>go_light;simp[intOf];omega
   .have zk:¬(k:Int)<(n:Int):=qo
    go_wp2;go_ret;exact⟨rfl,(HF.out x).1,(HF.out x).2⟩
def TxtP(O cb:Nat)(bv:Vv)(n m:Nat)(w:Ww)(e:Ending)(w':Ww):Prop:=∃s:Ba,e=.returned s/\s.size<=m/\Drew O cb bv n w w'
def yZo(O cb:Nat)(bv:Vv)(n d m:Nat):Prop:=∀w,yAm O cb bv n w->Calls prog 211 #[xp cb,xi d] w (TxtP O cb bv n m w)
def xCr(O cb:Nat)(bv:Vv)(n d m:Nat):Prop:=∀w,yAm O cb bv n w->Calls prog 226 #[xp cb,xi d] w (TxtP O cb bv n m w)
theorem yDr(a b:Ba):(a++b).size=a.size+b.size:=ByteArray.size_append
theorem yMx(O cb:Nat)(bv:Vv)(n d m:Nat)(hm:m<=100000)(hd:d<=5)(HT0:0<d->yZo O cb bv n (d-1) m):xCr O cb bv n d (m+1002):=by
 intro w h;have HT:=qH1 HT0;have HD:=qH1 h;have hcl0:=h.lt.2;clear h HT0;go_enter func226,ntmps226;go_wp2_with fail;refine(yAp O cb bv n 14 _ HD.out qo qo).mono ?_;rintro e w1 ⟨x,rfl,hx0,hx1,hD1,hC1⟩;have H1:=qH2 hD1 hC1;have hcl:=hD1.lt.2;clear hD1 hC1;by_cases hk:x<6\/d=0
 .have hq:=qH1 hk;by_cases h6:x<6
  .exact xFe
  .obtain rfl:d=0:=qo
   exact xFe
 have h6:¬x<6:=λq=>hk (.inl q);have hd0:=Nat.pos_of_ne_zero λq=>hk (.inr q);have hdz:((d:Int)==0)=false:=by rw[iC];omega
 clear hk;by_cases h7:x=6
 .subst h7;go_wp2_with fail;go_ret;exact⟨_,rfl,by show 1<=_;omega,H1.1,H1.2⟩
 have b6:(x==6)=false:=by rw[iC];exact h7
 by_cases h8:x=7
 .subst h8;go_wp2_with fail;refine(yDi O cb bv n _ 6 _ ((H1.1).k (qB)) qo qo qo (by simp) ?_).mono ?_
  .exact zzT0
  .exact zzT6
 have b7:(x==7)=false:=by rw[iC];exact h8
 by_cases h9:x=8
 .subst h9;go_wp2_with fail;refine(yDi O cb bv n _ 4 _ ((H1.1).k (qB)) qo qo qo (by simp) ?_).mono ?_
  .exact zzT9
  .exact zzT6
 have b8:(x==8)=false:=by rw[iC];exact h9
 have ed:Hid (((d:Int)-1)=((d-1:Nat):Int)):=by show(d:Int)-1=_;omega
 go_wp2_with fail;rw[ed.out];refine(HT.out hd0 w1 H1.1).mono ?_;rintro e w3 ⟨s,rfl,hs,hD3,hC3⟩;have H3:=qH2 hD3 (H1.2.trans hC3);clear hD3 hC3;go_wp2_with fail;go_ret;exact⟨_,rfl,by simp only[yDr];show 1+s.size+1<=_;omega,H3.1,H3.2⟩
theorem yMv(O cb:Nat)(bv:Vv)(n d m:Nat)(hm:m<=100000)(hd:d<=5)(HP0:xCr O cb bv n d m):yZo O cb bv n d (3*m+10):=by
 intro w h;have HP:=qH1 HP0;have HD:=qH1 h;clear h HP0;go_enter func211,ntmps211;go_wp2_with fail;refine(yAp O cb bv n 4 _ HD.out qo qo).mono ?_;rintro e w1 ⟨y,rfl,hy0,hy1,hD1,hC1⟩;have H1:=qH2 hD1 hC1;clear hD1 hC1;obtain⟨q,rfl⟩:=AO hy0;go_wp2_with fail;go_loopw[5,7] (λo i wr=>∃(k:Nat)(s:Ba),k<=q/\i=(xi k)/\o=s/\Hid (s.size<=k*(m+2))/\Hid (yAm O cb bv n wr/\Chg (λk=>k=cb) w wr)) (λ_ i _=>q-(intOf i).toNat);case atStart=>exact⟨0,_,AA _,rfl,rfl,Nat.le_of_eq (by simp[ByteArray.size]),H1.out⟩
 case round=>
  obtain⟨k,s,hk,rfl,rfl,HS,HI⟩:=hrel;have hsz:s.size<=400000:=by have a1:=HS.out;have a2:k*(m+2)<=3*(m+2):=AQ _ qo;omega
  by_cases hlt:k<q
  .have zk:(k:Int)<(q:Int):=qo
   go_wp2_with fail;refine(HP.out _ HI.1).mono ?_;rintro e w2 ⟨t,rfl,ht,hD2,hC2⟩;have H2:=qH2 hD2 (HI.2.trans hC2);have HTZ:=qH1 ht;have htz:t.size<=100000:=qo
   have hst:(s++t).size<=500000:=by rw[yDr];omega
   clear hD2 hC2 ht;go_wp2_with fail;refine(yAp O cb bv n 9 _ H2.1 qo qo).mono ?_;rintro e w3 ⟨x,rfl,hx0,hx1,hD3,hC3⟩;have H3:=qH2 hD3 (H2.2.trans hC3);clear hD3 hC3;have e1:Hid ((s++t).size<=(k+1)*(m+2)):=by show _<=_;have a1:=HS.out;have a2:=HTZ.out;rw[yDr,AY];omega
   have e2:Hid (∀c:U8,(s++t++(⟨#[c]⟩:Ba)).size<=(k+1)*(m+2)):=by intro c;have a1:=HS.out;have a2:=HTZ.out;rw[yDr,yDr,AY];show s.size+t.size+1<=_;omega
   by_cases h0:x=0
   .subst h0;go_wp2_with fail;go_roundw;case rel=>exact⟨k+1,_,qo,by go_num,rfl,e2.out 42,H3.out⟩
    case measure=>go_light;simp[intOf];omega
   have b0:(x==0)=false:=by rw[iC];exact h0
   by_cases h1:x=1
   .subst h1;go_wp2_with fail;go_roundw;case rel=>exact⟨k+1,_,qo,by go_num,rfl,e2.out 43,H3.out⟩
    case measure=>go_light;simp[intOf];omega
   have b1:(x==1)=false:=by rw[iC];exact h1
   by_cases h2:x=2
   .subst h2;go_wp2_with fail;go_roundw;case rel=>exact⟨k+1,_,qo,by go_num,rfl,e2.out 63,H3.out⟩
    case measure=>go_light;simp[intOf];omega
   have b2:(x==2)=false:=by rw[iC];exact h2
   by_cases h3:x=3
   .subst h3;by_cases hn:k+1<q
    .have hn2:((k:Int)+1<(q:Int)):=qo
     go_wp2_with fail;go_roundw;case rel=>exact⟨k+1,_,qo,by go_num,rfl,e2.out 124,H3.out⟩
     case measure=>go_light;simp[intOf];omega
    .have hn2:¬((k:Int)+1<(q:Int)):=qo
     exact xFu
   have b3:(x==3)=false:=by rw[iC];exact h3
   exact xFu
  .have zk:¬(k:Int)<(q:Int):=qo
   have HS2:Hid (s.size<=3*m+6):=by show _<=_;have a1:=HS.out;have a2:k*(m+2)<=3*(m+2):=AQ _ qo;omega
   go_wp2_with fail;refine(yBb O cb bv n 14 _ HI.1 qo qo).mono ?_;rintro e w2 ⟨v,rfl,hv,hD2,hC2⟩;have H2:=qH2 hD2 (HI.2.trans hC2);clear hD2 hC2;rcases hv with rfl|rfl
   .go_wp2_with fail;go_ret;exact⟨_,rfl,by rw[yDr];have:=HS2.out;show s.size+1<=_;omega,H2.out⟩
   .go_wp2_with fail;go_ret;exact⟨_,rfl,by have:=HS2.out;omega,H2.out⟩
theorem yUm(O cb:Nat)(bv:Vv)(n:Nat):yZo O cb bv n 0 3016:=yMv O cb bv n 0 1002 qo qo (yMx O cb bv n 0 0 qo qo (λq=>absurd q qo))
theorem yWw(O cb:Nat)(bv:Vv)(n:Nat):yZo O cb bv n 1 12064:=yMv O cb bv n 1 4018 qo qo (yMx O cb bv n 1 3016 qo qo (λ_=>yUm O cb bv n))
theorem yWv(O cb:Nat)(bv:Vv)(n:Nat):yZo O cb bv n 2 39208:=yMv O cb bv n 2 13066 qo qo (yMx O cb bv n 2 12064 qo qo (λ_=>yWw O cb bv n))
theorem yUh(c k:Int)(w:Ww):(Instr.field 158 (.agg #[xi c,xi k]) 0).run prog w=.ok (xi c) w:=qk
theorem yOp(O cb:Nat)(bv:Vv)(n:Nat) w (h:yAm O cb bv n w):Calls prog 176 #[xp cb] w (TxtP O cb bv n 100000 w):=by
 have HD:=qH1 h;clear h;go_enter func176,ntmps176;go_wp2_with fail;refine(yAp O cb bv n 12 _ HD.out qo qo).mono ?_;rintro e w1 ⟨x,rfl,hx0,hx1,hD1,hC1⟩;have H1:=qH2 hD1 hC1;clear hD1 hC1;by_cases h0:x=0
 .subst h0;go_wp2_with fail;go_ret;exact⟨_,rfl,qj,H1.out⟩
 have b0:(x==0)=false:=by rw[iC];exact h0
 by_cases h4:x<4
 .go_wp2_with fail;refine(yBi O cb bv n 0 2 _ H1.1 qo qo qo).mono ?_;rintro e w2 ⟨s,rfl,hs,hD2,hC2⟩;have H2:=qH2 hD2 (H1.2.trans hC2);have hcl:=hD2.lt.2;clear hD2 hC2;go_wp2_with fail;refine(yDi O cb bv n _ 7 _ ((H2.1).k (qB)) qo qo qo (by simp) ?_).mono ?_
  .intro k hk;match k,hk with
   |0,_|1,_|2,_|3,_|4,_|5,_|6,_=>exact⟨_,by simp;rfl,qj⟩
  .rintro e w3 ⟨t,rfl,ht,hD3,hC3⟩;have H3:=qH2 hD3 ((H2.2.alloc_new _).trans hC3);clear hD3 hC3;go_wp2_with fail;go_ret;exact⟨_,rfl,by rw[yDr];omega,H3.out⟩
 .go_wp2_with fail;refine(yWv O cb bv n _ H1.1).mono ?_;rintro e w2 ⟨s,rfl,hs,hD2,hC2⟩;have H2:=qH2 hD2 (H1.2.trans hC2);clear hD2 hC2;have hsm:s.size<=maxLen:=by unfold maxLen;omega
  have HC:=qH1 (yBm s w2 hsm);clear hsm;go_wp2_with fail;refine HC.mono ?_;rintro e w3 ⟨rfl,hb3⟩;have H3:=qH2 (H2.1.k hb3) (H2.2.trans (Chg.h hb3));obtain⟨c,hc⟩:=qE ((yBf (sb s)).1:Int);obtain⟨k,hk⟩:=qE (((yBf (sb s)).2:Int):Int);rw[<-hc,<-hk];clear hc hk hb3;have hf:=yUh c k w3;by_cases hc0:c=0
  .subst hc0;go_wp2_with fail;go_ret;exact⟨s,rfl,qo,H3.out⟩
  .have bc:(c==0)=false:=by rw[iC];exact hc0
   go_wp2_with fail;refine(yBi O cb bv n 0 2 _ H3.1 qo qo qo).mono ?_;rintro e w4 ⟨t,rfl,ht,hD4,hC4⟩;have H4:=qH2 hD4 (H3.2.trans hC4);clear hD4 hC4;go_wp2_with fail;go_ret;exact⟨t,rfl,qo,H4.out⟩
theorem OwnE.keptG(h:OwnE w O g cp fs)(hg:w.grownBy w' row)(hne:some g≠row):OwnE w' O g cp fs:=
 AV h hg (.inr hne)
theorem OwnC.ne_ent{base' g' cp':Nat}(h:OwnC w O g cp es)(h':OwnE w base' g' cp' fs):g≠g':=by
 rcases h.2 with⟨h0,_⟩|⟨g1,cap1,cur,hv,_,hc,_⟩
 .cases h0
 .rcases h'.2 with⟨h0,_⟩|⟨g2,cap2,cur2,hv2,_,hc2,_⟩
  .cases h0
  .simp only[Value.slice.injEq,Option.some.injEq,Addr.mk.injEq,and_true,true_and]at hv hv2;obtain⟨rfl,rfl⟩:=hv;obtain⟨rfl,rfl⟩:=hv2;intro q;rw[q,hc2]at hc;simp at hc
theorem yMp(a b:Ent)(hs:yEo a b=s)(w:Ww):
  (xf 96 #[a.v,b.v] w s:Prop):=hs▸yDy a b w
theorem yRt(b off cap:Nat)(es:List Ent)(w:Ww)(hE:yBu w b off es)(hok:∀e∈es,e.ok)(hB:b<w)(hlen:es.length<=1048576):
  Calls prog 134 #[(xy b off es.length cap)] w λe w'=>∃r:Bool,e=.returned r/\Below w w w':=by
 have HE:Hid (∀wx,Below w w wx->yBu wx b off es):=λwx hx=>hE.k hx hB;have HO:=qH1 hok;clear hE hok;by_cases hbig:10000<es.length
 .go_enter func134,ntmps134;go_wp2;go_ret;exact⟨_,rfl,Below.refl _ _⟩
 go_enter func134,ntmps134;go_wp2;go_loopw[3] (λi wr=>∃(k:Nat),k<=es.length/\i=(xi k)/\Below w w wr) (λi _=>es.length-(intOf i).toNat);case atStart=>exact⟨0,AA _,rfl,Below.refl _ _⟩
 case round=>
  obtain⟨k,hk,rfl,hb⟩:=hrel;by_cases hlt:k<es.length
  .obtain⟨e,he⟩:∃e,es[k]?=some e:=qg hlt;have⟨c0,c1,c2,c3,c4,c5⟩:=HE _ hb k e he;have HK:=hidO (HO e (AJ he));clear he;go_wp2_with fail;apply (yGa e.j e.E e.C e.val e.ts e.f _ HK.j HK.E HK.C HK.val).mono;rintro e' w1 ⟨rfl,hb1⟩;have hb2:=hb.trans (hb1.mono hb.size);clear c0 c1 c2 c3 c4 c5 hb1;cases hv:vE e.j e.E e.C e.f e.val
   .go_wp2_with fail;go_ret;exact⟨_,rfl,hb2⟩
   .go_wp2_with fail;go_roundw;case rel=>exact⟨k+1,qo,by go_num,hb2⟩
    case measure=>go_light;simp[intOf];omega
  .go_wp2;go_ret;exact⟨_,rfl,hb⟩
theorem yTh{e x:Ent}:∀{L:List Ent}{d:Bool},x∈yE5 e L d->x=e\/x∈L
 | [],d,h=>by cases d<;>simp[yE5]at h;exact .inl h
 |a::L,d,h=>by
  have ih:=λd=> @yTh e x L d
  unfold yE5 at h
  repeat' split at h
  all_goals simp only[List.mem_cons]at h|-
  all_goals grind
def RpL(k:Nat)(L:List Ent):Prop:=L.length<=k/\∀e∈L,e.ok/\e.f=0
theorem RpL.put{k:Nat}(h:RpL k L)(he:e.ok/\e.f=0):RpL (k+1) (into L e):=
 ⟨qv (yQ9 L e) h.1,λx hx=>(yTh hx).elim (λq=>q▸he) (h.2 x)⟩
theorem xDm(b off cap:Nat)(ws:List Ent)(w:Ww)(hE:yBu w b off ws)(hok:∀e∈ws,e.ok)(hB:b<w)(hlen:ws.length<=1048576):
  Calls prog 78 #[(xy b off ws.length cap)] w λr w'=>
   ∃(g cp:Nat)(L:List Ent),r=.returned (xg g L.length cp)/\OwnC w' w g cp L/\Below w w w'/\RpL ws.length L:=by
 have HE:=qH1 hE;have HO:=qH1 hok;clear hE hok;have⟨W0,hW0⟩:=qW (xw w #[] 70);have hb0:=qN hW0
 have hz0:w.heap.size<W0:=by rw[hW0];simp
 have HC0:Hid (OwnC W0 w w 0 []):=by show OwnC W0 w w 0 [];rw[hW0];exact yTb w
 have HE0:=qH1 (HE.k hb0 hB);go_enter func78,ntmps78;go_wp2_with fail;rw[<-hW0];clear hW0;apply (yRt b off cap ws _ HE0.out HO.out qo hlen).mono;rintro e w1 ⟨r,rfl,hb1⟩;have hs1:=hb1.size;have k1:=hb0.trans (hb1.mono qo);have HC1:=qH1 (HC0.k hb1 hz0);cases r
 .go_wp2;go_ret;exact⟨_,0,[],rfl,HC1,k1,by simp[RpL]⟩
 have⟨W1,hW1⟩:=qW (xw w1 #[] 165);have hbA:=qN hW1
 have hzA:w1.heap.size<W1:=by rw[hW1];simp
 have HL1:Hid (OwnE W1 w1 w1 0 []):=by show OwnE W1 w1 w1 0 [];rw[hW1];exact AH w1 #[] 0 qr (AA _) (by simp)
 have HE1:=qH1 ((HE0.k hb1 qo).k hbA qo);have HCA:=qH1 (HC1.k hbA qo);go_wp2_with fail;rw[<-hW1];clear hW1;go_loopw[4,5] (λo i wr=>∃(k g cp:Nat)(L:List Ent),k<=ws.length/\i=(xi k)/\o=(xg g L.length cp)/\OwnE wr w1 g cp L/\RpL k L/\Below W1 W1 wr) (λ_ i _=>ws.length-(intOf i).toNat);case atStart=>exact⟨0,_,0,[],AA _,rfl,rfl,HL1,⟨AL _,λ_ h=>by cases h⟩,Below.refl _ _⟩
 case round=>
  obtain⟨k,g,cp,L,hk,rfl,rfl,hO,hK,hb⟩:=hrel;obtain⟨wo,rfl⟩:=qW wr;have HK:=qH2 hO hK;have hg:=hO.lt;have hLl:=hK.1;have hs:=hb.size;clear hO hK;by_cases hlt:k<ws.length
  .obtain⟨e,he⟩:∃e,ws[k]?=some e:=qg hlt;have HEo:=qH1 (HE1.k hb qo);have⟨c0,c1,c2,c3,c4,c5⟩:=HEo k e he;have HKe:=qH1 he;clear he;have⟨W2,hW2⟩:=qW (xw wo #[e.j,e.E,e.C,xu e.ts,xi e.f,e.val] 165);have hbW:=qN hW2
   have hzW:wo.heap.size<W2:=by rw[hW2];simp
   have hzE:=qS hW2
   have HN1:Hid (yBu W2 wo 0 [e]):=by show yBu W2 wo 0 [e];rw[hW2];exact yJ4 wo e
   have HL2:=qH1 (HK.1.k hbW hg.2);have hbX:=hb.trans (hbW.mono hs);cases g2:(e.f==0)
   .have HK2:Hid (¬e.f=0):=by show¬e.f=0;simpa using g2
    have⟨W3,hW3⟩:=qW (xw W2 #[] 165);have hb3:=qN hW3
    have hz3:W2.heap.size<W3:=by rw[hW3];simp
    have HL3:=qH1 (HL2.k hb3 qo);have HN3:=qH1 (HN1.k hb3 hzW);have HF3:Hid (OwnE W3 W2 W2 0 []):=by show OwnE W3 W2 W2 0 [];rw[hW3];exact AH W2 #[] 0 qr (AA _) (by simp)
    go_wp2_with fail;rw[<-hW2,<-hzE,<-hW3];clear hW2 hW3 hzE c0 c1 c2 c3 c4 c5;go_loopw[7,8] (λl i wr=>∃(j g2 cp2:Nat)(F:List Ent),j<=L.length/\i=(xi j)/\l=(xg g2 F.length cp2)/\OwnE wr W2 g2 cp2 F/\(F.length<=j/\∀x∈F,x∈L)/\Below W2 W2 wr) (λ_ i _=>L.length-(intOf i).toNat);case atStart=>exact⟨0,_,0,[],AA _,rfl,rfl,HF3,⟨AL _,λ_ h=>by cases h⟩,hb3⟩
    case round=>
     obtain⟨j,g3,cp3,F,hj,rfl,rfl,hF,hFL,hbi⟩:=hrel;have HF:=qH1 hF;have HFL:=qH1 hFL;have hg3:=hF.lt;have hlf:=hFL.1;clear hF hFL;have hsi:=hbi.size;by_cases hjl:j<L.length
     .obtain⟨x,hx⟩:∃x,L[j]?=some x:=qg hjl;have HX:Hid (L[j]?=some x):=hx;have hec:∀wx,Below W2 W2 wx->yBu wx g 0 L/\yBu wx wo 0 [e]:=λwx h=>⟨(HL2.k h qo).at,HN1.k h hzW⟩;have HEC:Hid (∀wx,Below W2 W2 wx->yBu wx g 0 L/\yBu wx wo 0 [e]):=hec;clear hec hx;have⟨c0,c1,c2,c3,c4,c5⟩:=(HEC wr hbi).1 j x HX;have⟨d0,d1,d2,d3,d4,d5⟩:=(HEC wr hbi).2 0 e rfl;simp only[AC,AE]at c0 c1 c2 c3 c4 c5 d0 d1 d2 d3 d4 d5;have z2:(j:Int)<(L.length:Int):=qo
      go_upto_region 15 with fail;go_cut[9] (λs wx=>(∃h:Bool,s=h)/\Below wr wr wx);case first=>
       have⟨q0,q1,q2,q3,q4,q5⟩:=yTq (HEC wr hbi).1 qo HX;have⟨r0,r1,r2,r3,r4,r5⟩:=yTq (HEC wr hbi).2 qo (rfl: [e][0]?=some e);simp only[AC,AE]at q0 q1 q2 q3 q4 q5 r0 r1 r2 r3 r4 r5;clear c0 c1 c2 c3 c4 c5 d0 d1 d2 d3 d4 d5;have inh:Nonempty (Out wr):=⟨⟨wr,Below.refl _ _⟩⟩;cases hsc:yEo x e
       case' true=>cases hts:(x.ts==e.ts)
       case' true.false=>cases hk2:(e.f==2)
       all_goals apply yAv qk qk
       all_goals repeat (go_big_quiet_step ((go_at_call 96;exact Calls.out_of (yMp x e hsc _))))
       all_goals apply wpQuiet_nil
       all_goals rintro wx ⟨⟨wy,hby⟩,rfl⟩
       all_goals go_wp2_with fail
       all_goals go_meet
       all_goals exact⟨⟨_,rfl⟩,hby⟩
      case rest=>
      obtain⟨⟨hh,rfl⟩,h3⟩:=hcut;have hb4:Below W2 W2 wc:=hbi.trans (h3.mono hsi);have HF4:=hidO (HF.k h3 hg3.2);have hs4:=h3.size;clear c0 c1 c2 c3 c4 c5 d0 d1 d2 d3 d4 d5;have⟨c0,c1,c2,c3,c4,c5⟩:=(HEC wc hb4).1 j x HX;simp only[AC,AE]at c0 c1 c2 c3 c4 c5;cases hh
      .go_wp2_with (at_builtin;refine wpA rfl (apK yNx rfl W2 F [x] rfl rfl rfl rfl ?hO ?hc (lN ?hl) ?hb ?_));case hO=>exact HF4.k (qB) qo
       case hc=>exact yJ4 wc x
       case hl=>omega
       case hb=>simp;omega
       intro g' cp' w' hO' hgr _;have HO':=hidO hO';have hb':Below W2 W2 w':=(hb4.alloc hb4.size _).grown hgr (by simp;omega) (λj hj=>by cases hj;omega);have HF':Hid ((F++ [x]).length<=j+1/\∀y∈F++ [x],y∈L):=⟨by simp;omega,λy hy=>(List.mem_append.1 hy).elim (HFL.2 y) (λq=>by rw[List.mem_singleton.1 q];exact AJ HX)⟩;clear hO' hgr;go_wp2;go_roundw;case rel=>exact⟨j+1,g',cp',F++ [x],qo,by go_num,by simp,HO',HF',hb'⟩
       case measure=>go_light;simp[intOf];omega
      .go_wp2_with fail;go_roundw;case rel=>exact⟨j+1,g3,cp3,F,qo,by go_num,rfl,HF4,⟨qo,HFL.2⟩,hb4⟩
       case measure=>go_light;simp[intOf];omega
     .have HS':Hid (RpL (k+1) F):=⟨qo,λx hx=>HK.2.2 x (HFL.2 x hx)⟩;have hb5:Below W1 W1 wr:=hbX.trans (hbi.mono qo);go_wp2_with fail;go_roundw;case rel=>exact⟨k+1,g3,cp3,F,qo,by go_num,rfl,HF.mono qo,HS',hb5⟩
      case measure=>go_light;simp[intOf];omega
   .have HK2:Hid (e.f=0):=by show e.f=0;simpa using g2
    have HS':=hidO (HK.2.put ⟨HO e (AJ HKe),HK2⟩);go_wp2_with fail;rw[<-hW2];clear hW2 hzE c0 c1 c2 c3 c4 c5;apply (yX6 g 0 cp L e _ HL2.at qo qo).mono;rintro e' w3 ⟨g',cp',rfl,hO',hb4⟩;have HO':Hid (OwnE w3 W2 g' cp' (into L e)):=hO';have hb5:=hbX.trans (hb4.mono qo);clear hO';go_wp2_with fail;go_roundw;case rel=>exact⟨k+1,g',cp',into L e,qo,by go_num,rfl,HO'.mono qo,HS',hb5⟩
    case measure=>go_light;simp[intOf];omega
  .have hkk:k=ws.length:=qo
   have HKK:Hid (RpL ws.length L):=hkk▸HK.2;clear hkk;have hbw:Below w w wo:=(k1.trans (hbA.mono qo)).trans (hb.mono qo);have HCo:Hid (OwnC wo w w 0 []):=HCA.k hb qo;go_wp2_with fail;go_loopw[3,10] (λo i wr=>∃(m g5 cp5:Nat),m<=L.length/\i=(xi m)/\o=(xg g5 m cp5)/\OwnC wr w g5 cp5 (L.take m)/\OwnE wr w1 g cp L/\Below w w wr) (λ_ i _=>L.length-(intOf i).toNat);case atStart=>exact⟨0,_,0,AA _,rfl,rfl,HCo,HK.1,hbw⟩
   case round=>
    obtain⟨m,g5,cp5,hm,rfl,rfl,hC,hL,hbm⟩:=hrel;have HM:Hid (OwnC wr w g5 cp5 (L.take m)/\OwnE wr w1 g cp L):=⟨hC,hL⟩;have hg5:=hC.lt;have hgl:=hL.lt;have hne:=hC.ne_ent hL;have hsm:=hbm.size;have HTM:Hid (m=(L.take m).length):=by show m=(L.take m).length;rw[List.length_take];omega
    clear hC hL;by_cases hlt:m<L.length
    .obtain⟨x,hx⟩:∃x,L[m]?=some x:=qg hlt;have HX:Hid (L.take (m+1)=L.take m++ [x]):=by show L.take (m+1)=L.take m++ [x];rw[List.take_add_one,hx];rfl
     have⟨c0,c1,c2,c3,c4,c5⟩:=HM.2.at m x hx;simp only[AC,AE]at c0 c1 c2 c3 c4 c5;clear hx;go_wp2_with fail;apply (yOb x _).mono;rintro e' w3 ⟨rfl,hb3⟩;have hs3:=hb3.size;have HM3:Hid (OwnC w3 w g5 cp5 (L.take m)/\OwnE w3 w1 g cp L):=⟨HM.1.k hb3 hg5.2,HM.2.k hb3 hgl.2⟩;have hbm3:Below w w w3:=hbm.trans (hb3.mono qo);clear c0 c1 c2 c3 c4 c5 hb3;go_wp2_with (at_builtin;refine wpA rfl (apK xE1 rfl w (L.take m) [x] rfl rfl HTM rfl ?hO ?hc (lN ?hl) ?hb ?_));case hO=>exact HM3.1.k (qB) qo
     case hc=>exact yNq w3 x
     case hl=>rw[<-HTM];omega
     case hb=>simp;omega
     intro g' cp' w' hO' hgr _;have HO':Hid (OwnC w' w g' cp' (L.take (m+1))):=by show OwnC w' w g' cp' (L.take (m+1));rw[HX];exact hO'
     have hb':Below w w w':=(hbm3.alloc hbm3.size _).grown hgr (by simp;omega) (λj hj=>by cases hj;omega);have HL':Hid (OwnE w' w1 g cp L):=OwnE.keptG (HM3.2.k (qB) qo) hgr (λq=>hne (Option.some.inj q).symm);clear hO' hgr;go_wp2_with fail;go_roundw;case rel=>exact⟨m+1,g',cp',qo,by go_num,rfl,HO',HL',hb'⟩
     case measure=>go_light;simp[intOf];omega
    .have HT:Hid (L.take m=L):=List.take_of_length_le qo;go_wp2_with fail;go_ret;refine⟨g5,cp5,L,?_,?_,hbm,HKK⟩
     .have e1:m=L.length:=qo
      show Ending.returned (Value.slice (some ⟨g5,0,none⟩) m cp5)=_;rw[e1]
     .have h:=HM.1;rw[HT]at h;exact h
theorem yWi(a:Option Addr)(n cap:Nat) w (hn:n<=1048576):
  Calls prog 80 #[.slice a n cap] w λe w'=>∃k:Nat,e=.returned (xi k)/\k<=22/\w'=w:=by
 by_cases hb:(22:Int)<8+(n:Int)/16
 .go_enter func80,ntmps80;go_wp2;go_ret;exact⟨22,rfl,AL _,rfl⟩
 .obtain⟨k,hk⟩:∃k:Nat,(8:Int)+(n:Int)/16=(k:Int):=⟨8+n/16,qo⟩;have hk2:k<=22:=qo
  go_enter func80,ntmps80;go_wp2;go_ret;exact⟨k,rfl,hk2,rfl⟩
theorem yDp.slice(h:yDp w O bv n):∃a cap,bv=.slice a n cap:=by
 exact xFh
theorem yDp.up(h:yDp w w bv n)(hb:Below w w w'):yDp w' w' bv n:=by
 refine⟨h.1,?_⟩;rcases h.2 with h|⟨b,off,cap,rfl,hlt,hc⟩
 .exact .inl h
 .refine .inr ⟨b,off,cap,rfl,qw hb.size,λk hk=>?_⟩;obtain⟨x,h1,h2⟩:=hc k hk;exact⟨x,by rw[hb.cell (p:=(xd b (off+k))) hlt];exact h1,h2⟩
def yFs(w:Ww)(v:Vv)(n:Nat):Prop:=
 n<=maxLen/\((∃a cap,v=.slice a 0 cap/\n=0)\/∃b off cap,v=(xy b off n cap)/\b<w.heap.size/\∀k,k<n->∃x:Int,xk w b (off+k) (.int .u8 x)/\0<=x/\x<256)
theorem yFs.slice(h:yFs w v n):∃a cap,v=.slice a n cap:=by
 exact xFh
theorem yFs.code(h:yFs w v n)(hn:n<=1048576):yDp w w v n:=⟨hn,h.2⟩
theorem yNu{H:Type}{enc:TypeId×Vv->H}{x:DataW H×List MemPlace}
  (h:DataW.trod enc prog w 0 (λ_=>true) true fuel 22 [v]=some x) (hlt:∀p∈x.2,p.block<w.heap.size):∃n,yFs w v n:=by
 have hc:prog.cellsOf 5=1:=qk
 rcases open_ints underlying22 underlying5 hc h with⟨hcs,hx⟩|⟨a,len,cap,zs,hcs,_,hl,hm,hz,hx,hcell,hwz⟩
 .simp only[List.cons.injEq,and_true]at hcs;exact⟨0,AA _,.inl ⟨none,0,hcs,rfl⟩⟩
 .simp only[List.cons.injEq,and_true]at hcs;simp only[if_true]at hz;refine⟨len,AP hl hm,?_⟩;by_cases h0:len=0
  .subst h0;exact .inl ⟨some a,cap,hcs,rfl⟩
  .obtain⟨ab,ao,spot⟩:=a;have hspot:spot=none:=by simpa [Addr.add]using World.cell?_spot (hcell 0 qo)
   subst hspot;refine .inr ⟨ab,ao,cap,hcs,?_,λk hk=>?_⟩
   .rw[hx]at hlt;exact hlt (.cell ab (ao+0)) (by simp only[MemPlace.row,List.mem_map,List.mem_range];exact⟨0,qo,rfl⟩)
   .have h1:=hcell k qo;rw[Addr.add_lit]at h1;have hb:=range_u8 hwz k;rw[List.getD_eq_getElem?_getD]at h1;exact⟨_,h1,hb.1,qo⟩
end Go.Proofs.YtnnagkfoiganfaaGreatDoor
