import Derived.Test.YtnnagkfoiganfaaGreatDoorFkAD
import Derived.Test.YtnnagkfoiganfaaGreatDoorFkAB
import Derived.Test.YtnnagkfoiganfaaGreatDoorFkAC
namespace Go.Proofs.YtnnagkfoiganfaaGreatDoor
open Go.ChangeShapes Go.WideShapes Go.ChangeAt Go.RowKit Go.Deep XD XI XU XG XP XK XW XT XF XE XH _root_.List _root_.Nat Go.Proofs.Tryz
open _root_.List renaming mem_of_getElem?->AC,take_add_one->AD
open _root_.Prod.mk renaming injEq->AB
open _root_.Sum.inl renaming injEq->AA
set_option linter.unusedVariables false
set_option linter.unusedSimpArgs false
set_option maxRecDepth 100000
set_option maxHeartbeats 64000000
variable {t:Pat} {ts:List Pat} {lo:Nat->Prop} {os:List (List Pat)} {K i k n:Nat} {y p:List U8} {Q:List U8->Prop} {fb:Nat->Nat->Bool} {f g:U8->Bool} {b it:Bool}
def mixL(R S:PS)(k:Nat):List Vv:= [.int .u64 (if 0<k then(wdN R 0:Int)else(wdN S 0:Int)),.int .u64 (if 1<k then(wdN R 1:Int)else(wdN S 1:Int)),.int .u64 (if 2<k then(wdN R 2:Int)else(wdN S 2:Int)),.int .u64 (if 3<k then(wdN R 3:Int)else(wdN S 3:Int))]
theorem xAf R S:mixL R S 0=psL S:=by simp[mixL,psL]
theorem xE R S:mixL R S 4=psL R:=by simp[mixL,psL]
theorem xH6 R S {k:Nat} (hk:k<4):(mixL R S k)[k]?=some (.int .u64 (wdN S k:Int)):=by rcases(by omega:k=0\/k=1\/k=2\/k=3)with rfl|rfl|rfl|rfl<;>simp[mixL]
theorem xD9 R S {k:Nat} (hk:k<4):(mixL R S k).set k (xu (wdN R k))=mixL R S (k+1):=by rcases(by omega:k=0\/k=1\/k=2\/k=3)with rfl|rfl|rfl|rfl<;>simp[mixL]
theorem xLm S {k:Nat} (hk:k<4):(psL S)[k]?=some (.int .u64 (wdN S k:Int)):=by rcases(by omega:k=0\/k=1\/k=2\/k=3)with rfl|rfl|rfl|rfl<;>simp[psL]
abbrev z4:Array Vv:=#[.int .u64 0,.int .u64 0,.int .u64 0,.int .u64 0]
theorem zPJ {p:Prop} (h:p:=by
 have HI:=qH1 (box3 (w:=w) (a:=(psL S).toArray) (s:=328) (b:=(psL T).toArray) (t:=328) (c:=z4) (u:=328) rfl)
 (first|go_enter func247,ntmps247|go_enter func234,ntmps234);go_wp2;go_loopw[6] (λiv wr=>∃k:Nat,k<=4/\iv=(xi k)/\Hid (yA wr w 328 4 w (mixL R S k)/\yA wr w 328 4 (w+1) (psL T)/\yA wr w 328 4 (w+1+1) z4.toList/\Below w w wr)) (λiv _=>4-(intOf iv).toNat);case atStart=>exact⟨0,qo,rfl,by rw[xAf];exact HI.out⟩
 case round=>
  obtain⟨k,hk,rfl,HJ⟩:=hrel;by_cases hlt:k<4
  .have zk:(k:Int)<4:=qo
   have c0:=HJ.1.z (xH6 R S hlt);have c1:=HJ.2.1.z (xLm T hlt);have f0:=HJ.1.frozen k;have wo:=hR k;go_upto_region 4 with fail;refine yAe 8 (λwz=>xk wz w k (xu (wdN S k))/\xk wz (w+1) k (xu (wdN T k))) qk ?_;apply ja 0 ⟨by simpa using c0,by simpa using c1⟩;iterate 7 apply jb ⟨by simpa using c0,by simpa using c1⟩
   refine qO 8 rfl λK hK=>?_;go_simp;apply hK.out _ _ (.inl rfl);refine jS ?_;refine qD ?_;have a0:Hid (yA (xt wr.drew w k (xu (wdN R k))) w 328 4 w (mixL R S (k+1))/\yA (xt wr.drew w k (xu (wdN R k))) w 328 4 (w+1) (psL T)/\yA (xt wr.drew w k (xu (wdN R k))) w 328 4 (w+1+1) z4.toList/\Below w w (xt wr.drew w k (xu (wdN R k)))):=by have kd:Below wr wr wr.drew:=(Below.refl _ _).drew;refine⟨?_,(HJ.2.1.k kd).Q qo _ _,(HJ.2.2.1.k kd).Q qo _ _,yAb HJ.2.2.2.drew qr _ _⟩;rw[<-xD9 _ _ hlt];exact(HJ.1.k kd).set k _
   go_wp2_with fail;refine⟨⟨k+1,qo,by go_num,a0⟩,?_⟩;go_light;simp[intOf];omega
  .obtain rfl:k=4:=qo
   rw[xE]at HJ;obtain⟨c0,c1,c2,c3⟩:=HJ.1.c4;obtain⟨d0,d1,d2,d3⟩:=HJ.2.2.1.c4;obtain⟨f0,f1,f2,f3⟩:=HJ.2.2.1.f4;have a1:=HJ.2.2.1.lt.2;go_wp2_with fail;refine bodyPost_ret (v:=psV R) (by simp[results,results247,results234,go_sem,d0,d1,d2,d3]) rfl ⟨rfl,?_⟩;repeat (first|exact HJ.2.2.2|refine Below.drew ?_|refine yAb ?_ qo _ _)):p:=h
theorem yDn S T (w:Ww):(xf 247 #[psV S,psV T] w (psV (sOr S T)):Prop):=by have hR:=xMl S T;generalize sOr S T=R at*;exact zPJ
theorem yLi S T (w:Ww):(xf 234 #[psV S,psV T] w (psV (sAnd S T)):Prop):=by have hR:=xK7 S T;generalize sAnd S T=R at*;exact zPJ
def NulV(w:Ww)(t:Pat)(v:Vv):Prop:=∃(T:Nat)(c:Array Vv)(f:Nat),v=.iface T (.agg c)/\
 ((T=348/\f=285)\/(T=360/\f=286)\/(T=362/\f=287)\/(T=304/\f=238))/\
 Hid (∀w',Below w w w'->Calls prog f #[.agg c] w' λe w''=>e=.returned (nulB t)/\Below w' w' w'')
theorem xDw(w:Ww)(b:U8):NulV w (.byte b) (yRw b):=by refine⟨_,_,_,rfl,.inl ⟨rfl,rfl⟩,λw' _=>?_⟩;go_enter func285,ntmps285;go_wp2;go_ret;exact⟨rfl,qB⟩
theorem xHz(w:Ww)(f:U8->Bool):NulV w (.cls f) (clsV f):=by refine⟨_,_,_,rfl,.inr (.inl ⟨rfl,rfl⟩),λw' _=>?_⟩;go_enter func286,ntmps286;go_wp2;go_ret;exact⟨rfl,qB⟩
variable {w:Ww} {u:Vv}
theorem xHy(h:NulV w t u)(o r:Bool):NulV w (.rep t o r) (.iface 362 (.agg #[u,o,r])):=by
 refine⟨_,_,_,rfl,.inr (.inr (.inl ⟨rfl,rfl⟩)),λw' hw=>?_⟩;obtain⟨T,c,f,rfl,ht,HC⟩:=h;have hb:∀o:Obj,Below w' w' (w'.alloc o):=λo=>qB;have HB:Hid (∀o:Obj,Below w' w' (w'.alloc o)/\Below w w (w'.alloc o)):=λo=>⟨hb o,hw.trans ((hb o).mono hw.size)⟩;cases o with
 |true=>
  go_enter func287,ntmps287;go_wp2;go_ret;exact⟨by simp[nulB],(HB.out _).1⟩
 |false=>
  rcases ht with⟨rfl,rfl⟩|⟨rfl,rfl⟩|⟨rfl,rfl⟩|⟨rfl,rfl⟩;all_goals go_enter func287,ntmps287
  all_goals go_wp2
  all_goals apply (HC.out _ (HB.out _).2).mono
  all_goals rintro e w1 ⟨rfl,a0⟩
  all_goals go_wp2
  all_goals go_ret
  all_goals exact⟨by simp[nulB],(HB.out _).1.trans (a0.mono (HB.out _).1.size)⟩
theorem yHm:∀ts:List Pat,nulS ts=ts.all nulB
 | []=>rfl
 |t::ts=>by simp[nulS,yHm ts]
theorem yOh:∀os:List (List Pat),nulA os=os.any nulS
 | []=>rfl
 |t::ts=>by simp[nulA,yOh ts]
def NulQ(w:Ww)(ts:List Pat)(u:Vv):Prop:=∃(a:Option Addr)(n c:Nat),u=.slice a n c/\Hid (∀w',Below w w w'->Calls prog 254 #[.agg #[.slice a n c]] w' λe w''=>e=.returned (nulS ts)/\Below w' w' w'')
theorem xHx(h:yR4 (λt v=>wtP t<=500->NulV w t v) w lo ts u)(hwt:wtS ts<=500):NulQ w ts u:=by
 rcases h with⟨rfl,rfl⟩|⟨g,cp,us,rfl,a2,hV,hN⟩
 .refine⟨none,0,0,rfl,λw' hw=>?_⟩;go_enter func254,ntmps254;go_wp2;go_loopw[8] (λiv wr=>iv=(xi 0)/\Hid (Below w' w' wr)) (λ_ _=>0);case atStart=>exact⟨rfl,qB⟩
  case round=>obtain⟨rfl,HB⟩:=hrel;go_wp2;go_ret;exact⟨rfl,HB.out⟩
 .refine⟨_,_,_,rfl,λw' hw=>?_⟩;have⟨n,hn⟩:=qE ts.length;have a3:n<=500:=qw (yR7 ts)
  have HH:=qH5 hn (hn▸a2:us.length=n) hV hw (λi x t hx ht=>hN i x t hx ht (Nat.le_trans (yR6 (AC ht)) hwt):(∀(i:Nat) x t,us[i]?=some x->ts[i]?=some t->NulV w t x));rw[<-hn];go_enter func254,ntmps254;go_wp2;go_loopw[8] (λiv wr=>∃k:Nat,k<=n/\iv=(xi k)/\Hid (Below w' w' wr/\(ts.take k).all nulB=true)) (λiv _=>n-(intOf iv).toNat);case atStart=>exact⟨0,zero_le _,rfl,qB,by simp⟩
  case round=>
   obtain⟨k,hk,rfl,HB⟩:=hrel;by_cases hlt:k<n
   .have zk:(k:Int)<(n:Int):=qo
    obtain⟨x,hx⟩:∃x,us[k]?=some x:=qg (by rw[HH.2.1];exact hlt);obtain⟨t,ht⟩:∃t,ts[k]?=some t:=qg (by rw[<-HH.1];exact hlt);obtain⟨T,c,f,rfl,hT,HC⟩:=HH.2.2.2.2 k x t hx ht;have a0:=HH.2.2.2.1.trans (HB.1.mono HH.2.2.2.1.size);have c0:(xk wr g k (.iface T (.agg c)):Prop):=by rw[a0.cell (p:=(xd g k)) HH.2.2.1.lt];exact HH.2.2.1.val k _ hx
    have HX:Hid (ts[k]?=some t/\∀w2,Below wr wr w2->Below w w w2):=⟨ht,λw2 h2=>a0.trans (h2.mono a0.size)⟩;cases hnb:nulB t with
    |true=>
     have HN:Hid ((ts.take (k+1)).all nulB=true):=by show _=_;rw[AD,HX.1,all_append,HB.2];simp[hnb]
     rw[hnb]at HC;rcases hT with⟨rfl,rfl⟩|⟨rfl,rfl⟩|⟨rfl,rfl⟩|⟨rfl,rfl⟩;all_goals go_wp2
     all_goals apply (HC.out _ (HX.2 _ (Below.refl _ _))).mono
     all_goals rintro e w1 ⟨rfl,a1⟩
     all_goals go_wp2
     all_goals refine⟨⟨k+1,qo,by go_num,HB.1.trans (a1.mono HB.1.size),HN.out⟩,?_⟩
     all_goals go_light
     all_goals simp[intOf]
     all_goals omega
    |false=>
     have HN:Hid (nulS ts=false):=by show _=_;rw[yHm,all_eq_false];exact⟨t,AC HX.1,by simp[hnb]⟩
     rw[hnb]at HC;rcases hT with⟨rfl,rfl⟩|⟨rfl,rfl⟩|⟨rfl,rfl⟩|⟨rfl,rfl⟩;all_goals go_wp2
     all_goals apply (HC.out _ (HX.2 _ (Below.refl _ _))).mono
     all_goals rintro e w1 ⟨rfl,a1⟩
     all_goals go_wp2
     all_goals go_ret
     all_goals exact⟨by rw[HN.out];rfl,HB.1.trans (a1.mono HB.1.size)⟩
   .obtain rfl:k=n:=qo
    have zk:¬(k:Int)<(k:Int):=qo
    go_wp2;go_ret;refine⟨?_,HB.1⟩;have:=HB.2;rw[HH.1,take_length]at this;rw[yHm,this];rfl
theorem xH0(h:yUj (λt v=>wtP t<=500->NulV w t v) w lo os u)(hwt:wtA os<=500):∃(a:Option Addr)(n c:Nat),u=.slice a n c/\Hid (∀w',Below w w w'->Calls prog 238 #[.agg #[.slice a n c]] w' λe w''=>e=.returned (nulA os)/\Below w' w' w''):=by
 obtain⟨g,cp,us,rfl,a4,hV,hN⟩:=h;refine⟨_,_,_,rfl,λw' hw=>?_⟩;have⟨n,hn⟩:=qE os.length;have a5:n<=500:=by have:=yS os;omega
 have HH:=qH5 hn (hn▸a4:us.length=n) hV hw (λi x t hx ht=>xHx (hN i x t hx ht) (Nat.le_trans (yR9 (AC ht)) hwt):(∀(i:Nat) x t,us[i]?=some x->os[i]?=some t->NulQ w t x));rw[<-hn];clear a4 hV hN hw hn;go_enter func238,ntmps238;go_wp2;go_loopw[8] (λiv wr=>∃k:Nat,k<=n/\iv=(xi k)/\Hid (Below w' w' wr/\(os.take k).any nulS=false)) (λiv _=>n-(intOf iv).toNat);case atStart=>exact⟨0,zero_le _,rfl,qB,by simp⟩
 case round=>
  obtain⟨k,hk,rfl,HB⟩:=hrel;by_cases hlt:k<n
  .have zk:(k:Int)<(n:Int):=qo
   obtain⟨x,hx⟩:∃x,us[k]?=some x:=qg (by rw[HH.2.1];exact hlt);obtain⟨t,ht⟩:∃t,os[k]?=some t:=qg (by rw[<-HH.1];exact hlt);obtain⟨sa,sn,sc,rfl,HC⟩:=HH.2.2.2.2 k x t hx ht;have a2:=HH.2.2.2.1.trans (HB.1.mono HH.2.2.2.1.size);have c0:(xk wr g k (.slice sa sn sc):Prop):=by rw[a2.cell (p:=(xd g k)) HH.2.2.1.lt];exact HH.2.2.1.val k _ hx
   have HX:Hid (os[k]?=some t/\∀w2,Below wr wr w2->Below w w w2):=⟨ht,λw2 h2=>a2.trans (h2.mono a2.size)⟩;have a0:Hid (∀o:Obj,Below wr wr (wr.alloc o)):=λo=>qB;cases hnb:nulS t with
   |false=>
    have HN:Hid ((os.take (k+1)).any nulS=false):=by show _=_;rw[AD,HX.1,any_append,HB.2];simp[hnb]
    rw[hnb]at HC;go_wp2_with fail;refine(HC.out _ (HX.2 _ (a0.out _))).mono ?_;rintro e w1 ⟨rfl,a1⟩;have a3:=qH1 (HB.1.trans (((a0.out _).trans (a1.mono (a0.out _).size)).mono HB.1.size));clear a1;go_wp2_with fail;refine⟨⟨k+1,qo,by go_num,a3.out,HN.out⟩,?_⟩;go_light;simp[intOf];omega
   |true=>
    have HN:Hid (nulA os=true):=by show _=_;rw[yOh,any_eq_true];exact⟨t,AC HX.1,hnb⟩
    rw[hnb]at HC;clear hnb;go_wp2_with fail;refine(HC.out _ (HX.2 _ (a0.out _))).mono ?_;rintro e w1 ⟨rfl,a1⟩;have a3:=qH1 (HB.1.trans (((a0.out _).trans (a1.mono (a0.out _).size)).mono HB.1.size));clear a1;go_wp2_with fail;go_ret;exact⟨by rw[HN.out];rfl,a3.out⟩
  .obtain rfl:k=n:=qo
   have zk:¬(k:Int)<(k:Int):=qo
   go_wp2_with fail;go_ret;refine⟨?_,HB.1⟩;have:=HB.2;rw[HH.1,take_length]at this;rw[yOh,this];rfl
theorem yOg:∀(n:Nat){w:Ww}{lo:Nat->Prop}{t:Pat}{v:Vv},yDv n w lo t v->wtP t<=500->NulV w t v
 |0,_,_,_,_,h,_=>h.elim
 |n+1,w,lo,.byte b,v,h,_=>by rw[show v=yRw b from h];exact xDw w b
 |n+1,w,lo,.cls f,v,h,_=>by rw[show v=clsV f from h];exact xHz w f
 |n+1,w,lo,.rep t o r,v,⟨u,h1,h2⟩,hw=>h1▸(xHy (yOg n h2 (by simpa only[wtP]using hw)) o r)
 |n+1,w,lo,.alt os,v,⟨u,h1,h2⟩,hw=>by
  obtain⟨a,m,c,rfl,HC⟩:=xH0 (h2.mono (M:=λt v=>wtP t<=500->NulV w t v) (λt v q=>yOg n q) (λ_ _ q=>q)) (by simp only[wtP]at hw;omega)
  exact⟨_,_,_,h1,.inr (.inr (.inr ⟨rfl,rfl⟩)),λw' hw=>by have:=HC.out w' hw;simpa only[nulB]using this⟩
inductive Ch(fa:Nat->Nat->Bool)(K:Nat):Nat->Nat->Prop
 |one {i j:Nat} (h:fa i j=true) (hij:i<=j):Ch fa K i j
 |more {i m j:Nat} (h:fa i m=true) (him:i<=m) (hm:m<K) (k:Ch fa K m j):Ch fa K i j
variable {fa:Nat->Nat->Bool} {j:Nat}
theorem Ch.le(h:Ch fa K i j):i<=j:=by
 induction h with
 |one _ h=>exact h
 |more _ h _ _ ih=>omega
theorem Ch.mono{K':Nat}(h:Ch fa K i j)(hK:K<=K'):Ch fa K' i j:=by
 induction h with
 |one h h'=>exact .one h h'
 |more h h1 h2 _ ih=>exact .more h h1 qo ih
theorem Ch.cat{m:Nat}(h:Ch fa K i m)(hm:m<K)(k:Ch fa K m j):Ch fa K i j:=by
 induction h with
 |one h h'=>exact .more h h' hm k
 |more h h1 h2 _ ih=>exact .more h h1 h2 (ih hm k)
theorem Ch.split(h:Ch fa (K+1) i j):Ch fa K i j\/(Ch fa K i K/\Ch fa K K j):=by
 induction h with
 |one h h'=>exact .inl (.one h h')
 | @more i m j h h1 h2 _ ih=>
   by_cases e:m=K
   .subst e;rcases ih with k|⟨_,k⟩
    .exact .inr ⟨.one h h1,k⟩
    .exact .inr ⟨.one h h1,k⟩
   .rcases ih with k|⟨k1,k2⟩
    .exact .inl (.more h h1 qo k)
    .exact .inr ⟨.more h h1 qo k1,k2⟩
theorem yG2(fa:Nat->Nat->Bool):∀(K i j:Nat),i<=j->(plK fa K i j=true↔Ch fa K i j)
 |0,i,j,hij=>by
  constructor
  .exact λh=>.one h hij
  .intro h
   cases h with
   |one h _=>exact h
   |more _ _ h _=>omega
 |K+1,i,j,hij=>by
  simp only[plK,Bool.or_eq_true,Bool.and_eq_true,decide_eq_true_eq]
  constructor
  .rintro(h|⟨⟨⟨h1,h2⟩,h3⟩,h4⟩)
   .exact((yG2 fa K i j hij).1 h).mono qo
   .exact(((yG2 fa K i K h1).1 h3).mono qo).cat qo (((yG2 fa K K j h2).1 h4).mono qo)
  .intro h
   rcases h.split with k|⟨k1,k2⟩
   .exact .inl ((yG2 fa K i j hij).2 k)
   .exact .inr ⟨⟨⟨k1.le,k2.le⟩,(yG2 fa K i K k1.le).2 k1⟩,(yG2 fa K K j k2.le).2 k2⟩
def RelW(s:List U8)(f:Nat->Nat->Bool)(P:List U8->Prop):Prop:=∀i j,i<=j->j<=s.length->(f i j=true↔P (cut s i j))
variable {s x:List U8}
theorem yRm(hij:i<=j)(hj:j<=s.length)(h:cut s i j=x++y):∃m,i<=m/\m<=j/\x=cut s i m/\y=cut s m j:=by have⟨h1,h2,h3⟩:=yRn h hj hij;exact⟨i+x.length,qo,h3,h1.symm,h2.symm⟩
variable {P:List U8->Prop}
theorem RelW.plus(h:RelW s fa P):RelW s (plK fa (s.length+1)) (Pls P):=by
 intro i j hij hj;rw[yG2 fa _ i j hij];constructor
 .intro k;induction k with
  |one h' h1=>exact .one ((h _ _ h1 hj).1 h')
  | @more i m j h' h1 h2 k ih=>
    have a0:=k.le;rw[yBs h1 a0];exact .more ((h i m h1 qo).1 h') (ih a0 hj)
 .intro k;generalize hx:cut s i j=x at k;induction k generalizing i j with
  |one h'=>subst hx;exact .one ((h i j hij hj).2 h') hij
  |more h' k ih=>
   have⟨m,h1,h2,h3,h4⟩:=yRm hij hj hx;exact .more ((h i m h1 qo).2 (by rw[<-h3];exact h')) h1 qo (ih m j h2 hj h4.symm)
theorem RelW.or(h:RelW s fa P)(k:RelW s fb Q):RelW s (λi j=>fa i j || fb i j) (λx=>P x\/Q x):=by intro i j hij hj;rw[Bool.or_eq_true,h i j hij hj,k i j hij hj]
theorem yWr(s:List U8):RelW s (λi j=>i==j) (λx=>x= []):=by
 intro i j hij hj;rw[beq_iff_eq];constructor
 .intro e;rw[e];exact yFy s j
 .intro e;have:=yA5 (p:=s) (i:=i) hj;rw[e]at this;simp at this;omega
theorem RelW.then(h:RelW s fa P)(k:RelW s fb Q):RelW s (λi j=>thF fa fb i j (s.length+1)) (λx=>∃y z,x=y++z/\P y/\Q z):=by
 intro i j hij hj;rw[xG6];constructor
 .rintro⟨m,h0,h1,h2,h3,h4⟩;exact⟨cut s i m,cut s m j,yBs h1 h2,(h i m h1 qo).1 h3,(k m j h2 hj).1 h4⟩
 .rintro⟨y,z,hx,hy,hz⟩;have⟨m,h1,h2,h3,h4⟩:=yRm hij hj hx;exact⟨m,qo,h1,h2,(h i m h1 qo).2 (by rw[<-h3];exact hy),(k m j h2 hj).2 (by rw[<-h4];exact hz)⟩
theorem RelW.iff{f g:Nat->Nat->Bool}(h:RelW s f P)(hf:∀i j,i<=j->j<s.length+1->g i j=f i j)(hp:∀x,Q x↔P x):RelW s g Q:=by intro i j hij hj;rw[hf i j hij qo,h i j hij hj,hp]
theorem Pls.mono(h:∀x,P x->Q x)(k:Pls P x):Pls Q x:=by
 induction k with
 |one k=>exact .one (h _ k)
 |more k _ ih=>exact .more (h _ k) ih
theorem Pls.cat(h:Pls P x)(k:Pls P y):Pls P (x++y):=by
 induction h with
 |one h=>exact .more h k
 |more h _ ih=>rw[append_assoc];exact .more h ih
theorem yPy(P:List U8->Prop)(o r:Bool)(x:List U8):Pls (RepL P o r) x↔RepL P o true x:=by
 have a0:∀y,RepL P o r y->RepL P o true y:=by
  intro y h;rcases h with h|h
  .exact .inl h
  .refine .inr ?_;rw[iB rfl];cases r with
   |true=>rw[iB rfl]at h;exact h
   |false=>rw[iA qj]at h;exact .one h
 constructor
 .intro k;induction k with
  |one h=>exact a0 _ h
  | @more y z h k ih=>
    rcases a0 y h with⟨ho,hy⟩|hy
    .rw[hy];exact ih
    .rcases ih with⟨ho,hz⟩|hz
     .rw[hz,append_nil];exact .inr hy
     .rw[iB rfl]at hy hz;exact .inr (by rw[iB rfl];exact hy.cat hz)
 .rintro(h|h)
  .exact .one (.inl h)
  .rw[iB rfl]at h;exact h.mono (λy hy=>.inr (by
    cases r with
    |true=>rw[iB rfl];exact .one hy
    |false=>rw[iA qj];exact hy))
theorem yUv(P:List U8->Prop)(o r:Bool)(x:List U8):(RepL P o r x\/x= [])↔RepL P true r x:=by
 constructor
 .rintro((⟨_,h⟩|h)|h)
  .exact .inl ⟨rfl,h⟩
  .exact .inr h
  .exact .inl ⟨rfl,h⟩
 .rintro(⟨_,h⟩|h)
  .exact .inr h
  .exact .inl (.inr h)
theorem yT0(h:clsM p j b f=.inl (g,k)):j<p.length:=by
 unfold clsM at h;split at h
 .assumption
 .cases h
theorem xA2(h:clsM p j it g=.inl (f,n)):
  (p[j]?=some 93/\it=true/\g=f/\j+1=n)\/
  ∃x lo k1,p[j]?=some x/\¬x=93/\chM p j=(lo,k1,true)/\k1<p.length/\∃y,p[k1]?=some y/\
   ((y=45/\∃hi m,chM p (k1+1)=(hi,m,true)/\clsM p m true (λc=>g c || (decide (lo<=c) && decide (c<=hi)))=.inl (f,n))\/
    (¬y=45/\clsM p k1 true (λc=>g c || (decide (lo<=c) && decide (c<=lo)))=.inl (f,n))):=by
 have hj:=yT0 h;unfold clsM at h;rw[dif_pos hj]at h;split at h
 .next hc=>
  simp only[AA,AB]at h;exact .inl ⟨hc.1,hc.2,h.1,h.2⟩
 .split at h
  .cases h
  .next a b k hk=>
   refine .inr ?_;obtain⟨x,hx⟩:∃x,p[j]?=some x:=qg hj;unfold yB2 at hk;split at hk
   .cases hk
   .next lo k1 hch=>
    have a0:¬x=93:=λq=>by unfold chM at hch;rw[hx]at hch;simp[q]at hch
    split at hk
    .next h45=>
     split at hk
     .cases hk
     .next hi m hch2=>
      split at hk
      .cases hk
      .simp only[AA,AB]at hk;obtain⟨rfl,rfl,rfl⟩:=hk;exact⟨x,lo,k1,hx,a0,hch,yAt h45,45,h45,.inl ⟨rfl,hi,m,hch2,h⟩⟩
    .next h45=>
     simp only[AA,AB]at hk;obtain⟨rfl,rfl,rfl⟩:=hk;have a1:=yT0 h;obtain⟨y,hy⟩:∃y,p[k1]?=some y:=qg a1;exact⟨x,lo,k1,hx,a0,hch,a1,y,hy,.inr ⟨λq=>h45 (by rw[hy,q]),h⟩⟩
theorem yQy(q:Ba)(hq:q.size<=200)(b:U8)(f:U8->Bool)(h:yAw (sb q) 1=.inl (f,q.size)) w:Calls prog 255 #[q,.int .u8 (b.toNat:Int)] w λe w'=>e=.returned (f b)/\w'=w:=by
 obtain⟨ng,f0,j0,hj0,a0,hf,hng⟩:∃(ng:Bool)(f0:U8->Bool)(j0:Nat),j0=(if ng=true then 2 else 1)/\clsM (sb q) j0 false (λ_=>false)=.inl (f0,q.size)/\(∀c,f c=(f0 c != ng))/\(ng=true↔(sb q)[1]?=some 94):=by
  unfold yAw at h;split at h
  .next h94=>
   split at h
   .next g k hk=>
    simp only[AA,AB]at h;obtain⟨rfl,rfl⟩:=h;exact⟨true,g,2,rfl,hk,λc=>by show(!g c)=(g c != true);cases g c<;>rfl,⟨λ_=>h94,λ_=>rfl⟩⟩
   .cases h
  .next h94=>exact⟨false,f,1,rfl,h,λc=>by cases f c<;>rfl,⟨λq=>(by cases q),λq=>absurd q h94⟩⟩
 have hjl:=yT0 a0;rw[yAd]at hjl;have a2:1<q.size:=by
  cases ng
  .simp at hj0;omega
  .have:=yAt (hng.1 rfl);rw[yAd]at this;exact this
 obtain⟨x1,hx1⟩:∃x,(sb q)[1]?=some x:=qg (by rw[yAd];exact a2);have⟨_,a3⟩:=yA9 hx1;have HC0:=qH1 a0;have HFn:=qH1 hf;have z1:(1:Int)<(q.size:Int):=qo
 cases ng
 case false=>
  have a1:((x1.toNat:Int)==94)=false:=iC.2 (yCp (c:=94) (λq=>by have h1:=hng.2 (by rw[hx1,q]);cases h1));obtain rfl:j0=1:=by simpa using hj0
  exact zzQ4
 case true=>
  have a1:((x1.toNat:Int)==94)=true:=by
   have h1:=hng.1 rfl;rw[hx1]at h1;cases h1
   rfl
  obtain rfl:j0=2:=by simpa using hj0
  exact zzQ4
theorem yWs(c k:Int)(w:Ww):(Instr.field 158 (.agg #[xi c,xi k]) 0).run prog w=.ok (xi c) w:=qk
theorem yQ(O cb:Nat)(bv:Vv)(n:Nat) w (h:yAo O cb bv n w):Calls prog 176 #[xp cb] w (TxtP O cb bv n 100000 w):=by
 have HD:=qH1 h;clear h;go_enter func176,ntmps176;go_wp2_with fail;refine(yAs O cb bv n 12 _ HD.out qo qo).mono ?_;rintro e w1 ⟨x,rfl,hx0,hx1,hD1,hC1⟩;have H1:=qH2 hD1 hC1;clear hD1 hC1;by_cases h0:x=0
 .subst h0;go_wp2_with fail;go_ret;exact⟨_,rfl,qj,H1.out⟩
 have b0:(x==0)=false:=by rw[iC];exact h0
 by_cases h4:x<4
 .go_wp2_with fail;refine(yBm O cb bv n 0 2 _ H1.1 qo qo qo).mono ?_;rintro e w2 ⟨s,rfl,hs,hD2,hC2⟩;have H2:=qH2 hD2 (H1.2.trans hC2);have hcl:=hD2.lt.2;clear hD2 hC2;go_wp2_with fail;refine(yDr O cb bv n _ 7 _ ((H2.1).k (qB)) qo qo qo (by simp) ?_).mono ?_
  .intro k hk;match k,hk with
   |0,_|1,_|2,_|3,_|4,_|5,_|6,_=>exact⟨_,by simp;rfl,qj⟩
  .rintro e w3 ⟨t,rfl,ht,hD3,hC3⟩;have H3:=qH2 hD3 ((H2.2.alloc_new _).trans hC3);clear hD3 hC3;go_wp2_with fail;go_ret;exact⟨_,rfl,by rw[yD1];omega,H3.out⟩
 .go_wp2_with fail;refine(yZj O cb bv n _ H1.1).mono ?_;rintro e w2 ⟨s,rfl,hs,hD2,hC2⟩;have H2:=qH2 hD2 (H1.2.trans hC2);clear hD2 hC2;have hsm:s.size<=maxLen:=by unfold maxLen;omega
  have HC:=qH1 (yCd s w2 hsm);clear hsm;go_wp2_with fail;refine HC.mono ?_;rintro e w3 ⟨rfl,hb3⟩;have H3:=qH2 (H2.1.k hb3) (H2.2.trans (Chg.h hb3));obtain⟨c,hc⟩:=qE ((yBl (sb s)).1:Int);obtain⟨k,hk⟩:=qE (((yBl (sb s)).2:Int):Int);rw[<-hc,<-hk];clear hc hk hb3;have hf:=yWs c k w3;by_cases hc0:c=0
  .subst hc0;go_wp2_with fail;go_ret;exact⟨s,rfl,qo,H3.out⟩
  .have bc:(c==0)=false:=by rw[iC];exact hc0
   go_wp2_with fail;refine(yBm O cb bv n 0 2 _ H3.1 qo qo qo).mono ?_;rintro e w4 ⟨t,rfl,ht,hD4,hC4⟩;have H4:=qH2 hD4 (H3.2.trans hC4);clear hD4 hC4;go_wp2_with fail;go_ret;exact⟨t,rfl,qo,H4.out⟩
end Go.Proofs.YtnnagkfoiganfaaGreatDoor
