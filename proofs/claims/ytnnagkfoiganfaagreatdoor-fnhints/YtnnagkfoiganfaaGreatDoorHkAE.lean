import Derived.Test.YtnnagkfoiganfaaGreatDoorHkAB
import Derived.Test.YtnnagkfoiganfaaGreatDoorHkAC
import Derived.Test.YtnnagkfoiganfaaGreatDoorHkAD
namespace Go.Proofs.YtnnagkfoiganfaaGreatDoor
open Go.ChangeShapes Go.WideShapes Go.ChangeAt Go.RowKit Go.Deep XD XI XU XG XP XK XW XT XF XE XH _root_.List _root_.Nat XY Go.Proofs.Tryz
open _root_.Go renaming wpList_append_own_at->Aa,info_parts->Aj,bodyPost_ret->An,Ending->Ao
open _root_.Go.IntKind renaming signed->AV,wrap->AX,bits->AY
open _root_.Go.Obj renaming cells->AR
open _root_.Go.Region renaming wanted->AM
open _root_.Go.Value renaming ownBlock->AE
open _root_.Go.World renaming ownsRow_made->AZ,ownsRow_lit->Al
open _root_.Go.World.ownsRow renaming lt->AF,cellAt->AJ,stored->AU,frozenAt->Aw
open _root_.Int renaming tdiv_eq_ediv_of_nonneg->AG,tmod_eq_emod_of_nonneg->AH
open _root_.List renaming length_append->AA,length_singleton->AB,mem_of_getElem?->AC,mem_cons->AD,length_take->AK,take_add_one->AN,take_append_drop->AS,getElem?_eq_some_iff->AT,mem_append->AW,length_eq_zero_iff->Ad,all_eq_true->Ae,cons_append->Af,length_cons->Ag,length_set->Ak,mem_nil_iff->Ap,drop_eq_getElem_cons->Aq,replicate->Ar,take_of_length_le->Au,mem_of_mem_take->Ay,mem_of_mem_drop->Az,flatMap_append->A6,append_assoc->A7,getElem?_map->A8
open _root_.Nat renaming zero_le->AI,le_refl->AO,le_trans->AP,zero_add->AQ,add_zero->Ac,add_assoc->Ai,mul_le_mul->As,zero_mul->Av,add_mul->Ax,mod_lt->A0
open _root_.Option renaming bind_some->Ab,bind_eq_some_iff->Ah
open _root_.Option.some renaming inj->AL
set_option linter.unusedVariables false
set_option linter.unusedSimpArgs false
set_option maxRecDepth 100000
set_option maxHeartbeats 64000000
set_option linter.unnecessarySimpa false
variable {ts:List Pat} {lo S:Nat->Prop} {s y:yAy} {g sty cx off conds gN oN sz ty c c1 c2 c' cap n b base':Nat} {Q:Exit->Act->Ww->Prop} {ks:List (List Nd)} {ds':List Int} {cnt:Int} {gd:Bool} {W0 W1 w1 w2:Ww} {os:List yAy} {ops:Array Oper} {rest:List Oper} {cv v':Vv}
theorem yMh(n:Nat)(h:n<64):IntKind.u64.wrap (2^n)=((2^n:Nat):Int):=by
 have hp:=Nat.pow_lt_pow_right (a:=2) qj h;rw[IntKind.wrap_u64];have e:((2:Int)^n)=((2^n:Nat):Int):=by simp
 rw[e];exact Int.emod_eq_of_lt (Int.natCast_nonneg _) (Int.ofNat_lt.2 hp)
theorem xGx S (a:Nat) (ha:a/64=0) (w:Ww):(xf 233 #[psV S,xi a] w (psV (sOr S (sOne a))):Prop):=by
 have za:a<256:=qo
 have zq:(a:Int).tdiv 64=0:=by rw[AG qo];omega
 have zr:(a:Int).tmod 64=((a%64:Nat):Int):=by rw[AH qo];omega
 have⟨n,hn⟩:=qE (a%64);rw[<-hn]at zr;have zn:n<64:=qo
 have zs:=yMh n zn;have a0:¬(n:Int)<0:=qo
 have zwi:IntKind.i64.wrap (0:Int)=0:=by rfl
 have zwn:IntKind.i64.wrap (n:Int)=n:=by simp[AX,AY,AV];omega
 have wo:=yL8 S a 0 ha.symm;rw[<-hn,show((2^n:Nat):Int)=(2:Int)^n by simp]at wo;have w1:=yB S a 1 qo;have w2:=yB S a 2 qo;have w3:=yB S a 3 qo;have HW:=qH2 wo (λj hj=>yB S a j qo:(∀j,¬j=0->wdN (sOr S (sOne a)) j=wdN S j));clear hn ha wo w1 w2 w3;go_enter func233,ntmps233;go_upto_region 1 with fail;refine yAf 9 (λwz=>xk wz w 0 (xu (wdN S 0))) qk ?_;refine yB8 (i:=0) (v:=?va0) rfl qk qk qk qk qj (λ_ _ _ h=>h) (Or.inl ⟨by rfl,?ya0⟩) (by simp) ?_;case ya0=>exact zzR1
 refine jS ?_;apply ja 1 (by simp) (v:=(xi 0));exact zzQ7
theorem xGw S (a:Nat) (ha:a/64=1) (w:Ww):(xf 233 #[psV S,xi a] w (psV (sOr S (sOne a))):Prop):=by
 have za:a<256:=qo
 have zq:(a:Int).tdiv 64=1:=by rw[AG qo];omega
 have zr:(a:Int).tmod 64=((a%64:Nat):Int):=by rw[AH qo];omega
 have⟨n,hn⟩:=qE (a%64);rw[<-hn]at zr;have zn:n<64:=qo
 have zs:=yMh n zn;have a0:¬(n:Int)<0:=qo
 have zwi:IntKind.i64.wrap (1:Int)=1:=by rfl
 have zwn:IntKind.i64.wrap (n:Int)=n:=by simp[AX,AY,AV];omega
 have wo:=yL8 S a 1 ha.symm;rw[<-hn,show((2^n:Nat):Int)=(2:Int)^n by simp]at wo;have w0:=yB S a 0 qo;have w2:=yB S a 2 qo;have w3:=yB S a 3 qo;have HW:=qH2 wo (λj hj=>yB S a j qo:(∀j,¬j=1->wdN (sOr S (sOne a)) j=wdN S j));clear hn ha wo w0 w2 w3;go_enter func233,ntmps233;go_upto_region 1 with fail;refine yAf 9 (λwz=>xk wz w 1 (xu (wdN S 1))) qk ?_;refine yB8 (i:=0) (v:=?va0) rfl qk qk qk qk qj (λ_ _ _ h=>h) (Or.inl ⟨by rfl,?ya0⟩) (by simp) ?_;case ya0=>exact zzR1
 refine jS ?_;apply ja 1 (by simp) (v:=(xi 1));exact zzQ7
theorem xGv S (a:Nat) (ha:a/64=2) (w:Ww):(xf 233 #[psV S,xi a] w (psV (sOr S (sOne a))):Prop):=by
 have za:a<256:=qo
 have zq:(a:Int).tdiv 64=2:=by rw[AG qo];omega
 have zr:(a:Int).tmod 64=((a%64:Nat):Int):=by rw[AH qo];omega
 have⟨n,hn⟩:=qE (a%64);rw[<-hn]at zr;have zn:n<64:=qo
 have zs:=yMh n zn;have a0:¬(n:Int)<0:=qo
 have zwi:IntKind.i64.wrap (2:Int)=2:=by rfl
 have zwn:IntKind.i64.wrap (n:Int)=n:=by simp[AX,AY,AV];omega
 have wo:=yL8 S a 2 ha.symm;rw[<-hn,show((2^n:Nat):Int)=(2:Int)^n by simp]at wo;have w0:=yB S a 0 qo;have w1:=yB S a 1 qo;have w3:=yB S a 3 qo;have HW:=qH2 wo (λj hj=>yB S a j qo:(∀j,¬j=2->wdN (sOr S (sOne a)) j=wdN S j));clear hn ha wo w0 w1 w3;go_enter func233,ntmps233;go_upto_region 1 with fail;refine yAf 9 (λwz=>xk wz w 2 (xu (wdN S 2))) qk ?_;refine yB8 (i:=0) (v:=?va0) rfl qk qk qk qk qj (λ_ _ _ h=>h) (Or.inl ⟨by rfl,?ya0⟩) (by simp) ?_;case ya0=>exact zzR1
 refine jS ?_;apply ja 1 (by simp) (v:=(xi 2));exact zzQ7
theorem xGu S (a:Nat) (ha:a/64=3) (w:Ww):(xf 233 #[psV S,xi a] w (psV (sOr S (sOne a))):Prop):=by
 have za:a<256:=qo
 have zq:(a:Int).tdiv 64=3:=by rw[AG qo];omega
 have zr:(a:Int).tmod 64=((a%64:Nat):Int):=by rw[AH qo];omega
 have⟨n,hn⟩:=qE (a%64);rw[<-hn]at zr;have zn:n<64:=qo
 have zs:=yMh n zn;have a0:¬(n:Int)<0:=qo
 have zwi:IntKind.i64.wrap (3:Int)=3:=by rfl
 have zwn:IntKind.i64.wrap (n:Int)=n:=by simp[AX,AY,AV];omega
 have wo:=yL8 S a 3 ha.symm;rw[<-hn,show((2^n:Nat):Int)=(2:Int)^n by simp]at wo;have w0:=yB S a 0 qo;have w1:=yB S a 1 qo;have w2:=yB S a 2 qo;have HW:=qH2 wo (λj hj=>yB S a j qo:(∀j,¬j=3->wdN (sOr S (sOne a)) j=wdN S j));clear hn ha wo w0 w1 w2;go_enter func233,ntmps233;go_upto_region 1 with fail;refine yAf 9 (λwz=>xk wz w 3 (xu (wdN S 3))) qk ?_;apply ja 0 (by simp);apply ja 1 (by simp) (v:=(xi 3));iterate 3 apply jb (by simp)
 refine ja 5 (by simp) (v:=(xi n)) ?_;iterate 2 refine jb (by simp) ?_
 refine jb (by simp) ?_;refine kL 9 ?_;refine qD ?_;go_wp2;refine An (v:=psV (sOr S (sOne a))) (by simp[results,results233,go_sem,HW.2]) rfl ⟨rfl,?_⟩;repeat (first|exact Below.refl _ _|refine Below.drew ?_|refine Below.alloc ?_ (by simp;done) _|refine Below.alloc ?_ qr _|refine Below.alloc ?_ (by simp;omega) _)
theorem yF S (a:Nat) (ha:a<256) (w:Ww):(xf 233 #[psV S,xi a] w (psV (sOr S (sOne a))):Prop):=by
 rcases(by omega:a/64=0\/a/64=1\/a/64=2\/a/64=3)with h|h|h|h
 .exact xGx S a h w
 .exact xGw S a h w
 .exact xGv S a h w
 .exact xGu S a h w
def NulV(w:Ww)(t:Pat)(v:Vv):Prop:=∃(T:Nat)(c:Array Vv)(f:Nat),v=.iface T (.agg c)/\
 ((T=348/\f=285)\/(T=360/\f=286)\/(T=362/\f=287)\/(T=304/\f=238))/\
 Hid (∀w',Below w w w'->Calls prog f #[.agg c] w' λe w''=>e=.returned (nulB t)/\Below w' w' w'')
theorem xAq(w:Ww)(b:U8):NulV w (.byte b) (yP0 b):=by refine⟨_,_,_,rfl,.inl ⟨rfl,rfl⟩,λw' _=>?_⟩;go_enter func285,ntmps285;go_wp2;go_ret;exact⟨rfl,qB⟩
theorem xD2(w:Ww)(f:U8->Bool):NulV w (.cls f) (clsV f):=by refine⟨_,_,_,rfl,.inr (.inl ⟨rfl,rfl⟩),λw' _=>?_⟩;go_enter func286,ntmps286;go_wp2;go_ret;exact⟨rfl,qB⟩
variable {w:Ww} {u:Vv}
theorem xD1{t:Pat}(h:NulV w t u)(o r:Bool):NulV w (.rep t o r) (.iface 362 (.agg #[u,o,r])):=by
 refine⟨_,_,_,rfl,.inr (.inr (.inl ⟨rfl,rfl⟩)),λw' hw=>?_⟩;obtain⟨T,c,f,rfl,ht,HC⟩:=h;have hb:∀o:Obj,Below w' w' (w'.alloc o):=λo=>qB;have HB:Hid (∀o:Obj,Below w' w' (w'.alloc o)/\Below w w (w'.alloc o)):=λo=>⟨hb o,hw.trans ((hb o).mono hw.size)⟩;cases o with
 |true=>
  go_enter func287,ntmps287;go_wp2;go_ret;exact⟨by simp[nulB],(HB.out _).1⟩
 |false=>
  rcases ht with⟨rfl,rfl⟩|⟨rfl,rfl⟩|⟨rfl,rfl⟩|⟨rfl,rfl⟩;all_goals go_enter func287,ntmps287
  all_goals go_wp2
  all_goals apply (HC.out _ (HB.out _).2).mono
  all_goals rintro e w1 ⟨rfl,a0⟩
  all_goals go_wp2
  all_goals go_ret
  all_goals exact⟨by simp[nulB],(HB.out _).1.trans (a0.mono (HB.out _).1.size)⟩
theorem yG6:∀ts:List Pat,nulS ts=ts.all nulB
 | []=>rfl
 |t::ts=>by simp[nulS,yG6 ts]
theorem yM0:∀os:List (List Pat),nulA os=os.any nulS
 | []=>rfl
 |t::ts=>by simp[nulA,yM0 ts]
def NulQ(w:Ww)(ts:List Pat)(u:Vv):Prop:=∃(a:Option Addr)(n c:Nat),u=.slice a n c/\Hid (∀w',Below w w w'->Calls prog 254 #[.agg #[.slice a n c]] w' λe w''=>e=.returned (nulS ts)/\Below w' w' w'')
theorem xD0(h:yP8 (λt v=>wtP t<=500->NulV w t v) w lo ts u)(hwt:wtS ts<=500):NulQ w ts u:=by
 rcases h with⟨rfl,rfl⟩|⟨g,cp,us,rfl,a2,hV,hN⟩
 .refine⟨none,0,0,rfl,λw' hw=>?_⟩;go_enter func254,ntmps254;go_wp2;go_loopw[8] (λiv wr=>iv=(xi 0)/\Hid (Below w' w' wr)) (λ_ _=>0);case atStart=>exact⟨rfl,qB⟩
  case round=>obtain⟨rfl,HB⟩:=hrel;go_wp2;go_ret;exact⟨rfl,HB.out⟩
 .refine⟨_,_,_,rfl,λw' hw=>?_⟩;have⟨n,hn⟩:=qE ts.length;have a3:n<=500:=qw (yQa ts)
  have HH:=qH5 hn (hn▸a2:us.length=n) hV hw (λi x t hx ht=>hN i x t hx ht (AP (yQ (AC ht)) hwt):(∀(i:Nat) x t,us[i]?=some x->ts[i]?=some t->NulV w t x));rw[<-hn];go_enter func254,ntmps254;go_wp2;go_loopw[8] (λiv wr=>∃k:Nat,k<=n/\iv=(xi k)/\Hid (Below w' w' wr/\(ts.take k).all nulB=true)) (λiv _=>n-(intOf iv).toNat);case atStart=>exact⟨0,AI _,rfl,qB,by simp⟩
  case round=>
   obtain⟨k,hk,rfl,HB⟩:=hrel;by_cases hlt:k<n
   .have zk:(k:Int)<(n:Int):=qo
    obtain⟨x,hx⟩:∃x,us[k]?=some x:=qg (by rw[HH.2.1];exact hlt);obtain⟨t,ht⟩:∃t,ts[k]?=some t:=qg (by rw[<-HH.1];exact hlt);obtain⟨T,c,f,rfl,hT,HC⟩:=HH.2.2.2.2 k x t hx ht;have a0:=HH.2.2.2.1.trans (HB.1.mono HH.2.2.2.1.size);have c0:(xk wr g k (.iface T (.agg c)):Prop):=by rw[a0.cell (p:=(xd g k)) HH.2.2.1.lt];exact HH.2.2.1.val k _ hx
    have HX:Hid (ts[k]?=some t/\∀w2,Below wr wr w2->Below w w w2):=⟨ht,λw2 h2=>a0.trans (h2.mono a0.size)⟩;cases hnb:nulB t with
    |true=>
     have HN:Hid ((ts.take (k+1)).all nulB=true):=by show _=_;rw[AN,HX.1,all_append,HB.2];simp[hnb]
     rw[hnb]at HC;rcases hT with⟨rfl,rfl⟩|⟨rfl,rfl⟩|⟨rfl,rfl⟩|⟨rfl,rfl⟩;all_goals go_wp2
     all_goals apply (HC.out _ (HX.2 _ (Below.refl _ _))).mono
     all_goals rintro e w1 ⟨rfl,a1⟩
     all_goals go_wp2
     all_goals refine⟨⟨k+1,qo,by go_num,HB.1.trans (a1.mono HB.1.size),HN.out⟩,?_⟩
     all_goals go_light
     all_goals simp[intOf]
     all_goals omega
    |false=>
     have HN:Hid (nulS ts=false):=by show _=_;rw[yG6,all_eq_false];exact⟨t,AC HX.1,by simp[hnb]⟩
     rw[hnb]at HC;rcases hT with⟨rfl,rfl⟩|⟨rfl,rfl⟩|⟨rfl,rfl⟩|⟨rfl,rfl⟩;all_goals go_wp2
     all_goals apply (HC.out _ (HX.2 _ (Below.refl _ _))).mono
     all_goals rintro e w1 ⟨rfl,a1⟩
     all_goals go_wp2
     all_goals go_ret
     all_goals exact⟨by rw[HN.out];rfl,HB.1.trans (a1.mono HB.1.size)⟩
   .obtain rfl:k=n:=qo
    have zk:¬(k:Int)<(k:Int):=qo
    go_wp2;go_ret;refine⟨?_,HB.1⟩;have:=HB.2;rw[HH.1,take_length]at this;rw[yG6,this];rfl
theorem xD3{os:List (List Pat)}(h:ySk (λt v=>wtP t<=500->NulV w t v) w lo os u)(hwt:wtA os<=500):∃(a:Option Addr)(n c:Nat),u=.slice a n c/\Hid (∀w',Below w w w'->Calls prog 238 #[.agg #[.slice a n c]] w' λe w''=>e=.returned (nulA os)/\Below w' w' w''):=by
 obtain⟨g,cp,us,rfl,a4,hV,hN⟩:=h;refine⟨_,_,_,rfl,λw' hw=>?_⟩;have⟨n,hn⟩:=qE os.length;have a5:n<=500:=by have:=yQd os;omega
 have HH:=qH5 hn (hn▸a4:us.length=n) hV hw (λi x t hx ht=>xD0 (hN i x t hx ht) (AP (yQc (AC ht)) hwt):(∀(i:Nat) x t,us[i]?=some x->os[i]?=some t->NulQ w t x));rw[<-hn];clear a4 hV hN hw hn;go_enter func238,ntmps238;go_wp2;go_loopw[8] (λiv wr=>∃k:Nat,k<=n/\iv=(xi k)/\Hid (Below w' w' wr/\(os.take k).any nulS=false)) (λiv _=>n-(intOf iv).toNat);case atStart=>exact⟨0,AI _,rfl,qB,by simp⟩
 case round=>
  obtain⟨k,hk,rfl,HB⟩:=hrel;by_cases hlt:k<n
  .have zk:(k:Int)<(n:Int):=qo
   obtain⟨x,hx⟩:∃x,us[k]?=some x:=qg (by rw[HH.2.1];exact hlt);obtain⟨t,ht⟩:∃t,os[k]?=some t:=qg (by rw[<-HH.1];exact hlt);obtain⟨sa,sn,sc,rfl,HC⟩:=HH.2.2.2.2 k x t hx ht;have a2:=HH.2.2.2.1.trans (HB.1.mono HH.2.2.2.1.size);have c0:(xk wr g k (.slice sa sn sc):Prop):=by rw[a2.cell (p:=(xd g k)) HH.2.2.1.lt];exact HH.2.2.1.val k _ hx
   have HX:Hid (os[k]?=some t/\∀w2,Below wr wr w2->Below w w w2):=⟨ht,λw2 h2=>a2.trans (h2.mono a2.size)⟩;have a0:Hid (∀o:Obj,Below wr wr (wr.alloc o)):=λo=>qB;cases hnb:nulS t with
   |false=>
    have HN:Hid ((os.take (k+1)).any nulS=false):=by show _=_;rw[AN,HX.1,any_append,HB.2];simp[hnb]
    rw[hnb]at HC;go_wp2_with fail;refine(HC.out _ (HX.2 _ (a0.out _))).mono ?_;rintro e w1 ⟨rfl,a1⟩;have a3:=qH1 (HB.1.trans (((a0.out _).trans (a1.mono (a0.out _).size)).mono HB.1.size));clear a1;go_wp2_with fail;refine⟨⟨k+1,qo,by go_num,a3.out,HN.out⟩,?_⟩;go_light;simp[intOf];omega
   |true=>
    have HN:Hid (nulA os=true):=by show _=_;rw[yM0,any_eq_true];exact⟨t,AC HX.1,hnb⟩
    rw[hnb]at HC;clear hnb;go_wp2_with fail;refine(HC.out _ (HX.2 _ (a0.out _))).mono ?_;rintro e w1 ⟨rfl,a1⟩;have a3:=qH1 (HB.1.trans (((a0.out _).trans (a1.mono (a0.out _).size)).mono HB.1.size));clear a1;go_wp2_with fail;go_ret;exact⟨by rw[HN.out];rfl,a3.out⟩
  .obtain rfl:k=n:=qo
   have zk:¬(k:Int)<(k:Int):=qo
   go_wp2_with fail;go_ret;refine⟨?_,HB.1⟩;have:=HB.2;rw[HH.1,take_length]at this;rw[yM0,this];rfl
theorem yMz:∀(n:Nat){w:Ww}{lo:Nat->Prop}{t:Pat}{v:Vv},yDo n w lo t v->wtP t<=500->NulV w t v
 |0,_,_,_,_,h,_=>h.elim
 |n+1,w,lo,.byte b,v,h,_=>by rw[show v=yP0 b from h];exact xAq w b
 |n+1,w,lo,.cls f,v,h,_=>by rw[show v=clsV f from h];exact xD2 w f
 |n+1,w,lo,.rep t o r,v,⟨u,h1,h2⟩,hw=>h1▸(xD1 (yMz n h2 (by simpa only[wtP]using hw)) o r)
 |n+1,w,lo,.alt os,v,⟨u,h1,h2⟩,hw=>by
  obtain⟨a,m,c,rfl,HC⟩:=xD3 (h2.mono (M:=λt v=>wtP t<=500->NulV w t v) (λt v q=>yMz n q) (λ_ _ q=>q)) (by simp only[wtP]at hw;omega)
  exact⟨_,_,_,h1,.inr (.inr (.inr ⟨rfl,rfl⟩)),λw' hw=>by have:=HC.out w' hw;simpa only[nulB]using this⟩
abbrev less(a b:Ba):Prop:=Op.bytesLess a.toList b.toList=true
theorem xAt(k:Int)(s:Ba)(h:Bool)(t:Ba)(l u n k':Int)(s':Ba)(h':Bool)(t':Ba)(l' u' n':Int)(wx:Ww):
  (binOp .eql 83 (.agg #[xi k,s,h,t,xu l,xu u,xi n]) (.agg #[xi k',s',h',t',xu l',xu u',xi n'])).run prog wx=.ok (decide (k=k'/\s.toList=s'.toList/\h=h'/\t.toList=t'.toList/\l=l'/\u=u'/\n=n')) wx:=by
 go_simp;repeat' split
 all_goals simp_all
theorem yVt(e:Nd)(w:Ww):Calls prog 88 #[e.v,.bool true,.bool false,.bool false,.bool false,.bool false] w λr w'=>∃b,r=.returned (.bool b)/\(b=true↔e.hi=false/\e.t.toList= []/\e.lo=0/\e.up=0/\e.n=0)/\Below w w w':=by exact yVz
theorem ySa(e:Nd)(w:Ww):Calls prog 88 #[e.v,.bool true,.bool true,.bool true,.bool false,.bool false] w λr w'=>∃b,r=.returned (.bool b)/\(b=true↔e.lo=0/\e.up=0/\e.n=0)/\Below w w w':=by exact yVz
theorem yVu(e:Nd)(w:Ww):Calls prog 88 #[e.v,.bool false,.bool true,.bool false,.bool true,.bool false] w λr w'=>∃b,r=.returned (.bool b)/\(b=true↔e.s.toList= []/\e.t.toList= []/\e.n=0)/\Below w w w':=by exact yVz
theorem yVv(e:Nd)(w:Ww):Calls prog 88 #[e.v,.bool false,.bool false,.bool false,.bool false,.bool true] w λr w'=>∃b,r=.returned (.bool b)/\(b=true↔e.s.toList= []/\e.hi=false/\e.t.toList= []/\e.lo=0/\e.up=0)/\Below w w w':=by exact yVz
theorem yVs(e:Nd)(w:Ww):Calls prog 88 #[e.v,.bool false,.bool false,.bool false,.bool false,.bool false] w λr w'=>∃b,r=.returned (.bool b)/\(b=true↔e.s.toList= []/\e.hi=false/\e.t.toList= []/\e.lo=0/\e.up=0/\e.n=0)/\Below w w w':=by exact yVz
theorem yYk(e:Nd)(w:Ww):Calls prog 184 #[e.v] w λr w'=>∃b,r=.returned (.bool b)/\(b=true↔((e.hi=false/\e.t.toList= []/\e.up=0)\/(e.hi=true/\(less e.s e.t\/e.lo<e.up))))/\Below w w w':=by
 go_enter func184,ntmps184;go_wp2;all_goals go_ret
 all_goals exact⟨_,rfl,by simp_all[less],qB⟩
def yCz(e:Nd):Prop:=e.s.size<=200/\e.t.size<=200/\(e.hi=false->e.t.toList= []/\e.up=0)/\
 (((e.f=4\/e.f=5\/e.f=6\/e.f=7)/\(e.hi=false/\e.t.toList= []/\e.lo=0/\e.up=0/\e.n=0)/\(yA0 (sb e.s)).1=0)\/
  ((e.f=8\/e.f=9)/\(e.lo=0/\e.up=0/\e.n=0)/\(e.hi=true->less e.s e.t))\/
  (e.f=10/\(e.s.toList= []/\e.t.toList= []/\e.n=0)/\(e.hi=true->e.lo<e.up))\/
  ((e.f=11\/e.f=12\/e.f=13)/\(e.s.toList= []/\e.hi=false/\e.t.toList= []/\e.lo=0/\e.up=0)/\1<=e.n/\e.n<=1000)\/
  ((e.f=1\/e.f=2\/e.f=3\/e.f=14\/e.f=15\/e.f=16)/\(e.s.toList= []/\e.hi=false/\e.t.toList= []/\e.lo=0/\e.up=0/\e.n=0)))
theorem yS2(c k:Int)(w:Ww):(Instr.field 158 (.agg #[xi c,xi k]) 0).run prog w=.ok (xi c) w:=qk
def xH8(e:Nd)(w:Ww)(r:Ao)(w':Ww):Prop:=∃b,r=.returned (.bool b)/\(b=true↔yCz e)/\Below w w w'
variable {p:Prop}
theorem zGf(h:p:=by go_wp2_with fail;go_ret;refine⟨_,rfl,⟨nofun,λq=>?_⟩,HW0.2.trans (hb1.mono hbw)⟩;have hB:=HB.out;simp[yCz]at q hB;simp_all):p:=h
theorem zGt(h:p:=by go_wp2_with fail;go_ret;refine⟨_,rfl,?_,HW0.2.trans (hb1.mono hbw)⟩;have hB:=HB.out;have hG:=HG.out;simp at hB;simp[yCz,less];simp_all;try omega):p:=h
theorem zGa(h:p:=by go_wp2_with fail;apply (yVt ⟨_,s,hi,t,lo,up,n⟩ _).mono;rintro r w1 ⟨b,rfl,hb,hb1⟩;have HB:=qH1 hb;have⟨d0,d1,d2,d3,d4,d5,d6⟩:=(HW0.1.k hb1).c7;clear hb;cases b;exact zGf;exact xIg):p:=h
theorem zGb(h:p:=by go_wp2_with fail;apply (ySa ⟨_,s,hi,t,lo,up,n⟩ _).mono;rintro r w1 ⟨b,rfl,hb,hb1⟩;have HB:=qH1 hb;have⟨d0,d1,d2,d3,d4,d5,d6⟩:=(HW0.1.k hb1).c7;clear hb;cases b;exact zGf;cases hi<;>exact zGt):p:=h
theorem zGc(h:p:=by go_wp2_with fail;apply (yVv ⟨_,s,hi,t,lo,up,n⟩ _).mono;rintro r w1 ⟨b,rfl,hb,hb1⟩;have HB:=qH1 hb;have⟨d0,d1,d2,d3,d4,d5,d6⟩:=(HW0.1.k hb1).c7;clear hb;cases b;exact zGf;by_cases h1:1<=n<;>exact zGt):p:=h
theorem zGe(h:p:=by go_wp2_with fail;apply (yVs ⟨_,s,hi,t,lo,up,n⟩ _).mono;rintro r w1 ⟨b,rfl,hb,hb1⟩;have HB:=qH1 hb;go_wp2_with fail;go_ret;refine⟨_,rfl,?_,HW0.2.trans (hb1.mono hbw)⟩;rw[HB.out];have hG:=HG.out;simp[yCz];simp_all):p:=h
theorem yYa(e:Nd)(w:Ww)(hs:e.s.size<=maxLen)(ht:e.t.size<=maxLen):Calls prog 40 #[e.v] w (xH8 e w):=by
 have⟨kind,s,hi,t,lo,up,n⟩:=e;have HS:=qH1 hs;unfold maxLen at hs ht;simp only[]at hs ht;have⟨W0,a0⟩:=qE (w.alloc (AR #[.int .i64 kind,.string s,.bool hi,.string t,.int .u64 lo,.int .u64 up,.int .i64 n] 83):Ww);have HW0:Hid (yA W0 w.heap.size 83 7 w.heap.size [.int .i64 kind,.string s,.bool hi,.string t,.int .u64 lo,.int .u64 up,.int .i64 n]/\Below w.heap.size w W0):=a0▸⟨yAa w _ (AO _) rfl,qB⟩
 have hbw:=HW0.2.size;obtain⟨c0,c1,c2,c3,c4,c5,c6⟩:=HW0.1.c7;go_enter func40,ntmps40;go_upto_region 1 with fail;rw[<-a0];clear a0;by_cases hgood:s.size<=200/\t.size<=200/\(hi=true\/(hi=false/\t.toList= []/\up=0));case neg=>
  have HG:Hid (¬yCz ⟨kind,s,hi,t,lo,up,n⟩):=λq=>hgood ⟨q.1,q.2.1,by
   cases hi
   .exact .inr ⟨rfl,q.2.2.1 rfl⟩
   .exact .inl rfl⟩
  by_cases h1:s.size<=200
  .have z1:¬(200:Int)<(s.size:Int):=qo
   by_cases h2:t.size<=200
   .have z2:¬(200:Int)<(t.size:Int):=qo
    have a2:hi=false:=by cases hi;rfl;exact absurd ⟨h1,h2,.inl rfl⟩ hgood
    subst a2;by_cases h3:t.toList= []
    .have h4:¬up=0:=λq=>hgood ⟨h1,h2,.inr ⟨rfl,h3,q⟩⟩;exact yZt
    .exact yZt
   .have z2:(200:Int)<(t.size:Int):=qo
    exact yZt
  .have z1:(200:Int)<(s.size:Int):=qo
   exact yZt
 have HG:=qH3 hgood.1 hgood.2.1 (λq=>hgood.2.2.elim (λz=>by rw[q]at z;cases z) (λz=>z.2):(hi=false->t.toList= []/\up=0));go_cut[27] (λs wx=>s=.bool false/\wx=W0);case first=>
  have z1:¬(200:Int)<(s.size:Int):=by have:=HG.1;omega
  have z2:¬(200:Int)<(t.size:Int):=by have:=HG.2.1;omega
  rcases hgood.2.2 with rfl|⟨rfl,h3,rfl⟩
  .go_wp2_with fail;go_meet;exact⟨rfl,rfl⟩
  .go_wp2_with fail;go_meet;exact⟨rfl,rfl⟩
 case rest=>
 obtain⟨rfl,rfl⟩:=hcut;clear hgood hs ht;obtain⟨c,hc⟩:=qE ((yA0 (sb s)).1);obtain⟨k,hk⟩:=qE (((yA0 (sb s)).2:Int):Int);have HV:=qH1 hc;have HC:Hid (∀w,Calls prog 89 #[.string s] w λe w'=>e=.returned (.agg #[.int .i64 c,.int .i64 k])/\Below w w w'):=λw=>by rw[hc,hk];exact yBm s w HS.out
 clear hc hk;by_cases k1:kind=4\/kind=5\/kind=6\/kind=7
 .rcases k1 with rfl|rfl|rfl|rfl<;>exact zGa
 by_cases k2:kind=8\/kind=9
 .rcases k2 with rfl|rfl<;>exact zGb
 by_cases k3:kind=10
 .subst k3;go_wp2_with fail;refine(yVu ⟨_,s,hi,t,lo,up,n⟩ _).mono ?_;rintro r w1 ⟨b,rfl,hb,hb1⟩;have HB:=qH1 hb;obtain⟨d0,d1,d2,d3,d4,d5,d6⟩:=(HW0.1.k hb1).c7;clear hb;cases b;exact zGf;cases hi<;>exact zGt
 by_cases k4:kind=11\/kind=12\/kind=13
 .rcases k4 with rfl|rfl|rfl<;>exact zGc
 by_cases k5:kind=1\/kind=2\/kind=3\/kind=14\/kind=15\/kind=16
 .rcases k5 with rfl|rfl|rfl|rfl|rfl|rfl<;>exact zGe
 have HF:Hid (¬yCz ⟨kind,s,hi,t,lo,up,n⟩):=by show¬yCz _;simp only[yCz];rintro⟨_,_,_,q⟩;omega
 have a1:¬(1<=kind/\kind<=16):=qo
 by_cases k0:1<=kind
 .have a3:¬kind<=16:=λq=>a1 ⟨k0,q⟩;exact zF HW0.2
 .exact zF HW0.2
open Classical in
noncomputable def goodB(e:Nd):Bool:=decide (yCz e)
theorem yH e:goodB e=true↔yCz e:=by unfold goodB;simp
def yB9(xs:List Nd):Prop:=xs.length<=200/\∃s,ShT goodB [s] xs/\s.valid=true/\s.nest<=20
variable {xs:List Nd}
theorem yDk(h:yB9 xs):∀e∈xs,yCz e:=by have⟨_,s,hs,hv,_⟩:=h;have:=ShT.valid goodB hs;simp[hv]at this;exact λe he=>(yH e).1 (this e he)
theorem xG5{t:yAy}(h:ShT goodB [s] xs)(k:ShT goodB [t] xs):s=t:=by have a:=ShT.fold goodB h [];have b:=ShT.fold goodB k [];rw[a]at b;simpa using b
def yN1(xs:List Nd)(w:Ww)(r:Ao)(w':Ww):Prop:=∃b,r=.returned (.bool b)/\(b=true↔yB9 xs)/\Below w w w'
structure WdN(w:Ww)(g o cp:Nat)(xs:List Nd):Prop where
 nds:yD1 w g o xs
 lt:g<w.heap.size
 caps:xs.length<=cp/\cp<=maxLen
variable {o cp:Nat}
theorem WdN.at(h:WdN w g o cp xs):yD1 w g o xs:=h.nds
variable {B:Nat} {w':Ww}
theorem WdN.k(h:WdN w g o cp xs)(hb:Below B w w')(hg:g<B):WdN w' g o cp xs:=
 ⟨h.at.k hb hg,by have:=hb.size;have:=h.lt;omega,h.caps⟩
variable {O:Nat}
theorem yC4.wd(h:yC4 w O g cp xs):WdN w g 0 cp xs:=⟨h.at,h.lt.2,h.caps⟩
theorem yDx(h:WdN w g o cp xs)(hok:∀e∈xs,e.ok):Calls prog 8 #[.agg #[(xy g o xs.length cp)]] w (yN1 xs w):=by
 have HO:=qH2 h hok;have hg:=h.lt;have a1:=h.caps;have⟨n,hn⟩:=qE xs.length;have HN:=qH1 hn;rw[<-hn]at a1|-;unfold maxLen at a1;clear h hok hn;have⟨W0,a3⟩:=qE (xw w #[(xy g o n cp)] 25:Ww);have HW0:Hid (yA W0 w 25 1 w [(xy g o n cp)]/\Below w w W0):=a3▸⟨yAa w _ qr rfl,qB⟩
 have c0:=HW0.1.z (j:=0) rfl;have s0:=HW0.2.size;go_enter func8,ntmps8;go_upto_region 1 with fail;rw[<-a3];clear a3;by_cases hbig:200<n
 .exact xIb
 have zb:¬(200:Int)<(n:Int):=qo
 go_wp2_with fail;clear c0;go_loopw[3] (λiv wr=>∃(j:Nat),iv=(xi j)/\j<=n/\(∀e∈xs.take j,yCz e)/\yA wr w 25 1 w [(xy g o n cp)]/\Below w w wr) (λiv _=>n-(intOf iv).toNat);case atStart=>exact⟨0,rfl,AI _,by simp,HW0.out⟩
 case round=>
  obtain⟨j,rfl,hj,hG,hB,hb⟩:=hrel;have HJ:=qH3 hG hB hb;have c0:=hB.z (j:=0) rfl;have sr:=hb.size;clear hG hB hb HW0;by_cases hlt:j<n
  .have zj:(j:Int)<(n:Int):=qo
   obtain⟨e,he⟩:∃e,xs[j]?=some e:=qg (by have:=HN.out;omega);obtain⟨d0,d1,d2,d3,d4,d5,d6⟩:=(HO.1.at.k HJ.2.2 hg) j e he;have ok:=HO.2 e (AC he);have HE:=qH4 ok.s ok.t (AC he) (by rw[AN,he];rfl:xs.take (j+1)=xs.take j++ [e]);clear ok he;go_wp2_with fail;refine(yYa e wr HE.1 HE.2.1).mono ?_;rintro r w2 ⟨b,rfl,hb,hb2⟩;have HB:=qH1 hb;have a4:=qH2 (HJ.2.1.k hb2) (HJ.2.2.trans (hb2.mono sr));clear hb hb2 c0 d0 d1 d2 d3 d4 d5 d6;cases b
   .have HF:Hid (¬yB9 xs):=λq=>by have:=HB.2 (yDk q e HE.2.2.1);cases this
    exact zF a4.2
   .go_wp2_with fail;go_roundw;case rel=>
     refine⟨j+1,by go_num,qo,?_,a4.1,a4.2⟩;intro e' a5;rw[HE.2.2.2]at a5;rcases AW.1 a5 with h|h
     .exact HJ.1 e' h
     .simp at h;subst h;exact HB.1 (by first|rfl|trivial)
    case measure=>simp[intOf];omega
  .have zj:¬(j:Int)<(n:Int):=qo
   have HA:Hid (∀e∈xs,yCz e):=by have h1:=HJ.1;rw[Au (by have:=HN.out;omega)]at h1;exact h1
   have a2:Win wr g o cp xs:=⟨HO.1.at.k HJ.2.2 hg,qo,by rw[<-HN.out];exact a1.1,qo,by have:=HN.out;omega⟩;have HT:Hid (Calls prog 41 #[(xy g o n cp)] wr λr w'=>w'=wr/\((r=.returned true/\IsT 1 xs)\/(r=.returned false/\¬IsT 1 xs))):=by rw[HN.out];exact yRf a2
   have a8:Hid (∀s,ShT goodB [s] xs->(xf 42 #[(xy g o n cp)] wr (xi s.nest):Prop)):=λs hs=>by rw[HN.out];exact yTf goodB xs.length wr g o cp xs s qr a2 hs
   clear a2;go_wp2_with fail;refine HT.mono ?_;rintro r w2 ⟨a0,(⟨rfl,hT⟩|⟨rfl,hT⟩)⟩
   .rw[a0];clear a0;obtain⟨ss,hl,hs⟩:=IsT.shapes goodB hT;obtain⟨s,rfl⟩:∃s,ss= [s]:=by
     match ss,hl with
     | [s],_=>exact⟨s,rfl⟩
    have a7:=qH1 hs;have HV:Hid (s.valid=true):=by show s.valid=true;have h1:=ShT.valid goodB hs;have h2:=Ae.2 (λe he=>(yH e).2 (HA.out e he));rw[h2]at h1;simpa using h1
    have HF:Hid (yB9 xs↔s.nest<=20):=by
     show yB9 xs↔_;constructor
     .rintro⟨_,t,ht,_,hn⟩;rw[xG5 hs ht];exact hn
     .intro hn;exact⟨by have:=HN.out;omega,s,hs,HV.out,hn⟩
    clear hT hl hs;go_wp2_with fail;refine(a8.out s a7.out).mono ?_;rintro r w3 ⟨rfl,a6⟩;have a9:=qH1 (HJ.2.2.trans (a6.mono sr));clear a6 c0;go_wp2_with fail;go_ret;exact⟨_,rfl,by rw[HF.out];simp<;>omega,a9.out⟩
   .rw[a0];clear a0;have HF:Hid (¬yB9 xs):=λq=>by obtain⟨_,s,hs,_⟩:=q;exact hT hs.tree
    clear hT;exact zF HJ.2.2
theorem yJf(h:yC4 w O g cp xs)(hok:∀e∈xs,e.ok)(hc:cp<=281474976710656):Calls prog 8 #[.agg #[xg g xs.length cp]] w (yN1 xs w):=yDx h.wd hok
section
section
variable {T:Type} (V:Nd->List T->T)
inductive TrV:List T->List Nd->Prop
 |nil:TrV [] []
 |snoc {ss os:List T} {xs:List Nd} (n:Nd) (ho:os.length=yAl n.f) (h:TrV (ss++os) xs):TrV (ss++ [V n os]) (xs++ [n])
def yWf(st:List T)(n:Nd):Option (List T):=
 if st.length<yAl n.f then none else some (st.take (st.length-yAl n.f)++ [V n (st.drop (st.length-yAl n.f))])
def yE6(st:List T):List Nd->Option (List T)
 | []=>some st
 |n::ns=>(yWf V st n).bind λs=>yE6 s ns
theorem yFh(st:List T) xs ys:yE6 V st (xs++ys)=(yE6 V st xs).bind (λs=>yE6 V s ys):=by
 induction xs generalizing st with
 |nil=>rfl
 |cons x xs ih=>
  simp only[Af,yE6];cases yWf V st x with
  |none=>rfl
  |some s=>exact ih s
theorem TrV.tree{ss:List T}(h:TrV V ss xs):IsT ss.length xs:=by exact xFx
theorem TrV.fold{ss:List T}(h:TrV V ss xs):∀st,yE6 V st xs=some (st++ss):=by
 induction h with
 |nil=>intro st;simp[yE6]
 | @snoc ss os xs n ho h ih=>
   intro st;rw[yFh,ih];simp only[Ab,yE6,yWf];rw[iA (by simp;omega)];have hl:(st++(ss++os)).length-yAl n.f=(st++ss).length:=by simp;omega
   rw[hl,<-A7,take_left,drop_left,A7];simp
theorem TrV.one{ss ts:List T}(h:TrV V ss xs)(k:TrV V ts xs):ss=ts:=by have a:=h.fold V [];have b:=k.fold V [];rw[a]at b;simpa using b
theorem TrV.split{ss:List T}(h:TrV V ss xs):∀{a b:List T},ss=a++b->∃ys zs,xs=ys++zs/\TrV V a ys/\TrV V b zs:=by
 induction h with
 |nil=>intro a b e;obtain⟨rfl,rfl⟩:a= []/\b= []:=by simpa using e.symm
       exact⟨[],[],rfl,.nil,.nil⟩
 | @snoc ss os xs n ho h ih=>
   intro a b e;exact zzU4
theorem TrV.inv{s:T}(h:TrV V [s] xs):∃ys n os,xs=ys++ [n]/\os.length=yAl n.f/\TrV V os ys/\s=V n os:=by exact xF8
inductive KidV:List T->List (List Nd)->Prop
 |nil:KidV [] []
 |cons {o:T} {os:List T} {k:List Nd} {ks:List (List Nd)} (h:TrV V [o] k) (t:KidV os ks):KidV (o::os) (k::ks)
theorem TrV.kids:∀{os:List T}{ys:List Nd},TrV V os ys->∃ks,ys=ks.flatten/\KidV V os ks
 | [],ys,h=>by
   have:=(TrV.tree V h).zero
   subst this
   exact⟨[],rfl,.nil⟩
 |o::os,ys,h=>by
  obtain⟨a,b,rfl,h1,h2⟩:=TrV.split V h (a:= [o]) (b:=os) rfl
  obtain⟨ks,rfl,hk⟩:=TrV.kids h2
  exact⟨a::ks,rfl,.cons h1 hk⟩
theorem KidV.length{os:List T}(h:KidV V os ks):os.length=ks.length:=by
 induction h with
 |nil=>rfl
 |cons _ _ ih=>simp[ih]
theorem KidV.nth{os:List T}(h:KidV V os ks):∀{j:Nat}{k:List Nd},ks[j]?=some k->∃o,os[j]?=some o/\TrV V [o] k:=by
 induction h with
 |nil=>intro j k hk;simp at hk
 |cons h1 _ ih=>
  intro j k hk;cases j with
  |zero=>simp at hk;subst hk;exact⟨_,rfl,h1⟩
  |succ j=>simp at hk;simpa using ih hk
end
end
section
section
variable {α:Type} {f:α->List Vv}
def OwnG(f:α->List Vv)(sz ty:Nat)(w:Ww)(O g cap:Nat)(es:List α):Prop:=w.ownsRow O ty sz (xg g es.length cap) es.length (es.flatMap f)
theorem OwnG.z(hf:∀x,(f x).length=sz){es:List α}(h:OwnG f sz ty w O g cap es){i:Nat}{e:α}(he:es[i]?=some e)(j:Nat)(hj:j<sz):w.cell? (xd g (i*sz+j))=(f e)[j]?:=by
 have hi:=qf he;have h1:i*sz+j<es.length*sz:=by have:(i+1)*sz<=es.length*sz:=mul_le_mul_right sz hi;rw[Ax]at this;omega
 have:=(AJ h (i*sz+j) h1).trans (yB6 hf es i e he j hj);simpa using this
theorem OwnG.lt{es:List α}(h:OwnG f sz ty w O g cap es):O<=g/\g<w.heap.size:=AF h g rfl
theorem OwnG.i{es:List α}(h:OwnG f sz ty w O g cap es)(hc:Chg S w w')(hn:¬S g):OwnG f sz ty w' O g cap es:=yAg h hc (λk q=>by simp[AE]at q;subst q;exact hn)
theorem OwnG.k{es:List α}(h:OwnG f sz ty w O g cap es)(hb:Below w w w'):OwnG f sz ty w' O g cap es:=h.i (Chg.h hb) (S:=λ_=>False) (λq=>q)
theorem OwnG.caps{es:List α}(h:OwnG f sz ty w O g cap es):es.length<=cap/\cap<=maxLen:=by exact yL7
theorem OwnG.take(hf:∀x,(f x).length=sz){es:List α}(h:OwnG f sz ty w O g cap es){k:Nat}(hk:k<=es.length):OwnG f sz ty w O g cap (es.take k):=by
 have hl:(es.take k).length=k:=by rw[AK];omega
 unfold OwnG;rw[hl,yLs hf es k hk];exact yQt h hk
end
section
variable {α:Type} {f:α->List Vv}
theorem apGG(hT:TyI sty ty sz)(hf:∀x,(f x).length=sz):ApT sty ty sz (λl=>l.flatMap f) (OwnG f sz ty) (λw b off l=>AtV w b off (l.flatMap f)):=apTG hT hf Iff.rfl id
theorem apGV{o:Oper}{a:Act}{K:Act->Ww->Prop}{s x:Operand}{v:Vv}(hT:TyI sty ty sz)(hf:∀x,(f x).length=sz)(h1:∀x,∀u∈f x,u.oneCell'=true)(ho:o.op=.call {callee:=.builtin .append,args:=#[s,x],argTypes:=#[sty,sty]})(O:Nat)(fs:List α)(e:α)(hs:a.eval s=v)(hx:a.eval x=xg b 1 cx)(hn:n=fs.length)(hO:w.ownsRow O ty sz v fs.length (fs.flatMap f))(hc:∀j u,(f e)[j]?=some u->(xk w b j u:Prop))(hlen:fs.length<=1000000)(hbase:O<=w.heap.size)
  (h:∀g' cp' w',OwnG f sz ty w' O g' cp' (fs++ [e])->w.grownBy w' v.ownBlock->(v.ownBlock=some g'\/g'=w.heap.size)->K (a.put o.dst (xg g' (n+1) cp')) w'):Oper.wp prog o a w K Q:=by
 subst hn;refine apV hT ho hs hx hO (vs:= [e].flatMap f) (m:=1) (by simp[hf]) (atG1 h1 hc) (lN (AP hlen qj)) hbase λv' w' a1 a6 a5 a0=>?_;rcases a1.2 with⟨h0,_⟩|⟨g',a7,cur,hv,_,_,hn,a8,_,_⟩
 .have:=(a5.1 h0).2;cases this
 .subst hv;refine h g' a7 w' (by unfold OwnG;rw[AA,A6];exact a1) a6 ?_;simp[AE]at a0;exact a0.imp Eq.symm id
theorem yBj(w:Ww)(cs:List Vv)(ty:Nat):∀j u,cs[j]?=some u->(xk (w.alloc (AR cs.toArray ty)) w j u:Prop):=by intro j u hu;rw[World.cell?_alloc_new];simpa using hu
def setCs(w:Ww)(g:Nat):Nat->List Vv->Ww
 |_,[]=>w
 |o,v::vs=>setCs (xt w g o v) g (o+1) vs
def setL:List Vv->Nat->List Vv->List Vv
 |L,_,[]=>L
 |L,o,v::vs=>setL (L.set o v) (o+1) vs
theorem yMl:∀(vs:List Vv)(L:List Vv)(o j:Nat),(setL L o vs)[j]?=if o<=j/\j<o+vs.length/\j<L.length then vs[j-o]? else L[j]?
 | [],L,o,j=>by rw[setL,iA (by simp;omega)]
 |v::vs,L,o,j=>by
  rw[setL,yMl vs,Ak,Ag]
  by_cases h1:j=o
  .subst h1
   rw[iA (by omega)]
   by_cases h2:j<L.length
   .rw[iB ⟨AO _,by omega,h2⟩,Nat.sub_self];simp[h2]
   .rw[iA (by omega)];simp[h2]
  .by_cases h2:o+1<=j/\j<o+1+vs.length/\j<L.length
   .rw[iB h2,iB (by omega),show j-o=(j-(o+1))+1 by omega,getElem?_cons_succ]
   .rw[iA h2,iA qo,getElem?_set_ne (λq=>h1 q.symm)]
theorem yAo{S:Nat->Prop}(g:Nat)(hs:S g):∀(vs:List Vv)(o:Nat)(w:Ww),Chg S w (setCs w g o vs)
 | [],o,w=>Chg.h (Below.refl _ _)
 |v::vs,o,w=>(Chg.D w g o v hs).trans (yAo g hs vs (o+1) _)
theorem yB4{g:Nat}{v:Vv}(hv:v.ownBlock=some g)(hv0:∃c,v=(xg g n c)):∀(vs:List Vv)(o:Nat)(w:Ww)(L:List Vv),w.ownsRow O ty sz v n L->(setCs w g o vs).ownsRow O ty sz v n (setL L o vs)
 | [],o,w,L,h=>h
 |x::vs,o,w,L,h=>by
  obtain⟨c,rfl⟩:=hv0
  exact yB4 hv ⟨c,rfl⟩ vs (o+1) _ _ (AU h o x).1
theorem ySu:∀(vs A B C:List Vv),B.length=vs.length->setL (A++(B++C)) A.length vs=A++(vs++C)
 | [],A,[],C,_=>rfl
 |v::vs,A,b::B,C,h=>by have:=ySu vs (A++ [v]) B C (by simpa using h);simpa [setL]using this
theorem OwnG.setAll(hf:∀x,(f x).length=sz){es:List α}(h:OwnG f sz ty w O g cap es){i:Nat}{e:α}(hi:i<es.length):OwnG f sz ty (setCs w g (i*sz) (f e)) O g cap (es.set i e):=by
 obtain⟨A,x,C,rfl,rfl⟩:∃A x C,es=A++x::C/\A.length=i:=⟨es.take i,es[i],es.drop (i+1),by rw[<-Aq hi,AS],by rw[AK];omega⟩
 have h1:=yB4 (sz:=sz) (ty:=ty) (O:=O) (g:=g) (v:=(xg g _ cap)) rfl ⟨cap,rfl⟩ (f e) (A.length*sz) w _ h;unfold OwnG;rw[A6,flatMap_cons,<-yBv hf A,ySu _ _ (f x) _ (by rw[hf,hf])]at h1;rw[<-yBv hf A];simpa using h1
end
end
structure Ix where
 op:Int
 a:Int
 b:Int
 free:Bool
 leaf:Nd
structure Ix.ok(e:Ix):Prop where
 op:(Lit.int .i64 e.op).wf=true
 a:(Lit.int .i64 e.a).wf=true
 b:(Lit.int .i64 e.b).wf=true
 leaf:e.leaf.ok
abbrev Ix.ten(e:Ix):List Vv:= [.int .i64 e.op,.int .i64 e.a,.int .i64 e.b,.bool e.free,.int .i64 e.leaf.f,.string e.leaf.s,.bool e.leaf.hi,.string e.leaf.t,.int .u64 e.leaf.lo,.int .u64 e.leaf.up,.int .i64 e.leaf.n]
abbrev Ix.v(e:Ix):Vv:=.agg #[xi e.op,xi e.a,xi e.b,e.free,xi e.leaf.f,e.leaf.s,e.leaf.hi,e.leaf.t,xu e.leaf.lo,xu e.leaf.up,xi e.leaf.n]
def yB2(es:List Ix):List Vv:=es.flatMap Ix.ten
theorem yD(es:List Ix):(yB2 es).length=es.length*11:=yBv (f:=Ix.ten) (λ_=>rfl) es
theorem yL2 es:∀(k:Nat)(e:Ix),es[k]?=some e->∀j,j<11->(yB2 es)[k*11+j]?=e.ten[j]?:=yB6 (f:=Ix.ten) (λ_=>rfl) es
theorem yVk(es:List Ix):∀(k:Nat)(e e':Ix)(u:Vv)(j:Nat),es[k]?=some e->j<11->e'.ten=e.ten.set j u->(yB2 es).set (k*11+j) u=yB2 (es.set k e'):=λk e e' u j=>yHv (f:=Ix.ten) (λ_=>rfl) es k e e' j u
def yBh(w:Ww)(b off:Nat)(es:List Ix):Prop:=
 ∀i e,es[i]?=some e->xk w b (off+i*11) (xi e.op)/\xk w b (off+i*11+1) (xi e.a)/\xk w b (off+i*11+2) (xi e.b)/\xk w b (off+i*11+3) e.free/\xk w b (off+i*11+4) (xi e.leaf.f)/\xk w b (off+i*11+5) e.leaf.s/\xk w b (off+i*11+6) e.leaf.hi/\xk w b (off+i*11+7) e.leaf.t/\xk w b (off+i*11+8) (xu e.leaf.lo)/\xk w b (off+i*11+9) (xu e.leaf.up)/\xk w b (off+i*11+10) (xi e.leaf.n)
variable {es:List Ix}
theorem yBh.k(h:yBh w b off es)(hb:Below B w w')(hlt:b<B):yBh w' b off es:=by have c:=λo=>hb.cell (p:=(xd b o)) hlt;intro i e he;simpa only[c]using h i e he
theorem yBh.i(h:yBh w b off es)(hb:Chg S w w')(hlt:b<w.heap.size)(hn:¬S b):yBh w' b off es:=by have c:=λo=>hb.z (p:=(xd b o)) hlt hn;intro i e he;simpa only[c]using h i e he
def OwnX(w:Ww)(O g cap:Nat)(es:List Ix):Prop:=w.ownsRow O 153 11 (xg g es.length cap) es.length (yB2 es)
theorem OwnX.at(h:OwnX w O g cap es):yBh w g 0 es:=by
 intro i e he;have hi:=qf he;have c:=λj (hj:j<11)=>(AJ h (i*11+j) qo).trans (yL2 es i e he j hj);refine⟨?_,?_,?_,?_,?_,?_,?_,?_,?_,?_,?_⟩
 .simpa using c 0 qo
 .simpa using c 1 qo
 .simpa using c 2 qo
 .simpa using c 3 qo
 .simpa using c 4 qo
 .simpa using c 5 qo
 .simpa using c 6 qo
 .simpa using c 7 qo
 .simpa using c 8 qo
 .simpa using c 9 qo
 .simpa using c 10 qo
theorem OwnX.lt(h:OwnX w O g cap es):O<=g/\g<w.heap.size:=AF h g rfl
variable {R:List Ix}
theorem OwnX.caps(h:OwnX w O g cp R):R.length<=cp/\cp<=maxLen:=by exact yL7
theorem OwnX.set(h:OwnX w O g cap es)(k j:Nat)(e e':Ix)(u:Vv)(hk:es[k]?=some e)(hj:j<11)(hc:e'.ten=e.ten.set j u):
  OwnX (xt w g (k*11+j) u) O g cap (es.set k e'):=by
 have:=(AU h (k*11+j) u).1;rw[yVk es k e e' u j hk hj hc]at this;unfold OwnX;rw[Ak];exact this
theorem Tryz.infoX:(prog.info? 153).map (λi=>(i.zero,i.size,i.bytes))=some (some (.agg #[xi 0,xi 0,xi 0,false,xi 0,xe,false,xe,xu 0,xu 0,xi 0]),11,104):=qk
def yC5(w:Ww)(v:Vv)(es:List Ix):Prop:=
 (∃a cap,v=.slice a 0 cap/\es= [])\/
 ∃b off cap,v=(xy b off es.length cap)/\yBh w b off es/\b<w.heap.size/\es.length<=cap/\cap<=maxLen
theorem yC5.k{v:Vv}(h:yC5 w v es)(hb:Below B w w')(hB:w.heap.size<=B):yC5 w' v es:=by exact xIe
theorem yC5.Z(h:OwnX w O g cap es)(hn:n=es.length):yC5 w (xg g n cap) es:=by subst hn;exact .inr ⟨g,0,cap,rfl,h.at,h.lt.2,h.caps.1,h.caps.2⟩
inductive CT where
 |leaf (n:Nd)
 |chain (n:Nd) (a b:CT)
 |inter (n:Nd) (a b:CT)
 |cond (n:Nd) (a b c:CT)
def ctV(n:Nd):List CT->CT
 | [a,b]=>if n.f=14 then .chain n a b else .inter n a b
 | [a,b,c]=>.cond n a b c
 |_=>.leaf n
def yA9(xs:List Nd)(t:CT):Prop:=TrV ctV [t] xs
inductive Part:CT->List Nd->Prop
 |leaf (n:Nd) (h:yAl n.f=0):Part (.leaf n) [n]
 |chain (n:Nd) {a b:CT} {ka kb:List Nd} (h:n.f=14) (ha:yA9 ka a) (hb:yA9 kb b):Part (.chain n a b) (ka++kb++ [n])
 |inter (n:Nd) {a b:CT} {ka kb:List Nd} (h:n.f=15) (ha:yA9 ka a) (hb:yA9 kb b):Part (.inter n a b) (ka++kb++ [n])
 |cond (n:Nd) {a b c:CT} {ka kb kc:List Nd} (h:n.f=16) (ha:yA9 ka a) (hb:yA9 kb b) (hc:yA9 kc c):Part (.cond n a b c) (ka++kb++kc++ [n])
variable {j:Nat}
theorem yEr{T:Type}{V:Nd->List T->T}{os:List T}{o:T}{k:List Nd}(h:KidV V os ks)(ho:os[j]?=some o)(hk:ks[j]?=some k):TrV V [o] k:=by
 have⟨o',h1,h2⟩:=KidV.nth _ h hk;rw[ho]at h1;cases h1
 exact h2
variable {t:CT}
theorem yA9.part(h:yA9 xs t):Part t xs:=by
 obtain⟨ys,n,os,rfl,hl,hT,rfl⟩:=TrV.inv _ h;obtain⟨ks,rfl,hK⟩:=TrV.kids _ hT;have a0:=hK.length;by_cases h14:n.f=14
 .have ha:yAl n.f=2:=by unfold yAl;rw[iB (.inl h14)]
  rw[ha]at hl;match os,ks,hl,a0,hK with
  | [a,b],[ka,kb],_,_,hK=>
    have e1:ctV n [a,b]=.chain n a b:=iB h14;have e2: [ka,kb].flatten++ [n]=ka++kb++ [n]:=by simp
    rw[e1,e2];exact .chain n h14 (yEr hK (j:=0) rfl rfl) (yEr hK (j:=1) rfl rfl)
 .by_cases h15:n.f=15
  .have ha:yAl n.f=2:=by unfold yAl;rw[iB (.inr h15)]
   rw[ha]at hl;match os,ks,hl,a0,hK with
   | [a,b],[ka,kb],_,_,hK=>
     have e1:ctV n [a,b]=.inter n a b:=iA h14;have e2: [ka,kb].flatten++ [n]=ka++kb++ [n]:=by simp
     rw[e1,e2];exact .inter n h15 (yEr hK (j:=0) rfl rfl) (yEr hK (j:=1) rfl rfl)
  .by_cases h16:n.f=16
   .have ha:yAl n.f=3:=by unfold yAl;rw[iA qo,iB h16]
    rw[ha]at hl;match os,ks,hl,a0,hK with
    | [a,b,c],[ka,kb,kc],_,_,hK=>
      have e2: [ka,kb,kc].flatten++ [n]=ka++kb++kc++ [n]:=by simp
      rw[e2];exact .cond n h16 (yEr hK (j:=0) rfl rfl) (yEr hK (j:=1) rfl rfl) (yEr hK (j:=2) rfl rfl)
   .have ha:yAl n.f=0:=by unfold yAl;rw[iA qo,iA h16]
    have a1:os= []:=Ad.1 qo;have a2:ks= []:=Ad.1 qo;subst a1;subst a2;exact .leaf n ha
def yCn(k:Int):Bool:=decide (k=11\/k=12\/k=13)
def CT.size:CT->Nat
 | .leaf _=>1
 | .chain _ a b| .inter _ a b=>a.size+b.size+1
 | .cond _ a b c=>a.size+b.size+c.size+1
theorem yW1(n:Nat):∀{t:CT}{xs:List Nd},xs.length<=n->yA9 xs t->t.size=xs.length:=by
 induction n with
 |zero=>intro t xs hl h;have:=h.part;cases this<;>simp at hl
 |succ n ih=>
  intro t xs hl h;cases h.part with
  |leaf n h=>rfl
  |chain n h ha hb|inter n h ha hb=>simp only[AA,AB]at hl|-;simp only[CT.size,ih qo ha,ih qo hb]
  |cond n h ha hb hc=>simp only[AA,AB]at hl|-;simp only[CT.size,ih qo ha,ih qo hb,ih qo hc]
theorem yA9.size(h:yA9 xs t):t.size=xs.length:=yW1 _ qr h
def cntK(k:Int):Prop:=k=11\/k=12\/k=13
def NoNd(e:Nd):Prop:=e.f=0/\e.s.toList= []/\e.hi=false/\e.t.toList= []/\e.lo=0/\e.up=0/\e.n=0
def yIk(x:Ix):Prop:=x.free=false/\NoNd x.leaf
def yN0(x:Ix)(k n cnt conds:Int):Prop:=
 (x.op=1/\yB9 [x.leaf]/\x.b=0/\((cntK x.leaf.f/\0<=x.a/\x.a<cnt)\/(¬cntK x.leaf.f/\x.a=0)))\/
 (x.op=5/\yIk x/\0<=x.a/\x.a<conds/\k<x.b/\x.b<=n)\/
 (x.op=6/\yIk x/\x.a=0/\k<x.b/\x.b<=n)\/
 ((x.op=2\/x.op=3\/x.op=4)/\yIk x/\x.a=0/\x.b=0)
def more(op:Int):Int:=if op=2 then 1 else if op=4 then-1 else 0
def least(op:Int):Int:=if op=3\/op=4 then 2 else 1
def ways(k:Nat)(x:Ix):List Nat:=if x.op=5 then [k+1,x.b.toNat]else if x.op=6 then [x.b.toNat]else [k+1]
def note(ds:List Int)(j:Nat)(d:Int):Option (List Int):=
 match ds[j]? with
 |some e=>if e=0\/e=d then some (ds.set j d)else none
 |none=>none
def yCi(d:Int):List Nat->List Int->Option (List Int)
 | [],ds=>some ds
 |j::js,ds=>(note ds j d).bind (yCi d js)
def yKs(ds:List Int)(k:Nat)(x:Ix):Option (List Int):=
 match ds[k]? with
 |some e=>if e<least x.op\/250<e+more x.op then none else yCi (e+more x.op) (ways k x) ds
 |none=>none
def yCo(xs:List Ix):Nat->Option (List Int)
 |0=>some (1::Ar xs.length 0)
 |k+1=>(yCo xs k).bind λds=>(xs[k]?).bind λx=>yKs ds k x
def yB1(l:List Ix)(cnt:Int)(conds:Nat):Prop:=
 1<=l.length/\l.length<=4000/\0<=cnt/\cnt<=200/\(∀(k:Nat)(x:Ix),l[k]?=some x->yN0 x k l.length cnt conds)/\∃ds,yCo l l.length=some ds/\ds[l.length]?=some 1
variable {xs:List Ix} {ds:List Int} {x:Ix}
theorem yEa{k:Nat}(h:yCo xs k=some ds)(hx:xs[k]?=some x):yCo xs (k+1)=yKs ds k x:=by simp[yCo,h,hx]
theorem yYf{k m:Nat}(h:yCo xs k=none)(hkm:k<=m):yCo xs m=none:=by
 induction m with
 |zero=>have:k=0:=qo
        subst this;exact h
 |succ m ih=>
  by_cases e:k=m+1
  .subst e;exact h
  .simp[yCo,ih qo]
structure yIl(n:Nat)(ds:List Int):Prop where
 X:ds.length=n+1
 ran:∀d∈ds,0<=d/\d<=250
theorem xIr(xs:List Ix):yIl xs.length (1::Ar xs.length 0):=
 ⟨by simp,λd hd=>by
  rcases AD.1 hd with rfl|hd
  .omega
  .have:=(List.mem_replicate.1 hd).2;omega⟩
variable {d:Int}
theorem xD4(h:yIl n ds)(hd:0<=d/\d<=250)(hn:note ds j d=some ds'):yIl n ds'/\ds'=ds.set j d/\j<=n:=by
 unfold note at hn;cases hj:ds[j]? with
 |none=>rw[hj]at hn;cases hn
 |some e=>
  rw[hj]at hn;have hl:=qf hj;simp only at hn;split at hn
  .obtain rfl:=AL hn;refine⟨⟨by rw[Ak];exact h.X,λx hx=>?_⟩,rfl,qw h.X⟩;rcases mem_or_eq_of_mem_set hx with q|q
   .exact h.ran x q
   .rw[q];exact hd
  .cases hn
theorem yOs{e:Int}(hj:ds[j]?=some e)(h:e=0\/e=d):note ds j d=some (ds.set j d):=by unfold note;rw[hj];simp[h]
theorem yTe(hd:0<=d/\d<=250):∀(js:List Nat){ds ds':List Int},yIl n ds->yCi d js ds=some ds'->yIl n ds'
 | [],_,_,h,hn=>by obtain rfl:=AL hn;exact h
 |j::js,ds,ds',h,hn=>by
  simp only[yCi,Ah]at hn
  have⟨d1,h1,h2⟩:=hn
  exact yTe hd js (xD4 h hd h1).1 h2
theorem xDd{k:Nat}(h:yIl n ds)(hs:yKs ds k x=some ds'):yIl n ds':=by
 unfold yKs at hs;cases hj:ds[k]? with
 |none=>rw[hj]at hs;cases hs
 |some e=>
  rw[hj]at hs;simp only at hs;split at hs
  .cases hs
  .rename_i hc;have h1:=h.ran e (AC hj);refine yTe ⟨?_,qo⟩ _ h hs;unfold least more at hc;unfold more;split at hc<;>split at hc<;>simp_all<;>omega
theorem yRv{k:Nat}(h:yCo xs k=some ds):yIl xs.length ds:=by
 induction k generalizing ds with
 |zero=>obtain rfl:=AL h;exact xIr xs
 |succ k ih=>
  simp only[yCo,Ah]at h;have⟨d1,h1,x,hx,h2⟩:=h;exact xDd (ih h1) h2
variable {l:List Ix}
theorem yB5{k:Nat}(h:yB1 l cnt conds)(hx:l[k]?=some x):yN0 x k l.length cnt conds:=h.2.2.2.2.1 k x hx
theorem yHu{k:Nat}(h:yB1 l cnt conds)(hk:k<=l.length):yCo l k≠none:=by intro q;have⟨ds,h1,_⟩:=h.2.2.2.2.2;rw[yYf q hk]at h1;cases h1
theorem xHx:(⟨#[]⟩:Ba).toList= []:=by first|(simp;done)|(kernel_rfl;done)|(go_simp;done)
theorem yJs(s:Ba)(h:Bool)(t:Ba)(l u n:Int)(s':Ba)(h':Bool)(t':Ba)(l' u' n':Int)(B:Bool)(hB:B=decide (s.toList=s'.toList/\h=h'/\t.toList=t'.toList/\l=l'/\u=u'/\n=n'))(k:Int)(wx:Ww):
  (binOp .eql 83 (.agg #[xi k,s,h,t,xu l,xu u,xi n]) (.agg #[xi k,s',h',t',xu l',xu u',xi n'])).run prog wx=.ok B wx:=by
 rw[hB,xAt k s h t l u n k s' h' t' l' u' n' wx];simp
theorem zVr(h:p:=by go_wp2_with fail;go_ret;exact⟨rfl,HW0.2⟩):p:=h
theorem zVe(h:p:=by go_wp2_with fail;refine(yYk ⟨_,s,hi,t,_,_,_⟩ _).mono ?_;rintro r w2 ⟨b,rfl,hb,hb2⟩;obtain rfl:b=true:=hb.2 (by simpa using HE.out);go_wp2;go_ret;exact⟨rfl,HW0.2.trans (hb2.mono hbw)⟩):p:=h
theorem yKp(e:Nd) w (hg:yCz e):(xf 138 #[e.v] w true:Prop):=by
 obtain⟨kind,s,hi,t,lo,up,n⟩:=e;obtain⟨W0,a0⟩:=qE (xw w #[xi kind,s,hi,t,xu lo,xu up,xi n] 83:Ww);have HW0:Hid (yA W0 w 83 7 w [xi kind,s,hi,t,xu lo,xu up,xi n]/\Below w w W0):=a0▸⟨yAa w _ qr rfl,qB⟩
 have hbw:=HW0.2.size;have⟨c0,c1,c2,c3,c4,c5,c6⟩:=HW0.1.c7;obtain⟨g1,g2,g3,g4⟩:=hg;simp only[]at g1 g2 g3 g4;have z1:¬(200:Int)<(s.size:Int):=qo
 have z2:¬(200:Int)<(t.size:Int):=qo
 have E:=xHx;rcases g4 with⟨hk,⟨rfl,e2,rfl,rfl,rfl⟩,hc⟩|⟨hk,⟨rfl,rfl,rfl⟩,hl⟩|⟨rfl,⟨e1,e2,rfl⟩,hl⟩|⟨hk,⟨e1,rfl,e2,rfl,rfl⟩,h1,h2⟩|⟨hk,e1,rfl,e2,rfl,rfl,rfl⟩
 .have hq:=yJs s false t 0 0 0 s false ⟨#[]⟩ 0 0 0 true (by simp[e2,E]);have hfd:=yS2 0 0;have HC:=qH1 (yKy s · hc);clear g3 g1 g2 E e2 hc;go_enter func138,ntmps138;go_upto_region 1 with fail;rw[<-a0];clear a0;rcases hk with rfl|rfl|rfl|rfl<;>(go_wp2_with fail;apply (HC.out _).mono;rintro r w2 ⟨rfl,hb2⟩;go_wp2;go_ret;exact⟨rfl,HW0.2.trans (hb2.mono hbw)⟩)
 .have hq:=yJs s hi t 0 0 0 s hi t 0 0 0 true (by simp);have HE:Hid ((hi=false/\t.toList= []/\(0:Int)=0)\/(hi=true/\(less s t\/(0:Int)<0))):=by
   cases hi
   .exact .inl ⟨rfl,(g3 rfl).1,rfl⟩
   .exact .inr ⟨rfl,.inl (hl rfl)⟩
  clear g3 g1 g2 E hl;go_enter func138,ntmps138;go_upto_region 1 with fail;rw[<-a0];clear a0;rcases hk with rfl|rfl<;>exact zVe
 .have hq:=yJs s hi t lo up 0 ⟨#[]⟩ hi ⟨#[]⟩ lo up 0 true (by simp[e1,e2,E]);have HE:Hid ((hi=false/\t.toList= []/\up=0)\/(hi=true/\(less s t\/lo<up))):=by
   cases hi
   .exact .inl ⟨rfl,(g3 rfl).1,(g3 rfl).2⟩
   .exact .inr ⟨rfl,.inr (hl rfl)⟩
  clear g3 g1 g2 E hl e1 e2;go_enter func138,ntmps138;go_upto_region 1 with fail;rw[<-a0];clear a0;exact zVe
 .have hq:=yJs s false t 0 0 n ⟨#[]⟩ false ⟨#[]⟩ 0 0 n true (by simp[e1,e2,E]);clear g3 g1 g2 E e1 e2;go_enter func138,ntmps138;go_upto_region 1 with fail;rw[<-a0];clear a0;rcases hk with rfl|rfl|rfl<;>exact zVr
 .have hq:=yJs s false t 0 0 0 ⟨#[]⟩ false ⟨#[]⟩ 0 0 0 true (by simp[e1,e2,E]);clear g3 g1 g2 E e1 e2;go_enter func138,ntmps138;go_upto_region 1 with fail;rw[<-a0];clear a0;rcases hk with rfl|rfl|rfl|rfl|rfl|rfl<;>exact zVr
theorem yD7(k:Int) w:Calls prog 83 #[xi k] w λe w'=>e=.returned (xi (yAl k))/\w'=w:=by
 by_cases h14:k=14
 .subst h14;exact yV0
 by_cases h15:k=15
 .subst h15;exact yV0
 by_cases h16:k=16
 .subst h16;exact yV0
 have a2:(k==14)=false:=by simpa using h14
 have a1:(k==15)=false:=by simpa using h15
 have a0:(k==16)=false:=by simpa using h16
 have H:Hid (yAl k=0):=by show yAl k=0;unfold yAl;rw[iA qo,iA h16]
 go_enter func83,ntmps83;go_wp2;go_ret;exact⟨by rw[H.out];rfl,rfl⟩
theorem yMf(k:Int) w:Calls prog 185 #[xi k] w λe w'=>e=.returned (xi (yCd k))/\w'=w:=by
 by_cases h15:k=15
 .subst h15;go_enter func185,ntmps185;go_wp2;go_ret;exact⟨rfl,rfl⟩
 by_cases h14:k=14
 .subst h14;go_enter func185,ntmps185;go_wp2;go_ret;exact⟨rfl,rfl⟩
 have a1:(k==14)=false:=by simpa using h14
 have a0:(k==15)=false:=by simpa using h15
 have H:Hid (yCd k=3):=by show yCd k=3;unfold yCd;rw[iA h15,iA h14]
 go_enter func185,ntmps185;go_wp2;go_ret;exact⟨by rw[H.out];rfl,rfl⟩
theorem yNd(op:Int)(i:Nat)(kid:Int) w (hop:¬op=16):Calls prog 139 #[xi op,xi i,xi kid] w λe w'=>e=.returned (yC1 op i kid)/\w'=w:=by
 by_cases hi:i=0
 .subst hi;have HL:Hid (yC1 op 0 kid=decide (yCd kid<yCd op)):=by show yC1 op 0 kid=_;unfold yC1;simp[hop]
  exact xF3
 .have zi:((i:Int)==0)=false:=by simpa using hi
  have HL:Hid (yC1 op i kid=decide (yCd kid<=yCd op)):=by show yC1 op i kid=_;unfold yC1;simp[hop,hi]
  exact xF3
abbrev yAy.three(s:yAy):List Vv:= [.bool s.valid,.int .i64 s.f,.int .i64 (s.nest:Int)]
def yEd(ss:List yAy):List Vv:=ss.flatMap yAy.three
theorem yVl(es:List yAy):∀(k:Nat)(e:yAy),es[k]?=some e->∀j,j<3->(yEd es)[k*3+j]?=e.three[j]?:=yB6 (f:=yAy.three) (λ_=>rfl) es
theorem yR6(es:List yAy)(k:Nat):yEd (es.take k)=(yEd es).take (k*3):=by
 induction es generalizing k with
 |nil=>simp[yEd]
 |cons f es ih=>
  cases k with
  |zero=>simp[yEd]
  |succ k=>
   have hc:yEd (f::es)=f.three++yEd es:=by simp[yEd]
   have hd:yEd (f::es.take k)=f.three++yEd (es.take k):=by simp[yEd]
   have e1:(k+1)*3=f.three.length+k*3:=by show(k+1)*3=3+k*3;omega
   rw[take_succ_cons,hd,hc,ih,e1,take_length_add_append]
def yLd(w:Ww)(b o:Nat)(ss:List yAy):Prop:=∀i s,ss[i]?=some s->xk w b (o+i*3) s.valid/\xk w b (o+i*3+1) (xi s.f)/\xk w b (o+i*3+2) (xi s.nest)
variable {ss:List yAy}
theorem yLd.k(h:yLd w b o ss)(hb:Below B w w')(hlt:b<B):yLd w' b o ss:=by have c:=λo=>hb.cell (p:=(xd b o)) hlt;intro i e he;simpa only[c]using h i e he
theorem yLd.drop(h:yLd w b o ss)(k:Nat):yLd w b (o+k*3) (ss.drop k):=by intro i s hs;have:=h (k+i) s (by rw[<-getElem?_drop];exact hs);rw[Ax,<-Ai]at this;exact this
def yE7(w:Ww)(O g cp:Nat)(ss:List yAy):Prop:=w.ownsRow O 142 3 (xg g ss.length cp) ss.length (yEd ss)
theorem yE7.lt(h:yE7 w O g cp ss):O<=g/\g<w.heap.size:=AF h g rfl
theorem yE7.k(h:yE7 w O g cp ss)(hb:Below w w w'):yE7 w' O g cp ss:=yAg h (Chg.h hb) (S:=λ_=>False) (λk q z=>z)
theorem yE7.at(h:yE7 w O g cp ss):yLd w g 0 ss:=by
 intro i e he;have hi:=qf he;have c:=λj (hj:j<3)=>(AJ h (i*3+j) qo).trans (yVl ss i e he j hj);refine⟨?_,?_,?_⟩
 .simpa using c 0 qo
 .simpa using c 1 qo
 .simpa using c 2 qo
theorem yE7.caps(h:yE7 w O g cp ss):ss.length<=cp/\cp<=maxLen:=by exact yL7
theorem yE7.take(h:yE7 w O g cp ss){k:Nat}(hk:k<=ss.length):yE7 w O g cp (ss.take k):=by have h1:=yQt h hk;rw[<-yR6]at h1;unfold yE7;rw[show(ss.take k).length=k by rw[AK];omega];exact h1
theorem yW3(w:Ww)(hb:O<=w.heap.size):yE7 (xw w #[] 142) O w 0 []:=
 AZ w #[] 0 hb (AI _) (by simp)
structure SoJ(w:Ww)(e:Nd)(WB:Nat)(v:Bool)(a:Nat)(wr:Ww):Prop where
 node:yA wr w 83 7 w e.seven
 res:yA wr w 142 3 (w+1) [false,xi 0,xi 0]
 whole:yA wr w 142 3 WB [v,xi e.f,xi a]
 ne:w.heap.size+2<=WB
 k:Below w w wr
variable {e:Nd} {WB a:Nat} {wr:Ww}
theorem SoJ.K{v:Bool}(h:SoJ w e WB v a wr)(hb:Below wr wr w'):SoJ w e WB v a w':=
 ⟨h.node.k hb,h.res.k hb,h.whole.k hb,h.ne,h.k.trans (hb.mono h.k.size)⟩
def SoA(w:Ww)(e:Nd)(W0:Ww):Prop:=yA W0 w 83 7 w e.seven/\yA W0 w 142 3 (w+1) [false,xi 0,xi 0]/\Below w w W0/\W0.heap.size=w+2
theorem yZ4(hA:SoA w e W0)(hb:Below W0.drew W0.drew w'):SoJ w e w' gd 0 (xw w' #[gd,xi e.f,xi 0] 142):=by have h1:=((Below.refl W0 W0).drew).trans hb;have h2:=h1.size;have h3:Below W0 W0 (xw w' #[gd,xi e.f,xi 0] 142):=h1.alloc h2 _;have h4:=hA.2.2.2;exact⟨hA.1.k h3,hA.2.1.k h3,yAa w' _ qo rfl,by omega,hA.2.2.1.trans (h3.mono (by omega))⟩
theorem yWh(hA:SoA w e W0)(hb:Below (W0.drew.alloc (AR #[false,xi 0,xi 0] 142)).heap.size (xw W0.drew #[false,xi 0,xi 0] 142) w'):
  SoJ w e (w+2) gd 0 (xt ((w'.setCell (xd (w+2) 0) gd).setCell (xd (w+2) 1) (xi e.f)) (w+2) 2 (xi 0)):=by
 have h4:=hA.2.2.2;have hd:W0.drew.heap.size=W0:=by simp
 have h0:Below W0 W0 (xw W0.drew #[false,xi 0,xi 0] 142):=((Below.refl W0 W0).drew).alloc (by simp) _;have h1:=h0.trans (hb.mono (by simp));have hB:yA w' w 142 3 (w+2) [false,xi 0,xi 0]:=by have:=yAa W0.drew (O:=w.heap.size) (t:=142) (sz:=3) #[false,xi 0,xi 0] (by simp;omega) rfl;rw[hd,h4]at this;exact this.k hb
 refine⟨(((hA.1.k h1).Q qo 0 _).Q qo 1 _).Q qo 2 _,(((hA.2.1.k h1).Q qo 0 _).Q qo 1 _).Q qo 2 _,((hB.set 0 _).set 1 _).set 2 _,AO _,?_⟩;exact yAc (yAc (yAc (hA.2.2.1.trans (h1.mono (by omega))) (by omega) 0 _) (by omega) 1 _) (by omega) 2 _
structure SoK(w:Ww)(e:Nd)(WB OB:Nat)(v:Bool)(a:Nat)(x:yAy)(q:Nat)(wr:Ww):Prop where
 so:SoJ w e WB v a wr
 ob:yA wr w 142 3 OB [x.valid,xi x.f,xi q]
 ne:¬OB=WB
 ge:w+2<=OB
theorem SoJ.round{v:Bool}(h:SoJ w e WB v a wr)(x:yAy):SoK w e WB wr v a x x.nest (xw wr #[x.valid,xi x.f,xi x.nest] 142):=by have hb:Below wr wr (xw wr #[x.valid,xi x.f,xi x.nest] 142):=qB;have h1:=h.whole.lt.2;have h2:=h.ne;exact⟨h.K hb,yAa wr _ h.k.size rfl,by omega,by omega⟩
variable {OB q:Nat} {x:yAy}
theorem SoK.valid{v:Bool}(h:SoK w e WB OB v a x q wr)(v2:Bool):SoK w e WB OB v2 a x q (xt wr WB 0 v2):=by have h2:=h.so.ne;exact⟨⟨h.so.node.Q qo 0 _,h.so.res.Q qo 0 _,h.so.whole.set 0 _,h2,yAc h.so.k qo 0 _⟩,h.ob.Q h.ne 0 _,h.ne,h.ge⟩
theorem SoK.more{v:Bool}(h:SoK w e WB OB v a x q wr)(q2:Nat):SoK w e WB OB v a x q2 (xt wr OB 2 (xi q2)):=by have h2:=h.so.ne;have h3:=h.ge;have h4:=h.ne;exact⟨⟨h.so.node.Q qo 2 _,h.so.res.Q qo 2 _,h.so.whole.Q qo 2 _,h2,yAc h.so.k qo 2 _⟩,h.ob.set 2 _,h.ne,h.ge⟩
theorem SoK.done{v:Bool}(h:SoK w e WB OB v a x q wr)(a2:Nat):SoJ w e WB v a2 (xt wr WB 2 (xi a2)):=by have h2:=h.so.ne;exact⟨h.so.node.Q qo 2 _,h.so.res.Q qo 2 _,h.so.whole.set 2 _,h2,yAc h.so.k qo 2 _⟩
theorem yQ1(op:Int){o:yAy}(h:os[j]?=some o):yA4 op j a (os.drop j)=yA4 op (j+1) (max a (o.nest+if yC1 op j o.f then 1 else 0)) (os.drop (j+1)):=by exact xFz
theorem yI(e:Nd)(h:yLd w b o os)(hbl:b<w.heap.size)(hl:os.length<=cap)(h3:os.length<=3)(hcap:cap<=9223372036854775807)(hN:∀x∈os,x.nest<=1000/\x.valid=true)(hg:yCz e):
  (xf 82 #[e.v,(xy b o os.length cap)] w (.agg #[true,xi e.f,xi (yD5 goodB e os).nest]):Prop):=by
 have HF:=qH2 h hN;have⟨n,hn⟩:=qE os.length;have HL:=qH1 hn;rw[<-hn]at hl h3|-;clear h hN hn;have ah:Hid (∀w,(xf 138 #[.agg #[xi e.f,e.s,e.hi,e.t,xu e.lo,xu e.up,xi e.n]] w true:Prop)):=λw=>yKp e w hg
 obtain⟨W0,ae⟩:=qW (xw (w.alloc (AR #[xi e.f,e.s,e.hi,e.t,xu e.lo,xu e.up,xi e.n] 83)) #[false,xi 0,xi 0] 142);have a5:Hid (yA W0 w 83 7 w e.seven/\yA W0 w 142 3 (w+1) [false,xi 0,xi 0]/\Below w w W0/\W0.heap.size=w.heap.size+2):=by rw[ae];exact⟨yA.ofHeap (vs:=#[.int .i64 e.f,.string e.s,.bool e.hi,.string e.t,.int .u64 e.lo,.int .u64 e.up,.int .i64 e.n]) (heap_alloc2_old w _ _) qr rfl,yA.ofHeap (vs:=#[.bool false,.int .i64 0,.int .i64 0]) (heap_alloc2_new w _ _) qo rfl,(qB).alloc (by simp) _,by simp⟩
 obtain⟨c0,c1,c2,c3,c4,c5,c6⟩:=a5.1.c7;have hz:=a5.2.2.2;obtain⟨tot,aa⟩:=qE ((yD5 goodB e os).nest);have HT:Hid (yA4 e.f 0 0 os=tot):=by rw[aa];exact(rfl:yA4 e.f 0 0 os=_)
 rw[<-aa];clear aa;go_enter func82,ntmps82;go_upto_region 1 with fail;rw[<-ae];clear ae;go_cut[5] (λs wx=>∃WB,s=(xp WB)/\SoJ w e WB true 0 wx);case first=>
  have am:w.heap.size<W0.heap.size:=qo
  have ao:∀o,(xk (W0.alloc o) w 0 (xi e.f):Prop):=λo=>by rw[((Below.refl W0 W0).alloc qr o).cell (p:=(xd w 0)) am];exact c0
  go_region_law ((go_simp;go_at_call 138;refine(ah.out _).mono ?_;rintro r w' ⟨rfl,a6⟩;obtain⟨an,ay⟩:=yVr a6;have al:=a6.size;have k0:(xk w' w 0 (xi e.f):Prop):=by {rw[an w 0 (by simp;omega)];first|exact c0|(simp;first|exact c0|exact ao _)};have kl:w.heap.size<w'.heap.size:=by {simp at al;omega};have ar:∀o,(xk (w'.alloc o) w 0 (xi e.f):Prop):=λo=>by {rw[((Below.refl w' w').alloc qr o).cell (p:=(xd w 0)) kl];exact k0}));all_goals go_wp2_with fail
  all_goals go_meet
  all_goals first
   |exact⟨_,rfl,yZ4 a5.out a6⟩
   |exact⟨_,rfl,yWh a5.out a6⟩
 case rest=>
 obtain⟨WB,rfl,hJ⟩:=hcut;have aj:=qH1 hJ;clear hJ c0 c1 c2 c3 c4 c5 c6 hz a5 ah;go_wp2;go_loopw[15] (λiv wr=>∃(j a:Nat),iv=(xi j)/\j<=n/\a<=2000/\yA4 e.f j a (os.drop j)=tot/\SoJ w e WB true a wr) (λiv _=>n-(intOf iv).toNat);case atStart=>exact⟨0,0,rfl,AI _,AI _,HT.out,aj.out⟩
 case round=>
  obtain⟨j,a,rfl,hj,ha,hN,hJ⟩:=hrel;have HJ:=qH2 hN hJ;have aA:=hJ.whole.lt;have az:=hJ.ne;clear hN hJ aj HT;by_cases hlt:j<n
  .have zj:=qo
   obtain⟨x,hx⟩:∃x,os[j]?=some x:=qg (qw HL.out);obtain⟨d0,d1,d2⟩:=(HF.1.k HJ.2.k hbl) j x hx;have⟨au,vx⟩:=HF.2 x (AC hx);rw[vx]at d0;have HX:=qH1 hx;obtain⟨W1,ad⟩:=qW (xw wr #[true,xi x.f,xi x.nest] 142);have a0:Hid (SoK w e WB wr true a x x.nest W1):=by have h9:=HJ.2.round x;rw[vx,<-ad]at h9;exact h9
   clear hx;go_upto_region 5 with fail;rw[<-ad];clear ad d0 d1 d2;have ai:=qH1 HJ.1;clear HJ;have w0:=a0.so.whole.z (j:=0) rfl;have af:=a0.so.whole.frozen 0;have o0:(xk W1 wr 0 true:Prop):=vx▸(a0.ob.z (j:=0) rfl);have av:=a0.ne;have ax:=a0.ge;obtain⟨W2,a1⟩:=qW (xt W1 WB 0 true);have HK2:Hid (SoK w e WB wr true a x x.nest W2):=by rw[a1];exact a0.valid true
   go_upto_region 6 with fail;rw[<-a1];clear a1 w0 af o0 a0;have m0:=HK2.so.node.z (j:=0) rfl;have o1:=HK2.ob.z (j:=1) rfl;have o2:=HK2.ob.z (j:=2) rfl;have o2f:=HK2.ob.frozen 2;have w2:=HK2.so.whole.z (j:=2) rfl;have w2f:=HK2.so.whole.frozen 2;have fin:∀(y:Nat),y=max a (x.nest+(if yC1 e.f j x.f then 1 else 0))->yA4 e.f (j+1) y (os.drop (j+1))=tot:=λy hy=>by rw[hy,<-yQ1 e.f HX.out];exact ai.out
   by_cases h16:e.f=16
   .have hlv:yC1 e.f j x.f=true:=by unfold yC1;rw[h16];rfl
    have a8:(e.f==16)=true:=by simpa using h16
    clear h16;exact xGk
   .have a8:(e.f==16)=false:=by simpa using h16
    go_wp2_with fail;refine(yNd e.f j x.f _ h16).mono ?_;rintro r w9 ⟨rfl,a3⟩;rw[a3];clear a3 h16;cases hlv:yC1 e.f j x.f
    .skip;obtain⟨a2,ha2⟩:=qE (max a (x.nest));have HFin:=qH2 (fin a2 (by rw[ha2,hlv];rfl)) (by omega:a2<=2000);have ha3:max (a:Int) ((x.nest:Int))=(a2:Int):=qo
     clear fin hlv ha2;go_wp2;go_roundw;case rel=>
      refine⟨j+1,a2,by go_num,qo,HFin.2,HFin.1,?_⟩;exact HK2.done a2
     case measure=>simp[intOf];omega
    .skip;exact xGk
  .have zj:=qo
   obtain rfl:a=tot:=by have h1:=HJ.1;have aw:=HL.out;rw[drop_eq_nil_of_le qo]at h1;exact h1
   obtain⟨w0,w1,w2⟩:=HJ.2.whole.c3;obtain⟨r0,r1,r2⟩:=HJ.2.res.c3;obtain⟨f0,f1,f2⟩:=HJ.2.res.f3;obtain⟨W9,ac⟩:=qW (set3 wr (w+1) true (xi e.f) (xi a));have ag:Hid (yA W9 w 142 3 (w+1) [true,xi e.f,xi a]/\Below w w W9):=by rw[ac];exact⟨HJ.2.res.set3 _ _ _,yL5 HJ.2.k qo _ _ _⟩
   obtain⟨p0,p1,p2⟩:=ag.1.c3;unfold set3 at ac;go_wp2_with fail;rw[<-ac];refine An (v:=.agg #[true,xi e.f,xi a]) (by simp[results,results82,go_sem,p0,p1,p2]) rfl ⟨rfl,ag.2⟩
theorem Tryz.infoSh:(prog.info? 142).map (λi=>(i.zero,i.size,i.bytes))=some (some (.agg #[false,xi 0,xi 0]),3,24):=qk
theorem apSh:ApT 218 142 3 yEd yE7 yLd:=apTG ⟨underlying218,_,_,Tryz.infoSh,rfl,qj,qj⟩ (λ_=>rfl) Iff.rfl λh=>yLv (f:=yAy.three) (sz:=3) (λ_=>rfl) qj (λi e he j u hu=>by
 obtain⟨c0,c1,c2⟩:=h i e he;match j,hu with
 |0,hu=>cases hu;exact c0
 |1,hu=>cases hu;exact c1
 |2,hu=>cases hu;exact c2) λx _ u h=>by simp at h;rcases h with rfl|rfl|rfl<;>rfl
variable {xs:List Nd}
theorem yYd(h:yC3 goodB [] xs=some ss):∀s∈ss,s.nest<=xs.length:=by intro s hs;obtain⟨ks,rfl,hK⟩:=ShT.kids goodB (yPi goodB h);have⟨k,hk,h3⟩:=yRl goodB hK hs;have h4:=yEp hk;have h5:=yM4 goodB _ qr h3;omega
structure FoJ(w:Ww)(xs:List Nd)(j g cp:Nat)(ss:List yAy)(wr:Ww):Prop where
 fold:yC3 goodB [] (xs.take j)=some ss
 Z:yE7 wr (w+1) g cp ss
 res:yA wr w 142 3 w [false,xi 0,xi 0]
 k:Below w w wr
theorem FoJ.K(h:FoJ w xs j g cp ss wr)(hb:Below wr wr w'):FoJ w xs j g cp ss w':=
 ⟨h.fold,h.Z.k hb,h.res.k hb,h.k.trans (hb.mono h.k.size)⟩
theorem yYc(h:yC3 goodB [] (xs.take j)=some ss)(he:xs[j]?=some e)(hl:yAl e.f<=ss.length):yC3 goodB [] (xs.take (j+1))=some (ss.take (ss.length-yAl e.f)++ [yD5 goodB e (ss.drop (ss.length-yAl e.f))]):=by rw[AN,he,yFi,h];simp only[Option.toList,Ab,yC3,yU];rw[iA qo]
theorem yYb(h:yC3 goodB [] (xs.take j)=some ss)(he:xs[j]?=some e)(hl:ss.length<yAl e.f):yC3 goodB [] xs=none:=by
 have hj:=qf he;have:xs=xs.take j++e::xs.drop (j+1):=by
  conv=>lhs;rw[<-AS j xs,Aq hj]
  rw[show xs[j]=e from AL ((getElem?_eq_getElem hj).symm.trans he)]
 rw[this,yFi,h];simp only[Ab,yC3,yU];rw[iB hl]
def yT6(s:yAy)(w:Ww)(r:Ao)(w':Ww):Prop:=Below w w w'/\r=.returned (.tuple #[.agg #[true,xi s.f,xi s.nest],true])
theorem yJ3(hG:∀e∈xs,yCz e)(h:yC3 goodB [] xs=some ss):∀s∈ss,s.valid=true:=by
 have h1:=ShT.valid goodB (yPi goodB h);rw[Ae.2 (λe he=>(yH e).2 (hG e he))]at h1;exact Ae.1 h1
theorem yNa(es:List Nd):(yL3 es).length=es.length*7:=yBv (f:=Nd.seven) (λ_=>rfl) es
theorem Tryz.infoNd:(prog.info? 83).map (λi=>(i.zero,i.size,i.bytes))=some (some (.agg #[xi 0,xe,false,xe,xu 0,xu 0,xi 0]),7,72):=qk
theorem yC4.put{es:List Nd}(h:yC4 w O g cap es)(k:Nat)(f e:Nd)(hk:es[k]?=some f):
  yC4 (xt ((((((w.setCell (xd g (k*7)) (xi e.f)).setCell (xd g (k*7+1)) e.s).setCell (xd g (k*7+2)) e.hi).setCell (xd g (k*7+3)) e.t).setCell (xd g (k*7+4)) (xu e.lo)).setCell (xd g (k*7+5)) (xu e.up)) g (k*7+6) (xi e.n)) O g cap (es.set k e):=by have h1:=OwnG.setAll (f:=Nd.seven) (λ_=>rfl) h (e:=e) (qf hk);simp only[setCs,Ac,Ai,Nat.reduceAdd]at h1;exact h1
section
section
variable {T:Type} (V:Nd->List T->T)
theorem IsT.trv{k:Nat}(h:IsT k xs):∃ss,ss.length=k/\TrV V ss xs:=by
 induction h with
 |nil=>exact⟨[],rfl,.nil⟩
 | @snoc k xs n h ih=>
   obtain⟨ss,hl,hs⟩:=ih;refine⟨ss.take k++ [V n (ss.drop k)],by simp;omega,.snoc n (by simp;omega) ?_⟩;rw[AS];exact hs
end
end
theorem yC5.cells{v:Vv}(h:yC5 w v es):v.cells=#[v]:=by rcases h with⟨a,cap,rfl,_⟩|⟨b,off,cap,rfl,_⟩<;>rfl
theorem yC5.one{v:Vv}(h:yC5 w v es):∃a n c,v=.slice a n c/\n=es.length:=by rcases h with⟨a,cap,rfl,rfl⟩|⟨b,off,cap,rfl,_⟩<;>exact⟨_,_,_,rfl,rfl⟩
structure Bk where
 v:Vv
 cnt:Int
 l:List Ix
abbrev Bk.val(x:Bk):Vv:=.agg #[x.v,xi x.cnt]
abbrev Bk.vw(x:Bk):Int×List Ix:=(x.cnt,x.l)
abbrev Bk.two(x:Bk):List Vv:= [x.v,.int .i64 x.cnt]
structure Bk.ok(x:Bk):Prop where
 cnt:(Lit.int .i64 x.cnt).wf=true
 ins:∀e∈x.l,e.ok
def ySj(w:Ww)(b off:Nat)(bs:List Bk):Prop:=∀i x,bs[i]?=some x->xk w b (off+i*2) x.v/\xk w b (off+i*2+1) (xi x.cnt)/\yC5 w x.v x.l
variable {bs:List Bk}
theorem ySj.k(h:ySj w b off bs)(hb:Below w w w')(hlt:b<w.heap.size):ySj w' b off bs:=by intro i x hx;have⟨h0,h1,h2⟩:=h i x hx;exact⟨by rw[hb.cell (p:=(xd b (off+i*2))) hlt];exact h0,by rw[hb.cell (p:=(xd b (off+i*2+1))) hlt];exact h1,h2.k hb qr⟩
def yGp(w:Ww)(v:Vv)(bs:List Bk):Prop:=
 (∃a cap,v=.slice a 0 cap/\bs= [])\/
 ∃b off cap,v=(xy b off bs.length cap)/\ySj w b off bs/\b<w.heap.size/\bs.length<=cap/\cap<=maxLen
theorem yGp.k{v:Vv}(h:yGp w v bs)(hb:Below w w w'):yGp w' v bs:=by
 rcases h with h|⟨b,off,cap,hv,hE,a0,h1,h2⟩
 .exact .inl h
 .exact .inr ⟨b,off,cap,hv,hE.k hb a0,qw hb.size,h1,h2⟩
variable {α:Type}
theorem yPn{ns:List (List α)}{k:Nat}{y:List α}(h:ns[k]?=some y):(ns.take (k+1)).flatten=(ns.take k).flatten++y:=by rw[AN,h];simp
theorem xEl(ns:List (List α))(k:Nat):(ns.take k).flatten.length<=ns.flatten.length:=by
 have h:ns.flatten=(ns.take k).flatten++(ns.drop k).flatten:=by rw[<-List.flatten_append,AS]
 rw[h,AA];omega
theorem xHh(e:Nd):∀u∈e.seven,u.oneCell'=true:=by intro u h;simp at h;rcases h with rfl|rfl|rfl|rfl|rfl|rfl|rfl<;>rfl
theorem xHg{l:List Nd}(h:yD1 w b off l):AtV w b off (yL3 l):=yLv (f:=Nd.seven) (sz:=7) (λ_=>rfl) qj (λi e he j u hu=>by
 obtain⟨c0,c1,c2,c3,c4,c5,c6⟩:=h i e he;match j,hu with
 |0,hu=>cases hu;exact c0
 |1,hu=>cases hu;exact c1
 |2,hu=>cases hu;exact c2
 |3,hu=>cases hu;exact c3
 |4,hu=>cases hu;exact c4
 |5,hu=>cases hu;exact c5
 |6,hu=>cases hu;exact c6) λx _=>xHh x
theorem apNd:ApT 23 83 7 yL3 yC4 yD1:=apTG ⟨underlying23,_,_,Tryz.infoNd,rfl,qj,qj⟩ (λ_=>rfl) Iff.rfl xHg
theorem yWb{u:CT}(h:yA9 xs t)(k:yA9 xs u):t=u:=by have:=TrV.one _ h k;exact(List.cons.inj this).1
theorem yZ0(h:IsT 1 xs):∃t,yA9 xs t:=by
 obtain⟨ss,hl,hs⟩:=IsT.trv ctV h;match ss,hl,hs with
 | [t],_,hs=>exact⟨t,hs⟩
def CT.J:CT->Nat
 | .leaf _=>0
 | .chain _ a b| .inter _ a b=>a.J+b.J
 | .cond _ a b c=>a.J+1+b.J+c.J
def CT.passes:CT->Bool
 | .leaf n=>yCn n.f
 | .chain _ a b| .inter _ a b=>a.passes || b.passes
 | .cond _ _ b c=>b.passes || c.passes
def opI(op:Int):Ix:=⟨op,0,0,false,yA3⟩
def CT.gen:CT->Bool->Nat->List Ix
 | .leaf n,s,_=> [⟨1,0,0, !s,n⟩]
 | .chain _ a b,s,f=>a.gen s f++b.gen (s || a.passes) (f+a.J)
 | .inter _ a b,s,f=> [opI 2]++a.gen s f++ [opI 3]++b.gen s (f+a.J)++ [opI 4]
 | .cond _ a b c,s,f=> [⟨5,((f+a.J:Nat):Int),((b.gen s (f+a.J+1)).length:Int)+2,false,yA3⟩]++b.gen s (f+a.J+1)++ [⟨6,0,((c.gen s (f+a.J+1+b.J)).length:Int)+1,false,yA3⟩]++c.gen s (f+a.J+1+b.J)
def cntI(x:Ix):Nat:=if x.op=1/\yCn x.leaf.f=true then 1 else 0
def fixI(k c:Nat)(x:Ix):Ix:=⟨x.op,if x.op=1/\yCn x.leaf.f=true then(c:Int)else x.a,if x.op=5\/x.op=6 then x.b+(k:Int)else x.b,x.free,x.leaf⟩
def absG:Nat->Nat->List Ix->List Ix
 |_,_,[]=> []
 |k,c,x::r=>fixI k c x::absG (k+1) (c+cntI x) r
def cntL:List Ix->Nat
 | []=>0
 |x::r=>cntI x+cntL r
theorem yA2 l m:cntL (l++m)=cntL l+cntL m:=by
 induction l with
 |nil=>simp[cntL]
 |cons x r ih=>simp only[Af,cntL,ih];omega
theorem yAj:∀(k c:Nat)(l:List Ix),(absG k c l).length=l.length
 |_,_,[]=>rfl
 |k,c,x::r=>by simp only[absG,Ag,yAj]
theorem yCc:∀(k c:Nat)(l m:List Ix),absG k c (l++m)=absG k c l++absG (k+l.length) (c+cntL l) m
 |k,c,[],m=>by simp[absG,cntL]
 |k,c,x::r,m=>by
  simp only[Af,absG,yCc (k+1) (c+cntI x) r m,Ag,cntL]
  rw[show k+1+r.length=k+(r.length+1)by omega,Ai c (cntI x) (cntL r)]
def CT.V:CT->List Ix->Bool->Nat->List (List Ix)
 | .leaf _,_,_,_=> []
 | .chain _ a b,l,s,f=>a.V l s f++b.V (l++a.gen s f) (s || a.passes) (f+a.J)
 | .inter _ a b,l,s,f=>a.V l s f++b.V l s (f+a.J)
 | .cond _ a b c,l,s,f=>a.V l s f++ [l++a.gen s f]++b.V l s (f+a.J+1)++c.V l s (f+a.J+1+b.J)
theorem yBw(t:CT):∀(l:List Ix)(s:Bool)(f:Nat),(t.V l s f).length=t.J:=by
 induction t with
 |leaf n=>intro l s f;rfl
 |chain n a b ha hb|inter n a b ha hb=>intro l s f;simp only[CT.V,CT.J,AA,ha,hb]
 |cond n a b c ha hb hc=>intro l s f;simp only[CT.V,CT.J,AA,AB,ha,hb,hc]
theorem yBp(t:CT):∀(s:Bool)(f:Nat),(t.gen s f).length+2<=3*t.size:=by
 induction t with
 |leaf n=>intro s f;simp[CT.gen,CT.size]
 |chain n a b ha hb=>intro s f;have h1:=ha s f;have h2:=hb (s || a.passes) (f+a.J);simp only[CT.gen,CT.size,AA];omega
 |inter n a b ha hb=>intro s f;have h1:=ha s f;have h2:=hb s (f+a.J);simp only[CT.gen,CT.size,AA,AB];omega
 |cond n a b c ha hb hc=>intro s f;have h1:=hb s (f+a.J+1);have h2:=hc s (f+a.J+1+b.J);simp only[CT.gen,CT.size,AA,AB];omega
theorem yEt(t:CT):∀(s:Bool)(f:Nat),cntL (t.gen s f)<=t.size:=by
 induction t with
 |leaf n=>intro s f;simp only[CT.gen,CT.size,cntL,cntI];split<;>omega
 |chain n a b ha hb=>intro s f;have h1:=ha s f;have h2:=hb (s || a.passes) (f+a.J);simp only[CT.gen,CT.size,yA2];omega
 |inter n a b ha hb=>
  intro s f;have h1:=ha s f;have h2:=hb s (f+a.J);have e:∀o:Int,o≠1->cntL [opI o]=0:=λo ho=>by simp[cntL,cntI,opI,ho]
  simp only[CT.gen,CT.size,yA2,e 2 qj,e 3 qj,e 4 qj];omega
 |cond n a b c ha hb hc=>
  intro s f;have h1:=hb s (f+a.J+1);have h2:=hc s (f+a.J+1+b.J);simp only[CT.gen,CT.size,yA2];simp[cntL,cntI];omega
theorem yR2(t:CT):∀(l:List Ix)(s:Bool)(f:Nat),∀x∈t.V l s f,x.length<=l.length+3*t.size:=by
 induction t with
 |leaf n=>intro l s f x hx;simp[CT.V]at hx
 |chain n a b ha hb=>
  intro l s f x hx;simp only[CT.V,AW]at hx;have hg:=yBp a s f;simp only[CT.size];rcases hx with hx|hx
  .have:=ha _ _ _ x hx;omega
  .have:=hb _ _ _ x hx;simp only[AA]at this;omega
 |inter n a b ha hb=>
  intro l s f x hx;simp only[CT.V,AW]at hx;simp only[CT.size];rcases hx with hx|hx
  .have:=ha _ _ _ x hx;omega
  .have:=hb _ _ _ x hx;omega
 |cond n a b c ha hb hc=>
  intro l s f x hx;simp only[CT.V,AW,List.mem_singleton]at hx;have hg:=yBp a s f;simp only[CT.size];rcases hx with((hx|hx)|hx)|hx
  .have:=ha _ _ _ x hx;omega
  .subst hx;simp only[AA];omega
  .have:=hb _ _ _ x hx;omega
  .have:=hc _ _ _ x hx;omega
def ifsL(xs:List Nd):Nat:=(xs.filter (λe=>decide (e.f=16))).length
theorem xAm(n:Nat):∀{t:CT}{xs:List Nd},xs.length<=n->yA9 xs t->ifsL xs=t.J:=by
 have hadd:∀a b:List Nd,ifsL (a++b)=ifsL a+ifsL b:=λa b=>by simp[ifsL]
 have hone:∀e:Nd,¬e.f=16->ifsL [e]=0:=λe he=>by simp[ifsL,he]
 have htwo:∀e:Nd,e.f=16->ifsL [e]=1:=λe he=>by simp[ifsL,he]
 induction n with
 |zero=>intro t xs hl h;have:=h.part;cases this<;>simp at hl
 |succ n ih=>
  intro t xs hl h;cases h.part with
  |leaf n hk=>exact hone n (λq=>by rw[q]at hk;simp[yAl]at hk)
  |chain n hk ha hb|inter n hk ha hb=>simp only[AA,AB]at hl;rw[hadd,hadd,hone n qo,ih qo ha,ih qo hb];rfl
  |cond n hk ha hb hc=>simp only[AA,AB]at hl;rw[hadd,hadd,hadd,htwo n hk,ih qo ha,ih qo hb,ih qo hc];simp only[CT.J];omega
theorem yA9.J(h:yA9 xs t):ifsL xs=t.J:=xAm _ qr h
structure FoK(w:Ww)(xs:List Nd)(j g cp:Nat)(ss:List yAy)(SB:Nat)(y:yAy)(wr:Ww):Prop where
 fo:FoJ w xs j g cp ss wr
 A:yA wr w 142 3 SB y.three
 ne:¬SB=g
 ge:w+1<=SB
theorem xA4(y:yAy)(h:FoJ w xs j g cp ss W1)(hb:Below W1.drew W1.drew w'):FoK w xs j g cp ss w' y (xw w' #[y.valid,xi y.f,xi y.nest] 142):=by have h1:=((Below.refl W1 W1).drew).trans hb;have h2:=h1.size;have h3:Below W1 W1 (xw w' #[y.valid,xi y.f,xi y.nest] 142):=h1.alloc h2 _;have h4:=h.Z.lt;have h5:=h.k.size;have h6:=h.res.lt;exact⟨h.K h3,yAa w' _ (by omega) rfl,by omega,by omega⟩
theorem yYe(y:yAy)(h:FoJ w xs j g cp ss W1)(hb:Below (W1.drew.alloc (AR #[false,xi 0,xi 0] 142)).heap.size (xw W1.drew #[false,xi 0,xi 0] 142) w'):
  FoK w xs j g cp ss W1 y (xt ((w'.setCell (xd W1 0) y.valid).setCell (xd W1 1) (xi y.f)) W1 2 (xi y.nest)):=by
 have hd:W1.drew.heap.size=W1:=by simp
 have h0:Below W1 W1 (xw W1.drew #[false,xi 0,xi 0] 142):=((Below.refl W1 W1).drew).alloc (by simp) _;have h1:=h0.trans (hb.mono (by simp));have h4:=h.Z.lt;have h5:=h.k.size;have h6:=h.res.lt;have hB:yA w' w 142 3 W1 [false,xi 0,xi 0]:=by have:=yAa W1.drew (O:=w.heap.size) (t:=142) (sz:=3) #[false,xi 0,xi 0] (by simp;omega) rfl;rw[hd]at this;exact this.k hb
 have hJ:=h.K h1
 have hC:Chg (λk=>k=W1) w' (xt ((w'.setCell (xd W1 0) y.valid).setCell (xd W1 1) (xi y.f)) W1 2 (xi y.nest)):=
  ((Chg.D w' W1 0 _ (S:=λk=>k=W1) rfl).trans (Chg.D _ W1 1 _ (S:=λk=>k=W1) rfl)).trans (Chg.D _ W1 2 _ (S:=λk=>k=W1) rfl)
 refine⟨⟨hJ.fold,yAg hJ.Z hC (λk q=>by simp[AE]at q;omega),hJ.res.i hC qo,?_⟩,((hB.set 0 _).set 1 _).set 2 _,qo,by omega⟩;exact yAc (yAc (yAc hJ.k (by omega) 0 _) (by omega) 1 _) (by omega) 2 _
theorem xG6(X:Ww)(y:yAy)(B:Nat)(hB:X=B):yLd (xw X #[y.valid,xi y.f,xi y.nest] 142) B 0 [y]:=by
 subst hB;intro i s hs;have hi:i=0:=by have:=qf hs;simpa using this
 subst hi;simp at hs;subst hs;exact⟨by simp,by simp,by simp⟩
theorem xEk{wc X:Ww}{g' cp' fr:Nat}(h:FoJ w xs j g cp ss wc)(hX:Below wc wc X)(hY:yC3 goodB [] (xs.take (j+1))=some (ss.take fr++ [y]))(hO:yE7 w' (w+1) g' cp' (ss.take fr++ [y]))(hgr:X.grownBy w' (some g))(hm:fr=(ss.take fr).length):FoJ w xs (j+1) g' cp' (ss.take fr++ [y]) w'/\fr+1<=cp':=by have hJ:=h.K hX;have h1:=hJ.Z.lt;have hC:Chg (λk=>k=g) X w':=Chg.M hgr (λk hk=>by cases hk;rfl);refine⟨⟨hY,hO,hJ.res.i hC (by omega),Chg.k hJ.k hC hJ.k.size (λk q=>by omega)⟩,?_⟩;have:=hO.caps.1;rw[AA,AB,<-hm]at this;exact this
theorem yPk{cpN:Nat}(h:yD1 w gN oN xs)(hg:gN<w.heap.size)(hok:∀e∈xs,yCz e)(hs:yC3 goodB [] xs=some [s])(hl:xs.length<=200):
  Calls prog 81 #[(xy gN oN xs.length cpN),.func (Fn.func 82) #[] #[]] w (yT6 s w):=by
 have HF:=qH3 h hok hs;have⟨n,hn⟩:=qE xs.length;have HL:=qH1 hn;rw[<-hn]at hl|-;clear h hok hn hs;have⟨W0,a6⟩:=qW (xw (w.alloc (AR #[false,xi 0,xi 0] 142)) #[] 142);have ai:Hid (FoJ w xs 0 (w+1) 0 [] W0):=by
  obtain⟨V,hV⟩:=qW (xw w #[false,xi 0,xi 0] 142);have hz:=qS hV
  have hb:Below V V W0:=by rw[a6,<-hV];exact qB
  have av:=qN hV
  have hB:yA V w 142 3 w [false,xi 0,xi 0]:=by rw[hV];exact yAa w _ qr rfl
  refine⟨rfl,?_,hB.k hb,av.trans (hb.mono qo)⟩;rw[a6,<-hV,<-hz];exact yW3 V qr
 go_enter func81,ntmps81;go_upto_region 2 with fail;rw[<-a6];clear a6;go_wp2;go_loopw[6,14] (λsv iv wr=>∃(j m g cp:Nat)(ss:List yAy),iv=(xi j)/\j<=n/\m=ss.length/\m<=j/\m<=cp/\sv=(xg g m cp)/\FoJ w xs j g cp ss wr) (λ_ iv _=>n-(intOf iv).toNat);case atStart=>exact⟨0,0,_,0,[],rfl,AI _,rfl,AO _,AI _,rfl,ai.out⟩
 case round=>
  obtain⟨j,m,g,cp,ss,rfl,hj,hm,aD,aE,rfl,hJ⟩:=hrel;have HJ:=qH2 hm hJ;have aG:=hJ.Z.lt;have aK:cp<=9223372036854775807:=by have:=hJ.Z.caps.2;unfold maxLen at this;omega
  have an:=hJ.k.size;have aB:=hJ.res.lt.2;obtain⟨r0,r1,r2⟩:=hJ.res.c3;obtain⟨f0,f1,f2⟩:=hJ.res.f3;clear hm hJ ai;by_cases hlt:j<n
  .have zj:(j:Int)<(n:Int):=qo
   obtain⟨e,he⟩:∃e,xs[j]?=some e:=qg (qw HL.out);obtain⟨d0,d1,d2,d3,d4,d5,d6⟩:=(HF.1.k HJ.2.k hg) j e he;have HE:=qH2 he (HF.2.1 e (AC he));clear he;obtain⟨W1,a4⟩:=qW (xw wr #[xi e.f,e.s,e.hi,e.t,xu e.lo,xu e.up,xi e.n] 83);have ag:=qN a4
   have am:=qS a4
   have a0:Hid (m=ss.length/\FoJ w xs j g cp ss W1/\yA W1 w 83 7 wr e.seven):=by refine⟨HJ.1,HJ.2.K ag,?_⟩;rw[a4];exact yAa wr _ an rfl
   go_upto_region 5 with fail;rw[<-a4];clear a4 d0 d1 d2 d3 d4 d5 d6 r0 r1 r2 f0 f1 f2 HJ ag;obtain⟨c0,c1,c2,c3,c4,c5,c6⟩:=a0.2.2.c7;obtain⟨a,ha⟩:=qE (yAl e.f);have aM:a<=3:=by rw[ha];exact yHi _
   have al:Hid (Calls prog 83 #[xi e.f] W1 λr w'=>r=.returned (xi a)/\w'=W1):=by rw[ha];exact yD7 e.f W1
   have a9:=qH1 ha;clear ha;go_wp2_with fail;refine al.mono ?_;rintro r w9 ⟨rfl,aa⟩;rw[aa];clear aa al;by_cases hfr:m<a
   .have HS:=yYb a0.2.1.fold HE.1 (by rw[<-a0.1,<-a9.out];exact hfr);rw[HF.2.2]at HS;cases HS
   .obtain⟨fr,aI⟩:∃fr:Nat,(m:Int)-(a:Int)=(fr:Int):=⟨m-a,qo⟩;have ar:fr<=m:=qo
    have a8:Hid (fr=ss.length-yAl e.f/\yAl e.f<=ss.length):=by have h1:=a0.1;have h2:=a9.out;exact⟨qo,qo⟩
    have zf:¬(fr:Int)<0:=qo
    have z2:(fr:Int)<=(m:Int):=qo
    have z3:(m:Int)<=(cp:Int):=qo
    obtain⟨y,hy⟩:=qE (yD5 goodB e (ss.drop fr));have HY:Hid (yC3 goodB [] (xs.take (j+1))=some (ss.take fr++ [y])):=by show _=_;rw[hy,a8.1];exact yYc a0.2.1.fold HE.1 a8.2
    have vy:Hid (y.valid=true):=yJ3 (λe he=>HF.2.1 e (Ay he)) HY.out y (by simp)
    obtain⟨ad,ax⟩:∃ad:Option Addr,(if cp=fr then some (⟨g,0,none⟩:Addr)else some ⟨g,fr*3,none⟩)=ad:=⟨_,rfl⟩;have aj:Hid (∀X,Below W1 W1 X->(xf 82 #[.agg #[xi e.f,e.s,e.hi,e.t,xu e.lo,xu e.up,xi e.n],.slice ad (m-fr) (cp-fr)] X (.agg #[y.valid,xi y.f,xi y.nest]):Prop)):=λX hX=>by
     have ao:=a0.2.1.Z.at.k hX a0.2.1.Z.lt.2;have ab:=ao.drop fr;rw[AQ]at ab;have a3:(ss.drop fr).length=m-fr:=by rw[length_drop,<-a0.1]
     have aN:=hX.size;have aH:=a0.2.1.Z.lt.2;have ae:∀x∈ss.drop fr,x.nest<=1000/\x.valid=true:=λx hx=>⟨by have h1:=yYd a0.2.1.fold x (Az hx);rw[AK]at h1;omega,yJ3 (λe he=>HF.2.1 e (Ay he)) a0.2.1.fold x (Az hx)⟩
     have ac:(ss.drop fr).length<=3:=by rw[a3];have:=a8.1;have:=a9.out;have:=a0.1;omega
     rw[vy.out,hy,<-ax];by_cases hcf:cp=fr
     .rw[iB hcf];have aq:=Ad.1 (by rw[a3];omega);have h9:=yI (w:=X) (b:=g) (o:=0) (cap:=cp-fr) (os:=ss.drop fr) e (by rw[aq];intro i s hs;simp at hs) qo (by rw[a3];omega) ac qo ae HE.2;rw[a3]at h9;exact h9
     .rw[iA hcf];have h9:=yI (w:=X) (b:=g) (o:=fr*3) (cap:=cp-fr) (os:=ss.drop fr) e ab qo (by rw[a3];omega) ac qo ae HE.2;rw[a3]at h9;exact h9
    clear hy hfr;go_upto_region 8 with fail;go_cut[10] (λsv wx=>∃SB,sv=(xp SB)/\FoK w xs j g cp ss SB y wx);case first=>
     go_region_law ((go_simp;go_at_call 82;refine(aj.out _ ?hX).mono ?_;(case hX=>(repeat (first|exact Below.refl _ _|refine Below.drew ?_|refine Below.alloc ?_ (by simp) _)));rintro r w' ⟨rfl,a5⟩;obtain⟨aL,aJ⟩:=yVr a5;have az:=a5.size));all_goals go_wp2_with fail
     all_goals go_meet
     all_goals first
      |exact⟨_,rfl,xA4 y a0.2.1 a5⟩
      |exact⟨_,rfl,by have h9:=yYe y a0.2.1 a5;rw[am]at h9;exact h9⟩
    case rest=>
    obtain⟨SB,rfl,hK⟩:=hcut;have HK:=qH1 hK;obtain⟨b0,b1,b2⟩:=hK.A.c3;have aF:=hK.fo.Z.lt;have aA:=hK.A.lt.2;have aC:=hK.ne;have ay:=hK.fo.k.size;have HM:Hid (fr=(ss.take fr).length):=by show fr=_;rw[AK,<-a0.1];omega
    clear hK c0 c1 c2 c3 c4 c5 c6 aj;go_upto_region 9 with fail;have au:fr<=ss.length:=by rw[<-a0.1];exact ar
    have z4:(fr:Int)<=(cp:Int):=qo
    have z5:fr<=cp:=qo
    go_region_law ((refine stA (by rfl) (apK apSh (by rfl) (w+1) (ss.take fr) [y] (by rfl) (by rfl) HM.out rfl ?hO ?hc (lN ?hl) ?hb ?_)
                    case hO=>(refine yE7.k (HK.fo.Z.take au) ?_;repeat (first|exact Below.refl _ _|refine Below.drew ?_|refine Below.alloc ?_ (by simp) _))
                    case hc=>exact xG6 _ y _ (by simp)
                    case hl=>rw[<-HM.out];omega
                    case hb=>simp;omega
                    intro g' a7 w' ah af aw
                    have fin:Hid (FoJ w xs (j+1) g' a7 (ss.take fr++ [y]) w'/\fr+1<=a7):=xEk HK.fo (by repeat (first|exact Below.refl _ _|refine Below.drew ?_|refine Below.alloc ?_ (by simp) _)) HY.out ah af HM.out
                    clear ah af aw))
    all_goals go_wp2_with fail
    all_goals go_roundw
    all_goals first
     |exact⟨j+1,fr+1,g',a7,ss.take fr++ [y],by go_num,qo,by rw[AA,AB,<-HM.out],qo,fin.out.2,rfl,fin.out.1⟩
     |(simp[intOf];omega)
  .have zj:¬(j:Int)<(n:Int):=qo
   obtain rfl:ss= [s]:=by have h1:=HJ.2.fold;rw[Au (qw HL.out),HF.2.2]at h1;cases h1;rfl
   have vs:=yJ3 HF.2.1 HF.2.2 s (by simp);have hm1:m=1:=HJ.1;subst hm1;obtain⟨e0,e1,e2⟩:=HJ.2.Z.at 0 s rfl;simp only[AQ,Av]at e0 e1 e2;rw[vs]at e0;obtain⟨W9,a1⟩:=qW (set3 wr w true (xi s.f) (xi s.nest));have a2:Hid (yA W9 w 142 3 w [true,xi s.f,xi s.nest]/\Below w w W9):=by rw[a1];exact⟨HJ.2.res.set3 _ _ _,yL5 HJ.2.k qr _ _ _⟩
   obtain⟨p0,p1,p2⟩:=a2.1.c3;unfold set3 at a1;go_wp2;rw[<-a1];refine An (v:=.tuple #[.agg #[true,xi s.f,xi s.nest],true]) (by simp[results,results81,go_sem,p0,p1,p2]) rfl ⟨a2.2,rfl⟩
section
section
variable {α:Type} {f:α->List Vv}
theorem OwnG.mono{es:List α}(h:OwnG f sz ty w O g cap es)(hb:base'<=O):OwnG f sz ty w base' g cap es:=by exact yT8
theorem yTa(w:Ww)(hb:O<=w.heap.size):OwnG f sz ty (xw w #[] ty) O w 0 []:=
 AZ w #[] 0 hb (AI _) (by simp)
end
section
variable {α:Type} {f:α->List Vv} {a:Act}
theorem yE9{o:Oper}(hf:∀x,(f x).length=sz)(w:Ww)(hgd:o.guard=none) s x (sty:Nat)
  (ho:o.op=.call {callee:=.builtin .append,args:=#[s,x],argTypes:=#[sty,sty]}) (hst:prog.underlying sty=some (.slice ty)) {z:Vv} {bytes:Nat} (hin:(prog.info? ty).map (λi=>(i.zero,i.size,i.bytes))=some (some z,sz,bytes)) (hz:z.cells.size=sz) (hsz:0<sz) (hby:bytes<=1000)
  (h1:∀x,∀u∈f x,u.oneCell'=true)
  (O g cp n b cx:Nat) (fs:List α) (e:α) (hs:a.eval s=(xg g n cp)) (hx:a.eval x=(xg b 1 cx)) (hn:n=fs.length) (hO:OwnG f sz ty w O g cp fs)
  (hc:∀j u,(f e)[j]?=some u->(xk w b j u:Prop)) (hlen:fs.length<=1000000) (hbase:O<=w.heap.size)
  (h:∀g' cp' w',OwnG f sz ty w' O g' cp' (fs++ [e])->w.grownBy w' (some g)->(g'=g\/g'=w.heap.size)->wpList prog ops Q rest (a.put o.dst (xg g' (n+1) cp')) w'):wpList prog ops Q (o::rest) a w:=by
 subst hn;obtain⟨i,hi,a3,a2,a1⟩:=Aj hin;refine Aa w hgd s x sty ho O ty i _ sz bytes hst hi a3 a2 a1 hz hsz (xg g fs.length cp) fs.length (fs.flatMap f) hs hO (xd b 0) 1 cx (f e) hx (by rw[hf];omega) (λj u hu=>by rw[Addr.add_mid,AQ];exact hc j u hu) (h1 e) ?_ ?_ hbase ?_
 .unfold maxLen;omega
 .have:=As (show fs.length+1<=1000001 by omega) hby;omega
 .intro v' w' hO' a5 a4 a0;rcases hO'.2 with⟨h0,_⟩|⟨g',a6,cur,hv,_,_,hn,a7,_,_⟩
  .have:=(a4.1 h0).1;cases this
  .subst hv;refine h g' a6 w' ?_ a5 ?_
   .exact xGb
   .simp[AE]at a0;exact a0
end
end
def OwnZ(e:TypeId)(w:Ww)(O g cp:Nat)(ds:List Int)(kd:IntKind):Prop:=w.ownsRow O e 1 (xg g ds.length cp) ds.length (ds.map λd=>.int kd d)
def xE8(P:Prop)(w:Ww)(r:Ao)(w':Ww):Prop:=∃b,r=.returned (.bool b)/\(b=true↔P)/\Below w.heap.size w w'
def xIz(e d:Int)(O g cp j:Nat)(ds:List Int)(w:Ww)(r:Ao)(w':Ww):Prop:=∃b,r=.returned (.bool b)/\(b=true↔(e=0\/e=d)/\1<=d/\d<=250)/\(b=true->OwnZ 2 w' O g cp (ds.set j d) .i64)/\Chg (λq=>q=g) w w'
theorem yPu(e:Nd)(w:Ww):Calls prog 120 #[e.v] w (xE8 (cntK e.f) w):=by
 go_enter func120,ntmps120;go_wp2;all_goals go_ret
 all_goals exact⟨_,rfl,by simp_all[cntK],qB⟩
theorem yIh(op:Int)(w:Ww):Calls prog 114 #[.int .i64 op] w (xE8 (op=5\/op=6) w):=by
 go_enter func114,ntmps114;go_wp2;all_goals go_ret
 all_goals exact⟨_,rfl,by simp_all,Below.refl _ _⟩
theorem yOq(w:Ww)(e:Nd):yC4 (w.alloc (AR #[.int .i64 e.f,.string e.s,.bool e.hi,.string e.t,.int .u64 e.lo,.int .u64 e.up,.int .i64 e.n] 83)) w.heap.size w.heap.size 1 [e]:=
 Al w #[.int .i64 e.f,.string e.s,.bool e.hi,.string e.t,.int .u64 e.lo,.int .u64 e.up,.int .i64 e.n] 1 (AO _) qj rfl
variable {e:TypeId} {kd:IntKind}
theorem OwnZ.z(h:OwnZ e w O g cp ds kd)(hd:ds[j]?=some d):w.cell? ⟨g,j,none⟩=some (.int kd d)/\w.frozen? ⟨g,j,none⟩=false:=by have hj:=(AT.1 hd).1;refine⟨?_,Aw h j⟩;rw[AJ h j qo,A8,hd];rfl
theorem OwnZ.lt(h:OwnZ e w O g cp ds kd):O<=g/\g<w.heap.size:=AF h g rfl
theorem OwnZ.k(h:OwnZ e w O g cp ds kd)(hb:Below w.heap.size w w'):OwnZ e w' O g cp ds kd:=yAg (S:=λ_=>False) h (Chg.h hb) (λk _ q=>q)
theorem OwnZ.set(h:OwnZ e w O g cp ds kd)(j:Nat)(d:Int):OwnZ e (w.setCell ⟨g,j,none⟩ (.int kd d)) O g cp (ds.set j d) kd:=by have:=(AU h j (.int kd d)).1;unfold OwnZ;rw[Ak,map_set];exact this
theorem yZ6(h:ds[j]?=some d):ds.set j d=ds:=by
 apply ext_getElem?;intro i;rw[getElem?_set];split
 .rename_i e;subst e;rw[iB (AT.1 h).1,h]
 .rfl
theorem yUv(O g cp:Nat)(ds:List Int)(j:Nat)(d e:Int)(w:Ww)(h:OwnZ 2 w O g cp ds .i64)(hj:ds[j]?=some e)(hl:ds.length<=4001):
  Calls prog 113 #[(xg g ds.length cp),.int .i64 j,.int .i64 d] w (xIz e d O g cp j ds w):=by
 have HO:=qH1 h;have⟨c0,f0⟩:=h.z hj;have a0:=(AT.1 hj).1;have HJ:=qH1 hj;have zj:(j:Int)<(ds.length:Int):=qo
 go_enter func113,ntmps113;by_cases he:e=0
 .subst he;have HS:=qH1 (HO.set j d);go_wp2;all_goals go_ret
  all_goals exact⟨_,rfl,by simp_all<;>omega,λ_=>HS.out,Chg.D _ _ _ _ rfl⟩
 .by_cases hed:e=d
  .subst hed;have HS:Hid (OwnZ 2 w O g cp (ds.set j e) .i64):=by show OwnZ _ _ _ _ _ _ _;rw[yZ6 HJ.out];exact HO.out
   go_wp2;all_goals go_ret
   all_goals exact⟨_,rfl,by simp_all<;>omega,λ_=>HS.out,Chg.refl _ _⟩
  .go_wp2;go_ret;exact⟨_,rfl,by simp_all,λq=>by simp_all,Chg.refl _ _⟩
theorem yGd(h:WdN w g o cp xs)(hg:yB9 xs):(xf 34 #[.agg #[(xy g o xs.length cp)]] w true:Prop):=by
 have hgl:=h.lt;have HG:=qH1 (yDk hg);have⟨hl,s,hs,hv,hn⟩:=hg;have hs:=qH1 (by simpa using ShT.fold goodB hs []:yC3 goodB [] xs=some [s]);have HO:=qH1 h;have⟨n,hx⟩:=qE xs.length;have HN:=qH1 hx;have a3:=h.caps;rw[<-hx]at a3 hl|-;unfold maxLen at a3;clear h hx hg;have⟨W0,a1⟩:=qE (xw w #[(xy g o n cp)] 25:Ww);have HW0:Hid (yA W0 w 25 1 w [(xy g o n cp)]/\Below w w W0):=a1▸⟨yAa w _ qr rfl,qB⟩
 have c0:=HW0.1.z (j:=0) rfl;have s0:=HW0.2.size;go_enter func34,ntmps34;go_upto_region 1 with fail;rw[<-a1];clear a1;have zb:¬(200:Int)<(n:Int):=qo
 have HC:Hid (Calls prog 81 #[(xy g o n cp),.func (Fn.func 82) #[] #[]] W0 (yT6 s W0)):=by
  have:=yPk (w:=W0) (gN:=g) (oN:=o) (cpN:=cp) (HO.out.at.k HW0.2 hgl) qo HG hs (by rw[<-HN.out];exact hl);rw[<-HN.out]at this;exact this
 go_wp2_with fail;refine HC.mono ?_;rintro r w2 ⟨hb2,rfl⟩
 have HB:=qH1 (HW0.2.trans (hb2.mono s0));obtain⟨k,hk⟩:=qE s.nest;rw[<-hk]at hn;rw[<-hk];clear hb2 c0 HC hk;go_wp2_with fail;go_ret;exact⟨by simp<;>omega,HB.trans ((Below.refl _ _).alloc HB.size _)⟩
theorem yJz(h:yC4 w O g cp xs)(hg:yB9 xs):(xf 34 #[.agg #[xg g xs.length cp]] w true:Prop):=yGd h.wd hg
theorem yJ1(k:Int) w:Calls prog 141 #[xi k] w (xE8 (cntK k) w):=by
 go_enter func141,ntmps141;go_wp2;all_goals go_ret
 all_goals exact⟨_,rfl,by simp_all[cntK],Below.refl _ _⟩
theorem yGh(g:Nat):∀(vs:List Vv)(o:Nat)(w:Ww),w.setCells g o vs=setCs w g o vs
 | [],_,_=>rfl
 |v::vs,o,w=>yGh g vs (o+1) _
theorem yUf(w:Ww)(ty g o:Nat)(vs:List Vv)(hi:(prog.info? ty).map (·.size)=some vs.length)(hc:∀j,j<vs.length->(w.cell? (xd g (o+j))).isSome=true)(hf:∀j,w.frozen? (xd g j)=false)(h1:∀v∈vs,v.oneCell'=true):
  (storeVar ty (xd g o) (.agg vs.toArray)).run prog w=.ok () (setCs w g o vs):=by
 have h9:=run_storeCells_cells (P:=prog) g o vs 0 w (by simpa using hc) (λj _=>hf _) h1;rw[Ac,yGh]at h9;cases hq:prog.info? ty with
 |none=>simp[hq]at hi
 |some i=>
  have hs:i.size=vs.length:=by simpa [hq]using hi
  simp[storeVar,sizeOf,typeInfo,hq,Value.cells,hs,h9]
variable {oo:Oper} {a:Act} {E:Prop}
theorem yQj{K:Act->Ww->Prop}(hgd:oo.guard=none) p x (ty:Nat) (ho:oo.op=.store ty p x) (g o:Nat) (hp:a.eval p=.pointer (some ⟨g,o,none⟩)) (vs:List Vv) (hx:a.eval x=.agg vs.toArray)
  (hi:(prog.info? ty).map (·.size)=some vs.length) (hc:∀j,j<vs.length->(w.cell? (xd g (o+j))).isSome=true) (hf:∀j,w.frozen? (xd g j)=false) (h1:∀v∈vs,v.oneCell'=true)
  (h:K (a.put oo.dst undef) (setCs w g o vs)):if AM oo (yielded ops a.tmps)=true then Oper.wp prog oo a w K Q else E:=by
 have hw:AM oo (yielded ops a.tmps)=true:=by simp[AM,hgd]
 rw[iB hw];unfold Oper.wp execOp;simp only[ho,hp,hx,Instr.storeAt,Instr.sureAddr,Sem.run_bind,Sem.run_pure,Result.andThen_ok,yUf w ty g o vs hi hc hf h1];exact h
theorem yGy{f:α->List Vv}{K:Act->Ww->Prop}(hf:∀x,(f x).length=sz)(w:Ww)(hgd:oo.guard=none) s x (sty:Nat)
  (ho:oo.op=.call {callee:=.builtin .append,args:=#[s,x],argTypes:=#[sty,sty]}) (hst:prog.underlying sty=some (.slice ty)) {z:Vv} {bytes:Nat} (hin:(prog.info? ty).map (λi=>(i.zero,i.size,i.bytes))=some (some z,sz,bytes)) (hz:z.cells.size=sz) (hsz:0<sz) (hby:bytes<=1000)
  (h1:∀x,∀u∈f x,u.oneCell'=true)
  (O g cp n b cx:Nat) (fs:List α) (e:α) (hs:a.eval s=(xg g n cp)) (hx:a.eval x=(xg b 1 cx)) (hn:n=fs.length) (hO:OwnG f sz ty w O g cp fs)
  (hc:∀j u,(f e)[j]?=some u->(xk w b j u:Prop)) (hlen:fs.length<=1000000) (hbase:O<=w.heap.size)
  (h:∀g' cp' w',OwnG f sz ty w' O g' cp' (fs++ [e])->w.grownBy w' (some g)->(g'=g\/g'=w.heap.size)->K (a.put oo.dst (xg g' (n+1) cp')) w'):if AM oo (yielded ops a.tmps)=true then Oper.wp prog oo a w K Q else E:=by
 subst hn;obtain⟨i,hi,a3,a2,a1⟩:=Aj hin;refine step_append_lies w hgd s x sty ho O ty i _ sz bytes hst hi a3 a2 a1 hz hsz (xg g fs.length cp) fs.length (fs.flatMap f) hs hO (xd b 0) 1 cx (f e) hx (by rw[hf];omega) (λj u hu=>by rw[Addr.add_mid,AQ];exact hc j u hu) (h1 e) (by decide) ?_ ?_ hbase w rfl ?_
 .unfold maxLen;omega
 .have:=As (show fs.length+1<=1000001 by omega) hby;omega
 .intro g' cp' w' hO' a4 a0 a5;refine h g' cp' w' ?_ a4 ?_
  .exact xGb
  .simp[AE]at a0;rcases a0 with q|q
   .exact .inl q.symm
   .exact .inr q
theorem yNf(xs:List Nd):ifsL xs<=xs.length:=List.length_filter_le _ _
theorem yFw(w:Ww)(x:Ix):OwnX (xw w #[xi x.op,xi x.a,xi x.b,x.free,xi x.leaf.f,x.leaf.s,x.leaf.hi,x.leaf.t,xu x.leaf.lo,xu x.leaf.up,xi x.leaf.n] 153) w w 1 [x]:=
 Al w #[xi x.op,xi x.a,xi x.b,x.free,xi x.leaf.f,x.leaf.s,x.leaf.hi,x.leaf.t,xu x.leaf.lo,xu x.leaf.up,xi x.leaf.n] 1 qr qj rfl
theorem yHx(e:Nd)(w:Ww):(xf 120 #[e.v] w (yCn e.f):Prop):=by
 go_enter func120,ntmps120;go_wp2_with fail;all_goals go_ret
 all_goals exact⟨by(have e0:yCn e.f=(e.f==11 || e.f==12 || e.f==13):=by simp only[yCn,Bool.decide_or,Bool.or_assoc];rfl);rw[e0];simp_all,qB⟩
theorem Tryz.infoI64:(prog.info? 2).map (λi=>(i.zero,i.size,i.bytes))=some (some (.int .i64 0),1,8):=qk
theorem yHm(w:Ww)(hgd:oo.guard=none) s x
  (ho:oo.op=.call {callee:=.builtin .append,args:=#[s,x],argTypes:=#[189,189]})
  (O gq cp n b m cx:Nat) (us vs:List Int) (hs:a.eval s=(xg gq n cp)) (hx:a.eval x=(xg b m cx)) (hn:n=us.length) (hm:m=vs.length) (hO:OwnZ 2 w O gq cp us .i64)
  (hc:∀(j:Nat) v,vs[j]?=some v->w.cell? (xd b j)=some (.int .i64 v)) (hlen:us.length+vs.length<=10000) (hbase:O<=w.heap.size)
  (h:∀g' cp' w',OwnZ 2 w' O g' cp' (us++vs) .i64->w.grownBy w' (some gq)->wpList prog ops Q rest (a.put oo.dst (xg g' (n+m) cp')) w'):wpList prog ops Q (oo::rest) a w:=by
 subst hn hm;have⟨i,hi,a3,a2,a1⟩:=Aj Tryz.infoI64;refine Aa w hgd s x 189 ho O 2 i _ 1 8 underlying189 hi a3 a2 a1 rfl qj (xg gq us.length cp) us.length (us.map λd=>(xi d)) hs hO (xd b 0) vs.length cx (vs.map λd=>(xi d)) hx (by simp) ?_ ?_ ?_ ?_ hbase ?_
 .intro j u hu;rw[A8]at hu;cases hq:vs[j]? with
  |none=>rw[hq]at hu;cases hu
  |some d=>rw[hq]at hu;obtain rfl:=AL hu;rw[Addr.add_mid,AQ];exact hc j d hq
 .intro v hv;obtain⟨d,_,rfl⟩:=List.mem_map.1 hv;rfl
 .unfold maxLen;omega
 .omega
 .intro v' w' a0 a5 a4 a8;rcases a0.2 with⟨h0,_⟩|⟨g',a6,cur,hv,_,_,hn,a7,_,_⟩
  .have:=(a4.1 h0).1;cases this
  .subst hv;refine h g' a6 w' ?_ a5;unfold OwnZ;rw[AA,map_append];exact a0
def yHj(bs:List Bk)(m:Bk):Prop:=bs.length<=200/\yB1 m.l m.cnt bs.length/\∀(k:Nat)(x:Bk),bs[k]?=some x->yB1 x.l x.cnt k
inductive Knd:CT->List (List Nd)->Nd->Prop
 |leaf (n:Nd) (h:yAl n.f=0):Knd (.leaf n) [] n
 |chain (n:Nd) {a b:CT} {ka kb:List Nd} (h:n.f=14) (ha:yA9 ka a) (hb:yA9 kb b):Knd (.chain n a b) [ka,kb] n
 |inter (n:Nd) {a b:CT} {ka kb:List Nd} (h:n.f=15) (ha:yA9 ka a) (hb:yA9 kb b):Knd (.inter n a b) [ka,kb] n
 |cond (n:Nd) {a b c:CT} {ka kb kc:List Nd} (h:n.f=16) (ha:yA9 ka a) (hb:yA9 kb b) (hc:yA9 kc c):Knd (.cond n a b c) [ka,kb,kc] n
theorem yA9.knd(h:yA9 xs t):∃ks n,xs=ks.flatten++ [n]/\Knd t ks n/\ks.length=yAl n.f/\∀k∈ks,IsT 1 k:=by
 have e2:∀ka kb:List Nd,∀n:Nd,ka++kb++ [n]= [ka,kb].flatten++ [n]:=λka kb n=>by simp
 have e3:∀ka kb kc:List Nd,∀n:Nd,ka++kb++kc++ [n]= [ka,kb,kc].flatten++ [n]:=λka kb kc n=>by simp
 have tr:∀{k:List Nd}{a:CT},yA9 k a->IsT 1 k:=λq=>TrV.tree _ q;cases h.part with
 |leaf n hk=>exact⟨[],n,rfl,.leaf n hk,hk.symm,λk hk=>by cases hk⟩
 |chain n hk ha hb=>exact⟨[_,_],n,e2 _ _ _,.chain n hk ha hb,by simp[yAl,hk],λk hm=>by rcases AD.1 hm with rfl|hm;exact tr ha;rcases AD.1 hm with rfl|hm;exact tr hb;cases hm⟩
 |inter n hk ha hb=>exact⟨[_,_],n,e2 _ _ _,.inter n hk ha hb,by simp[yAl,hk],λk hm=>by rcases AD.1 hm with rfl|hm;exact tr ha;rcases AD.1 hm with rfl|hm;exact tr hb;cases hm⟩
 |cond n hk ha hb hc=>exact⟨[_,_,_],n,e3 _ _ _ _,.cond n hk ha hb hc,by simp[yAl,hk],λk hm=>by rcases AD.1 hm with rfl|hm;exact tr ha;rcases AD.1 hm with rfl|hm;exact tr hb;rcases AD.1 hm with rfl|hm;exact tr hc;cases hm⟩
def yFo(bs:List Bk):List Vv:=bs.flatMap Bk.two
theorem yG8(es:List Bk):(yFo es).length=es.length*2:=yBv (f:=Bk.two) (λ_=>rfl) es
theorem yVo es:∀(k:Nat)(e:Bk),es[k]?=some e->∀j,j<2->(yFo es)[k*2+j]?=e.two[j]?:=yB6 (f:=Bk.two) (λ_=>rfl) es
theorem Tryz.infoB:(prog.info? 32).map (λi=>(i.zero,i.size,i.bytes))=some (some (.agg #[xh,xi 0]),2,32):=qk
def RowX(w:Ww)(O:Nat)(v:Vv)(X:List Ix):Prop:=w.ownsRow O 153 11 v X.length (yB2 X)
variable {X:List Ix}
theorem RowX.cases{v:Vv}(h:RowX w O v X):(v=xh/\X= [])\/∃g cp,v=(xg g X.length cp)/\OwnX w O g cp X:=by
 rcases h.2 with⟨h0,h1⟩|⟨g',a0,cur,hv,rest⟩
 .exact xF
 .subst hv;exact .inr ⟨g',a0,rfl,h⟩
theorem RowX.in{v:Vv}(h:RowX w O v X):yC5 w v X:=by
 rcases h.cases with⟨rfl,rfl⟩|⟨g,cp,rfl,hO⟩
 .exact .inl ⟨none,0,rfl,rfl⟩
 .exact yC5.Z hO rfl
theorem RowX.i{v:Vv}(h:RowX w O v X)(hc:Chg S w w')(hn:∀k,v.ownBlock=some k->¬S k):RowX w' O v X:=yAg h hc hn
theorem RowX.k{v:Vv}(h:RowX w O v X)(hb:Below w w w'):RowX w' O v X:=h.i (S:=λ_=>False) (Chg.h hb) (λ_ _ q=>q)
theorem RowX.low{v:Vv}(h:RowX w O v es)(hb:base'<=O):RowX w base' v es:=by exact yT8
theorem yMr(w:Ww)(O:Nat):RowX w O xh []:=⟨rfl,.inl ⟨rfl,rfl⟩⟩
theorem RowX.blk{v:Vv}(h:RowX w O v X){k:Nat}(hk:v.ownBlock=some k):O<=k/\k<w.heap.size:=by exact xBv
theorem RowX.slice{v:Vv}(h:RowX w O v X):∃a c,v=.slice a X.length c:=by
 exact xFf
def RowB(w:Ww)(O:Nat)(v:Vv)(bs:List Bk):Prop:=w.ownsRow O 32 2 v bs.length (yFo bs)
theorem RowB.i{v:Vv}{X:List Bk}(h:RowB w O v X)(hc:Chg S w w')(hn:∀k,v.ownBlock=some k->¬S k):RowB w' O v X:=yAg h hc hn
theorem RowB.low{v:Vv}{es:List Bk}(h:RowB w O v es)(hb:base'<=O):RowB w base' v es:=by exact yT8
theorem xAd(w:Ww)(O:Nat):RowB w O xh []:=⟨rfl,.inl ⟨rfl,rfl⟩⟩
theorem RowB.cases{v:Vv}{X:List Bk}(h:RowB w O v X):(v=xh/\X= [])\/∃g cp,v=(xg g X.length cp)/\O<=g/\g<w.heap.size/\X.length<=cp/\cp<=maxLen:=by
 have h':=h;rcases h.2 with⟨h0,h1⟩|⟨g',a1,cur,hv,_,_,hn,a0,_,_⟩
 .exact xF
 .subst hv;exact .inr ⟨g',a1,rfl,(AF h' g' rfl).1,(AF h' g' rfl).2,hn,a0⟩
theorem RowB.slice{v:Vv}{X:List Bk}(h:RowB w O v X):∃a c,v=.slice a X.length c:=by
 exact xFf
theorem RowB.blk{v:Vv}{X:List Bk}(h:RowB w O v X){k:Nat}(hk:v.ownBlock=some k):O<=k/\k<w.heap.size:=by
 rcases h.cases with⟨rfl,rfl⟩|⟨g,cp,rfl,h1,h2,_⟩
 .simp[AE]at hk
 .simp[AE]at hk;subst hk;exact⟨h1,h2⟩
theorem RowB.z(h:RowB w O (xg g bs.length cp) bs){i:Nat}{x:Bk}(hx:bs[i]?=some x):xk w g (i*2) x.v/\xk w g (i*2+1) (xi x.cnt):=by exact xId
def Eac(w:Ww)(O:Nat)(bs:List Bk):Prop:=∀x∈bs,RowX w O x.v x.l
theorem yOk{v:Vv}(h:RowX w O v X)(h':RowB w base' u bs):∀k,v.ownBlock=some k->u.ownBlock≠some k:=yAb h h' qj
theorem RowB.inB(hr:RowB w O cv bs)(he:Eac w O bs):yGp w cv bs:=by
 rcases hr.cases with⟨rfl,rfl⟩|⟨g,cp,rfl,_,h2,h3,h4⟩
 .exact .inl ⟨_,_,rfl,rfl⟩
 .refine .inr ⟨g,0,cp,rfl,λi x hx=>?_,h2,h3,h4⟩;have:=hr.z hx;rw[AQ];exact⟨this.1,this.2,(he x (AC hx)).in⟩
theorem xHq(h:yBh w b off l):AtV w b off (yB2 l):=yLv (f:=Ix.ten) (sz:=11) (λ_=>rfl) qj (λi e he j u hu=>by
 obtain⟨c0,c1,c2,c3,c4,c5,c6,c7,c8,c9,c10⟩:=h i e he;match j,hu with
 |0,hu=>cases hu;exact c0
 |1,hu=>cases hu;exact c1
 |2,hu=>cases hu;exact c2
 |3,hu=>cases hu;exact c3
 |4,hu=>cases hu;exact c4
 |5,hu=>cases hu;exact c5
 |6,hu=>cases hu;exact c6
 |7,hu=>cases hu;exact c7
 |8,hu=>cases hu;exact c8
 |9,hu=>cases hu;exact c9
 |10,hu=>cases hu;exact c10) λx _ u h=>by simp only[Ix.ten,AD,Ap,or_false]at h;rcases h with rfl|rfl|rfl|rfl|rfl|rfl|rfl|rfl|rfl|rfl|rfl<;>rfl
structure AppX(w w':Ww)(O:Nat)(v v':Vv)(X Y:List Ix):Prop where
 Z:RowX w' O v' (X++Y)
 grown:w.grownBy w' v.ownBlock
 U:v'.ownBlock=v.ownBlock\/v'.ownBlock=some w
theorem yHf l m:yB2 (l++m)=yB2 l++yB2 m:=by simp[yB2]
theorem yJd{K:Act->Ww->Prop}(w:Ww)(hgd:oo.guard=none) s x
  (ho:oo.op=.call {callee:=.builtin .append,args:=#[s,x],argTypes:=#[30,30]})
  (O:Nat) (v:Vv) (b off m cx:Nat) (fs es:List Ix) (hs:a.eval s=v) (hx:a.eval x=(xy b off m cx)) (hm:m=es.length) (hO:RowX w O v fs)
  (hc:yBh w b off es) (hlen:fs.length+es.length<=2^30) (hbase:O<=w.heap.size)
  (h:∀v' w',AppX w w' O v v' fs es->K (a.put oo.dst v') w'):if AM oo (yielded ops a.tmps)=true then Oper.wp prog oo a w K Q else E:=by
 subst hm;exact stA hgd (apV ⟨underlying30,_,_,Tryz.infoX,rfl,qj,qj⟩ ho hs hx hO (yD es) (xHq hc) (AP hlen qj) hbase λv' w' h1 h2 h3 h4=>h v' w' ⟨by unfold RowX;rw[AA,yHf];exact h1,h2,h4⟩)
structure AppB(w w':Ww)(O:Nat)(v v':Vv)(X Y:List Bk):Prop where
 Z:RowB w' O v' (X++Y)
 grown:w.grownBy w' v.ownBlock
 U:v'.ownBlock=v.ownBlock\/v'.ownBlock=some w
 nil:v'=xh↔v=xh/\Y.length=0
theorem yHg l m:yFo (l++m)=yFo l++yFo m:=by simp[yFo]
def yP9(w:Ww)(b off:Nat)(bs:List Bk):Prop:=∀i x,bs[i]?=some x->xk w b (off+i*2) x.v/\xk w b (off+i*2+1) (xi x.cnt)
theorem xCn{l:List Bk}(h:yP9 w b off l)(h1:∀x∈l,x.v.oneCell'=true):AtV w b off (yFo l):=yLv (f:=Bk.two) (sz:=2) (λ_=>rfl) qj (λi e he j u hu=>by
 obtain⟨c0,c1⟩:=h i e he;match j,hu with
 |0,hu=>cases hu;exact c0
 |1,hu=>cases hu;exact c1) λx hx u h=>by simp at h;rcases h with rfl|rfl;exact h1 x hx;rfl
theorem yFb{K:Act->Ww->Prop}(w:Ww)(hgd:oo.guard=none)(s x:Operand)
  (ho:oo.op=.call {callee:=.builtin .append,args:=#[s,x],argTypes:=#[29,29]})
  (O:Nat) (v:Vv) (b off m cx:Nat) (fs es:List Bk) (hs:a.eval s=v) (hx:a.eval x=(xy b off m cx)) (hm:m=es.length) (hO:RowB w O v fs)
  (hc:yP9 w b off es) (h1:∀x∈es,x.v.oneCell'=true) (hlen:fs.length+es.length<=2^30) (hbase:O<=w.heap.size)
  (h:∀v' w',AppB w w' O v v' fs es->K (a.put oo.dst v') w'):if AM oo (yielded ops a.tmps)=true then Oper.wp prog oo a w K Q else E:=by
 subst hm;exact stA hgd (apV ⟨underlying29,_,_,Tryz.infoB,rfl,qj,qj⟩ ho hs hx hO (yG8 es) (xCn hc h1) (AP hlen qj) hbase λv' w' h1 h2 h3 h4=>h v' w' ⟨by unfold RowB;rw[AA,yHg];exact h1,h2,h4,h3⟩)
theorem yVa{e:Nd}(h:Win w b o cap [e]):(xf 175 #[.slice (some ⟨b,o,none⟩) 1 cap] w (yCn e.f):Prop):=by
 have HW:=qH1 h;have hcap:=h.cap;have hlen:=h.X;have hbl:=h.lt;clear h;go_enter func175,ntmps175;go_wp2_with fail;go_loopw[3] (λi wr=>∃(k:Nat),k<=1/\i=(xi k)/\(k=1->yCn e.f=false)/\Below w w wr) (λi _=>1-(intOf i).toNat);case atStart=>exact⟨0,AI _,rfl,λq=>qo,Below.refl _ _⟩
 case round=>
  obtain⟨k,hk,rfl,hK,hbr⟩:=hrel;by_cases hlt:k<1
  .obtain rfl:k=0:=qo
   clear hK hk hlt;obtain⟨d0,d1,d2,d3,d4,d5,d6⟩:=(HW.U.k hbr hbl) 0 e rfl;simp only[Av,Ac]at d0 d1 d2 d3 d4 d5 d6;go_wp2_with fail;refine(yHx e wr).mono ?_;rintro r w' ⟨rfl,hb'⟩;have hb2:=hbr.trans (hb'.mono hbr.size);clear d0 d1 d2 d3 d4 d5 d6;obtain⟨c,hc⟩:=qE (yCn e.f);rw[<-hc];have HC:=qH1 hc;clear hc;cases c
   case true=>go_wp2_with fail;go_ret;exact⟨by rw[<-HC.out];rfl,hb2⟩
   case false=>
    go_wp2_with fail;go_roundw;case rel=>exact⟨1,AO _,by go_num,λ_=>HC.symm,hb2⟩
    case measure=>simp[intOf]
  .obtain rfl:k=1:=qo
   have hC:=hK rfl;have HC:=qH1 hC;clear hK hC;go_wp2_with fail;go_ret;exact⟨by rw[HC.out];rfl,hbr⟩
theorem yX7{i:Nat}{e:Nd}(h:xs[i]?=some e):ifsL (xs.take (i+1))=ifsL (xs.take i)+(if e.f=16 then 1 else 0):=by rw[AN,h];simp only[ifsL,List.filter_append,AA,Option.toList_some];by_cases hk:e.f=16<;>simp[hk]
theorem yU4(h:Win w b o cap xs)(hl:xs.length<=200):Calls prog 129 #[.slice (some ⟨b,o,none⟩) xs.length cap] w λr w'=>r=.returned (xi (ifsL xs:Nat))/\w'=w:=by
 have HW:=qH1 h;have hcap:=h.cap;have hlen:=h.X;have hbl:=h.lt;obtain⟨m,hm⟩:=qE xs.length;rw[<-hm]at hl hlen|-;have HM:=qH1 hm;clear h hm;go_enter func129,ntmps129;go_wp2_with fail;go_loopw[3,4] (λn i wr=>∃(k:Nat),k<=m/\i=(xi k)/\n=(xi (ifsL (xs.take k):Nat))/\wr=w) (λ_ i _=>m-(intOf i).toNat);case atStart=>exact⟨0,AI _,rfl,rfl,rfl⟩
 case round=>
  obtain⟨k,hk,rfl,rfl,rfl⟩:=hrel;by_cases hlt:k<m
  .obtain⟨e,he⟩:∃e,xs[k]?=some e:=qg (by have:=HM.out;omega);have hkd:=HW.f he;have hi1:=yX7 he;have hi2:=yNf (xs.take (k+1));rw[AK]at hi2;have HI:=qH1 hi1;obtain⟨q,hq⟩:=qE (ifsL (xs.take k));have HQ:=qH1 hq;have hq2:q<=200:=by rw[hq];have:=yNf (xs.take k);rw[AK]at this;omega
   rw[<-hq];have zi:(k:Int)<(m:Int):=qo
   clear hi1 hi2 hq he;by_cases h16:e.f=16
   .skip;go_wp2_with fail;go_roundw;case rel=>exact⟨k+1,qo,by go_num,by have:=HI.out;rw[iB h16]at this;rw[this,<-HQ.out];go_num,by trivial⟩
    case measure=>simp[intOf];omega
   .have z16:(e.f==16)=false:=by rw[iC];exact h16
    go_wp2_with fail;go_roundw;case rel=>exact⟨k+1,qo,by go_num,by have:=HI.out;rw[iA h16]at this;rw[this,<-HQ.out];rfl,by trivial⟩
    case measure=>simp[intOf];omega
  .obtain rfl:k=m:=qo
   go_wp2_with fail;go_ret;exact⟨by rw[List.take_of_length_le (by rw[HM.out];exact AO _)];rfl,rfl⟩
def GeP(X:List Ix)(w:Ww)(r:Ao)(w':Ww):Prop:=∃g cp,r=.returned (xg g X.length cp)/\OwnX w' w g cp X/\Below w w w'
theorem yU3(op:Int)(w:Ww):Calls prog 130 #[xi op] w (GeP [opI op] w):=by
 have HG:Hid (GeP [opI op] w (.returned (xg w 1 1)) (xw w #[xi op,xi 0,xi 0,false,xi 0,xe,false,xe,xu 0,xu 0,xi 0] 153)):=
  ⟨w,1,rfl,yFw w (opI op),qB⟩
 go_enter func130,ntmps130;go_wp2_with fail;go_ret;exact HG.out
structure EmAt(w:Ww)(eb:Nat)(v:Vv)(X:List Ix)(c:Nat):Prop where
 A:yA w eb 79 2 eb [v,xi c]
 j:RowX w (eb+1) v X
variable {eb:Nat}
theorem EmAt.lt{v:Vv}(h:EmAt w eb v X c):eb<w.heap.size:=h.A.lt.2
theorem EmAt.k{v:Vv}(h:EmAt w eb v X c)(hb:Below w w w'):EmAt w' eb v X c:=⟨h.A.k hb,h.j.k hb⟩
def EmS(eb:Nat)(v:Vv)(b:Nat):Prop:=b=eb\/v.ownBlock=some b
structure EmTo(w w':Ww)(eb:Nat)(v v':Vv)(X:List Ix)(c:Nat):Prop where
 U:EmAt w' eb v' X c
 i:Chg (EmS eb v) w w'
 new:∀k,v'.ownBlock=some k->v.ownBlock=some k\/w.heap.size<=k
variable {X1 X2:List Ix}
theorem EmTo.trans{v v1 v2:Vv}(h:EmTo w w1 eb v v1 X1 c1)(k:EmTo w1 w2 eb v1 v2 X2 c2):EmTo w w2 eb v v2 X2 c2:=by
 refine⟨k.U,⟨k.i.os.trans h.i.os,k.i.tape.trans h.i.tape,k.i.output.trans h.i.output,AP h.i.size k.i.size,λi hi hn=>?_⟩,λi hi=>?_⟩
 .refine(k.i.block i (Nat.lt_of_lt_of_le hi h.i.size) ?_).trans (h.i.block i hi hn);rintro(q|q)
  .exact hn (.inl q)
  .rcases h.new i q with q|q
   .exact hn (.inr q)
   .omega
 .exact xFd
theorem EmTo.h{v:Vv}(h:EmAt w eb v X c)(hb:Below w w w'):EmTo w w' eb v v X c:=⟨h.k hb,Chg.h hb,λk hk=>.inl hk⟩
variable {X':List Ix}
theorem EmTo.k{v:Vv}(h:EmAt w eb v X c)(k:EmTo w w' eb v v' X' c'):Below eb w w':=
 ⟨k.i.os,k.i.tape,k.i.output,k.i.size,λi hi=>k.i.block i (qw h.lt) (by
  rintro(q|q)
  .omega
  .have:=(h.j.blk q).1;omega)⟩
variable {Y:List Ix}
theorem EmAt.app{v:Vv}(h:EmAt w eb v X c)(hA:AppX w w' (eb+1) v v' X Y):EmTo w (xt w' eb 0 v') eb v v' (X++Y) c:=by
 have hch:Chg (λk=>v.ownBlock=some k) w w':=Chg.M hA.grown (λk hk=>hk);have hne:¬v.ownBlock=some eb:=λq=>qw ((h.j.blk q).1)
 have hbx:=h.A.i hch hne;have hset:Chg (λb=>b=eb) w' (xt w' eb 0 v'):=Chg.D _ _ _ _ rfl;refine⟨⟨?_,hA.Z.i hset (λk hk q=>qw ((hA.Z.blk hk).1))⟩,(hch.mono (λk hk=>.inr hk)).trans (hset.mono (λk hk=>.inl hk)),λk hk=>?_⟩
 .have:=hbx.set 0 v';simpa using this
 .rcases hA.U with q|q
  .rw[q]at hk;exact .inl hk
  .rw[q]at hk;cases hk;exact .inr qr
theorem yF3{v:Vv}(h:EmAt w eb v X c)(x:Ix)(hl:X.length<=100000):Calls prog 85 #[xp eb,x.v] w λr w'=>r=.returned (.tuple #[])/\∃v',EmTo w w' eb v v' (X++ [x]) c:=by
 obtain⟨va,vc,hv⟩:=h.j.slice;obtain⟨vn,hvn⟩:=qE X.length;rw[<-hvn]at hv;subst hv;have HE:=qH1 h;have HL:=qH1 hl;have hlt:=h.lt;clear h hvn hl;obtain⟨W0,hW0⟩:=qW (xw w #[xi x.op,xi x.a,xi x.b,x.free,xi x.leaf.f,x.leaf.s,x.leaf.hi,x.leaf.t,xu x.leaf.lo,xu x.leaf.up,xi x.leaf.n] 153);obtain⟨P,hP⟩:=qE w;have HB0:Hid (yA W0 P 153 11 P x.ten/\Below w w W0/\P=w.heap.size):=by rw[hW0,hP];exact⟨yAa w _ qr rfl,qB,rfl⟩
 have HE0:=qH1 (HE.k HB0.2.1);have q0:=HE0.A.z (j:=0) rfl;have hSd:SW (λw':Ww=>xk w' eb 0 (.slice va vn vc)/\xk w' P 0 (xi x.op)/\xk w' P 1 (xi x.a)/\xk w' P 2 (xi x.b)/\xk w' P 3 x.free/\xk w' P 4 (xi x.leaf.f)/\xk w' P 5 x.leaf.s/\xk w' P 6 x.leaf.hi/\xk w' P 7 x.leaf.t/\xk w' P 8 (xu x.leaf.lo)/\xk w' P 9 (xu x.leaf.up)/\xk w' P 10 (xi x.leaf.n)) W0.drew:=⟨q0,HB0.1.z (j:=0) rfl,HB0.1.z (j:=1) rfl,HB0.1.z (j:=2) rfl,HB0.1.z (j:=3) rfl,HB0.1.z (j:=4) rfl,HB0.1.z (j:=5) rfl,HB0.1.z (j:=6) rfl,HB0.1.z (j:=7) rfl,HB0.1.z (j:=8) rfl,HB0.1.z (j:=9) rfl,HB0.1.z (j:=10) rfl⟩;go_enter func85,ntmps85;go_upto_region 1 with fail;rw[<-hW0,<-hP];clear hW0 hP;refine wpR 12 hSd ?_;refine ja 0 hSd ?_;iterate 6 refine jb hSd ?_
 obtain⟨V1,hV1⟩:=qW ((W0.alloc (AR #[xi x.op,xi x.a,xi x.b,x.free,xi x.leaf.f,x.leaf.s,x.leaf.hi,x.leaf.t,xu x.leaf.lo,xu x.leaf.up,xi x.leaf.n] 153)).drew);obtain⟨G1,hG1⟩:=qE W0;have hbV:Below W0 W0 V1:=by rw[hV1];exact(qB).drew
 have HV:Hid (yBh V1 G1 0 [x]/\EmAt V1 eb (.slice va vn vc) X c/\eb+1<=V1.heap.size):=by refine⟨?_,HE0.k hbV,(HE0.k hbV).lt⟩;rw[hV1,hG1];exact(yFw W0 x).at
 have HBV:=qH1 (HB0.1.k hbV);have HbV:=qH1 (HB0.2.1.trans (hbV.mono HB0.2.1.size));have hS1:=SWm hSd V1 <|⟨HV.2.1.A.z (j:=0) rfl,HBV.z (j:=0) rfl,HBV.z (j:=1) rfl,HBV.z (j:=2) rfl,HBV.z (j:=3) rfl,HBV.z (j:=4) rfl,HBV.z (j:=5) rfl,HBV.z (j:=6) rfl,HBV.z (j:=7) rfl,HBV.z (j:=8) rfl,HBV.z (j:=9) rfl,HBV.z (j:=10) rfl⟩;clear hbV;refine qO 7 rfl λK hK=>?_;go_simp;rw[<-hV1,<-hG1];clear hV1 hG1;refine hK.out _ _ (.inr hS1) (jS ?_);clear hK;refine qO 8 rfl λK hK=>?_;refine yJd _ rfl _ _ rfl (eb+1) (.slice va vn vc) G1 0 1 1 X [x] rfl rfl rfl HV.2.1.j HV.1 (by have:=HL.out;simp;omega) HV.2.2 ?_;intro v' w2 hA;have HT:=qH1 (HV.2.1.app hA);have hgr:=Chg.M hA.grown (λk hk=>hk);have HB2:=qH1 (HV.2.1.A.i hgr (λq=>qw ((HV.2.1.j.blk q).1)));have HB3:=qH1 (HBV.i hgr (λq=>by have:=(HE.j.blk q).2;rw[<-HB0.2.2]at this;omega));have hS2:=SWm hS1 w2 <|⟨HB2.z (j:=0) rfl,HB3.z (j:=0) rfl,HB3.z (j:=1) rfl,HB3.z (j:=2) rfl,HB3.z (j:=3) rfl,HB3.z (j:=4) rfl,HB3.z (j:=5) rfl,HB3.z (j:=6) rfl,HB3.z (j:=7) rfl,HB3.z (j:=8) rfl,HB3.z (j:=9) rfl,HB3.z (j:=10) rfl⟩;obtain⟨a9,c9,hv9⟩:=hA.Z.slice;obtain⟨n9,hn9⟩:=qE ((X++ [x]).length);rw[<-hn9]at hv9;clear hn9;subst hv9;clear hA hgr;refine hK.out _ _ (.inr hS2) (jS ?_);clear hK;refine kO 9 hS2 ?_;refine kO 10 hS2 ?_;refine kO 11 hS2 ?_;have z0:=HB2.frozen 0;have e0:=HB2.z (j:=0) rfl;refine kL 12 ?_;refine qD ?_;go_wp2_with fail;refine bodyPost_end (results_none rfl _ _ _) rfl ?_;exact⟨rfl,_,(EmTo.h HE.out HbV.out).trans HT.out⟩
theorem yX2 es:∀v∈yB2 es,v.oneCell'=true:=by intro v hv;unfold yB2 at hv;obtain⟨e,_,h⟩:=List.mem_flatMap.1 hv;simp only[Ix.ten,AD,Ap,or_false]at h;rcases h with rfl|rfl|rfl|rfl|rfl|rfl|rfl|rfl|rfl|rfl|rfl<;>rfl
theorem yPa(h:yBh w b off es):∀(j:Nat)(v:Vv),(yB2 es)[j]?=some v->w.cell? (((xd b off):Addr).add j)=some v:=by
 intro j v hv;have hj:=qf hv;rw[yD]at hj;obtain⟨e,he⟩:∃e,es[j/11]?=some e:=qg (by omega);have h1:=yL2 es (j/11) e he (j%11) (A0 _ (by decide));have ej:j/11*11+j%11=j:=by omega
 rw[ej,hv]at h1;obtain⟨d0,d1,d2,d3,d4,d5,d6,d7,d8,d9,d10⟩:=h (j/11) e he;rw[Addr.add_mid,show off+j=off+j/11*11+j%11 by omega];have hm:j%11<11:=A0 _ qo;generalize j%11=m at*;match m,hm,h1 with
 |0,_,hg=>rw[Ac,d0,hg];rfl
 |1,_,hg=>rw[d1,hg];rfl
 |2,_,hg=>rw[d2,hg];rfl
 |3,_,hg=>rw[d3,hg];rfl
 |4,_,hg=>rw[d4,hg];rfl
 |5,_,hg=>rw[d5,hg];rfl
 |6,_,hg=>rw[d6,hg];rfl
 |7,_,hg=>rw[d7,hg];rfl
 |8,_,hg=>rw[d8,hg];rfl
 |9,_,hg=>rw[d9,hg];rfl
 |10,_,hg=>rw[d10,hg];rfl
theorem yIo{o:Oper}(w:Ww)(hgd:o.guard=none) s x
  (ho:o.op=.call {callee:=.builtin .append,args:=#[s,x],argTypes:=#[30,30]})
  (O g cp n b off m cx:Nat) (fs es:List Ix) (hs:a.eval s=(xg g n cp)) (hx:a.eval x=.slice (some ⟨b,off,none⟩) m cx) (hn:n=fs.length) (hm:m=es.length) (hO:OwnX w O g cp fs)
  (hc:yBh w b off es) (hlen:fs.length+es.length<=2^30) (hbase:O<=w.heap.size)
  (h:∀g' cp' w',OwnX w' O g' cp' (fs++es)->w.grownBy w' (some g)->(g'=g\/g'=w.heap.size)->wpList prog ops Q rest (a.put o.dst (xg g' (n+m) cp')) w'):wpList prog ops Q (o::rest) a w:=by
 subst hn hm;obtain⟨i,hi,hz0,hz1,hz2⟩:=Aj Tryz.infoX;refine Aa w hgd s x 30 ho O 153 i _ 11 104 underlying30 hi hz0 hz1 hz2 rfl qj (xg g fs.length cp) fs.length (yB2 fs) hs hO (xd b off) es.length cx (yB2 es) hx (yD es) (yPa hc) (yX2 es) ?_ ?_ hbase ?_
 .unfold maxLen;omega
 .omega
 .intro v' w' hO' hgr hnil hat;rcases hO'.2 with⟨h0,_⟩|⟨g',cap',cur,hv,_,_,hn,hcap,_,_⟩
  .have:=(hnil.1 h0).1;cases this
  .subst hv;refine h g' cap' w' ?_ hgr ?_
   .unfold OwnX;rw[AA,show yB2 (fs++es)=yB2 fs++yB2 es by simp[yB2]];exact hO'
   .simp[AE]at hat;exact hat
theorem yU5(b cp:Nat)(us:List Vv)(ns:List (List Ix))(w:Ww)(hc:∀(j:Nat)(u:Vv),us[j]?=some u->(xk w b j u:Prop))(hb:b<w.heap.size)(hl:us.length=ns.length)(hI:∀(j:Nat)(u:Vv)(y:List Ix),us[j]?=some u->ns[j]?=some y->∃b' c,u=(xg b' y.length c)/\yBh w b' 0 y/\b'<w.heap.size)(ht:ns.flatten.length<=1000000)(hn:ns.length<=1000):
  Calls prog 127 #[xg b ns.length cp] w (GeP ns.flatten w):=by
 have HH:=qH4 hc hl hI ht;clear hc hl hI ht;obtain⟨W1,hW1⟩:=qE (xw w #[] 153:Ww);have hb1:=qN hW1
 have HO1:Hid (OwnX W1 w w 0 ((ns.take 0).flatten)):=by rw[hW1];exact AZ w #[] 0 qr (AI _) (by simp)
 go_enter func127,ntmps127;go_upto_region 2 with fail;rw[<-hW1];clear hW1;go_wp2_with fail;go_loopw[3,4] (λov iv wr=>∃(k g cg m:Nat),k<=ns.length/\iv=(xi k)/\ov=(xg g m cg)/\Hid (m=((ns.take k).flatten).length/\OwnX wr w g cg ((ns.take k).flatten))/\Below w w wr) (λ_ iv _=>ns.length-(intOf iv).toNat);case atStart=>exact⟨0,_,_,0,AI _,rfl,rfl,⟨rfl,HO1.out⟩,hb1⟩
 case round=>
  obtain⟨k,g,cg,m,hk,rfl,rfl,HO,hbr⟩:=hrel;have sb:=hbr.size;by_cases hlt:k<ns.length
  .have zk:(k:Int)<(ns.length:Int):=qo
   obtain⟨y,hy⟩:∃y,ns[k]?=some y:=qg hlt;obtain⟨u,hu⟩:∃u,us[k]?=some u:=qg (by have:=HH.2.1;omega);obtain⟨b',c,hv,hE,hlt'⟩:=HH.2.2.1 k u y hu hy;have c0:(xk wr b k (xg b' y.length c):Prop):=by rw[hbr.cell (p:=(xd b k)) hb,<-hv];exact HH.1 k u hu
   have HY:Hid (ns[k]?=some y/\yBh wr b' 0 y/\((ns.take k).flatten).length+y.length<=2^30):=by refine⟨hy,hE.k hbr hlt',?_⟩;have h1:=xEl ns (k+1);rw[yPn hy,AA]at h1;have:=HH.2.2.2;omega
   clear hy hu hE hv;go_wp2_with (at_builtin;refine yIo _ rfl _ _ rfl w g cg m b' 0 y.length c ((ns.take k).flatten) y rfl rfl HO.1 rfl HO.2 HY.2.1 HY.2.2 ?hb ?_);case hb=>omega
   intro g' cp' w' hO' hgr hat;have HO':Hid (m+y.length=((ns.take (k+1)).flatten).length/\OwnX w' w g' cp' ((ns.take (k+1)).flatten)):=by rw[yPn HY.1];exact⟨by rw[AA,HO.1],hO'⟩
   have hb':=hbr.grown hgr sb (λj hj=>by have:=HO.2.lt.1;cases hj;omega);clear hO' hgr hat c0;go_wp2_with fail;go_roundw;case rel=>exact⟨k+1,g',cp',m+y.length,qo,by go_num,by first|rfl|go_num,HO',hb'⟩
   case measure=>simp[intOf];omega
  .have zk:¬(k:Int)<(ns.length:Int):=qo
   have hkl:k=ns.length:=qo
   subst hkl;have HO2:Hid (m=ns.flatten.length/\OwnX wr w g cg ns.flatten):=by have:=HO.out;rw[List.take_length]at this;exact this
   clear HO;go_wp2_with fail;go_ret;exact⟨g,cg,by rw[HO2.1];rfl,HO2.2,hbr⟩
theorem RowB.k{v:Vv}{X:List Bk}(h:RowB w O v X)(hb:Below w w w'):RowB w' O v X:=h.i (S:=λ_=>False) (Chg.h hb) (λ_ _ q=>q)
theorem Eac.k(h:Eac w O bs)(hb:Below w w w'):Eac w' O bs:=λx hx=>(h x hx).k hb
theorem Eac.low(h:Eac w O bs)(hb:base'<=O):Eac w base' bs:=λx hx=>(h x hx).low hb
def yC9(l:List Ix):Int×List Ix:=((cntL l:Nat),absG 0 0 l)
variable {cs:List Bk}
theorem Eac.grown{v:Vv}(h:Eac w O bs)(hB:RowB w base' v cs)(hg:w.grownBy w' v.ownBlock):Eac w' O bs:=λx hx=>
 (h x hx).i (S:=λk=>v.ownBlock=some k) (Chg.M hg (λk hk=>hk)) (λk hk q=>yOk (h x hx) hB k hk q)
structure Cds(w0 w:Ww)(v:Vv)(X:List (List Ix))(bs:List Bk):Prop where
 j:RowB w w0 v bs
 each:Eac w w0 bs
 view:bs.map Bk.vw=X.map yC9
 k:Below w0 w0 w
def yLg(xs:List Nd)(X:List (List Ix))(M:List Ix):Prop:=∃t,yA9 xs t/\X=t.V [] false 0/\M=t.gen false 0
theorem yPh(h:yB9 xs):∃t,yA9 xs t:=by obtain⟨hl,s,hs,_⟩:=h;exact yZ0 (ShT.tree goodB hs)
structure CdU(w0 w:Ww)(cv mv:Vv)(cnt:Int)(X:List (List Ix))(M:List Ix)(bs:List Bk):Prop where
 V:Cds w0 w cv X bs
 main:RowX w w0 mv (absG 0 0 M)
 cnt:cnt=(cntL M:Nat)
end Go.Proofs.YtnnagkfoiganfaaGreatDoor
