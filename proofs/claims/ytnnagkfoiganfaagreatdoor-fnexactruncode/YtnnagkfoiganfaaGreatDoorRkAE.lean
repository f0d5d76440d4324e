import Derived.Test.YtnnagkfoiganfaaGreatDoorRkAD
import Derived.Test.YtnnagkfoiganfaaGreatDoorRkAC
import Derived.Test.YtnnagkfoiganfaaGreatDoorRkAB
namespace Go.Proofs.YtnnagkfoiganfaaGreatDoor
open Go.ChangeShapes Go.WideShapes Go.ChangeAt Go.RowKit Go.Deep XD XI XU XG XP XK XW XT XF XE XH _root_.List _root_.Nat Go.Proofs.Tryz
set_option linter.unusedVariables false
set_option linter.unusedSimpArgs false
set_option maxRecDepth 100000
set_option maxHeartbeats 40000000
theorem yNd(n:Nat)(h:n<64):IntKind.u64.wrap (2^n)=((2^n:Nat):Int):=by
 have hp:=Nat.pow_lt_pow_right (a:=2) qj h;rw[IntKind.wrap_u64];have e:((2:Int)^n)=((2^n:Nat):Int):=by simp
 rw[e];exact Int.emod_eq_of_lt (Int.natCast_nonneg _) (Int.ofNat_lt.2 hp)
theorem xG9 S (a:Nat) (ha:a/64=0) (w:World):(xf 233 #[psV S,xi a] w (psV (sOr S (sOne a))):Prop):=by
 have za:a<256:=qo
 have zq:(a:Int).tdiv 64=0:=by rw[Int.tdiv_eq_ediv_of_nonneg qo];omega
 have zr:(a:Int).tmod 64=((a%64:Nat):Int):=by rw[Int.tmod_eq_emod_of_nonneg qo];omega
 obtain⟨n,hn⟩:=qE (a%64);rw[<-hn]at zr;have zn:n<64:=qo
 have zs:=yNd n zn;have a0:¬(n:Int)<0:=qo
 have zwi:IntKind.i64.wrap (0:Int)=0:=by rfl
 have zwn:IntKind.i64.wrap (n:Int)=n:=by simp[IntKind.wrap,IntKind.bits,IntKind.signed];omega
 have wo:=yMy S a 0 ha.symm;rw[<-hn,show((2^n:Nat):Int)=(2:Int)^n by simp]at wo;have w1:=yBf S a 1 qo;have w2:=yBf S a 2 qo;have w3:=yBf S a 3 qo;have HW:=qH2 wo (λj hj=>yBf S a j qo:(∀j,¬j=0->wdN (sOr S (sOne a)) j=wdN S j));clear hn ha wo w1 w2 w3;go_enter func233,ntmps233;go_upto_region 1 with fail;refine yAf 9 (λwz=>xk wz w 0 (xu (wdN S 0))) qk ?_;refine yB9 (i:=0) (v:=?va0) rfl qk qk qk qk qj (λ_ _ _ h=>h) (Or.inl ⟨by rfl,?ya0⟩) (by simp) ?_;case ya0=>exact zzR1
 refine jS ?_;refine ja 1 (by simp) (v:=(xi 0)) ?_;exact zzQ7
theorem xG8 S (a:Nat) (ha:a/64=1) (w:World):(xf 233 #[psV S,xi a] w (psV (sOr S (sOne a))):Prop):=by
 have za:a<256:=qo
 have zq:(a:Int).tdiv 64=1:=by rw[Int.tdiv_eq_ediv_of_nonneg qo];omega
 have zr:(a:Int).tmod 64=((a%64:Nat):Int):=by rw[Int.tmod_eq_emod_of_nonneg qo];omega
 obtain⟨n,hn⟩:=qE (a%64);rw[<-hn]at zr;have zn:n<64:=qo
 have zs:=yNd n zn;have a0:¬(n:Int)<0:=qo
 have zwi:IntKind.i64.wrap (1:Int)=1:=by rfl
 have zwn:IntKind.i64.wrap (n:Int)=n:=by simp[IntKind.wrap,IntKind.bits,IntKind.signed];omega
 have wo:=yMy S a 1 ha.symm;rw[<-hn,show((2^n:Nat):Int)=(2:Int)^n by simp]at wo;have w0:=yBf S a 0 qo;have w2:=yBf S a 2 qo;have w3:=yBf S a 3 qo;have HW:=qH2 wo (λj hj=>yBf S a j qo:(∀j,¬j=1->wdN (sOr S (sOne a)) j=wdN S j));clear hn ha wo w0 w2 w3;go_enter func233,ntmps233;go_upto_region 1 with fail;refine yAf 9 (λwz=>xk wz w 1 (xu (wdN S 1))) qk ?_;refine yB9 (i:=0) (v:=?va0) rfl qk qk qk qk qj (λ_ _ _ h=>h) (Or.inl ⟨by rfl,?ya0⟩) (by simp) ?_;case ya0=>exact zzR1
 refine jS ?_;refine ja 1 (by simp) (v:=(xi 1)) ?_;exact zzQ7
theorem xG7 S (a:Nat) (ha:a/64=2) (w:World):(xf 233 #[psV S,xi a] w (psV (sOr S (sOne a))):Prop):=by
 have za:a<256:=qo
 have zq:(a:Int).tdiv 64=2:=by rw[Int.tdiv_eq_ediv_of_nonneg qo];omega
 have zr:(a:Int).tmod 64=((a%64:Nat):Int):=by rw[Int.tmod_eq_emod_of_nonneg qo];omega
 obtain⟨n,hn⟩:=qE (a%64);rw[<-hn]at zr;have zn:n<64:=qo
 have zs:=yNd n zn;have a0:¬(n:Int)<0:=qo
 have zwi:IntKind.i64.wrap (2:Int)=2:=by rfl
 have zwn:IntKind.i64.wrap (n:Int)=n:=by simp[IntKind.wrap,IntKind.bits,IntKind.signed];omega
 have wo:=yMy S a 2 ha.symm;rw[<-hn,show((2^n:Nat):Int)=(2:Int)^n by simp]at wo;have w0:=yBf S a 0 qo;have w1:=yBf S a 1 qo;have w3:=yBf S a 3 qo;have HW:=qH2 wo (λj hj=>yBf S a j qo:(∀j,¬j=2->wdN (sOr S (sOne a)) j=wdN S j));clear hn ha wo w0 w1 w3;go_enter func233,ntmps233;go_upto_region 1 with fail;refine yAf 9 (λwz=>xk wz w 2 (xu (wdN S 2))) qk ?_;refine yB9 (i:=0) (v:=?va0) rfl qk qk qk qk qj (λ_ _ _ h=>h) (Or.inl ⟨by rfl,?ya0⟩) (by simp) ?_;case ya0=>exact zzR1
 refine jS ?_;refine ja 1 (by simp) (v:=(xi 2)) ?_;exact zzQ7
theorem xG6 S (a:Nat) (ha:a/64=3) (w:World):(xf 233 #[psV S,xi a] w (psV (sOr S (sOne a))):Prop):=by
 have za:a<256:=qo
 have zq:(a:Int).tdiv 64=3:=by rw[Int.tdiv_eq_ediv_of_nonneg qo];omega
 have zr:(a:Int).tmod 64=((a%64:Nat):Int):=by rw[Int.tmod_eq_emod_of_nonneg qo];omega
 obtain⟨n,hn⟩:=qE (a%64);rw[<-hn]at zr;have zn:n<64:=qo
 have zs:=yNd n zn;have a0:¬(n:Int)<0:=qo
 have zwi:IntKind.i64.wrap (3:Int)=3:=by rfl
 have zwn:IntKind.i64.wrap (n:Int)=n:=by simp[IntKind.wrap,IntKind.bits,IntKind.signed];omega
 have wo:=yMy S a 3 ha.symm;rw[<-hn,show((2^n:Nat):Int)=(2:Int)^n by simp]at wo;have w0:=yBf S a 0 qo;have w1:=yBf S a 1 qo;have w2:=yBf S a 2 qo;have HW:=qH2 wo (λj hj=>yBf S a j qo:(∀j,¬j=3->wdN (sOr S (sOne a)) j=wdN S j));clear hn ha wo w0 w1 w2;go_enter func233,ntmps233;go_upto_region 1 with fail;refine yAf 9 (λwz=>xk wz w 3 (xu (wdN S 3))) qk ?_;refine ja 0 (by simp) ?_;refine ja 1 (by simp) (v:=(xi 3)) ?_;iterate 3 refine jb (by simp) ?_
 refine ja 5 (by simp) (v:=(xi n)) ?_;iterate 2 refine jb (by simp) ?_
 refine jb (by simp) ?_;refine kL 9 ?_;refine qD ?_;go_wp2;refine bodyPost_ret (v:=psV (sOr S (sOne a))) (by simp[results,results233,go_sem,HW.2]) rfl ⟨rfl,?_⟩;repeat (first|exact Below.refl _ _|refine Below.drew ?_|refine Below.alloc ?_ (by simp;done) _|refine Below.alloc ?_ qr _|refine Below.alloc ?_ (by simp;omega) _)
theorem yE1 S (a:Nat) (ha:a<256) (w:World):(xf 233 #[psV S,xi a] w (psV (sOr S (sOne a))):Prop):=by
 rcases(by omega:a/64=0\/a/64=1\/a/64=2\/a/64=3)with h|h|h|h
 .exact xG9 S a h w
 .exact xG8 S a h w
 .exact xG7 S a h w
 .exact xG6 S a h w
def NulV(w:World)(t:Pat)(v:Value):Prop:=∃(T:Nat)(c:Array Value)(f:Nat),v=.iface T (.agg c)/\
 ((T=348/\f=285)\/(T=360/\f=286)\/(T=362/\f=287)\/(T=304/\f=238))/\
 Hid (∀w',Below w w w'->Calls prog f #[.agg c] w' λe w''=>e=.returned (nulB t)/\Below w' w' w'')
theorem xBn(w:World)(b:UInt8):NulV w (.byte b) (yRd b):=by refine⟨_,_,_,rfl,.inl ⟨rfl,rfl⟩,λw' _=>?_⟩;go_enter func285,ntmps285;go_wp2;go_ret;exact⟨rfl,qB⟩
theorem xE3(w:World)(f:UInt8->Bool):NulV w (.cls f) (clsV f):=by refine⟨_,_,_,rfl,.inr (.inl ⟨rfl,rfl⟩),λw' _=>?_⟩;go_enter func286,ntmps286;go_wp2;go_ret;exact⟨rfl,qB⟩
variable {w:World} {u:Value}
theorem xE2{t:Pat}(h:NulV w t u)(o r:Bool):NulV w (.rep t o r) (.iface 362 (.agg #[u,o,r])):=by
 refine⟨_,_,_,rfl,.inr (.inr (.inl ⟨rfl,rfl⟩)),λw' hw=>?_⟩;obtain⟨T,c,f,rfl,ht,HC⟩:=h;have hb:∀o:Obj,Below w' w' (w'.alloc o):=λo=>qB;have HB:Hid (∀o:Obj,Below w' w' (w'.alloc o)/\Below w w (w'.alloc o)):=λo=>⟨hb o,hw.trans ((hb o).mono hw.size)⟩;clear hb;cases o with
 |true=>
  go_enter func287,ntmps287;go_wp2;go_ret;exact⟨by simp[nulB],(HB.out _).1⟩
 |false=>
  rcases ht with⟨rfl,rfl⟩|⟨rfl,rfl⟩|⟨rfl,rfl⟩|⟨rfl,rfl⟩;all_goals go_enter func287,ntmps287
  all_goals go_wp2_with fail
  all_goals refine(HC.out _ (HB.out _).2).mono ?_
  all_goals rintro e w1 ⟨rfl,a0⟩
  all_goals go_wp2_with fail
  all_goals go_ret
  all_goals exact⟨by simp[nulB],(HB.out _).1.trans (a0.mono (HB.out _).1.size)⟩
theorem yGx:∀ts:List Pat,nulS ts=ts.all nulB
 | []=>rfl
 |t::ts=>by simp[nulS,yGx ts]
theorem yNv:∀os:List (List Pat),nulA os=os.any nulS
 | []=>rfl
 |t::ts=>by simp[nulA,yNv ts]
def NulQ(w:World)(ts:List Pat)(u:Value):Prop:=∃(a:Option Addr)(n c:Nat),u=.slice a n c/\Hid (∀w',Below w w w'->Calls prog 254 #[.agg #[.slice a n c]] w' λe w''=>e=.returned (nulS ts)/\Below w' w' w'')
theorem xE1{lo:Nat->Prop}{ts:List Pat}(h:yRk (λt v=>wtP t<=500->NulV w t v) w lo ts u)(hwt:wtS ts<=500):NulQ w ts u:=by
 rcases h with⟨rfl,rfl⟩|⟨g,cp,us,rfl,a2,hV,hN⟩
 .refine⟨none,0,0,rfl,λw' hw=>?_⟩;go_enter func254,ntmps254;go_wp2;go_loopw[8] (λiv wr=>iv=(xi 0)/\Hid (Below w' w' wr)) (λ_ _=>0);case atStart=>exact⟨rfl,qB⟩
  case round=>obtain⟨rfl,HB⟩:=hrel;go_wp2;go_ret;exact⟨rfl,HB.out⟩
 .refine⟨_,_,_,rfl,λw' hw=>?_⟩;obtain⟨n,hn⟩:=qE ts.length;have a3:n<=500:=qw (yRo ts)
  have HH:=qH5 hn (by rw[hn];exact a2:us.length=n) hV hw (λi x t hx ht=>hN i x t hx ht (Nat.le_trans (yRn (mem_of_getElem? ht)) hwt):(∀(i:Nat) x t,us[i]?=some x->ts[i]?=some t->NulV w t x));rw[<-hn];clear a2 hV hN hw hn;go_enter func254,ntmps254;go_wp2;go_loopw[8] (λiv wr=>∃k:Nat,k<=n/\iv=(xi k)/\Hid (Below w' w' wr/\(ts.take k).all nulB=true)) (λiv _=>n-(intOf iv).toNat);case atStart=>exact⟨0,zero_le _,rfl,qB,by simp⟩
  case round=>
   obtain⟨k,hk,rfl,HB⟩:=hrel;by_cases hlt:k<n
   .have zk:(k:Int)<(n:Int):=qo
    obtain⟨x,hx⟩:∃x,us[k]?=some x:=qg (by rw[HH.2.1];exact hlt);obtain⟨t,ht⟩:∃t,ts[k]?=some t:=qg (by rw[<-HH.1];exact hlt);obtain⟨T,c,f,rfl,hT,HC⟩:=HH.2.2.2.2 k x t hx ht;have a0:=HH.2.2.2.1.trans (HB.1.mono HH.2.2.2.1.size);have c0:(xk wr g k (.iface T (.agg c)):Prop):=by rw[a0.cell (p:=(xd g k)) HH.2.2.1.lt];exact HH.2.2.1.val k _ hx
    have HX:Hid (ts[k]?=some t/\∀w2,Below wr wr w2->Below w w w2):=⟨ht,λw2 h2=>a0.trans (h2.mono a0.size)⟩;clear hx ht a0;cases hnb:nulB t with
    |true=>
     have HN:Hid ((ts.take (k+1)).all nulB=true):=by show _=_;rw[take_add_one,HX.1,all_append,HB.2];simp[hnb]
     rw[hnb]at HC;clear hnb;rcases hT with⟨rfl,rfl⟩|⟨rfl,rfl⟩|⟨rfl,rfl⟩|⟨rfl,rfl⟩;all_goals go_wp2_with fail
     all_goals refine(HC.out _ (HX.2 _ (Below.refl _ _))).mono ?_
     all_goals rintro e w1 ⟨rfl,a1⟩
     all_goals go_wp2_with fail
     all_goals refine⟨⟨k+1,qo,by go_num,HB.1.trans (a1.mono HB.1.size),HN.out⟩,?_⟩
     all_goals go_light
     all_goals simp[intOf]
     all_goals omega
    |false=>
     have HN:Hid (nulS ts=false):=by show _=_;rw[yGx,all_eq_false];exact⟨t,mem_of_getElem? HX.1,by simp[hnb]⟩
     rw[hnb]at HC;clear hnb;rcases hT with⟨rfl,rfl⟩|⟨rfl,rfl⟩|⟨rfl,rfl⟩|⟨rfl,rfl⟩;all_goals go_wp2_with fail
     all_goals refine(HC.out _ (HX.2 _ (Below.refl _ _))).mono ?_
     all_goals rintro e w1 ⟨rfl,a1⟩
     all_goals go_wp2_with fail
     all_goals go_ret
     all_goals exact⟨by rw[HN.out];rfl,HB.1.trans (a1.mono HB.1.size)⟩
   .obtain rfl:k=n:=qo
    have zk:¬(k:Int)<(k:Int):=qo
    go_wp2;go_ret;refine⟨?_,HB.1⟩;have:=HB.2;rw[HH.1,take_length]at this;rw[yGx,this];rfl
theorem xE4{lo:Nat->Prop}{os:List (List Pat)}(h:yUd (λt v=>wtP t<=500->NulV w t v) w lo os u)(hwt:wtA os<=500):∃(a:Option Addr)(n c:Nat),u=.slice a n c/\Hid (∀w',Below w w w'->Calls prog 238 #[.agg #[.slice a n c]] w' λe w''=>e=.returned (nulA os)/\Below w' w' w''):=by
 obtain⟨g,cp,us,rfl,a4,hV,hN⟩:=h;refine⟨_,_,_,rfl,λw' hw=>?_⟩;obtain⟨n,hn⟩:=qE os.length;have a5:n<=500:=by have:=yRr os;omega
 have HH:=qH5 hn (by rw[hn];exact a4:us.length=n) hV hw (λi x t hx ht=>xE1 (hN i x t hx ht) (Nat.le_trans (yRq (mem_of_getElem? ht)) hwt):(∀(i:Nat) x t,us[i]?=some x->os[i]?=some t->NulQ w t x));rw[<-hn];clear a4 hV hN hw hn;go_enter func238,ntmps238;go_wp2_with fail;go_loopw[8] (λiv wr=>∃k:Nat,k<=n/\iv=(xi k)/\Hid (Below w' w' wr/\(os.take k).any nulS=false)) (λiv _=>n-(intOf iv).toNat);case atStart=>exact⟨0,zero_le _,rfl,qB,by simp⟩
 case round=>
  obtain⟨k,hk,rfl,HB⟩:=hrel;by_cases hlt:k<n
  .have zk:(k:Int)<(n:Int):=qo
   obtain⟨x,hx⟩:∃x,us[k]?=some x:=qg (by rw[HH.2.1];exact hlt);obtain⟨t,ht⟩:∃t,os[k]?=some t:=qg (by rw[<-HH.1];exact hlt);obtain⟨sa,sn,sc,rfl,HC⟩:=HH.2.2.2.2 k x t hx ht;have a2:=HH.2.2.2.1.trans (HB.1.mono HH.2.2.2.1.size);have c0:(xk wr g k (.slice sa sn sc):Prop):=by rw[a2.cell (p:=(xd g k)) HH.2.2.1.lt];exact HH.2.2.1.val k _ hx
   have HX:Hid (os[k]?=some t/\∀w2,Below wr wr w2->Below w w w2):=⟨ht,λw2 h2=>a2.trans (h2.mono a2.size)⟩;have a0:Hid (∀o:Obj,Below wr wr (wr.alloc o)):=λo=>qB;clear hx ht a2;cases hnb:nulS t with
   |false=>
    have HN:Hid ((os.take (k+1)).any nulS=false):=by show _=_;rw[take_add_one,HX.1,any_append,HB.2];simp[hnb]
    rw[hnb]at HC;clear hnb;go_wp2_with fail;refine(HC.out _ (HX.2 _ (a0.out _))).mono ?_;rintro e w1 ⟨rfl,a1⟩;have a3:=qH1 (HB.1.trans (((a0.out _).trans (a1.mono (a0.out _).size)).mono HB.1.size));clear a1;go_wp2_with fail;refine⟨⟨k+1,qo,by go_num,a3.out,HN.out⟩,?_⟩;go_light;simp[intOf];omega
   |true=>
    have HN:Hid (nulA os=true):=by show _=_;rw[yNv,any_eq_true];exact⟨t,mem_of_getElem? HX.1,hnb⟩
    rw[hnb]at HC;clear hnb;go_wp2_with fail;refine(HC.out _ (HX.2 _ (a0.out _))).mono ?_;rintro e w1 ⟨rfl,a1⟩;have a3:=qH1 (HB.1.trans (((a0.out _).trans (a1.mono (a0.out _).size)).mono HB.1.size));clear a1;go_wp2_with fail;go_ret;exact⟨by rw[HN.out];rfl,a3.out⟩
  .obtain rfl:k=n:=qo
   have zk:¬(k:Int)<(k:Int):=qo
   go_wp2_with fail;go_ret;refine⟨?_,HB.1⟩;have:=HB.2;rw[HH.1,take_length]at this;rw[yNv,this];rfl
theorem yNu:∀(n:Nat){w:World}{lo:Nat->Prop}{t:Pat}{v:Value},yDl n w lo t v->wtP t<=500->NulV w t v
 |0,_,_,_,_,h,_=>h.elim
 |n+1,w,lo,.byte b,v,h,_=>by rw[show v=yRd b from h];exact xBn w b
 |n+1,w,lo,.cls f,v,h,_=>by rw[show v=clsV f from h];exact xE3 w f
 |n+1,w,lo,.rep t o r,v,⟨u,h1,h2⟩,hw=>by rw[h1];exact xE2 (yNu n h2 (by simpa only[wtP]using hw)) o r
 |n+1,w,lo,.alt os,v,⟨u,h1,h2⟩,hw=>by
  obtain⟨a,m,c,rfl,HC⟩:=xE4 (h2.mono (M:=λt v=>wtP t<=500->NulV w t v) (λt v q=>yNu n q) (λ_ _ q=>q)) (by simp only[wtP]at hw;omega)
  exact⟨_,_,_,h1,.inr (.inr (.inr ⟨rfl,rfl⟩)),λw' hw=>by have:=HC.out w' hw;simpa only[nulB]using this⟩
section
section
variable {F:Fence} {n:Nat} {P:Program} {ops:Array Oper} {Q:Exit->Act->World->Prop} {md:Region.Mode} {S:World->Prop} {X:List Nat}
def YifI(P:Program)(ops:Array Oper)(S:World->Prop)(o:Oper)(v:Value)(a:Act):Prop:=YieldsIf P ops S o v a/\∀w,o.about P w a.eval=none
variable {o:Oper} {a:Act}
theorem YifI.same{v:Value}{a':Act}(hy:YifI P ops S o v a)(he:execOp a'.eval o=execOp a.eval o)(hw:Region.wanted o (yielded ops a'.tmps)=Region.wanted o (yielded ops a.tmps))(hb:∀w,o.about P w a'.eval=o.about P w a.eval):YifI P ops S o v a':=
 ⟨hy.1.of_same he hw,λw=>(hb w).trans (hy.2 w)⟩
variable {i:Nat}
theorem YifI.op{v:Value}(hro:F.round=none)(hi:ops[i]?=some o)(hy:YifI P ops S o v a){K:Act->World->Prop}(hS:S w)(h:K (a.put o.dst v) w):wpOpIn F n P ops Q i K a w:=by
 unfold wpOpIn;simp only[hi];have a0:∀f,o.about P w a.eval=some f->F.fn f:=λf hf=>by rw[hy.2 w]at hf;cases hf
 rcases hy.1 with⟨hw,hv⟩|⟨hw,rfl⟩
 .simp only[hw,if_true,Oper.wpIn,hro,Oper.semAt_none,hv w hS,Oper.uponIn];exact⟨a0,h⟩
 .simp only[hw,Bool.false_eq_true,if_false];exact⟨a0,h⟩
theorem yWb{j:Nat}{oi oj:Oper}{v:Value}(hro:F.round=none)(hj:ops[j]?=some oj)(hap:oi.apart ops oj=true)
  (hsi:∀cs b,oi.op≠ .select cs b) (hsj:∀cs b,oj.op≠ .select cs b)
  (hQ:∀c a w,Q (.panic c) (a.put oi.dst v) w->Q (.panic c) a w) {K:Act->World->Prop} {a:Act} {w:World}
  (hy:YifI P ops S oi v a) (h:wpOpIn F n P ops Q j K (a.put oi.dst v) w):wpOpIn F n P ops Q j (λa' w'=>YifI P ops S oi v a'/\K (a'.put oi.dst v) w') a w:=by
 obtain⟨h1,h2,h3⟩:=Oper.apart_spec hap;have kp:∀(b:Act),YifI P ops S oi v b->∀u,YifI P ops S oi v (b.put oj.dst u):=λb hb u=>hb.same (execOp_put oi hsi b oj.dst u h3) (wanted_put oi b oj.dst u h3) (λw=>about_put oi w b oj.dst u h3);have fin:∀(u:Value)(w':World),K ((a.put oi.dst v).put oj.dst u) w'->YifI P ops S oi v (a.put oj.dst u)/\K ((a.put oj.dst u).put oi.dst v) w':=λu w' hk=>⟨kp a hy u,by rw[<-Act.put_comm a v u h2];exact hk⟩;unfold wpOpIn at*;simp only[hj]at*;rw[wanted_put oj a oi.dst v h1,about_put oj w a oi.dst v h1]at h;by_cases hw:Region.wanted oj (yielded ops a.tmps)=true
 .rw[if_pos hw]at h|-;unfold Oper.wpIn at*;rw[about_put oj w a oi.dst v h1,hro,Oper.semAt_none,execOp_put oj hsj a oi.dst v h1]at h;rw[hro,Oper.semAt_none];refine⟨h.1,?_⟩;have hh:=h.2;generalize (execOp a.eval oj).run P w=r at*;cases r with
  |ok x w'=>
   cases x with
   |value u=>exact fin u w' hh
   |skip=>exact fin undef w' hh
   |defer d=>
    simp only[Oper.uponIn]at hh|-;refine⟨kp {a with defers:=d::a.defers} (hy.same rfl rfl (λ_=>rfl)) undef,?_⟩;rw[<-Act.put_comm _ v undef h2,<-Act.put_defers];exact hh
   |enter f args=>
    simp only[Oper.uponIn]at hh|-;refine⟨hh.1,CallsIn.mono hh.2 λe w'' he=>?_⟩;cases e with
    |returned u=>exact fin u w'' he
    |panicked c=>exact hQ _ _ _ he
    |outgrown=>exact he
   |row row args=>
    simp only[Oper.uponIn]at hh|-;exact⟨hh.1,RowsIn.mono hh.2 λu w'' he=>fin u w'' he⟩
   |round l f tmps assign body=>
    simp only[Oper.uponIn]at hh|-;refine⟨hh.1,RoundIn.mono hh.2 λe w'' he=>?_⟩;cases e with
    |returned u=>exact fin u w'' he
    |panicked c=>exact hQ _ _ _ he
    |outgrown=>exact he
   |_=>exact hh
  |halt x w'=>
   cases x with
   |panic u=>exact hQ _ _ _ hh
   |_=>exact hh
 .rw[if_neg hw]at h|-;exact⟨h.1,fin undef w h.2⟩
def AnyI(F:Fence)(n:Nat)(P:Program)(md:Region.Mode)(ops:Array Oper)(Q:Exit->Act->World->Prop)(S:World->Prop)(X:List Nat):Nat->Array Bool->Act->World->Prop
 |0,listed,a,w=>Region.ready md ops listed= []/\Q .normal a w
 |fuel+1,listed,a,w=>
  (Region.ready md ops listed= []->Q .normal a w)/\
  ∀i∈Region.ready md ops listed,wpOpIn F n P ops Q i (λa' w'=>(i∈X\/S w')/\AnyI F n P md ops Q S X fuel (listed.setIfInBounds i true) a' w') a w
theorem yVh:∀(fuel:Nat)(listed:Array Bool)(a:Act)(w:World),AnyI F n P md ops Q S X fuel listed a w->wpAnyIn F n P md ops Q fuel listed a w
 |0,_,_,_,h=>h
 |fuel+1,_,_,_,h=>⟨h.1,λi hi=>wpOpIn_mono (λa' w' h'=>yVh fuel _ a' w' h'.2) (h.2 i hi)⟩
theorem yXi{oi:Oper}{v:Value}{Y:List Nat}(hro:F.round=none)(hi:ops[i]?=some oi)(hsel:∀(j:Nat)(o:Oper) cs b,ops[j]?=some o->o.op≠ .select cs b)
  (hQ:∀c a w,Q (.panic c) (a.put oi.dst v) w->Q (.panic c) a w):
  ∀(fuel:Nat)(listed:Array Bool)(a:Act)(w:World),yO2 md ops Y listed i=true->(∀L∈X,listed.getD L true=true\/L∈Y)->
   (∀j oj,ops[j]?=some oj->j≠i->listed.getD j true=false->(∀e∈oj.after,Region.binds md e=true->e.on≠i)->oi.apart ops oj=true)->
   i∈Region.ready md ops listed->YifI P ops S oi v a->S w->
   AnyI F n P md ops Q S X fuel (listed.setIfInBounds i true) (a.put oi.dst v) w->AnyI F n P md ops Q S X (fuel+1) listed a w:=by
 intro fuel;induction fuel with
 |zero=>
  intro listed a w _ _ _ hr hy hS H;refine⟨λh=>(by rw[h]at hr;cases hr),λj hj=>?_⟩;by_cases hji:j=i
  .subst hji;exact hy.op hro hi hS ⟨.inr hS,H⟩
  .have:=ready_mono hj hji;rw[H.1]at this;cases this
 |succ fuel ih=>
  intro listed a w hX a8 a7 hr hy hS H;refine⟨λh=>(by rw[h]at hr;cases hr),λj hj=>?_⟩;by_cases hji:j=i
  .subst hji;exact hy.op hro hi hS ⟨.inr hS,H⟩
  .have h1:=H.2 j (ready_mono hj hji);obtain⟨a3,oj,a1,aa⟩:=mem_ready.1 hj;have a0:∀k,listed.getD k true=false->∀e∈oj.after,Region.binds md e=true->e.on≠k:=λk h0 e he hb heq=>by
    have h1:=aa e he hb;rw[heq]at h1;rcases Nat.lt_or_ge k listed.size with h'|h'
    .simp[h']at h0 h1;rw[h0]at h1;cases h1
    .simp[Array.getElem?_eq_none h']at h1
   have a4:=a0 i (mem_ready.1 hr).1;have a5:j∉Y:=λq=>by
    have h2:=all_eq_true.1 hX j q;rw[Bool.and_eq_true,Bool.or_eq_true]at h2;rcases h2.2 with h3|h3
    .obtain⟨e,he,hb,a2⟩:=yGi a1 h3;exact a4 e he hb a2
    .obtain⟨L',ad,h4⟩:=any_eq_true.1 h3;obtain⟨e,he,hb,a2⟩:=yGi a1 h4;have h5:=all_eq_true.1 hX L' ad;rw[Bool.and_eq_true]at h5;exact a0 L' (by simpa using h5.1) e he hb a2
   have a6:j∉X:=λq=>(a8 j q).elim (λz=>by rw[a3]at z;cases z) a5;have ab:∀L∈X,(listed.setIfInBounds j true).getD L true=true\/L∈Y:=λL hL=>(a8 L hL).imp (λz=>by rw[getD_set_ne true (λq:j=L=>a6 (by rw[q];exact hL))];exact z) (λz=>z)
   have h2:=yWb hro a1 (a7 j oj a1 hji a3 a4) (λcs b=>hsel i oi cs b hi) (λcs b=>hsel j oj cs b a1) hQ hy h1
   have a9:∀k ok,ops[k]?=some ok->k≠i->(listed.setIfInBounds j true).getD k true=false->
     (∀e∈ok.after,Region.binds md e=true->e.on≠i)->oi.apart ops ok=true:=λk ok hk hki a0 hno=>by
    refine a7 k ok hk hki ?_ hno;by_cases hjk:j=k
    .subst hjk;exact a3
    .rw[getD_set_ne true hjk]at a0;exact a0
   have ac:yO2 md ops Y (listed.setIfInBounds j true) i=true:=by refine all_eq_true.2 λL hL=>?_;have h2:=all_eq_true.1 hX L hL;rw[getD_set_ne true (λq:j=L=>a5 (by rw[q];exact hL))];exact h2
   refine wpOpIn_mono (λa' w' h3=>⟨h3.2.1,ih (listed.setIfInBounds j true) a' w' ac ab a9 (ready_mono hr (Ne.symm hji)) h3.1 (h3.2.1.resolve_left a6) ?_⟩) h2;rw[Array.setIfInBounds_comm _ _ hji];exact h3.2.2
theorem yEr{fuel:Nat}{listed:Array Bool}(hr:Region.ready md ops listed= [i])(ho:ops[i]?=some o)
  (h:∀K':Act->World->Prop,Shut (∀a w,(i∈X\/S w)->AnyI F n P md ops Q S X fuel (listed.setIfInBounds i true) a w->K' a w)->if Region.wanted o (yielded ops a.tmps)=true then Oper.wpIn F n P o a w K' Q else(∀f,o.about P w a.eval=some f->F.fn f)/\K' (a.put o.dst undef) w):
  AnyI F n P md ops Q S X (fuel+1) listed a w:=by
 refine⟨λh0=>(by rw[hr]at h0;cases h0),λj hj=>?_⟩;rw[hr]at hj;simp at hj;subst hj;exact wpOpIn_step ho (λK' hK=>h K' (λa w hS hW=>hK a w ⟨hS,hW⟩))
theorem yKw{fuel:Nat}{listed:Array Bool}(hr:Region.ready md ops listed= [])(h:Q .normal a w):AnyI F n P md ops Q S X fuel listed a w:=by exact xDs
theorem yD8{id:Nat}(X:List Nat)(S:World->Prop)(hm:P.follows .mixedOrders=true)
  (h:AnyI F n P .any ops Q S X ops.size (Array.replicate ops.size false) a w.drew):(Code.region id ops true).wpIn F n P Q a w:=
 wpIn_region_any hm (yVh _ _ _ _ h)
end
theorem xIq{p:Prop}(h:p:=by exact⟨(by exact jy),λ_=>rfl⟩):p:=h
section
variable {F:Fence} {n:Nat} {P:Program} {ops:Array Oper} {Q:Exit->Act->World->Prop} {md:Region.Mode} {S:World->Prop} {X:List Nat} {j:Nat} {v:Value} {oi:Oper} {fuel:Nat} {listed:Array Bool} {a:Act} {w:World} {q:Prop}
theorem tiT{i:Nat}(hro:F.round=none)(hx:TxX ops Q md X i v oi listed)(hy:YifI P ops S oi v a)(hS:S w)(h:AnyI F n P md ops Q S X fuel (listed.setIfInBounds i true) (a.put oi.dst v) w):AnyI F n P md ops Q S X (fuel+1) listed a w:=
 yXi (Y:=(cloX md ops listed 6 [i]).erase i) hro hx.1 (Region.noSelect_spec hx.2.1) hx.2.2.2.2.2 fuel listed a w (by
  have h2:=hx.2.2.2.2.1
  unfold yO3 at h2
  rw[Bool.and_eq_true]at h2
  exact h2.1) (λL hL=>by
  have h2:=hx.2.2.2.2.1
  unfold yO3 at h2
  rw[Bool.and_eq_true]at h2
  simpa using all_eq_true.1 h2.2 L hL) (Region.free_spec hx.1 hx.2.2.1) (by simpa using hx.2.2.2.1) hy hS h
theorem yK8(i:Nat)(hro:F.round=none)(hS:S w)(k:q)(hx:TxX ops Q md X i v oi listed:=by exact txx)(hy:YifI P ops S oi v a:=by exact xIq)(h:q->AnyI F n P md ops Q S X fuel (listed.setIfInBounds i true) (a.put oi.dst v) w:=by exact jz):AnyI F n P md ops Q S X (fuel+1) listed a w:=tiT hro hx hy hS (h k)
end
end
def mCel(k:Int):Ent:=⟨yAx k.toNat,yAx (k+1).toNat,yAx (k+1+1).toNat,k+1+1+1,0,yAx (k+1+1+1+1).toNat⟩
def yEd(k:Int)(es:List Ent)(i:Nat):Prop:=∀j:Nat,j<i->(es[j]?.map Ent.five)=some (mCel (k+j*5)).five
theorem ySv{k:Int}{fs:List Ent}{m:Nat}{e:Ent}(h:yEd k fs m)(hm:m<fs.length)(he:e.five=(mCel (k+m*5)).five):yEd k (fs.set m e) (m+1):=by
 intro j hj;by_cases e1:j=m
 .subst e1;simp[hm];simpa using he
 .rw[getElem?_set_ne qo];exact h j qo
theorem yF7(base g cap:Nat)(es:List Ent)(k:Int)(w:World)(hO:OwnC w base g cap es)(h0:0<k)(h1:k<=2^30)(hn:es.length<=1048576):
  Calls prog 25 #[xg g es.length cap,xi k] w λe w'=>
   ∃fs,e=.returned (xi (k+es.length*5))/\OwnC w' base g cap fs/\fs.length=es.length/\yEd k fs es.length/\w.grownBy w' (some g):=by
 have HO:=qH1 hO;clear hO;go_enter func25,ntmps25;go_wp2;go_loopw[1,5] (λc i wr=>∃(m:Nat)(a:Int)(fs:List Ent),m<=es.length/\i=(xi m)/\c=(xi a)/\a=k+m*5/\OwnC wr base g cap fs/\fs.length=es.length/\yEd k fs m/\w.grownBy wr (some g)) (λ_ i _=>es.length-(intOf i).toNat);case atStart=>exact⟨0,k,es,zero_le _,rfl,rfl,by simp,HO.out,rfl,λj hj=>qo,yAu (Below.refl _ _) _⟩
 case round=>
  obtain⟨m,a,fs,hm,rfl,rfl,ha,hO,a8,a6,a7⟩:=hrel;have HR:=qH4 ha hO a8 a6;have ab:0<a:=qo
  have aa:a<=2^31:=qo
  have HG:=qH1 a7;clear hO a8 a6 ha a7;by_cases hlt:m<es.length
  .obtain⟨f,hf⟩:∃f,fs[m]?=some f:=qg (by rw[HR.2.2.1];exact hlt);have HF:=qH2 hf (by rw[HR.2.2.1];exact hlt:m<fs.length);clear hf;go_wp2_with fail;refine(yBv a _ qo qo).mono ?_;rintro e w1 ⟨rfl,a5⟩;have a2:=HR.2.1.below a5 HR.2.1.lt.2;have c1:=(a2.at m f HF.1).1;simp only[Nat.zero_add]at c1;have z1:=λj=>World.ownsRow.frozenAt a2 j;have a9:=a2.set m 0 f {f with row:=yAx a.toNat} (yAx a.toNat) HF.1 qo rfl;have H1:Hid (OwnC (xt w1 g (m*5) (yAx a.toNat)) base g cap (fs.set m {f with row:=yAx a.toNat})/\w.grownBy (xt w1 g (m*5) (yAx a.toNat)) (some g)):=⟨a9,(HG.trans (yAu a5 _)).trans (yAv _ _ _ _)⟩;clear a2 a9 a5;go_wp2_with fail;refine(yBv (a+1) _ qo qo).mono ?_;rintro e w2 ⟨rfl,hb2⟩;have hO2:=H1.1.below hb2 H1.1.lt.2;have c2:=(hO2.at m _ (by simp[HF.2];rfl)).2.1;simp only[Nat.zero_add]at c2;have z2:=λj=>World.ownsRow.frozenAt hO2 j
   have H2:Hid (OwnC (xt w2 g (m*5+1) (yAx (a+1).toNat)) base g cap (fs.set m {f with row:=yAx a.toNat,fam:=yAx (a+1).toNat})/\w.grownBy (xt w2 g (m*5+1) (yAx (a+1).toNat)) (some g)):=
    ⟨hO2.upd HF.2 qo rfl,(H1.2.trans (yAu hb2 _)).trans (yAv _ _ _ _)⟩
   clear hO2 hb2 c1 z1;go_wp2_with fail;refine(yBv (a+1+1) _ qo qo).mono ?_;rintro e w3 ⟨rfl,a4⟩;have a0:=H2.1.below a4 H2.1.lt.2;obtain⟨_,_,c3,c4,_⟩:=a0.at m _ (by simp[HF.2];rfl);simp only[Nat.zero_add]at c3 c4;have z3:=λj=>World.ownsRow.frozenAt a0 j;have H3:=qH2 a0 (H2.2.trans (yAu a4 _));clear a0 a4 c2 z2;go_wp2_with fail;refine(yBv (a+1+1+1+1) _ qo qo).mono ?_;rintro e w4 ⟨rfl,a3⟩
   have a0:=(H3.1.upd (j:=2) (u:=(yAx (a+1+1).toNat)) (f':={f with row:=yAx a.toNat,fam:=yAx (a+1).toNat,qual:=yAx (a+1+1).toNat}) HF.2 qo rfl).upd (j:=3) (u:=(xu (a+1+1+1)))
    (f':={f with row:=yAx a.toNat,fam:=yAx (a+1).toNat,qual:=yAx (a+1+1).toNat,ts:=a+1+1+1}) HF.2 qo rfl
   have a1:=a0.below a3 a0.lt.2;have c6:=(a1.at m _ (by simp[HF.2];rfl)).2.2.2.2;simp only[Nat.zero_add]at c6;have z4:=λj=>World.ownsRow.frozenAt a1 j
   have H4:Hid (OwnC (xt w4 g (m*5+4) (yAx (a+1+1+1+1).toNat)) base g cap (fs.set m (mCel a))/\w.grownBy (xt w4 g (m*5+4) (yAx (a+1+1+1+1).toNat)) (some g)):=
    ⟨a1.upd HF.2 qo rfl,(((((H3.2.trans (yAv _ _ _ _)).trans (yAv _ _ _ _))).trans (yAu a3 _)).trans (yAv _ _ _ _))⟩
   have HE:=qH1 HR.1;clear a0 a1 a3 c3 c4 z3;go_wp2_with fail;refine⟨⟨m+1,a+1+1+1+1+1,fs.set m (mCel a),qo,by go_num,rfl,?_,H4.1,by rw[length_set];exact HR.2.2.1,?_,H4.2⟩,?_⟩
   .go_light;have:=HE.out;omega
   .go_light;exact ySv HR.2.2.2 HF.2 (by rw[<-HE.out])
   .go_light;simp[intOf];omega
  .exact xC0
theorem yLp(b off cap:Nat)(es:List Ent)(k:Int)(w:World)(hE:yA4 w b off es)(hmk:yEd k es es.length)(hB:b<w.heap.size)(h0:0<k)(h1:k<=2^30)(hn:es.length<=1048576):
  Calls prog 70 #[.slice (some ⟨b,off,none⟩) es.length cap,xi k] w λe w'=>
   e=.returned (xi (k+es.length*5))/\Below w w w':=by
 have HE:=qH2 hE hmk;clear hE hmk;go_enter func70,ntmps70;go_wp2;go_loopw[1,5] (λc i wr=>∃(m:Nat)(a:Int),m<=es.length/\i=(xi m)/\c=(xi a)/\a=k+m*5/\Below w w wr) (λ_ i _=>es.length-(intOf i).toNat);case atStart=>exact⟨0,k,zero_le _,rfl,rfl,by simp,Below.refl _ _⟩
 case round=>
  obtain⟨m,a,hm,rfl,rfl,ha,hb⟩:=hrel;have a3:0<a:=qo
  have a2:a<=2^31:=qo
  have HA:=qH1 ha;clear ha;have hs:=hb.size;by_cases hlt:m<es.length
  .obtain⟨f,he⟩:∃f,es[m]?=some f:=qg hlt;have hf:f.five=(mCel a).five:=by have h:=HE.2 m hlt;rw[he,<-HA.out]at h;simpa using h
   simp only[Ent.five,List.cons.injEq,Value.string.injEq,Value.int.injEq,and_true,true_and]at hf;obtain⟨f1,f2,f3,f4,f5⟩:=hf;have HM:=qH1 he;clear he;have z2:(m:Int)<(es.length:Int):=qo
   have a1:∀wx,Below w w wx->xk wx b (off+m*5) (yAx a.toNat)/\xk wx b (off+m*5+1) (yAx (a+1).toNat)/\xk wx b (off+m*5+2) (yAx (a+1+1).toNat)/\
     xk wx b (off+m*5+3) (xu (a+1+1+1))/\xk wx b (off+m*5+4) (yAx (a+1+1+1+1).toNat):=by
    intro wx hx;have h:=(HE.1.below hx hB) m _ HM.out;rw[f1,f2,f3,f4,f5]at h;exact h
   have HC:Hid (∀wx,Below w w wx->xk wx b (off+m*5) (yAx a.toNat)/\xk wx b (off+m*5+1) (yAx (a+1).toNat)/\xk wx b (off+m*5+2) (yAx (a+1+1).toNat)/\
     xk wx b (off+m*5+3) (xu (a+1+1+1))/\xk wx b (off+m*5+4) (yAx (a+1+1+1+1).toNat)):=a1
   clear f1 f2 f3 f4 f5;clear a1;have c1:=(HC.out wr hb).1;go_upto_region 4 with fail;go_cut[19] (λs wx=>s=false/\Below w w wx);case first=>
    go_region_with (go_at_call 69;refine(yEe w _ _ ?hB qo qo).mono ?_;(case hB=>(repeat (first|assumption|refine Below.drew ?_)));rintro e' w' ⟨rfl,a0⟩;have cx:=(HC.out w' a0).1);all_goals go_wp2_with fail
    all_goals go_meet
    all_goals exact⟨rfl,by assumption⟩
   case rest=>
   obtain⟨rfl,h2⟩:=hcut;clear c1;obtain⟨wa,rfl⟩:=qW wc;have c2:=(HC.out wa h2).2.1;go_upto_region 7 with fail;go_cut[29] (λs wx=>s=false/\Below w w wx);case first=>
    go_region_with (go_at_call 69;refine(yEe w _ _ ?hB qo qo).mono ?_;(case hB=>(repeat (first|assumption|refine Below.drew ?_)));rintro e' w' ⟨rfl,a0⟩;have cx:=(HC.out w' a0).2.1);all_goals go_wp2_with fail
    all_goals go_meet
    all_goals exact⟨rfl,by assumption⟩
   case rest=>
   obtain⟨rfl,h3⟩:=hcut;clear c2;obtain⟨wb,rfl⟩:=qW wc;have c3:=(HC.out wb h3).2.2.1;go_upto_region 10 with fail;go_cut[39] (λs wx=>s=false/\Below w w wx);case first=>
    go_region_with (go_at_call 69;refine(yEe w _ _ ?hB qo qo).mono ?_;(case hB=>(repeat (first|assumption|refine Below.drew ?_)));rintro e' w' ⟨rfl,a0⟩;have cx:=(HC.out w' a0).2.2.1);all_goals go_wp2_with fail
    all_goals go_meet
    all_goals exact⟨rfl,by assumption⟩
   case rest=>
   obtain⟨rfl,h4⟩:=hcut;clear c3;obtain⟨wd,rfl⟩:=qW wc;have c4:=(HC.out wd h4).2.2.2.1;have c5:=(HC.out wd h4).2.2.2.2;go_upto_region 16 with fail;go_cut[59] (λs wx=>s=false/\Below w w wx);case first=>
    go_region_with (go_at_call 69;refine(yEe w _ _ ?hB qo qo).mono ?_;(case hB=>(repeat (first|assumption|refine Below.drew ?_)));rintro e' w' ⟨rfl,a0⟩;have cx:=(HC.out w' a0).2.2.2.2);all_goals go_wp2_with fail
    all_goals go_meet
    all_goals exact⟨rfl,by assumption⟩
   case rest=>
   obtain⟨rfl,h5⟩:=hcut;clear c4 c5;go_wp2_with fail;refine⟨⟨m+1,a+1+1+1+1+1,qo,by go_num,rfl,?_,h5⟩,?_⟩
   .go_light;have:=HA.out;omega
   .go_light;simp[intOf];omega
  .go_wp2;go_ret;have e1:m=es.length:=qo
   refine⟨?_,hb⟩;rw[HA.out,e1];rfl
end Go.Proofs.YtnnagkfoiganfaaGreatDoor
