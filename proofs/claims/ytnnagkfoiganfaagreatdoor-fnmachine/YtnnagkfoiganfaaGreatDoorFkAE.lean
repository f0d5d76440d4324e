import Derived.Test.YtnnagkfoiganfaaGreatDoorFkAD
import Derived.Test.YtnnagkfoiganfaaGreatDoorFkAB
import Derived.Test.YtnnagkfoiganfaaGreatDoorFkAC
namespace Go.Proofs.YtnnagkfoiganfaaGreatDoor
open Go.ChangeShapes Go.WideShapes Go.ChangeAt Go.RowKit Go.Deep XD XI XU XG XP XK XW XT XF XE XH _root_.List _root_.Nat XY Go.Proofs.Tryz
open _root_.Go renaming bodyPost_ret->AU,Ending->Ae,bodyPost_end->As,results_none->Au
open _root_.Go.ByteArray renaming toList_eq->AT
open _root_.Go.IntKind renaming signed->AR,wrap->AV,bits->AW
open _root_.Go.Obj renaming cells->AD
open _root_.Go.Region renaming wanted->AO
open _root_.Go.Value renaming ownBlock->AL
open _root_.Go.World.ownsRow renaming lt->AF,cellAt->AI,stored->AP,frozenAt->Ac
open _root_.Int renaming tdiv_eq_ediv_of_nonneg->AJ,tmod_eq_emod_of_nonneg->AK
open _root_.List renaming length_append->AA,length_singleton->AB,mem_of_getElem?->AE,mem_cons->AH,take_append_drop->AM,getElem?_eq_some_iff->AN,length_eq_zero_iff->AQ,mem_append->AS,length_take->AX,take_add_one->AY,take_of_length_le->Ad,cons_append->Af,length_cons->Ag,getElem?_map->Aj,length_set->Al,getElem?_of_mem->Am,drop_eq_getElem_cons->An,replicate->Ao,flatMap_append->Ar,append_assoc->Av
open _root_.Nat renaming le_refl->AG,le_trans->Aa,zero_add->Ab,add_assoc->Ai,zero_le->Ak,add_zero->Ap,add_mul->Aq
open _root_.Option renaming bind_some->AZ,bind_eq_some_iff->Ah
open _root_.Option.some renaming inj->AC
set_option linter.unusedVariables false
set_option linter.unusedSimpArgs false
set_option maxRecDepth 100000
set_option maxHeartbeats 64000000
set_option linter.unnecessarySimpa false
variable {zs:List U8} {A:List U8->Pat->Prop} {g sty cx off conds gN oN c c1 c2 c' sz P1 P3 lo hi ty cap b:Nat} {S:Nat->Prop} {s:Operand} {Q:Exit->Act->Ww->Prop} {ks ns:List (List Nd)} {ds':List Int} {cnt:Int} {gd:Bool} {W0 W1 w1 w2:Ww} {ops:Array Oper} {y ys:List Nd} {rest:List Oper} {cv:Vv} {vs:List Vv} {f:Option Nat}
theorem yNz(n:Nat)(h:n<64):IntKind.u64.wrap (2^n)=((2^n:Nat):Int):=by
 have hp:=Nat.pow_lt_pow_right (a:=2) qj h;rw[IntKind.wrap_u64];have e:((2:Int)^n)=((2^n:Nat):Int):=by simp
 rw[e];exact Int.emod_eq_of_lt (Int.natCast_nonneg _) (Int.ofNat_lt.2 hp)
theorem xK3 S (a:Nat) (ha:a/64=0) (w:Ww):(xf 233 #[psV S,xi a] w (psV (sOr S (sOne a))):Prop):=by
 have za:a<256:=qo
 have zq:(a:Int).tdiv 64=0:=by rw[AJ qo];omega
 have zr:(a:Int).tmod 64=((a%64:Nat):Int):=by rw[AK qo];omega
 have⟨n,hn⟩:=qE (a%64);rw[<-hn]at zr;have zn:n<64:=qo
 have zs:=yNz n zn;have a0:¬(n:Int)<0:=qo
 have zwi:IntKind.i64.wrap (0:Int)=0:=by rfl
 have zwn:IntKind.i64.wrap (n:Int)=n:=by simp[AV,AW,AR];omega
 have wo:=yNo S a 0 ha.symm;rw[<-hn,show((2^n:Nat):Int)=(2:Int)^n by simp]at wo;have w1:=yBg S a 1 qo;have w2:=yBg S a 2 qo;have w3:=yBg S a 3 qo;have HW:=qH2 wo (λj hj=>yBg S a j qo:(∀j,¬j=0->wdN (sOr S (sOne a)) j=wdN S j));clear hn ha wo w1 w2 w3;go_enter func233,ntmps233;go_upto_region 1 with fail;refine yAe 9 (λwz=>xk wz w 0 (xu (wdN S 0))) qk ?_;refine yCi (i:=0) (v:=?va0) rfl qk qk qk qk qj (λ_ _ _ h=>h) (Or.inl ⟨by rfl,?ya0⟩) (by simp) ?_;case ya0=>exact zzR1
 refine jS ?_;apply ja 1 (by simp) (v:=(xi 0));exact zzQ7
theorem xK2 S (a:Nat) (ha:a/64=1) (w:Ww):(xf 233 #[psV S,xi a] w (psV (sOr S (sOne a))):Prop):=by
 have za:a<256:=qo
 have zq:(a:Int).tdiv 64=1:=by rw[AJ qo];omega
 have zr:(a:Int).tmod 64=((a%64:Nat):Int):=by rw[AK qo];omega
 have⟨n,hn⟩:=qE (a%64);rw[<-hn]at zr;have zn:n<64:=qo
 have zs:=yNz n zn;have a0:¬(n:Int)<0:=qo
 have zwi:IntKind.i64.wrap (1:Int)=1:=by rfl
 have zwn:IntKind.i64.wrap (n:Int)=n:=by simp[AV,AW,AR];omega
 have wo:=yNo S a 1 ha.symm;rw[<-hn,show((2^n:Nat):Int)=(2:Int)^n by simp]at wo;have w0:=yBg S a 0 qo;have w2:=yBg S a 2 qo;have w3:=yBg S a 3 qo;have HW:=qH2 wo (λj hj=>yBg S a j qo:(∀j,¬j=1->wdN (sOr S (sOne a)) j=wdN S j));clear hn ha wo w0 w2 w3;go_enter func233,ntmps233;go_upto_region 1 with fail;refine yAe 9 (λwz=>xk wz w 1 (xu (wdN S 1))) qk ?_;refine yCi (i:=0) (v:=?va0) rfl qk qk qk qk qj (λ_ _ _ h=>h) (Or.inl ⟨by rfl,?ya0⟩) (by simp) ?_;case ya0=>exact zzR1
 refine jS ?_;apply ja 1 (by simp) (v:=(xi 1));exact zzQ7
theorem xK1 S (a:Nat) (ha:a/64=2) (w:Ww):(xf 233 #[psV S,xi a] w (psV (sOr S (sOne a))):Prop):=by
 have za:a<256:=qo
 have zq:(a:Int).tdiv 64=2:=by rw[AJ qo];omega
 have zr:(a:Int).tmod 64=((a%64:Nat):Int):=by rw[AK qo];omega
 have⟨n,hn⟩:=qE (a%64);rw[<-hn]at zr;have zn:n<64:=qo
 have zs:=yNz n zn;have a0:¬(n:Int)<0:=qo
 have zwi:IntKind.i64.wrap (2:Int)=2:=by rfl
 have zwn:IntKind.i64.wrap (n:Int)=n:=by simp[AV,AW,AR];omega
 have wo:=yNo S a 2 ha.symm;rw[<-hn,show((2^n:Nat):Int)=(2:Int)^n by simp]at wo;have w0:=yBg S a 0 qo;have w1:=yBg S a 1 qo;have w3:=yBg S a 3 qo;have HW:=qH2 wo (λj hj=>yBg S a j qo:(∀j,¬j=2->wdN (sOr S (sOne a)) j=wdN S j));clear hn ha wo w0 w1 w3;go_enter func233,ntmps233;go_upto_region 1 with fail;refine yAe 9 (λwz=>xk wz w 2 (xu (wdN S 2))) qk ?_;refine yCi (i:=0) (v:=?va0) rfl qk qk qk qk qj (λ_ _ _ h=>h) (Or.inl ⟨by rfl,?ya0⟩) (by simp) ?_;case ya0=>exact zzR1
 refine jS ?_;apply ja 1 (by simp) (v:=(xi 2));exact zzQ7
theorem xK0 S (a:Nat) (ha:a/64=3) (w:Ww):(xf 233 #[psV S,xi a] w (psV (sOr S (sOne a))):Prop):=by
 have za:a<256:=qo
 have zq:(a:Int).tdiv 64=3:=by rw[AJ qo];omega
 have zr:(a:Int).tmod 64=((a%64:Nat):Int):=by rw[AK qo];omega
 have⟨n,hn⟩:=qE (a%64);rw[<-hn]at zr;have zn:n<64:=qo
 have zs:=yNz n zn;have a0:¬(n:Int)<0:=qo
 have zwi:IntKind.i64.wrap (3:Int)=3:=by rfl
 have zwn:IntKind.i64.wrap (n:Int)=n:=by simp[AV,AW,AR];omega
 have wo:=yNo S a 3 ha.symm;rw[<-hn,show((2^n:Nat):Int)=(2:Int)^n by simp]at wo;have w0:=yBg S a 0 qo;have w1:=yBg S a 1 qo;have w2:=yBg S a 2 qo;have HW:=qH2 wo (λj hj=>yBg S a j qo:(∀j,¬j=3->wdN (sOr S (sOne a)) j=wdN S j));clear hn ha wo w0 w1 w2;go_enter func233,ntmps233;go_upto_region 1 with fail;refine yAe 9 (λwz=>xk wz w 3 (xu (wdN S 3))) qk ?_;apply ja 0 (by simp);apply ja 1 (by simp) (v:=(xi 3));iterate 3 apply jb (by simp)
 refine ja 5 (by simp) (v:=(xi n)) ?_;iterate 2 refine jb (by simp) ?_
 refine jb (by simp) ?_;refine kL 9 ?_;refine qD ?_;go_wp2;refine AU (v:=psV (sOr S (sOne a))) (by simp[results,results233,go_sem,HW.2]) rfl ⟨rfl,?_⟩;repeat (first|exact Below.refl _ _|refine Below.drew ?_|refine Below.alloc ?_ (by simp;done) _|refine Below.alloc ?_ qr _|refine Below.alloc ?_ (by simp;omega) _)
theorem yFk S (a:Nat) (ha:a<256) (w:Ww):(xf 233 #[psV S,xi a] w (psV (sOr S (sOne a))):Prop):=by
 rcases(by omega:a/64=0\/a/64=1\/a/64=2\/a/64=3)with h|h|h|h
 .exact xK3 S a h w
 .exact xK2 S a h w
 .exact xK1 S a h w
 .exact xK0 S a h w
variable {j m:Nat}
theorem yD7{p:List U8}{c:U8}(h:cut p j m=c::zs)(hm:m<=p.length):p[j]?=some c/\cut p (j+1) m=zs/\j<m:=by exact xKg
theorem xBo{p:List U8}{xs:List U8}(h:cut p j m=xs++zs)(hm:m<=p.length):cut p j (j+xs.length)=xs/\cut p (j+xs.length) m=zs/\j+xs.length<=max j m:=by
 have hl:=congrArg List.length h;rw[yA5 hm,AA]at hl;by_cases hjm:j<=m
 .exact xKc
 .have hx:xs= []:=AQ.1 qo;subst hx;refine⟨by simp[yFy],by simpa using h,by simp;omega⟩
theorem xC1{xs:List U8}(h:TokG A xs)(hA:∀ys t,A ys t->ys≠ []):xs= []\/(∃c zs,xs=c::zs/\(c=124\/isOp c)/\TokG A zs)\/(∃ys zs t,xs=ys++zs/\A ys t/\TokG A zs):=by
 cases h with
 |nil=>exact .inl rfl
 |sign hc h=>exact .inr (.inl ⟨_,_,rfl,hc,h⟩)
 |atom ha h=>exact .inr (.inr ⟨_,_,_,rfl,ha,h⟩)
def EndC(p:Ba)(n:Nat):Prop:=∀(i k:Nat)(t:Pat)(w:Ww),yAu n (cut (sb p) i k) t->k<=p.size->(xf 207 #[p,xi i] w (xi k):Prop)
variable {n:Nat}
theorem xL2{p:Ba}(hp:p.size<=200)(H:EndC p n):EndC p (n+1):=by
 intro i k t w hA hk;have a1:k<=(sb p).length:=by rw[yAd];exact hk
 have⟨c,ys,hc,_⟩:=hA.first;have⟨ae,_,aH⟩:=yD7 hc a1;obtain⟨hi,gi⟩:=yA9 ae;have zi:(i:Int)<(p.size:Int):=qo
 have ar:=yA5 (p:=sb p) (i:=i) a1;have HP:Hid ((sb p)[i]?=some c/\(cut (sb p) i k).length=k-i):=⟨ae,ar⟩;clear hc ae ar;have one:∀d,¬d=92->¬d=91->¬d=40->c=d->k=i+1->(xf 207 #[p,xi i] w (xi k):Prop):=λd h92 h91 h40 a0 a2=>by
  subst a0 a2;have aN:((c.toNat:Int)==92)=false:=iC.2 (yCp (c:=92) h92);have aO:((c.toNat:Int)==91)=false:=iC.2 (yCp (c:=91) h91);have aQ:((c.toNat:Int) != 40)=true:=by have:=yCp (c:=40) h40;simpa using this
  exact xJ
 have az:=hA;rcases hA with⟨d,h1,hs,_⟩|⟨h1,_⟩|⟨d,h1,_⟩|⟨zs,os,h1,hT,_⟩|⟨q,j,m,f,h1,h2,h3,_⟩
 .have a2:k=i+1:=by have:=HP.2;rw[h1]at this;simp at this;omega
  have a0:c=d:=by have:=(yD7 h1 a1).1;rw[HP.1]at this;exact AC this
  exact one d (λq=>hs (.inr (.inr (.inr (.inr q))))) (λq=>hs (.inr (.inr (.inl q)))) (λq=>hs (.inr (.inl q))) a0 a2
 .have a2:k=i+1:=by have:=HP.2;rw[h1]at this;simp at this;omega
  have a0:c=46:=by have:=(yD7 h1 a1).1;rw[HP.1]at this;exact AC this
  exact one 46 qj qj qj a0 a2
 .have a2:k=i+2:=by have:=HP.2;rw[h1]at this;simp at this;omega
  have a0:c=92:=by have:=(yD7 h1 a1).1;rw[HP.1]at this;exact AC this
  subst a0 a2;clear one;exact xJ
 .obtain⟨af,ao,_⟩:=yD7 (zs:=zs++ [41]) (by simpa using h1) a1;have aK:c=40:=by rw[HP.1]at af;exact AC af
  subst aK;obtain⟨ab,aa,an⟩:=xBo ao a1;obtain⟨e,he⟩:=qE (i+1+zs.length);rw[<-he]at ab aa an;obtain⟨aA,am,aX⟩:=yD7 aa a1;have a2:k=e+1:=by have h3:=yA5 (p:=sb p) (i:=e+1) a1;rw[am]at h3;simp at h3;omega
  obtain⟨aW,ge⟩:=yA9 aA;have HT:Hid (TokG (yAu n) (cut (sb p) (i+1) e)):=by show TokG (yAu n) (cut (sb p) (i+1) e);rw[ab];exact hT.tok
  have aI:i+1<=e:=qo
  have HK:=qH1 a2;have HH:Hid (EndC p n):=H;clear one h1 hT az ao ab aa an am aA af he a2 H;go_enter func207,ntmps207;go_wp2;go_loopw[7] (λjv wr=>∃(j:Nat),jv=(xi j)/\i+1<=j/\j<=e/\TokG (yAu n) (cut (sb p) j e)/\Below w w wr) (λjv _=>e-(intOf jv).toNat);case atStart=>exact⟨i+1,by go_num,AG _,aI,HT.out,Below.refl _ _⟩
  case round=>
   obtain⟨j,rfl,aV,aU,ay,hb⟩:=hrel;have ai:Hid (TokG (yAu n) (cut (sb p) j e)):=ay;have hs:=hb.size;clear ay HT;have ag:e<=(sb p).length:=by rw[yAd];omega
   have aS:j<p.size:=qo
   have zj:(j:Int)<(p.size:Int):=qo
   by_cases hje:j=e
   .subst hje;go_wp2;go_ret;exact⟨by rw[HK.out];rfl,hb⟩
   .have aG:=xC1 ai.out (λys t q=>by obtain⟨c,zs,h,_⟩:=q.first;rw[h];simp);rcases aG with h0|⟨c',aC,h0,a8,a7⟩|⟨a3,aC,t',h0,ah,a7⟩
    .have h3:=yA5 (p:=sb p) (i:=j) ag;rw[h0]at h3;simp at h3;omega
    .obtain⟨a5,av,aR⟩:=yD7 h0 ag;obtain⟨_,gj⟩:=yA9 a5;have HN:Hid (TokG (yAu n) (cut (sb p) (j+1) e)):=by show TokG (yAu n) (cut (sb p) (j+1) e);rw[av];exact a7
     have a9:((c'.toNat:Int) != 41)=true:=by
      have h5:¬c'=41:=λq=>by subst q;rcases a8 with q|q|q|q<;>exact absurd q qj
      have:=yCp (c:=41) h5;simpa using this
     clear a5 av h0 a7 ai;by_cases h124:c'=124
     .subst h124;clear a8;exact xE9
     .have aD:((c'.toNat:Int)==124)=false:=iC.2 (yCp (c:=124) h124);have aq:isOp c':=a8.elim (λq=>absurd q h124) (λq=>q);have aj:Hid (Calls prog 142 #[.int .u8 (c'.toNat:Int)] wr λe w'=>e=.returned true/\w'=wr):=by have:=yCt c' wr;rw[decide_eq_true aq]at this;exact this
      clear a8 aq;go_wp2_with fail;refine aj.mono ?_;rintro e' w5 ⟨rfl,a4⟩;rw[a4];clear a4;exact xE9
    .obtain⟨ad,hy2,aF⟩:=xBo h0 ag;obtain⟨c',yt,ac,a9,al,ak⟩:=ah.first;have aE:0<a3.length:=by rw[ac];simp
     have au:j+a3.length<=e:=qo
     obtain⟨a5,_,_⟩:=yD7 (c:=c') (zs:=yt) (by rw[ad];exact ac) (by rw[yAd];omega);obtain⟨_,gj⟩:=yA9 a5;have aP:((c'.toNat:Int) != 41)=true:=by have:=yCp (c:=41) a9;simpa using this
     have aD:((c'.toNat:Int)==124)=false:=iC.2 (yCp (c:=124) al);have aj:Hid (Calls prog 142 #[.int .u8 (c'.toNat:Int)] wr λe w'=>e=.returned false/\w'=wr):=by have:=yCt c' wr;rw[decide_eq_false ak]at this;exact this
     have HN:Hid (TokG (yAu n) (cut (sb p) (j+a3.length) e)):=by show TokG (yAu n) (cut (sb p) (j+a3.length) e);rw[hy2];exact a7
     obtain⟨m,hm⟩:=qE (j+a3.length);have aM:Hid ((xf 207 #[p,xi j] wr (xi m):Prop)):=by rw[hm];exact HH.out j (j+a3.length) t' wr (by rw[ad];exact ah) qo
     rw[<-hm]at HN au;have aT:j<m:=qo
     clear h0 a7 ai ah ad hy2 aF ac a5 a9 al ak hm aE;go_wp2_with fail;refine aj.mono ?_;rintro e' w5 ⟨rfl,a4⟩;rw[a4];clear a4;go_wp2_with fail;refine aM.mono ?_;rintro e' w6 ⟨rfl,aw⟩;have aL:=hb.trans (aw.mono hs);clear aw;refine zY ?_;exact⟨m,rfl,qo,au,HN.out,aL⟩
 .have a0:=yNk h1 h2 h3 a1 aH;have aJ:c=91:=by have:=a0.1;rw[HP.1]at this;exact AC this
  subst aJ;have aB:=qH1 a0.2;clear one h1 h2 h3 a0 az;go_enter func207,ntmps207;go_wp2_with fail;refine(yI3 p i w hp hi).mono ?_;rintro e w4 ⟨hP,ax⟩;rcases hP with⟨f',k',a6,rfl⟩|⟨c4,k',a6,rfl⟩;case inr=>rw[aB.out]at a6;cases a6
  obtain⟨rfl,rfl⟩:f=f'/\k=k':=by rw[aB.out]at a6;simpa using a6
  go_wp2;go_ret;exact⟨rfl,ax.trans ((Below.refl _ _).alloc ax.size _)⟩
theorem yTv{p:Ba}(hp:p.size<=200):∀n,EndC p n
 |0=>λi k t w h=>h.elim
 |n+1=>xL2 hp (yTv hp n)
abbrev less(a b:Ba):Prop:=Op.bytesLess a.toList b.toList=true
theorem xD5(k:Int)(s:Ba)(h:Bool)(t:Ba)(l u n k':Int)(s':Ba)(h':Bool)(t':Ba)(l' u' n':Int)(wx:Ww):
  (binOp .eql 83 (.agg #[xi k,s,h,t,xu l,xu u,xi n]) (.agg #[xi k',s',h',t',xu l',xu u',xi n'])).run prog wx=.ok (decide (k=k'/\s.toList=s'.toList/\h=h'/\t.toList=t'.toList/\l=l'/\u=u'/\n=n')) wx:=by
 go_simp;repeat' split
 all_goals simp_all
theorem yX7(e:Nd)(w:Ww):Calls prog 88 #[e.v,.bool true,.bool false,.bool false,.bool false,.bool false] w λr w'=>∃b,r=.returned (.bool b)/\(b=true↔e.hi=false/\e.t.toList= []/\e.lo=0/\e.up=0/\e.n=0)/\Below w w w':=by exact yYd
theorem yU(e:Nd)(w:Ww):Calls prog 88 #[e.v,.bool true,.bool true,.bool true,.bool false,.bool false] w λr w'=>∃b,r=.returned (.bool b)/\(b=true↔e.lo=0/\e.up=0/\e.n=0)/\Below w w w':=by exact yYd
theorem yX8(e:Nd)(w:Ww):Calls prog 88 #[e.v,.bool false,.bool true,.bool false,.bool true,.bool false] w λr w'=>∃b,r=.returned (.bool b)/\(b=true↔e.s.toList= []/\e.t.toList= []/\e.n=0)/\Below w w w':=by exact yYd
theorem yX9(e:Nd)(w:Ww):Calls prog 88 #[e.v,.bool false,.bool false,.bool false,.bool false,.bool true] w λr w'=>∃b,r=.returned (.bool b)/\(b=true↔e.s.toList= []/\e.hi=false/\e.t.toList= []/\e.lo=0/\e.up=0)/\Below w w w':=by exact yYd
theorem yX6(e:Nd)(w:Ww):Calls prog 88 #[e.v,.bool false,.bool false,.bool false,.bool false,.bool false] w λr w'=>∃b,r=.returned (.bool b)/\(b=true↔e.s.toList= []/\e.hi=false/\e.t.toList= []/\e.lo=0/\e.up=0/\e.n=0)/\Below w w w':=by exact yYd
theorem xBi(e:Nd)(w:Ww):Calls prog 184 #[e.v] w λr w'=>∃b,r=.returned (.bool b)/\(b=true↔((e.hi=false/\e.t.toList= []/\e.up=0)\/(e.hi=true/\(less e.s e.t\/e.lo<e.up))))/\Below w w w':=by
 go_enter func184,ntmps184;go_wp2;all_goals go_ret
 all_goals exact⟨_,rfl,by simp_all[less],qB⟩
def yBq(e:Nd):Prop:=e.s.size<=200/\e.t.size<=200/\(e.hi=false->e.t.toList= []/\e.up=0)/\
 (((e.f=4\/e.f=5\/e.f=6\/e.f=7)/\(e.hi=false/\e.t.toList= []/\e.lo=0/\e.up=0/\e.n=0)/\(yAr (sb e.s)).1=0)\/
  ((e.f=8\/e.f=9)/\(e.lo=0/\e.up=0/\e.n=0)/\(e.hi=true->less e.s e.t))\/
  (e.f=10/\(e.s.toList= []/\e.t.toList= []/\e.n=0)/\(e.hi=true->e.lo<e.up))\/
  ((e.f=11\/e.f=12\/e.f=13)/\(e.s.toList= []/\e.hi=false/\e.t.toList= []/\e.lo=0/\e.up=0)/\1<=e.n/\e.n<=1000)\/
  ((e.f=1\/e.f=2\/e.f=3\/e.f=14\/e.f=15\/e.f=16)/\(e.s.toList= []/\e.hi=false/\e.t.toList= []/\e.lo=0/\e.up=0/\e.n=0)))
theorem yU9(c k:Int)(w:Ww):(Instr.field 158 (.agg #[xi c,xi k]) 0).run prog w=.ok (xi c) w:=qk
def xGe(e:Nd)(w:Ww)(r:Ae)(w':Ww):Prop:=∃b,r=.returned (.bool b)/\(b=true↔yBq e)/\Below w w w'
variable {p:Prop}
theorem zGf(h:p:=by go_wp2_with fail;go_ret;refine⟨_,rfl,⟨nofun,λq=>?_⟩,HW0.2.trans (hb1.mono hbw)⟩;have hB:=HB.out;simp[yBq]at q hB;simp_all):p:=h
theorem zGt(h:p:=by go_wp2_with fail;go_ret;refine⟨_,rfl,?_,HW0.2.trans (hb1.mono hbw)⟩;have hB:=HB.out;have hG:=HG.out;simp at hB;simp[yBq,less];simp_all;try omega):p:=h
theorem zGa(h:p:=by go_wp2_with fail;apply (yX7 ⟨_,s,hi,t,lo,up,n⟩ _).mono;rintro r w1 ⟨b,rfl,hb,hb1⟩;have HB:=qH1 hb;have⟨d0,d1,d2,d3,d4,d5,d6⟩:=(HW0.1.k hb1).c7;clear hb;cases b;exact zGf;exact xMj):p:=h
theorem zGb(h:p:=by go_wp2_with fail;apply (yU ⟨_,s,hi,t,lo,up,n⟩ _).mono;rintro r w1 ⟨b,rfl,hb,hb1⟩;have HB:=qH1 hb;have⟨d0,d1,d2,d3,d4,d5,d6⟩:=(HW0.1.k hb1).c7;clear hb;cases b;exact zGf;cases hi<;>exact zGt):p:=h
theorem zGc(h:p:=by go_wp2_with fail;apply (yX9 ⟨_,s,hi,t,lo,up,n⟩ _).mono;rintro r w1 ⟨b,rfl,hb,hb1⟩;have HB:=qH1 hb;have⟨d0,d1,d2,d3,d4,d5,d6⟩:=(HW0.1.k hb1).c7;clear hb;cases b;exact zGf;by_cases h1:1<=n<;>exact zGt):p:=h
theorem zGe(h:p:=by go_wp2_with fail;apply (yX6 ⟨_,s,hi,t,lo,up,n⟩ _).mono;rintro r w1 ⟨b,rfl,hb,hb1⟩;have HB:=qH1 hb;go_wp2_with fail;go_ret;refine⟨_,rfl,?_,HW0.2.trans (hb1.mono hbw)⟩;rw[HB.out];have hG:=HG.out;simp[yBq];simp_all):p:=h
theorem xA6(e:Nd)(w:Ww)(hs:e.s.size<=maxLen)(ht:e.t.size<=maxLen):Calls prog 40 #[e.v] w (xGe e w):=by
 have⟨kind,s,hi,t,lo,up,n⟩:=e;have HS:=qH1 hs;unfold maxLen at hs ht;simp only[]at hs ht;have⟨W0,a0⟩:=qE (w.alloc (AD #[.int .i64 kind,.string s,.bool hi,.string t,.int .u64 lo,.int .u64 up,.int .i64 n] 83):Ww);have HW0:Hid (yA W0 w.heap.size 83 7 w.heap.size [.int .i64 kind,.string s,.bool hi,.string t,.int .u64 lo,.int .u64 up,.int .i64 n]/\Below w.heap.size w W0):=a0▸⟨yAa w _ (AG _) rfl,qB⟩
 have hbw:=HW0.2.size;obtain⟨c0,c1,c2,c3,c4,c5,c6⟩:=HW0.1.c7;go_enter func40,ntmps40;go_upto_region 1 with fail;rw[<-a0];clear a0;by_cases hgood:s.size<=200/\t.size<=200/\(hi=true\/(hi=false/\t.toList= []/\up=0));case neg=>
  have HG:Hid (¬yBq ⟨kind,s,hi,t,lo,up,n⟩):=λq=>hgood ⟨q.1,q.2.1,by
   cases hi
   .exact .inr ⟨rfl,q.2.2.1 rfl⟩
   .exact .inl rfl⟩
  by_cases h1:s.size<=200
  .have z1:¬(200:Int)<(s.size:Int):=qo
   by_cases h2:t.size<=200
   .have z2:¬(200:Int)<(t.size:Int):=qo
    have a2:hi=false:=by cases hi;rfl;exact absurd ⟨h1,h2,.inl rfl⟩ hgood
    subst a2;by_cases h3:t.toList= []
    .have h4:¬up=0:=λq=>hgood ⟨h1,h2,.inr ⟨rfl,h3,q⟩⟩;exact yWd
    .exact yWd
   .have z2:(200:Int)<(t.size:Int):=qo
    exact yWd
  .have z1:(200:Int)<(s.size:Int):=qo
   exact yWd
 have HG:=qH3 hgood.1 hgood.2.1 (λq=>hgood.2.2.elim (λz=>by rw[q]at z;cases z) (λz=>z.2):(hi=false->t.toList= []/\up=0));go_cut[27] (λs wx=>s=.bool false/\wx=W0);case first=>
  have z1:¬(200:Int)<(s.size:Int):=by have:=HG.1;omega
  have z2:¬(200:Int)<(t.size:Int):=by have:=HG.2.1;omega
  rcases hgood.2.2 with rfl|⟨rfl,h3,rfl⟩
  .go_wp2_with fail;go_meet;exact⟨rfl,rfl⟩
  .go_wp2_with fail;go_meet;exact⟨rfl,rfl⟩
 case rest=>
 obtain⟨rfl,rfl⟩:=hcut;clear hgood hs ht;obtain⟨c,hc⟩:=qE ((yAr (sb s)).1);obtain⟨k,hk⟩:=qE (((yAr (sb s)).2:Int):Int);have HV:=qH1 hc;have HC:Hid (∀w,Calls prog 89 #[.string s] w λe w'=>e=.returned (.agg #[.int .i64 c,.int .i64 k])/\Below w w w'):=λw=>by rw[hc,hk];exact yCd s w HS.out
 clear hc hk;by_cases k1:kind=4\/kind=5\/kind=6\/kind=7
 .rcases k1 with rfl|rfl|rfl|rfl<;>exact zGa
 by_cases k2:kind=8\/kind=9
 .rcases k2 with rfl|rfl<;>exact zGb
 by_cases k3:kind=10
 .subst k3;go_wp2_with fail;refine(yX8 ⟨_,s,hi,t,lo,up,n⟩ _).mono ?_;rintro r w1 ⟨b,rfl,hb,hb1⟩;have HB:=qH1 hb;obtain⟨d0,d1,d2,d3,d4,d5,d6⟩:=(HW0.1.k hb1).c7;clear hb;cases b;exact zGf;cases hi<;>exact zGt
 by_cases k4:kind=11\/kind=12\/kind=13
 .rcases k4 with rfl|rfl|rfl<;>exact zGc
 by_cases k5:kind=1\/kind=2\/kind=3\/kind=14\/kind=15\/kind=16
 .rcases k5 with rfl|rfl|rfl|rfl|rfl|rfl<;>exact zGe
 have HF:Hid (¬yBq ⟨kind,s,hi,t,lo,up,n⟩):=by show¬yBq _;simp only[yBq];rintro⟨_,_,_,q⟩;omega
 have a1:¬(1<=kind/\kind<=16):=qo
 by_cases k0:1<=kind
 .have a3:¬kind<=16:=λq=>a1 ⟨k0,q⟩;exact zF HW0.2
 .exact zF HW0.2
open Classical in
noncomputable def goodB(e:Nd):Bool:=decide (yBq e)
theorem yFv e:goodB e=true↔yBq e:=by unfold goodB;simp
def yBe(xs:List Nd):Prop:=xs.length<=200/\∃s,ShT goodB [s] xs/\s.valid=true/\s.nest<=20
variable {xs:List Nd}
theorem yDd(h:yBe xs):∀e∈xs,yBq e:=by have⟨_,s,hs,hv,_⟩:=h;have:=ShT.valid goodB hs;simp[hv]at this;exact λe he=>(yFv e).1 (this e he)
theorem yY4{s t:yAx}(h:ShT goodB [s] xs)(k:ShT goodB [t] xs):s=t:=by have a:=ShT.fold goodB h [];have b:=ShT.fold goodB k [];rw[a]at b;simpa using b
def yG6(xs:List Nd)(w:Ww)(r:Ae)(w':Ww):Prop:=∃b,r=.returned (.bool b)/\(b=true↔yBe xs)/\Below w w w'
structure WdN(w:Ww)(g o cp:Nat)(xs:List Nd):Prop where
 nds:yCq w g o xs
 lt:g<w.heap.size
 caps:xs.length<=cp/\cp<=maxLen
variable {w:Ww} {o cp:Nat}
theorem WdN.at(h:WdN w g o cp xs):yCq w g o xs:=h.nds
variable {B:Nat} {w':Ww}
theorem WdN.k(h:WdN w g o cp xs)(hb:Below B w w')(hg:g<B):WdN w' g o cp xs:=
 ⟨h.at.k hb hg,by have:=hb.size;have:=h.lt;omega,h.caps⟩
variable {O:Nat}
theorem yBb.wd(h:yBb w O g cp xs):WdN w g 0 cp xs:=⟨h.at,h.lt.2,h.caps⟩
theorem yEf(h:WdN w g o cp xs)(hok:∀e∈xs,e.ok):Calls prog 8 #[.agg #[(xy g o xs.length cp)]] w (yG6 xs w):=by
 have HO:=qH2 h hok;have hg:=h.lt;have a1:=h.caps;have⟨n,hn⟩:=qE xs.length;have HN:=qH1 hn;rw[<-hn]at a1|-;unfold maxLen at a1;clear h hok hn;have⟨W0,a3⟩:=qE (xw w #[(xy g o n cp)] 25:Ww);have HW0:Hid (yA W0 w 25 1 w [(xy g o n cp)]/\Below w w W0):=a3▸⟨yAa w _ qr rfl,qB⟩
 have c0:=HW0.1.z (j:=0) rfl;have s0:=HW0.2.size;go_enter func8,ntmps8;go_upto_region 1 with fail;rw[<-a3];clear a3;by_cases hbig:200<n
 .exact xJ7
 have zb:¬(200:Int)<(n:Int):=qo
 go_wp2_with fail;clear c0;go_loopw[3] (λiv wr=>∃(j:Nat),iv=(xi j)/\j<=n/\(∀e∈xs.take j,yBq e)/\yA wr w 25 1 w [(xy g o n cp)]/\Below w w wr) (λiv _=>n-(intOf iv).toNat);case atStart=>exact⟨0,rfl,Ak _,by simp,HW0.out⟩
 case round=>
  obtain⟨j,rfl,hj,hG,hB,hb⟩:=hrel;have HJ:=qH3 hG hB hb;have c0:=hB.z (j:=0) rfl;have sr:=hb.size;clear hG hB hb HW0;by_cases hlt:j<n
  .have zj:(j:Int)<(n:Int):=qo
   obtain⟨e,he⟩:∃e,xs[j]?=some e:=qg (by have:=HN.out;omega);obtain⟨d0,d1,d2,d3,d4,d5,d6⟩:=(HO.1.at.k HJ.2.2 hg) j e he;have ok:=HO.2 e (AE he);have HE:=qH4 ok.s ok.t (AE he) (by rw[AY,he];rfl:xs.take (j+1)=xs.take j++ [e]);clear ok he;go_wp2_with fail;refine(xA6 e wr HE.1 HE.2.1).mono ?_;rintro r w2 ⟨b,rfl,hb,hb2⟩;have HB:=qH1 hb;have a4:=qH2 (HJ.2.1.k hb2) (HJ.2.2.trans (hb2.mono sr));clear hb hb2 c0 d0 d1 d2 d3 d4 d5 d6;cases b
   .have HF:Hid (¬yBe xs):=λq=>by have:=HB.2 (yDd q e HE.2.2.1);cases this
    exact zF a4.2
   .go_wp2_with fail;go_roundw;case rel=>
     refine⟨j+1,by go_num,qo,?_,a4.1,a4.2⟩;intro e' a5;rw[HE.2.2.2]at a5;rcases AS.1 a5 with h|h
     .exact HJ.1 e' h
     .simp at h;subst h;exact HB.1 (by first|rfl|trivial)
    case measure=>simp[intOf];omega
  .have zj:¬(j:Int)<(n:Int):=qo
   have HA:Hid (∀e∈xs,yBq e):=by have h1:=HJ.1;rw[Ad (by have:=HN.out;omega)]at h1;exact h1
   have a2:Win wr g o cp xs:=⟨HO.1.at.k HJ.2.2 hg,qo,by rw[<-HN.out];exact a1.1,qo,by have:=HN.out;omega⟩;have HT:Hid (Calls prog 41 #[(xy g o n cp)] wr λr w'=>w'=wr/\((r=.returned true/\IsT 1 xs)\/(r=.returned false/\¬IsT 1 xs))):=by rw[HN.out];exact yTa a2
   have a8:Hid (∀s,ShT goodB [s] xs->(xf 42 #[(xy g o n cp)] wr (xi s.nest):Prop)):=λs hs=>by rw[HN.out];exact yVk goodB xs.length wr g o cp xs s qr a2 hs
   clear a2;go_wp2_with fail;refine HT.mono ?_;rintro r w2 ⟨a0,(⟨rfl,hT⟩|⟨rfl,hT⟩)⟩
   .rw[a0];clear a0;obtain⟨ss,hl,hs⟩:=IsT.shapes goodB hT;obtain⟨s,rfl⟩:∃s,ss= [s]:=by
     match ss,hl with
     | [s],_=>exact⟨s,rfl⟩
    have a7:=qH1 hs;have HV:Hid (s.valid=true):=by show s.valid=true;have h1:=ShT.valid goodB hs;have h2:=all_eq_true.2 (λe he=>(yFv e).2 (HA.out e he));rw[h2]at h1;simpa using h1
    have HF:Hid (yBe xs↔s.nest<=20):=by
     show yBe xs↔_;constructor
     .rintro⟨_,t,ht,_,hn⟩;rw[yY4 hs ht];exact hn
     .intro hn;exact⟨by have:=HN.out;omega,s,hs,HV.out,hn⟩
    clear hT hl hs;go_wp2_with fail;refine(a8.out s a7.out).mono ?_;rintro r w3 ⟨rfl,a6⟩;have a9:=qH1 (HJ.2.2.trans (a6.mono sr));clear a6 c0;go_wp2_with fail;go_ret;exact⟨_,rfl,by rw[HF.out];simp<;>omega,a9.out⟩
   .rw[a0];clear a0;have HF:Hid (¬yBe xs):=λq=>by obtain⟨_,s,hs,_⟩:=q;exact hT hs.tree
    clear hT;exact zF HJ.2.2
theorem yKe(h:yBb w O g cp xs)(hok:∀e∈xs,e.ok)(hc:cp<=281474976710656):Calls prog 8 #[.agg #[xg g xs.length cp]] w (yG6 xs w):=yEf h.wd hok
section
section
variable {T:Type} (V:Nd->List T->T)
inductive TrV:List T->List Nd->Prop
 |nil:TrV [] []
 |snoc {ss os:List T} {xs:List Nd} (n:Nd) (ho:os.length=yAk n.f) (h:TrV (ss++os) xs):TrV (ss++ [V n os]) (xs++ [n])
def yWj(st:List T)(n:Nd):Option (List T):=
 if st.length<yAk n.f then none else some (st.take (st.length-yAk n.f)++ [V n (st.drop (st.length-yAk n.f))])
def yB8(st:List T):List Nd->Option (List T)
 | []=>some st
 |n::ns=>(yWj V st n).bind λs=>yB8 s ns
theorem yD5(st:List T) xs ys:yB8 V st (xs++ys)=(yB8 V st xs).bind (λs=>yB8 V s ys):=by
 induction xs generalizing st with
 |nil=>rfl
 |cons x xs ih=>
  simp only[Af,yB8];cases yWj V st x with
  |none=>rfl
  |some s=>exact ih s
theorem TrV.tree{ss:List T}(h:TrV V ss xs):IsT ss.length xs:=by exact xJ3
theorem TrV.fold{ss:List T}(h:TrV V ss xs):∀st,yB8 V st xs=some (st++ss):=by
 induction h with
 |nil=>intro st;simp[yB8]
 | @snoc ss os xs n ho h ih=>
   intro st;rw[yD5,ih];simp only[AZ,yB8,yWj];rw[iA (by simp;omega)];have hl:(st++(ss++os)).length-yAk n.f=(st++ss).length:=by simp;omega
   rw[hl,<-Av,take_left,drop_left,Av];simp
theorem TrV.one{ss ts:List T}(h:TrV V ss xs)(k:TrV V ts xs):ss=ts:=by have a:=h.fold V [];have b:=k.fold V [];rw[a]at b;simpa using b
theorem TrV.split{ss:List T}(h:TrV V ss xs):∀{a b:List T},ss=a++b->∃ys zs,xs=ys++zs/\TrV V a ys/\TrV V b zs:=by
 induction h with
 |nil=>intro a b e;obtain⟨rfl,rfl⟩:a= []/\b= []:=by simpa using e.symm
       exact⟨[],[],rfl,.nil,.nil⟩
 | @snoc ss os xs n ho h ih=>
   intro a b e;exact zzU4
theorem TrV.inv{s:T}(h:TrV V [s] xs):∃ys n os,xs=ys++ [n]/\os.length=yAk n.f/\TrV V os ys/\s=V n os:=by exact xKe
inductive KidV:List T->List (List Nd)->Prop
 |nil:KidV [] []
 |cons {o:T} {os:List T} {k:List Nd} {ks:List (List Nd)} (h:TrV V [o] k) (t:KidV os ks):KidV (o::os) (k::ks)
theorem TrV.kids:∀{os:List T}{ys:List Nd},TrV V os ys->∃ks,ys=ks.flatten/\KidV V os ks
 | [],ys,h=>by
   have:=(TrV.tree V h).zero
   subst this
   exact⟨[],rfl,.nil⟩
 |o::os,ys,h=>by
  obtain⟨a,b,rfl,h1,h2⟩:=TrV.split V h (a:= [o]) (b:=os) rfl
  obtain⟨ks,rfl,hk⟩:=TrV.kids h2
  exact⟨a::ks,rfl,.cons h1 hk⟩
theorem KidV.length{os:List T}(h:KidV V os ks):os.length=ks.length:=by
 induction h with
 |nil=>rfl
 |cons _ _ ih=>simp[ih]
theorem KidV.nth{os:List T}(h:KidV V os ks):∀{j:Nat}{k:List Nd},ks[j]?=some k->∃o,os[j]?=some o/\TrV V [o] k:=by
 induction h with
 |nil=>intro j k hk;simp at hk
 |cons h1 _ ih=>
  intro j k hk;cases j with
  |zero=>simp at hk;subst hk;exact⟨_,rfl,h1⟩
  |succ j=>simp at hk;simpa using ih hk
end
end
section
section
variable {α:Type} {f:α->List Vv}
def OwnG(f:α->List Vv)(sz ty:Nat)(w:Ww)(O g cap:Nat)(es:List α):Prop:=w.ownsRow O ty sz (xg g es.length cap) es.length (es.flatMap f)
theorem OwnG.z(hf:∀x,(f x).length=sz){es:List α}(h:OwnG f sz ty w O g cap es){i:Nat}{e:α}(he:es[i]?=some e)(j:Nat)(hj:j<sz):w.cell? (xd g (i*sz+j))=(f e)[j]?:=by
 have hi:=qf he;have h1:i*sz+j<es.length*sz:=by have:(i+1)*sz<=es.length*sz:=mul_le_mul_right sz hi;rw[Aq]at this;omega
 have:=(AI h (i*sz+j) h1).trans (yCg hf es i e he j hj);simpa using this
theorem OwnG.lt{es:List α}(h:OwnG f sz ty w O g cap es):O<=g/\g<w.heap.size:=AF h g rfl
theorem OwnG.i{es:List α}(h:OwnG f sz ty w O g cap es)(hc:Chg S w w')(hn:¬S g):OwnG f sz ty w' O g cap es:=yAh h hc (λk q=>by simp[AL]at q;subst q;exact hn)
theorem OwnG.k{es:List α}(h:OwnG f sz ty w O g cap es)(hb:Below w w w'):OwnG f sz ty w' O g cap es:=h.i (Chg.h hb) (S:=λ_=>False) (λq=>q)
theorem OwnG.caps{es:List α}(h:OwnG f sz ty w O g cap es):es.length<=cap/\cap<=maxLen:=by exact yNn
theorem OwnG.take(hf:∀x,(f x).length=sz){es:List α}(h:OwnG f sz ty w O g cap es){k:Nat}(hk:k<=es.length):OwnG f sz ty w O g cap (es.take k):=by
 have hl:(es.take k).length=k:=by rw[AX];omega
 unfold OwnG;rw[hl,yNd hf es k hk];exact yN8 h hk
end
section
variable {α:Type} {f:α->List Vv}
theorem apGG(hT:TyI sty ty sz)(hf:∀x,(f x).length=sz):ApT sty ty sz (λl=>l.flatMap f) (OwnG f sz ty) (λw b off l=>AtV w b off (l.flatMap f)):=apTG hT hf Iff.rfl id
theorem apGV{o:Oper}{a:Act}{K:Act->Ww->Prop}{x:Operand}{v:Vv}(hT:TyI sty ty sz)(hf:∀x,(f x).length=sz)(h1:∀x,∀u∈f x,u.oneCell'=true)(ho:o.op=.call {callee:=.builtin .append,args:=#[s,x],argTypes:=#[sty,sty]})(O:Nat)(fs:List α)(e:α)(hs:a.eval s=v)(hx:a.eval x=xg b 1 cx)(hn:n=fs.length)(hO:w.ownsRow O ty sz v fs.length (fs.flatMap f))(hc:∀j u,(f e)[j]?=some u->(xk w b j u:Prop))(hlen:fs.length<=1000000)(hbase:O<=w.heap.size)
  (h:∀g' cp' w',OwnG f sz ty w' O g' cp' (fs++ [e])->w.grownBy w' v.ownBlock->(v.ownBlock=some g'\/g'=w.heap.size)->K (a.put o.dst (xg g' (n+1) cp')) w'):Oper.wp prog o a w K Q:=by
 subst hn;refine apV hT ho hs hx hO (vs:= [e].flatMap f) (m:=1) (by simp[hf]) (atG1 h1 hc) (lN (Aa hlen qj)) hbase λv' w' a1 a6 a5 a0=>?_;rcases a1.2 with⟨h0,_⟩|⟨g',a7,cur,hv,_,_,hn,a8,_,_⟩
 .have:=(a5.1 h0).2;cases this
 .subst hv;refine h g' a7 w' (by unfold OwnG;rw[AA,Ar];exact a1) a6 ?_;simp[AL]at a0;exact a0.imp Eq.symm id
theorem yEa(w:Ww)(cs:List Vv)(ty:Nat):∀j u,cs[j]?=some u->(xk (w.alloc (AD cs.toArray ty)) w j u:Prop):=by intro j u hu;rw[World.cell?_alloc_new];simpa using hu
def setCs(w:Ww)(g:Nat):Nat->List Vv->Ww
 |_,[]=>w
 |o,v::vs=>setCs (xt w g o v) g (o+1) vs
def setL:List Vv->Nat->List Vv->List Vv
 |L,_,[]=>L
 |L,o,v::vs=>setL (L.set o v) (o+1) vs
theorem yN2:∀(vs:List Vv)(L:List Vv)(o j:Nat),(setL L o vs)[j]?=if o<=j/\j<o+vs.length/\j<L.length then vs[j-o]? else L[j]?
 | [],L,o,j=>by rw[setL,iA (by simp;omega)]
 |v::vs,L,o,j=>by
  rw[setL,yN2 vs,Al,Ag]
  by_cases h1:j=o
  .subst h1
   rw[iA (by omega)]
   by_cases h2:j<L.length
   .rw[iB ⟨AG _,by omega,h2⟩,Nat.sub_self];simp[h2]
   .rw[iA (by omega)];simp[h2]
  .by_cases h2:o+1<=j/\j<o+1+vs.length/\j<L.length
   .rw[iB h2,iB (by omega),show j-o=(j-(o+1))+1 by omega,getElem?_cons_succ]
   .rw[iA h2,iA qo,getElem?_set_ne (λq=>h1 q.symm)]
theorem yA1{S:Nat->Prop}(g:Nat)(hs:S g):∀(vs:List Vv)(o:Nat)(w:Ww),Chg S w (setCs w g o vs)
 | [],o,w=>Chg.h (Below.refl _ _)
 |v::vs,o,w=>(Chg.D w g o v hs).trans (yA1 g hs vs (o+1) _)
theorem yCe{g:Nat}{v:Vv}(hv:v.ownBlock=some g)(hv0:∃c,v=(xg g n c)):∀(vs:List Vv)(o:Nat)(w:Ww)(L:List Vv),w.ownsRow O ty sz v n L->(setCs w g o vs).ownsRow O ty sz v n (setL L o vs)
 | [],o,w,L,h=>h
 |x::vs,o,w,L,h=>by
  obtain⟨c,rfl⟩:=hv0
  exact yCe hv ⟨c,rfl⟩ vs (o+1) _ _ (AP h o x).1
theorem yUx:∀(vs A B C:List Vv),B.length=vs.length->setL (A++(B++C)) A.length vs=A++(vs++C)
 | [],A,[],C,_=>rfl
 |v::vs,A,b::B,C,h=>by have:=yUx vs (A++ [v]) B C (by simpa using h);simpa [setL]using this
theorem OwnG.setAll(hf:∀x,(f x).length=sz){es:List α}(h:OwnG f sz ty w O g cap es){i:Nat}{e:α}(hi:i<es.length):OwnG f sz ty (setCs w g (i*sz) (f e)) O g cap (es.set i e):=by
 obtain⟨A,x,C,rfl,rfl⟩:∃A x C,es=A++x::C/\A.length=i:=⟨es.take i,es[i],es.drop (i+1),by rw[<-An hi,AM],by rw[AX];omega⟩
 have h1:=yCe (sz:=sz) (ty:=ty) (O:=O) (g:=g) (v:=(xg g _ cap)) rfl ⟨cap,rfl⟩ (f e) (A.length*sz) w _ h;unfold OwnG;rw[Ar,flatMap_cons,<-yB4 hf A,yUx _ _ (f x) _ (by rw[hf,hf])]at h1;rw[<-yB4 hf A];simpa using h1
end
end
structure Ix where
 op:Int
 a:Int
 b:Int
 free:Bool
 leaf:Nd
structure Ix.ok(e:Ix):Prop where
 op:(Lit.int .i64 e.op).wf=true
 a:(Lit.int .i64 e.a).wf=true
 b:(Lit.int .i64 e.b).wf=true
 leaf:e.leaf.ok
abbrev Ix.ten(e:Ix):List Vv:= [.int .i64 e.op,.int .i64 e.a,.int .i64 e.b,.bool e.free,.int .i64 e.leaf.f,.string e.leaf.s,.bool e.leaf.hi,.string e.leaf.t,.int .u64 e.leaf.lo,.int .u64 e.leaf.up,.int .i64 e.leaf.n]
abbrev Ix.v(e:Ix):Vv:=.agg #[xi e.op,xi e.a,xi e.b,e.free,xi e.leaf.f,e.leaf.s,e.leaf.hi,e.leaf.t,xu e.leaf.lo,xu e.leaf.up,xi e.leaf.n]
def yF2(es:List Ix):List Vv:=es.flatMap Ix.ten
theorem yOu(es:List Ix):(yF2 es).length=es.length*11:=yB4 (f:=Ix.ten) (λ_=>rfl) es
theorem yXv es:∀(k:Nat)(e:Ix),es[k]?=some e->∀j,j<11->(yF2 es)[k*11+j]?=e.ten[j]?:=yCg (f:=Ix.ten) (λ_=>rfl) es
theorem yXu(es:List Ix):∀(k:Nat)(e e':Ix)(u:Vv)(j:Nat),es[k]?=some e->j<11->e'.ten=e.ten.set j u->(yF2 es).set (k*11+j) u=yF2 (es.set k e'):=λk e e' u j=>yEo (f:=Ix.ten) (λ_=>rfl) es k e e' j u
def yDf(w:Ww)(b off:Nat)(es:List Ix):Prop:=
 ∀i e,es[i]?=some e->xk w b (off+i*11) (xi e.op)/\xk w b (off+i*11+1) (xi e.a)/\xk w b (off+i*11+2) (xi e.b)/\xk w b (off+i*11+3) e.free/\xk w b (off+i*11+4) (xi e.leaf.f)/\xk w b (off+i*11+5) e.leaf.s/\xk w b (off+i*11+6) e.leaf.hi/\xk w b (off+i*11+7) e.leaf.t/\xk w b (off+i*11+8) (xu e.leaf.lo)/\xk w b (off+i*11+9) (xu e.leaf.up)/\xk w b (off+i*11+10) (xi e.leaf.n)
variable {es:List Ix}
theorem yDf.k(h:yDf w b off es)(hb:Below B w w')(hlt:b<B):yDf w' b off es:=by have c:=λo=>hb.cell (p:=(xd b o)) hlt;intro i e he;simpa only[c]using h i e he
theorem yDf.i(h:yDf w b off es)(hb:Chg S w w')(hlt:b<w.heap.size)(hn:¬S b):yDf w' b off es:=by have c:=λo=>hb.z (p:=(xd b o)) hlt hn;intro i e he;simpa only[c]using h i e he
def OwnX(w:Ww)(O g cap:Nat)(es:List Ix):Prop:=w.ownsRow O 153 11 (xg g es.length cap) es.length (yF2 es)
theorem OwnX.at(h:OwnX w O g cap es):yDf w g 0 es:=by
 intro i e he;have hi:=qf he;have c:=λj (hj:j<11)=>(AI h (i*11+j) qo).trans (yXv es i e he j hj);refine⟨?_,?_,?_,?_,?_,?_,?_,?_,?_,?_,?_⟩
 .simpa using c 0 qo
 .simpa using c 1 qo
 .simpa using c 2 qo
 .simpa using c 3 qo
 .simpa using c 4 qo
 .simpa using c 5 qo
 .simpa using c 6 qo
 .simpa using c 7 qo
 .simpa using c 8 qo
 .simpa using c 9 qo
 .simpa using c 10 qo
theorem OwnX.lt(h:OwnX w O g cap es):O<=g/\g<w.heap.size:=AF h g rfl
variable {R:List Ix}
theorem OwnX.caps(h:OwnX w O g cp R):R.length<=cp/\cp<=maxLen:=by exact yNn
theorem OwnX.set(h:OwnX w O g cap es)(k j:Nat)(e e':Ix)(u:Vv)(hk:es[k]?=some e)(hj:j<11)(hc:e'.ten=e.ten.set j u):
  OwnX (xt w g (k*11+j) u) O g cap (es.set k e'):=by
 have:=(AP h (k*11+j) u).1;rw[yXu es k e e' u j hk hj hc]at this;unfold OwnX;rw[Al];exact this
theorem Tryz.infoX:(prog.info? 153).map (λi=>(i.zero,i.size,i.bytes))=some (some (.agg #[xi 0,xi 0,xi 0,false,xi 0,xe,false,xe,xu 0,xu 0,xi 0]),11,104):=qk
def yDw(w:Ww)(v:Vv)(es:List Ix):Prop:=
 (∃a cap,v=.slice a 0 cap/\es= [])\/
 ∃b off cap,v=(xy b off es.length cap)/\yDf w b off es/\b<w.heap.size/\es.length<=cap/\cap<=maxLen
theorem yDw.k{v:Vv}(h:yDw w v es)(hb:Below B w w')(hB:w.heap.size<=B):yDw w' v es:=by exact xMh
theorem yDw.Z(h:OwnX w O g cap es)(hn:n=es.length):yDw w (xg g n cap) es:=by subst hn;exact .inr ⟨g,0,cap,rfl,h.at,h.lt.2,h.caps.1,h.caps.2⟩
inductive CT where
 |leaf (n:Nd)
 |chain (n:Nd) (a b:CT)
 |inter (n:Nd) (a b:CT)
 |cond (n:Nd) (a b c:CT)
def ctV(n:Nd):List CT->CT
 | [a,b]=>if n.f=14 then .chain n a b else .inter n a b
 | [a,b,c]=>.cond n a b c
 |_=>.leaf n
def yBf(xs:List Nd)(t:CT):Prop:=TrV ctV [t] xs
inductive Part:CT->List Nd->Prop
 |leaf (n:Nd) (h:yAk n.f=0):Part (.leaf n) [n]
 |chain (n:Nd) {a b:CT} {ka kb:List Nd} (h:n.f=14) (ha:yBf ka a) (hb:yBf kb b):Part (.chain n a b) (ka++kb++ [n])
 |inter (n:Nd) {a b:CT} {ka kb:List Nd} (h:n.f=15) (ha:yBf ka a) (hb:yBf kb b):Part (.inter n a b) (ka++kb++ [n])
 |cond (n:Nd) {a b c:CT} {ka kb kc:List Nd} (h:n.f=16) (ha:yBf ka a) (hb:yBf kb b) (hc:yBf kc c):Part (.cond n a b c) (ka++kb++kc++ [n])
theorem yE3{T:Type}{V:Nd->List T->T}{os:List T}{o:T}{k:List Nd}(h:KidV V os ks)(ho:os[j]?=some o)(hk:ks[j]?=some k):TrV V [o] k:=by
 have⟨o',h1,h2⟩:=KidV.nth _ h hk;rw[ho]at h1;cases h1
 exact h2
variable {t:CT}
theorem yBf.part(h:yBf xs t):Part t xs:=by
 obtain⟨ys,n,os,rfl,hl,hT,rfl⟩:=TrV.inv _ h;obtain⟨ks,rfl,hK⟩:=TrV.kids _ hT;have a0:=hK.length;by_cases h14:n.f=14
 .have ha:yAk n.f=2:=by unfold yAk;rw[iB (.inl h14)]
  rw[ha]at hl;match os,ks,hl,a0,hK with
  | [a,b],[ka,kb],_,_,hK=>
    have e1:ctV n [a,b]=.chain n a b:=iB h14;have e2: [ka,kb].flatten++ [n]=ka++kb++ [n]:=by simp
    rw[e1,e2];exact .chain n h14 (yE3 hK (j:=0) rfl rfl) (yE3 hK (j:=1) rfl rfl)
 .by_cases h15:n.f=15
  .have ha:yAk n.f=2:=by unfold yAk;rw[iB (.inr h15)]
   rw[ha]at hl;match os,ks,hl,a0,hK with
   | [a,b],[ka,kb],_,_,hK=>
     have e1:ctV n [a,b]=.inter n a b:=iA h14;have e2: [ka,kb].flatten++ [n]=ka++kb++ [n]:=by simp
     rw[e1,e2];exact .inter n h15 (yE3 hK (j:=0) rfl rfl) (yE3 hK (j:=1) rfl rfl)
  .by_cases h16:n.f=16
   .have ha:yAk n.f=3:=by unfold yAk;rw[iA qo,iB h16]
    rw[ha]at hl;match os,ks,hl,a0,hK with
    | [a,b,c],[ka,kb,kc],_,_,hK=>
      have e2: [ka,kb,kc].flatten++ [n]=ka++kb++kc++ [n]:=by simp
      rw[e2];exact .cond n h16 (yE3 hK (j:=0) rfl rfl) (yE3 hK (j:=1) rfl rfl) (yE3 hK (j:=2) rfl rfl)
   .have ha:yAk n.f=0:=by unfold yAk;rw[iA qo,iA h16]
    have a1:os= []:=AQ.1 qo;have a2:ks= []:=AQ.1 qo;subst a1;subst a2;exact .leaf n ha
def yDg(k:Int):Bool:=decide (k=11\/k=12\/k=13)
def CT.size:CT->Nat
 | .leaf _=>1
 | .chain _ a b| .inter _ a b=>a.size+b.size+1
 | .cond _ a b c=>a.size+b.size+c.size+1
theorem yZr(n:Nat):∀{t:CT}{xs:List Nd},xs.length<=n->yBf xs t->t.size=xs.length:=by
 induction n with
 |zero=>intro t xs hl h;have:=h.part;cases this<;>simp at hl
 |succ n ih=>
  intro t xs hl h;cases h.part with
  |leaf n h=>rfl
  |chain n h ha hb|inter n h ha hb=>simp only[AA,AB]at hl|-;simp only[CT.size,ih qo ha,ih qo hb]
  |cond n h ha hb hc=>simp only[AA,AB]at hl|-;simp only[CT.size,ih qo ha,ih qo hb,ih qo hc]
theorem yBf.size(h:yBf xs t):t.size=xs.length:=yZr _ qr h
def cntK(k:Int):Prop:=k=11\/k=12\/k=13
def NoNd(e:Nd):Prop:=e.f=0/\e.s.toList= []/\e.hi=false/\e.t.toList= []/\e.lo=0/\e.up=0/\e.n=0
def yJc(x:Ix):Prop:=x.free=false/\NoNd x.leaf
def yR5(x:Ix)(k n cnt conds:Int):Prop:=
 (x.op=1/\yBe [x.leaf]/\x.b=0/\((cntK x.leaf.f/\0<=x.a/\x.a<cnt)\/(¬cntK x.leaf.f/\x.a=0)))\/
 (x.op=5/\yJc x/\0<=x.a/\x.a<conds/\k<x.b/\x.b<=n)\/
 (x.op=6/\yJc x/\x.a=0/\k<x.b/\x.b<=n)\/
 ((x.op=2\/x.op=3\/x.op=4)/\yJc x/\x.a=0/\x.b=0)
def more(op:Int):Int:=if op=2 then 1 else if op=4 then-1 else 0
def least(op:Int):Int:=if op=3\/op=4 then 2 else 1
def ways(k:Nat)(x:Ix):List Nat:=if x.op=5 then [k+1,x.b.toNat]else if x.op=6 then [x.b.toNat]else [k+1]
def note(ds:List Int)(j:Nat)(d:Int):Option (List Int):=
 match ds[j]? with
 |some e=>if e=0\/e=d then some (ds.set j d)else none
 |none=>none
def yCs(d:Int):List Nat->List Int->Option (List Int)
 | [],ds=>some ds
 |j::js,ds=>(note ds j d).bind (yCs d js)
def yL5(ds:List Int)(k:Nat)(x:Ix):Option (List Int):=
 match ds[k]? with
 |some e=>if e<least x.op\/250<e+more x.op then none else yCs (e+more x.op) (ways k x) ds
 |none=>none
def yCz(xs:List Ix):Nat->Option (List Int)
 |0=>some (1::Ao xs.length 0)
 |k+1=>(yCz xs k).bind λds=>(xs[k]?).bind λx=>yL5 ds k x
def yCc(l:List Ix)(cnt:Int)(conds:Nat):Prop:=
 1<=l.length/\l.length<=4000/\0<=cnt/\cnt<=200/\(∀(k:Nat)(x:Ix),l[k]?=some x->yR5 x k l.length cnt conds)/\∃ds,yCz l l.length=some ds/\ds[l.length]?=some 1
variable {xs:List Ix} {ds:List Int} {x:Ix}
theorem yEp{k:Nat}(h:yCz xs k=some ds)(hx:xs[k]?=some x):yCz xs (k+1)=yL5 ds k x:=by simp[yCz,h,hx]
theorem xBd{k:Nat}(h:yCz xs k=none)(hkm:k<=m):yCz xs m=none:=by
 induction m with
 |zero=>have:k=0:=qo
        subst this;exact h
 |succ m ih=>
  by_cases e:k=m+1
  .subst e;exact h
  .simp[yCz,ih qo]
structure yJd(n:Nat)(ds:List Int):Prop where
 X:ds.length=n+1
 ran:∀d∈ds,0<=d/\d<=250
theorem xMw(xs:List Ix):yJd xs.length (1::Ao xs.length 0):=
 ⟨by simp,λd hd=>by
  rcases AH.1 hd with rfl|hd
  .omega
  .have:=(List.mem_replicate.1 hd).2;omega⟩
variable {d:Int}
theorem xH1(h:yJd n ds)(hd:0<=d/\d<=250)(hn:note ds j d=some ds'):yJd n ds'/\ds'=ds.set j d/\j<=n:=by
 unfold note at hn;cases hj:ds[j]? with
 |none=>rw[hj]at hn;cases hn
 |some e=>
  rw[hj]at hn;have hl:=qf hj;simp only at hn;split at hn
  .obtain rfl:=AC hn;refine⟨⟨by rw[Al];exact h.X,λx hx=>?_⟩,rfl,qw h.X⟩;rcases mem_or_eq_of_mem_set hx with q|q
   .exact h.ran x q
   .rw[q];exact hd
  .cases hn
theorem yQd{e:Int}(hj:ds[j]?=some e)(h:e=0\/e=d):note ds j d=some (ds.set j d):=by unfold note;rw[hj];simp[h]
theorem yVi(hd:0<=d/\d<=250):∀(js:List Nat){ds ds':List Int},yJd n ds->yCs d js ds=some ds'->yJd n ds'
 | [],_,_,h,hn=>by obtain rfl:=AC hn;exact h
 |j::js,ds,ds',h,hn=>by
  simp only[yCs,Ah]at hn
  have⟨d1,h1,h2⟩:=hn
  exact yVi hd js (xH1 h hd h1).1 h2
theorem xG7{k:Nat}(h:yJd n ds)(hs:yL5 ds k x=some ds'):yJd n ds':=by
 unfold yL5 at hs;cases hj:ds[k]? with
 |none=>rw[hj]at hs;cases hs
 |some e=>
  rw[hj]at hs;simp only at hs;split at hs
  .cases hs
  .rename_i hc;have h1:=h.ran e (AE hj);refine yVi ⟨?_,qo⟩ _ h hs;unfold least more at hc;unfold more;split at hc<;>split at hc<;>simp_all<;>omega
theorem yTr{k:Nat}(h:yCz xs k=some ds):yJd xs.length ds:=by
 induction k generalizing ds with
 |zero=>obtain rfl:=AC h;exact xMw xs
 |succ k ih=>
  simp only[yCz,Ah]at h;have⟨d1,h1,x,hx,h2⟩:=h;exact xG7 (ih h1) h2
variable {l:List Ix}
theorem yCf{k:Nat}(h:yCc l cnt conds)(hx:l[k]?=some x):yR5 x k l.length cnt conds:=h.2.2.2.2.1 k x hx
theorem yId{k:Nat}(h:yCc l cnt conds)(hk:k<=l.length):yCz l k≠none:=by intro q;have⟨ds,h1,_⟩:=h.2.2.2.2.2;rw[xBd q hk]at h1;cases h1
theorem yRh:(⟨#[]⟩:Ba).toList= []:=by first|(simp;done)|(kernel_rfl;done)|(go_simp;done)
theorem xMu:Op.bytesLess [] []=false:=by first|(kernel_rfl;done)|(decide;done)|(simp[Op.bytesLess];done)
theorem yK0(s:Ba)(h:Bool)(t:Ba)(l u n:Int)(s':Ba)(h':Bool)(t':Ba)(l' u' n':Int)(B:Bool)(hB:B=decide (s.toList=s'.toList/\h=h'/\t.toList=t'.toList/\l=l'/\u=u'/\n=n'))(k:Int)(wx:Ww):
  (binOp .eql 83 (.agg #[xi k,s,h,t,xu l,xu u,xi n]) (.agg #[xi k,s',h',t',xu l',xu u',xi n'])).run prog wx=.ok B wx:=by
 rw[hB,xD5 k s h t l u n k s' h' t' l' u' n' wx];simp
theorem zVf(h:p:=by go_wp2_with fail;go_ret;refine⟨_,rfl,⟨nofun,λq=>?_⟩,HW0.2⟩;have hB:=HB.out;have hE:=yRh;(try simp only[hE]at hB);simp[yBq]at q hB;simp_all):p:=h
theorem zVa(h:p:=by obtain⟨B,hB⟩:=qE (decide (s.toList=(⟨#[]⟩:Ba).toList/\hi=false/\t.toList=(⟨#[]⟩:Ba).toList/\lo=0/\up=0/\n=0));have hq:=yK0 s hi t lo up n ⟨#[]⟩ false ⟨#[]⟩ 0 0 0 B hB;have HB:=qH1 hB;clear hB;go_wp2_with fail;go_ret;refine⟨_,rfl,?_,HW0.2⟩;rw[HB.out];have hG:=HG.out;simp[yBq,yRh];constructor<;>intro q<;>simp_all):p:=h
theorem zVb(h:p:=by obtain⟨B,hB⟩:=qE (decide (s.toList=s.toList/\hi=false/\t.toList=(⟨#[]⟩:Ba).toList/\lo=0/\up=0/\n=0));have hq:=yK0 s hi t lo up n s false ⟨#[]⟩ 0 0 0 B hB;have HB:=qH1 hB;clear hB;cases B;exact zVf;have hfd:=yU9 c k;go_wp2_with fail;apply (HC.out _).mono;rintro r w2 ⟨rfl,hb2⟩;go_wp2;go_ret;refine⟨_,rfl,?_,HW0.2.trans (hb2.mono hbw)⟩;have hB:=HB.out;have hG:=HG.out;have hE:=yRh;(try simp only[hE]at hB);rw[HV.out];simp at hB;simp[yBq];simp_all):p:=h
theorem zVe(h:p:=by go_wp2_with fail;refine(xBi ⟨_,s,hi,t,lo,up,n⟩ _).mono ?_;rintro r w2 ⟨b,rfl,hb,hb2⟩;have Hb:=qH1 hb;clear hb c0 c1 c2 c3 c4 c5 c6;go_wp2;go_ret;refine⟨_,rfl,?_,HW0.2.trans (hb2.mono hbw)⟩;have hB:=HB.out;have hG:=HG.out;have hE:=yRh;have hL:=xMu;(try simp only[hE]at hB);simp at hB;rw[Hb.out];simp[yBq];cases hi<;>simp_all[less]):p:=h
theorem zVc(h:p:=by obtain⟨B,hB⟩:=qE (decide (s.toList=s.toList/\hi=hi/\t.toList=t.toList/\lo=0/\up=0/\n=0));have hq:=yK0 s hi t lo up n s hi t 0 0 0 B hB;have HB:=qH1 hB;clear hB;cases B;exact zVf;exact zVe):p:=h
theorem zVt(h:p:=by go_wp2_with fail;go_ret;refine⟨_,rfl,?_,HW0.2⟩;have hB:=HB.out;have hG:=HG.out;have hE:=yRh;(try simp only[hE]at hB);simp at hB;simp[yBq];simp_all;try omega):p:=h
theorem zVd(h:p:=by obtain⟨B,hB⟩:=qE (decide (s.toList=(⟨#[]⟩:Ba).toList/\hi=false/\t.toList=(⟨#[]⟩:Ba).toList/\lo=0/\up=0/\n=n));have hq:=yK0 s hi t lo up n ⟨#[]⟩ false ⟨#[]⟩ 0 0 n B hB;have HB:=qH1 hB;clear hB;cases B;exact zVf;by_cases h1:1<=n<;>exact zVt):p:=h
theorem yL2(e:Nd) w (hs:e.s.size<=maxLen) (ht:e.t.size<=maxLen):Calls prog 138 #[e.v] w (xGe e w):=by
 obtain⟨kind,s,hi,t,lo,up,n⟩:=e;have HS:=qH1 hs;unfold maxLen at hs ht;simp only[]at hs ht;obtain⟨W0,a0⟩:=qE (xw w #[xi kind,s,hi,t,xu lo,xu up,xi n] 83:Ww);have HW0:Hid (yA W0 w 83 7 w [xi kind,s,hi,t,xu lo,xu up,xi n]/\Below w w W0):=a0▸⟨yAa w _ qr rfl,qB⟩
 have hbw:=HW0.2.size;have⟨c0,c1,c2,c3,c4,c5,c6⟩:=HW0.1.c7;go_enter func138,ntmps138;go_upto_region 1 with fail;rw[<-a0];clear a0;by_cases hgood:s.size<=200/\t.size<=200;case neg=>
  have HG:Hid (¬yBq ⟨kind,s,hi,t,lo,up,n⟩):=λq=>hgood ⟨q.1,q.2.1⟩;by_cases h1:s.size<=200
  .have z1:¬(200:Int)<(s.size:Int):=qo
   have h2:¬t.size<=200:=λq=>hgood ⟨h1,q⟩;have z2:(200:Int)<(t.size:Int):=qo
   exact yWd
  .have z1:(200:Int)<(s.size:Int):=qo
   exact yWd
 have HG:=qH1 hgood;have z1:¬(200:Int)<(s.size:Int):=qo
 have z2:¬(200:Int)<(t.size:Int):=qo
 clear hgood hs ht;obtain⟨c,hc⟩:=qE ((yAr (sb s)).1);obtain⟨k,hk⟩:=qE (((yAr (sb s)).2:Int):Int);have HV:=qH1 hc;have HC:Hid (∀w,(xf 183 #[s] w (.agg #[xi c,xi k]):Prop)):=λw=>by rw[hc,hk];exact yMc s w HS.out
 clear hc hk;by_cases k1:kind=1\/kind=2\/kind=3\/kind=14\/kind=15\/kind=16
 .rcases k1 with rfl|rfl|rfl|rfl|rfl|rfl<;>exact zVa
 by_cases k2:kind=4\/kind=5\/kind=6\/kind=7
 .rcases k2 with rfl|rfl|rfl|rfl<;>exact zVb
 by_cases k3:kind=8\/kind=9
 .rcases k3 with rfl|rfl<;>exact zVc
 by_cases k4:kind=10
 .subst k4;obtain⟨B,hB⟩:=qE (decide (s.toList=(⟨#[]⟩:Ba).toList/\hi=hi/\t.toList=(⟨#[]⟩:Ba).toList/\lo=lo/\up=up/\n=0));have hq:=yK0 s hi t lo up n ⟨#[]⟩ hi ⟨#[]⟩ lo up 0 B hB;have HB:=qH1 hB;clear hB;cases B;exact zVf;exact zVe
 by_cases k5:kind=11\/kind=12\/kind=13
 .rcases k5 with rfl|rfl|rfl<;>exact zVd
 have HF:Hid (¬yBq ⟨kind,s,hi,t,lo,up,n⟩):=by show¬yBq _;simp only[yBq];rintro⟨_,_,_,q⟩;omega
 simp only[not_or]at k1 k2 k3 k5;obtain⟨_,_,_,_,_,_⟩:=k1;obtain⟨_,_,_,_⟩:=k2;obtain⟨_,_⟩:=k3;obtain⟨_,_,_⟩:=k5;exact zF HW0.2
theorem yC2(k:Int) w:Calls prog 83 #[xi k] w λe w'=>e=.returned (xi (yAk k))/\w'=w:=by
 by_cases h14:k=14
 .subst h14;exact yYf
 by_cases h15:k=15
 .subst h15;exact yYf
 by_cases h16:k=16
 .subst h16;exact yYf
 have a2:(k==14)=false:=by simpa using h14
 have a1:(k==15)=false:=by simpa using h15
 have a0:(k==16)=false:=by simpa using h16
 have H:Hid (yAk k=0):=by show yAk k=0;unfold yAk;rw[iA qo,iA h16]
 go_enter func83,ntmps83;go_wp2;go_ret;exact⟨by rw[H.out];rfl,rfl⟩
theorem yNw(k:Int) w:Calls prog 185 #[xi k] w λe w'=>e=.returned (xi (yBz k))/\w'=w:=by
 by_cases h15:k=15
 .subst h15;go_enter func185,ntmps185;go_wp2;go_ret;exact⟨rfl,rfl⟩
 by_cases h14:k=14
 .subst h14;go_enter func185,ntmps185;go_wp2;go_ret;exact⟨rfl,rfl⟩
 have a1:(k==14)=false:=by simpa using h14
 have a0:(k==15)=false:=by simpa using h15
 have H:Hid (yBz k=3):=by show yBz k=3;unfold yBz;rw[iA h15,iA h14]
 go_enter func185,ntmps185;go_wp2;go_ret;exact⟨by rw[H.out];rfl,rfl⟩
theorem yHt(op:Int)(i:Nat)(kid:Int) w (hop:¬op=16):Calls prog 139 #[xi op,xi i,xi kid] w λe w'=>e=.returned (yBn op i kid)/\w'=w:=by
 by_cases hi:i=0
 .subst hi;have HL:Hid (yBn op 0 kid=decide (yBz kid<yBz op)):=by show yBn op 0 kid=_;unfold yBn;simp[hop]
  exact xKa
 .have zi:((i:Int)==0)=false:=by simpa using hi
  have HL:Hid (yBn op i kid=decide (yBz kid<=yBz op)):=by show yBn op i kid=_;unfold yBn;simp[hop,hi]
  exact xKa
abbrev yAx.three(s:yAx):List Vv:= [.bool s.valid,.int .i64 s.f,.int .i64 (s.nest:Int)]
def yEs(ss:List yAx):List Vv:=ss.flatMap yAx.three
theorem yXw(es:List yAx):∀(k:Nat)(e:yAx),es[k]?=some e->∀j,j<3->(yEs es)[k*3+j]?=e.three[j]?:=yCg (f:=yAx.three) (λ_=>rfl) es
theorem yT3(es:List yAx)(k:Nat):yEs (es.take k)=(yEs es).take (k*3):=by
 induction es generalizing k with
 |nil=>simp[yEs]
 |cons f es ih=>
  cases k with
  |zero=>simp[yEs]
  |succ k=>
   have hc:yEs (f::es)=f.three++yEs es:=by simp[yEs]
   have hd:yEs (f::es.take k)=f.three++yEs (es.take k):=by simp[yEs]
   have e1:(k+1)*3=f.three.length+k*3:=by show(k+1)*3=3+k*3;omega
   rw[take_succ_cons,hd,hc,ih,e1,take_length_add_append]
def yMt(w:Ww)(b o:Nat)(ss:List yAx):Prop:=∀i s,ss[i]?=some s->xk w b (o+i*3) s.valid/\xk w b (o+i*3+1) (xi s.f)/\xk w b (o+i*3+2) (xi s.nest)
variable {ss:List yAx}
theorem yMt.k(h:yMt w b o ss)(hb:Below B w w')(hlt:b<B):yMt w' b o ss:=by have c:=λo=>hb.cell (p:=(xd b o)) hlt;intro i e he;simpa only[c]using h i e he
theorem yMt.drop(h:yMt w b o ss)(k:Nat):yMt w b (o+k*3) (ss.drop k):=by intro i s hs;have:=h (k+i) s (by rw[<-getElem?_drop];exact hs);rw[Aq,<-Ai]at this;exact this
def yFj(w:Ww)(O g cp:Nat)(ss:List yAx):Prop:=w.ownsRow O 142 3 (xg g ss.length cp) ss.length (yEs ss)
theorem yFj.lt(h:yFj w O g cp ss):O<=g/\g<w.heap.size:=AF h g rfl
theorem yFj.k(h:yFj w O g cp ss)(hb:Below w w w'):yFj w' O g cp ss:=yAh h (Chg.h hb) (S:=λ_=>False) (λk q z=>z)
theorem yFj.at(h:yFj w O g cp ss):yMt w g 0 ss:=by
 intro i e he;have hi:=qf he;have c:=λj (hj:j<3)=>(AI h (i*3+j) qo).trans (yXw ss i e he j hj);refine⟨?_,?_,?_⟩
 .simpa using c 0 qo
 .simpa using c 1 qo
 .simpa using c 2 qo
theorem yFj.caps(h:yFj w O g cp ss):ss.length<=cp/\cp<=maxLen:=by exact yNn
theorem yFj.take(h:yFj w O g cp ss){k:Nat}(hk:k<=ss.length):yFj w O g cp (ss.take k):=by have h1:=yN8 h hk;rw[<-yT3]at h1;unfold yFj;rw[show(ss.take k).length=k by rw[AX];omega];exact h1
theorem yZt(w:Ww)(hb:O<=w.heap.size):yFj (xw w #[] 142) O w 0 []:=
 World.ownsRow_made w #[] 0 hb (Ak _) (by simp)
structure SoJ(w:Ww)(e:Nd)(WB:Nat)(v:Bool)(a:Nat)(wr:Ww):Prop where
 node:yA wr w 83 7 w e.seven
 res:yA wr w 142 3 (w+1) [false,xi 0,xi 0]
 whole:yA wr w 142 3 WB [v,xi e.f,xi a]
 ne:w.heap.size+2<=WB
 k:Below w w wr
variable {e:Nd} {WB a:Nat} {wr:Ww}
theorem SoJ.K{v:Bool}(h:SoJ w e WB v a wr)(hb:Below wr wr w'):SoJ w e WB v a w':=
 ⟨h.node.k hb,h.res.k hb,h.whole.k hb,h.ne,h.k.trans (hb.mono h.k.size)⟩
theorem xCv(e:Nd)(w:Ww)(hs:e.s.size<=maxLen)(ht:e.t.size<=maxLen):(xf 138 #[.agg #[xi e.f,e.s,e.hi,e.t,xu e.lo,xu e.up,xi e.n]] w (goodB e):Prop):=by apply (yL2 e w hs ht).mono;rintro r w' ⟨b,rfl,hb,hb2⟩;refine⟨?_,hb2⟩;congr 2;rw[Bool.eq_iff_iff,hb,yFv]
def SoA(w:Ww)(e:Nd)(W0:Ww):Prop:=yA W0 w 83 7 w e.seven/\yA W0 w 142 3 (w+1) [false,xi 0,xi 0]/\Below w w W0/\W0.heap.size=w+2
theorem xC5(hA:SoA w e W0)(hb:Below W0.drew W0.drew w'):SoJ w e w' gd 0 (xw w' #[gd,xi e.f,xi 0] 142):=by have h1:=((Below.refl W0 W0).drew).trans hb;have h2:=h1.size;have h3:Below W0 W0 (xw w' #[gd,xi e.f,xi 0] 142):=h1.alloc h2 _;have h4:=hA.2.2.2;exact⟨hA.1.k h3,hA.2.1.k h3,yAa w' _ (by omega) rfl,by omega,hA.2.2.1.trans (h3.mono (by omega))⟩
theorem yY2(hA:SoA w e W0)(hb:Below (W0.drew.alloc (AD #[false,xi 0,xi 0] 142)).heap.size (xw W0.drew #[false,xi 0,xi 0] 142) w'):
  SoJ w e (w+2) gd 0 (xt ((w'.setCell (xd (w+2) 0) gd).setCell (xd (w+2) 1) (xi e.f)) (w+2) 2 (xi 0)):=by
 have h4:=hA.2.2.2;have hd:W0.drew.heap.size=W0:=by simp
 have h0:Below W0 W0 (xw W0.drew #[false,xi 0,xi 0] 142):=((Below.refl W0 W0).drew).alloc (by simp) _;have h1:=h0.trans (hb.mono (by simp));have hB:yA w' w 142 3 (w+2) [false,xi 0,xi 0]:=by have:=yAa W0.drew (O:=w.heap.size) (t:=142) (sz:=3) #[false,xi 0,xi 0] (by simp;omega) rfl;rw[hd,h4]at this;exact this.k hb
 refine⟨(((hA.1.k h1).Q qo 0 _).Q qo 1 _).Q qo 2 _,(((hA.2.1.k h1).Q qo 0 _).Q (by omega) 1 _).Q (by omega) 2 _,((hB.set 0 _).set 1 _).set 2 _,AG _,?_⟩;exact yAb (yAb (yAb (hA.2.2.1.trans (h1.mono (by omega))) (by omega) 0 _) (by omega) 1 _) (by omega) 2 _
structure SoK(w:Ww)(e:Nd)(WB OB:Nat)(v:Bool)(a:Nat)(x:yAx)(q:Nat)(wr:Ww):Prop where
 so:SoJ w e WB v a wr
 ob:yA wr w 142 3 OB [x.valid,xi x.f,xi q]
 ne:¬OB=WB
 ge:w+2<=OB
theorem SoJ.round{v:Bool}(h:SoJ w e WB v a wr)(x:yAx):SoK w e WB wr v a x x.nest (xw wr #[x.valid,xi x.f,xi x.nest] 142):=by have hb:Below wr wr (xw wr #[x.valid,xi x.f,xi x.nest] 142):=qB;have h1:=h.whole.lt.2;have h2:=h.ne;exact⟨h.K hb,yAa wr _ h.k.size rfl,by omega,by omega⟩
variable {OB q:Nat} {x:yAx}
theorem SoK.valid{v:Bool}(h:SoK w e WB OB v a x q wr)(v2:Bool):SoK w e WB OB v2 a x q (xt wr WB 0 v2):=by have h2:=h.so.ne;exact⟨⟨h.so.node.Q qo 0 _,h.so.res.Q qo 0 _,h.so.whole.set 0 _,h2,yAb h.so.k qo 0 _⟩,h.ob.Q h.ne 0 _,h.ne,h.ge⟩
theorem SoK.more{v:Bool}(h:SoK w e WB OB v a x q wr)(q2:Nat):SoK w e WB OB v a x q2 (xt wr OB 2 (xi q2)):=by have h2:=h.so.ne;have h3:=h.ge;have h4:=h.ne;exact⟨⟨h.so.node.Q qo 2 _,h.so.res.Q qo 2 _,h.so.whole.Q qo 2 _,h2,yAb h.so.k qo 2 _⟩,h.ob.set 2 _,h.ne,h.ge⟩
theorem SoK.done{v:Bool}(h:SoK w e WB OB v a x q wr)(a2:Nat):SoJ w e WB v a2 (xt wr WB 2 (xi a2)):=by have h2:=h.so.ne;exact⟨h.so.node.Q qo 2 _,h.so.res.Q qo 2 _,h.so.whole.set 2 _,h2,yAb h.so.k qo 2 _⟩
variable {os:List yAx}
theorem yUs(h:os[j]?=some x):(os.take (j+1)).all (·.valid)=((os.take j).all (·.valid) && x.valid):=by rw[AY,h];simp
theorem yKz(op:Int){o:yAx}(h:os[j]?=some o):yAq op j a (os.drop j)=yAq op (j+1) (max a (o.nest+if yBn op j o.f then 1 else 0)) (os.drop (j+1)):=by exact xJ5
theorem yIw(e:Nd)(h:yMt w b o os)(hbl:b<w.heap.size)(hl:os.length<=cap)(h3:os.length<=3)(hcap:cap<=9223372036854775807)(hN:∀x∈os,x.nest<=1000)(hs:e.s.size<=maxLen)(ht:e.t.size<=maxLen):
  (xf 82 #[e.v,(xy b o os.length cap)] w (.agg #[(yA6 goodB e os).valid,xi e.f,xi (yA6 goodB e os).nest]):Prop):=by
 have HF:=qH4 h hN hs ht;have⟨n,hn⟩:=qE os.length;have HL:=qH1 hn;rw[<-hn]at hl h3|-;clear h hN hs ht hn;have⟨gd,ab⟩:=qE (goodB e);have HG:=qH1 ab;have ah:Hid (∀w,(xf 138 #[.agg #[xi e.f,e.s,e.hi,e.t,xu e.lo,xu e.up,xi e.n]] w gd:Prop)):=λw=>ab▸(xCv e w HF.2.2.1 HF.2.2.2)
 clear ab;obtain⟨W0,ae⟩:=qW (xw (w.alloc (AD #[xi e.f,e.s,e.hi,e.t,xu e.lo,xu e.up,xi e.n] 83)) #[false,xi 0,xi 0] 142);have a5:Hid (yA W0 w 83 7 w e.seven/\yA W0 w 142 3 (w+1) [false,xi 0,xi 0]/\Below w w W0/\W0.heap.size=w.heap.size+2):=by rw[ae];exact⟨yA.ofHeap (vs:=#[.int .i64 e.f,.string e.s,.bool e.hi,.string e.t,.int .u64 e.lo,.int .u64 e.up,.int .i64 e.n]) (heap_alloc2_old w _ _) qr rfl,yA.ofHeap (vs:=#[.bool false,.int .i64 0,.int .i64 0]) (heap_alloc2_new w _ _) qo rfl,(qB).alloc (by simp) _,by simp⟩
 obtain⟨c0,c1,c2,c3,c4,c5,c6⟩:=a5.1.c7;have hz:=a5.2.2.2;obtain⟨tot,aa⟩:=qE ((yA6 goodB e os).nest);have HT:Hid (yAq e.f 0 0 os=tot):=by rw[aa];exact(rfl:yAq e.f 0 0 os=_)
 have HV:Hid ((yA6 goodB e os).valid=(gd && os.all (·.valid))):=by show(yA6 goodB e os).valid=_;rw[HG.out];rfl
 rw[<-aa];clear aa;go_enter func82,ntmps82;go_upto_region 1 with fail;rw[<-ae];clear ae;go_cut[5] (λs wx=>∃WB,s=(xp WB)/\SoJ w e WB gd 0 wx);case first=>
  have am:w.heap.size<W0.heap.size:=qo
  have ao:∀o,(xk (W0.alloc o) w 0 (xi e.f):Prop):=λo=>by rw[((Below.refl W0 W0).alloc qr o).cell (p:=(xd w 0)) am];exact c0
  go_region_law ((go_simp;go_at_call 138;refine(ah.out _).mono ?_;rintro r w' ⟨rfl,a6⟩;obtain⟨an,ay⟩:=yX5 a6;have al:=a6.size;have k0:(xk w' w 0 (xi e.f):Prop):=by {rw[an w 0 (by simp;omega)];first|exact c0|(simp;first|exact c0|exact ao _)};have kl:w.heap.size<w'.heap.size:=by {simp at al;omega};have ar:∀o,(xk (w'.alloc o) w 0 (xi e.f):Prop):=λo=>by {rw[((Below.refl w' w').alloc qr o).cell (p:=(xd w 0)) kl];exact k0}));all_goals go_wp2_with fail
  all_goals go_meet
  all_goals first
   |exact⟨_,rfl,xC5 a5.out a6⟩
   |exact⟨_,rfl,yY2 a5.out a6⟩
 case rest=>
 obtain⟨WB,rfl,hJ⟩:=hcut;have aj:=qH1 hJ;clear hJ c0 c1 c2 c3 c4 c5 c6 hz a5 ah;go_wp2;go_loopw[15] (λiv wr=>∃(j a:Nat)(v:Bool),iv=(xi j)/\j<=n/\a<=2000/\v=(gd && (os.take j).all (·.valid))/\yAq e.f j a (os.drop j)=tot/\SoJ w e WB v a wr) (λiv _=>n-(intOf iv).toNat);case atStart=>exact⟨0,0,gd,rfl,Ak _,Ak _,by simp,HT.out,aj.out⟩
 case round=>
  obtain⟨j,a,v,rfl,hj,ha,hv,hN,hJ⟩:=hrel;have HJ:=qH3 hv hN hJ;have aA:=hJ.whole.lt;have az:=hJ.ne;clear hv hN hJ aj HT;by_cases hlt:j<n
  .have zj:(j:Int)<(n:Int):=qo
   obtain⟨x,hx⟩:∃x,os[j]?=some x:=qg (qw HL.out);obtain⟨d0,d1,d2⟩:=(HF.1.k HJ.2.2.k hbl) j x hx;have au:=HF.2.1 x (AE hx);have HX:=qH1 hx;obtain⟨W1,ad⟩:=qW (xw wr #[x.valid,xi x.f,xi x.nest] 142);have a0:Hid (SoK w e WB wr v a x x.nest W1):=by rw[ad];exact HJ.2.2.round x
   clear hx;go_upto_region 5 with fail;rw[<-ad];clear ad d0 d1 d2;obtain⟨v0,a4⟩:=qE v;have a7:Hid (v0=(gd && (os.take j).all (·.valid))):=by rw[a4];exact HJ.1
   have ai:=qH1 HJ.2.1;clear HJ;have w0:=a0.so.whole.z (j:=0) rfl;have af:=a0.so.whole.frozen 0;have o0:=a0.ob.z (j:=0) rfl;have av:=a0.ne;have ax:=a0.ge;cases v
   .have a9:=a4;clear a4;obtain⟨W2,a1⟩:=qW (xt W1 WB 0 false);have HK2:Hid (SoK w e WB wr false a x x.nest W2):=by rw[a1];exact a0.valid false
    have HVn:Hid (false=(gd && (os.take (j+1)).all (·.valid))):=by show false=_;rw[yUs HX.out,<-Bool.and_assoc,<-a7.out,a9];simp
    go_upto_region 6 with fail;rw[<-a1];clear a1 w0 af o0 a0 a7;have m0:=HK2.so.node.z (j:=0) rfl;have o1:=HK2.ob.z (j:=1) rfl;have o2:=HK2.ob.z (j:=2) rfl;have o2f:=HK2.ob.frozen 2;have w2:=HK2.so.whole.z (j:=2) rfl;have w2f:=HK2.so.whole.frozen 2;have fin:∀(y:Nat),y=max a (x.nest+(if yBn e.f j x.f then 1 else 0))->yAq e.f (j+1) y (os.drop (j+1))=tot:=λy hy=>by rw[hy,<-yKz e.f HX.out];exact ai.out
    by_cases h16:e.f=16
    .have hlv:yBn e.f j x.f=true:=by unfold yBn;rw[h16];rfl
     have a8:(e.f==16)=true:=by simpa using h16
     clear h16;exact xKo
    .have a8:(e.f==16)=false:=by simpa using h16
     go_wp2_with fail;refine(yHt e.f j x.f _ h16).mono ?_;rintro r w9 ⟨rfl,a3⟩;rw[a3];clear a3 h16;cases hlv:yBn e.f j x.f
     .skip;obtain⟨a2,ha2⟩:=qE (max a (x.nest));have HFin:=qH2 (fin a2 (by rw[ha2,hlv];rfl)) (by omega:a2<=2000);have ha3:max (a:Int) ((x.nest:Int))=(a2:Int):=qo
      clear fin hlv ha2;go_wp2;go_roundw;case rel=>
       refine⟨j+1,a2,false,by go_num,qo,HFin.2,HVn.out,HFin.1,?_⟩;exact HK2.done a2
      case measure=>simp[intOf];omega
     .skip;exact xKo
   .have a9:=a4;clear a4;obtain⟨W2,a1⟩:=qW (xt W1 WB 0 x.valid);have HK2:Hid (SoK w e WB wr x.valid a x x.nest W2):=by rw[a1];exact a0.valid x.valid
    have HVn:Hid (x.valid=(gd && (os.take (j+1)).all (·.valid))):=by show x.valid=_;rw[yUs HX.out,<-Bool.and_assoc,<-a7.out,a9];simp
    go_upto_region 6 with fail;rw[<-a1];clear a1 w0 af o0 a0 a7;have m0:=HK2.so.node.z (j:=0) rfl;have o1:=HK2.ob.z (j:=1) rfl;have o2:=HK2.ob.z (j:=2) rfl;have o2f:=HK2.ob.frozen 2;have w2:=HK2.so.whole.z (j:=2) rfl;have w2f:=HK2.so.whole.frozen 2;have fin:∀(y:Nat),y=max a (x.nest+(if yBn e.f j x.f then 1 else 0))->yAq e.f (j+1) y (os.drop (j+1))=tot:=λy hy=>by rw[hy,<-yKz e.f HX.out];exact ai.out
    by_cases h16:e.f=16
    .have hlv:yBn e.f j x.f=true:=by unfold yBn;rw[h16];rfl
     have a8:(e.f==16)=true:=by simpa using h16
     clear h16;exact xKp
    .have a8:(e.f==16)=false:=by simpa using h16
     go_wp2_with fail;refine(yHt e.f j x.f _ h16).mono ?_;rintro r w9 ⟨rfl,a3⟩;rw[a3];clear a3 h16;cases hlv:yBn e.f j x.f
     .skip;obtain⟨a2,ha2⟩:=qE (max a (x.nest));have HFin:=qH2 (fin a2 (by rw[ha2,hlv];rfl)) (by omega:a2<=2000);have ha3:max (a:Int) ((x.nest:Int))=(a2:Int):=qo
      clear fin hlv ha2;go_wp2;go_roundw;case rel=>
       refine⟨j+1,a2,x.valid,by go_num,qo,HFin.2,HVn.out,HFin.1,?_⟩;exact HK2.done a2
      case measure=>simp[intOf];omega
     .skip;exact xKp
  .have zj:¬(j:Int)<(n:Int):=qo
   have aq:Hid (a=tot/\v=(yA6 goodB e os).valid):=by show _/\_;have h1:=HJ.2.1;have h2:=HJ.1;have aw:=HL.out;rw[drop_eq_nil_of_le qo]at h1;rw[Ad qo]at h2;exact⟨h1,by rw[h2,HV.out]⟩
   obtain⟨w0,w1,w2⟩:=HJ.2.2.whole.c3;obtain⟨r0,r1,r2⟩:=HJ.2.2.res.c3;obtain⟨f0,f1,f2⟩:=HJ.2.2.res.f3;obtain⟨W9,ac⟩:=qW (set3 wr (w+1) v (xi e.f) (xi a));have ag:Hid (yA W9 w 142 3 (w+1) [v,xi e.f,xi a]/\Below w w W9):=by rw[ac];exact⟨HJ.2.2.res.set3 _ _ _,yGh HJ.2.2.k qo _ _ _⟩
   obtain⟨p0,p1,p2⟩:=ag.1.c3;unfold set3 at ac;go_wp2_with fail;rw[<-ac];obtain⟨rfl,ak⟩:=aq.out;rw[<-ak];refine AU (v:=.agg #[v,xi e.f,xi a]) (by simp[results,results82,go_sem,p0,p1,p2]) rfl ⟨rfl,ag.2⟩
theorem Tryz.infoSh:(prog.info? 142).map (λi=>(i.zero,i.size,i.bytes))=some (some (.agg #[false,xi 0,xi 0]),3,24):=qk
theorem apSh:ApT 218 142 3 yEs yFj yMt:=apTG ⟨underlying218,_,_,Tryz.infoSh,rfl,qj,qj⟩ (λ_=>rfl) Iff.rfl λh=>yNf (f:=yAx.three) (sz:=3) (λ_=>rfl) qj (λi e he j u hu=>by
 obtain⟨c0,c1,c2⟩:=h i e he;match j,hu with
 |0,hu=>cases hu;exact c0
 |1,hu=>cases hu;exact c1
 |2,hu=>cases hu;exact c2) λx _ u h=>by simp at h;rcases h with rfl|rfl|rfl<;>rfl
variable {xs:List Nd}
theorem xB(h:yDh goodB [] xs=some ss):∀s∈ss,s.nest<=xs.length:=by intro s hs;obtain⟨ks,rfl,hK⟩:=ShT.kids goodB (yRa goodB h);have⟨k,hk,h3⟩:=yTi goodB hK hs;have h4:=yDl hk;have h5:=yOm goodB _ qr h3;omega
structure FoJ(w:Ww)(xs:List Nd)(j g cp:Nat)(ss:List yAx)(wr:Ww):Prop where
 fold:yDh goodB [] (xs.take j)=some ss
 Z:yFj wr (w+1) g cp ss
 res:yA wr w 142 3 w [false,xi 0,xi 0]
 k:Below w w wr
theorem FoJ.K(h:FoJ w xs j g cp ss wr)(hb:Below wr wr w'):FoJ w xs j g cp ss w':=
 ⟨h.fold,h.Z.k hb,h.res.k hb,h.k.trans (hb.mono h.k.size)⟩
theorem xA9(h:yDh goodB [] (xs.take j)=some ss)(he:xs[j]?=some e)(hl:yAk e.f<=ss.length):yDh goodB [] (xs.take (j+1))=some (ss.take (ss.length-yAk e.f)++ [yA6 goodB e (ss.drop (ss.length-yAk e.f))]):=by rw[AY,he,yFw,h];simp only[Option.toList,AZ,yDh,yWk];rw[iA qo]
theorem xA8(h:yDh goodB [] (xs.take j)=some ss)(he:xs[j]?=some e)(hl:ss.length<yAk e.f):yDh goodB [] xs=none:=by
 have hj:=qf he;have:xs=xs.take j++e::xs.drop (j+1):=by
  conv=>lhs;rw[<-AM j xs,An hj]
  rw[show xs[j]=e from AC ((getElem?_eq_getElem hj).symm.trans he)]
 rw[this,yFw,h];simp only[AZ,yDh,yWk];rw[iB hl]
def yWb(xs:List Nd)(w:Ww)(r:Ae)(w':Ww):Prop:=Below w w w'/\((∃s,yDh goodB [] xs=some [s]/\r=.returned (.tuple #[.agg #[s.valid,xi s.f,xi s.nest],true]))\/((∀s,¬yDh goodB [] xs=some [s])/\r=.returned (.tuple #[.agg #[false,xi 0,xi 0],false])))
structure FoK(w:Ww)(xs:List Nd)(j g cp:Nat)(ss:List yAx)(SB:Nat)(y:yAx)(wr:Ww):Prop where
 fo:FoJ w xs j g cp ss wr
 A:yA wr w 142 3 SB y.three
 ne:¬SB=g
 ge:w+1<=SB
theorem xEj(y:yAx)(h:FoJ w xs j g cp ss W1)(hb:Below W1.drew W1.drew w'):FoK w xs j g cp ss w' y (xw w' #[y.valid,xi y.f,xi y.nest] 142):=by have h1:=((Below.refl W1 W1).drew).trans hb;have h2:=h1.size;have h3:Below W1 W1 (xw w' #[y.valid,xi y.f,xi y.nest] 142):=h1.alloc h2 _;have h4:=h.Z.lt;have h5:=h.k.size;have h6:=h.res.lt;exact⟨h.K h3,yAa w' _ (by omega) rfl,by omega,by omega⟩
theorem xBa(y:yAx)(h:FoJ w xs j g cp ss W1)(hb:Below (W1.drew.alloc (AD #[false,xi 0,xi 0] 142)).heap.size (xw W1.drew #[false,xi 0,xi 0] 142) w'):
  FoK w xs j g cp ss W1 y (xt ((w'.setCell (xd W1 0) y.valid).setCell (xd W1 1) (xi y.f)) W1 2 (xi y.nest)):=by
 have hd:W1.drew.heap.size=W1:=by simp
 have h0:Below W1 W1 (xw W1.drew #[false,xi 0,xi 0] 142):=((Below.refl W1 W1).drew).alloc (by simp) _;have h1:=h0.trans (hb.mono (by simp));have h4:=h.Z.lt;have h5:=h.k.size;have h6:=h.res.lt;have hB:yA w' w 142 3 W1 [false,xi 0,xi 0]:=by have:=yAa W1.drew (O:=w.heap.size) (t:=142) (sz:=3) #[false,xi 0,xi 0] (by simp;omega) rfl;rw[hd]at this;exact this.k hb
 have hJ:=h.K h1
 have hC:Chg (λk=>k=W1) w' (xt ((w'.setCell (xd W1 0) y.valid).setCell (xd W1 1) (xi y.f)) W1 2 (xi y.nest)):=
  ((Chg.D w' W1 0 _ (S:=λk=>k=W1) rfl).trans (Chg.D _ W1 1 _ (S:=λk=>k=W1) rfl)).trans (Chg.D _ W1 2 _ (S:=λk=>k=W1) rfl)
 refine⟨⟨hJ.fold,yAh hJ.Z hC (λk q=>by simp[AL]at q;omega),hJ.res.i hC qo,?_⟩,((hB.set 0 _).set 1 _).set 2 _,qo,by omega⟩;exact yAb (yAb (yAb hJ.k (by omega) 0 _) (by omega) 1 _) (by omega) 2 _
theorem xLb(X:Ww)(y:yAx)(B:Nat)(hB:X=B):yMt (xw X #[y.valid,xi y.f,xi y.nest] 142) B 0 [y]:=by
 subst hB;intro i s hs;have hi:i=0:=by have:=qf hs;simpa using this
 subst hi;simp at hs;subst hs;exact⟨by simp,by simp,by simp⟩
theorem xIn{wc X:Ww}{g' cp' fr:Nat}{y:yAx}(h:FoJ w xs j g cp ss wc)(hX:Below wc wc X)(hY:yDh goodB [] (xs.take (j+1))=some (ss.take fr++ [y]))(hO:yFj w' (w+1) g' cp' (ss.take fr++ [y]))(hgr:X.grownBy w' (some g))(hm:fr=(ss.take fr).length):FoJ w xs (j+1) g' cp' (ss.take fr++ [y]) w'/\fr+1<=cp':=by have hJ:=h.K hX;have h1:=hJ.Z.lt;have hC:Chg (λk=>k=g) X w':=Chg.M hgr (λk hk=>by cases hk;rfl);refine⟨⟨hY,hO,hJ.res.i hC (by omega),Chg.k hJ.k hC hJ.k.size (λk q=>by omega)⟩,?_⟩;have:=hO.caps.1;rw[AA,AB,<-hm]at this;exact this
theorem yRc{cpN:Nat}(h:yCq w gN oN xs)(hg:gN<w.heap.size)(hok:∀e∈xs,e.ok)(hl:xs.length<=200):
  Calls prog 81 #[(xy gN oN xs.length cpN),.func (Fn.func 82) #[] #[]] w (yWb xs w):=by
 have HF:=qH2 h hok;have⟨n,hn⟩:=qE xs.length;have HL:=qH1 hn;rw[<-hn]at hl|-;clear h hok hn;have⟨W0,a6⟩:=qW (xw (w.alloc (AD #[false,xi 0,xi 0] 142)) #[] 142);have ai:Hid (FoJ w xs 0 (w+1) 0 [] W0):=by
  obtain⟨V,hV⟩:=qW (xw w #[false,xi 0,xi 0] 142);have hz:=qS hV
  have hb:Below V V W0:=by rw[a6,<-hV];exact qB
  have av:=qN hV
  have hB:yA V w 142 3 w [false,xi 0,xi 0]:=by rw[hV];exact yAa w _ qr rfl
  refine⟨rfl,?_,hB.k hb,av.trans (hb.mono qo)⟩;rw[a6,<-hV,<-hz];exact yZt V qr
 go_enter func81,ntmps81;go_upto_region 2 with fail;rw[<-a6];clear a6;go_wp2;go_loopw[6,14] (λsv iv wr=>∃(j m g cp:Nat)(ss:List yAx),iv=(xi j)/\j<=n/\m=ss.length/\m<=j/\m<=cp/\sv=(xg g m cp)/\FoJ w xs j g cp ss wr) (λ_ iv _=>n-(intOf iv).toNat);case atStart=>exact⟨0,0,_,0,[],rfl,Ak _,rfl,AG _,Ak _,rfl,ai.out⟩
 case round=>
  obtain⟨j,m,g,cp,ss,rfl,hj,hm,aD,aE,rfl,hJ⟩:=hrel;have HJ:=qH2 hm hJ;have aG:=hJ.Z.lt;have aK:cp<=9223372036854775807:=by have:=hJ.Z.caps.2;unfold maxLen at this;omega
  have an:=hJ.k.size;have aB:=hJ.res.lt.2;obtain⟨r0,r1,r2⟩:=hJ.res.c3;obtain⟨f0,f1,f2⟩:=hJ.res.f3;clear hm hJ ai;by_cases hlt:j<n
  .have zj:(j:Int)<(n:Int):=qo
   obtain⟨e,he⟩:∃e,xs[j]?=some e:=qg (qw HL.out);obtain⟨d0,d1,d2,d3,d4,d5,d6⟩:=(HF.1.k HJ.2.k hg) j e he;have ok:=HF.2 e (AE he);have HE:=qH3 he ok.s ok.t;clear ok he;obtain⟨W1,a4⟩:=qW (xw wr #[xi e.f,e.s,e.hi,e.t,xu e.lo,xu e.up,xi e.n] 83);have ag:=qN a4
   have am:=qS a4
   have a0:Hid (m=ss.length/\FoJ w xs j g cp ss W1/\yA W1 w 83 7 wr e.seven):=by refine⟨HJ.1,HJ.2.K ag,?_⟩;rw[a4];exact yAa wr _ an rfl
   go_upto_region 5 with fail;rw[<-a4];clear a4 d0 d1 d2 d3 d4 d5 d6 r0 r1 r2 f0 f1 f2 HJ ag;obtain⟨c0,c1,c2,c3,c4,c5,c6⟩:=a0.2.2.c7;obtain⟨a,ha⟩:=qE (yAk e.f);have aM:a<=3:=by rw[ha];exact yGj _
   have al:Hid (Calls prog 83 #[xi e.f] W1 λr w'=>r=.returned (xi a)/\w'=W1):=by rw[ha];exact yC2 e.f W1
   have a9:=qH1 ha;clear ha;go_wp2_with fail;refine al.mono ?_;rintro r w9 ⟨rfl,aa⟩;rw[aa];clear aa al;by_cases hfr:m<a
   .have zf:(m:Int)-(a:Int)<0:=qo
    obtain⟨r0,r1,r2⟩:=a0.2.1.res.c3;obtain⟨f0,f1,f2⟩:=a0.2.1.res.f3;have HS:=qH1 (xA8 a0.2.1.fold HE.1 (by rw[<-a0.1,<-a9.out];exact hfr));obtain⟨W9,a1⟩:=qW (set3 W1 w false (xi 0) (xi 0));have a2:Hid (yA W9 w 142 3 w [false,xi 0,xi 0]/\Below w w W9):=by rw[a1];exact⟨a0.2.1.res.set3 _ _ _,yGh a0.2.1.k qr _ _ _⟩
    obtain⟨p0,p1,p2⟩:=a2.1.c3;unfold set3 at a1;go_wp2;rw[<-a1];refine AU (v:=.tuple #[.agg #[false,xi 0,xi 0],false]) (by simp[results,results81,go_sem,p0,p1,p2]) rfl ⟨a2.2,.inr ⟨λs q=>(by rw[HS.out]at q;cases q),rfl⟩⟩
   .obtain⟨fr,aI⟩:∃fr:Nat,(m:Int)-(a:Int)=(fr:Int):=⟨m-a,qo⟩;have ar:fr<=m:=qo
    have a8:Hid (fr=ss.length-yAk e.f/\yAk e.f<=ss.length):=by have h1:=a0.1;have h2:=a9.out;exact⟨qo,qo⟩
    have zf:¬(fr:Int)<0:=qo
    have z2:(fr:Int)<=(m:Int):=qo
    have z3:(m:Int)<=(cp:Int):=qo
    obtain⟨y,hy⟩:=qE (yA6 goodB e (ss.drop fr));have HY:Hid (yDh goodB [] (xs.take (j+1))=some (ss.take fr++ [y])):=by show _=_;rw[hy,a8.1];exact xA9 a0.2.1.fold HE.1 a8.2
    obtain⟨ad,ax⟩:∃ad:Option Addr,(if cp=fr then some (⟨g,0,none⟩:Addr)else some ⟨g,fr*3,none⟩)=ad:=⟨_,rfl⟩;have aj:Hid (∀X,Below W1 W1 X->(xf 82 #[.agg #[xi e.f,e.s,e.hi,e.t,xu e.lo,xu e.up,xi e.n],.slice ad (m-fr) (cp-fr)] X (.agg #[y.valid,xi y.f,xi y.nest]):Prop)):=λX hX=>by
     have ao:=a0.2.1.Z.at.k hX a0.2.1.Z.lt.2;have ab:=ao.drop fr;rw[Ab]at ab;have a3:(ss.drop fr).length=m-fr:=by rw[length_drop,<-a0.1]
     have aN:=hX.size;have aH:=a0.2.1.Z.lt.2;have ae:∀x∈ss.drop fr,x.nest<=1000:=λx hx=>by have h1:=xB a0.2.1.fold x (mem_of_mem_drop hx);rw[AX]at h1;omega
     have ac:(ss.drop fr).length<=3:=by rw[a3];have:=a8.1;have:=a9.out;have:=a0.1;omega
     rw[hy,<-ax];by_cases hcf:cp=fr
     .rw[iB hcf];have aq:=AQ.1 (by rw[a3];omega);have h9:=yIw (w:=X) (b:=g) (o:=0) (cap:=cp-fr) (os:=ss.drop fr) e (by rw[aq];intro i s hs;simp at hs) qo (by rw[a3];omega) ac qo ae HE.2.1 HE.2.2;rw[a3]at h9;exact h9
     .rw[iA hcf];have h9:=yIw (w:=X) (b:=g) (o:=fr*3) (cap:=cp-fr) (os:=ss.drop fr) e ab qo (by rw[a3];omega) ac qo ae HE.2.1 HE.2.2;rw[a3]at h9;exact h9
    clear hy hfr;go_upto_region 8 with fail;go_cut[10] (λsv wx=>∃SB,sv=(xp SB)/\FoK w xs j g cp ss SB y wx);case first=>
     go_region_law ((go_simp;go_at_call 82;refine(aj.out _ ?hX).mono ?_;(case hX=>(repeat (first|exact Below.refl _ _|refine Below.drew ?_|refine Below.alloc ?_ (by simp) _)));rintro r w' ⟨rfl,a5⟩;obtain⟨aL,aJ⟩:=yX5 a5;have az:=a5.size));all_goals go_wp2_with fail
     all_goals go_meet
     all_goals first
      |exact⟨_,rfl,xEj y a0.2.1 a5⟩
      |exact⟨_,rfl,by have h9:=xBa y a0.2.1 a5;rw[am]at h9;exact h9⟩
    case rest=>
    obtain⟨SB,rfl,hK⟩:=hcut;have HK:=qH1 hK;obtain⟨b0,b1,b2⟩:=hK.A.c3;have aF:=hK.fo.Z.lt;have aA:=hK.A.lt.2;have aC:=hK.ne;have ay:=hK.fo.k.size;have HM:Hid (fr=(ss.take fr).length):=by show fr=_;rw[AX,<-a0.1];omega
    clear hK c0 c1 c2 c3 c4 c5 c6 aj;go_upto_region 9 with fail;have au:fr<=ss.length:=by rw[<-a0.1];exact ar
    have z4:(fr:Int)<=(cp:Int):=qo
    have z5:fr<=cp:=qo
    go_region_law ((refine stA (by rfl) (apK apSh (by rfl) (w+1) (ss.take fr) [y] (by rfl) (by rfl) HM.out rfl ?hO ?hc (lN ?hl) ?hb ?_)
                    case hO=>(refine yFj.k (HK.fo.Z.take au) ?_;repeat (first|exact Below.refl _ _|refine Below.drew ?_|refine Below.alloc ?_ (by simp) _))
                    case hc=>exact xLb _ y _ (by simp)
                    case hl=>rw[<-HM.out];omega
                    case hb=>simp;omega
                    intro g' a7 w' ah af aw
                    have fin:Hid (FoJ w xs (j+1) g' a7 (ss.take fr++ [y]) w'/\fr+1<=a7):=xIn HK.fo (by repeat (first|exact Below.refl _ _|refine Below.drew ?_|refine Below.alloc ?_ (by simp) _)) HY.out ah af HM.out
                    clear ah af aw))
    all_goals go_wp2_with fail
    all_goals go_roundw
    all_goals first
     |exact⟨j+1,fr+1,g',a7,ss.take fr++ [y],by go_num,qo,by rw[AA,AB,<-HM.out],qo,fin.out.2,rfl,fin.out.1⟩
     |(simp[intOf];omega)
  .have zj:¬(j:Int)<(n:Int):=qo
   have ak:Hid (yDh goodB [] xs=some ss):=by have h1:=HJ.2.fold;rw[Ad (qw HL.out)]at h1;exact h1
   by_cases hm1:m=1
   .subst hm1;obtain⟨s,rfl⟩:∃s,ss= [s]:=by
     have h1:=HJ.1;match ss,h1 with
     | [s],_=>exact⟨s,rfl⟩
    obtain⟨e0,e1,e2⟩:=HJ.2.Z.at 0 s rfl;simp only[Ab,Nat.zero_mul]at e0 e1 e2;obtain⟨W9,a1⟩:=qW (set3 wr w s.valid (xi s.f) (xi s.nest));have a2:Hid (yA W9 w 142 3 w [s.valid,xi s.f,xi s.nest]/\Below w w W9):=by rw[a1];exact⟨HJ.2.res.set3 _ _ _,yGh HJ.2.k qr _ _ _⟩
    obtain⟨p0,p1,p2⟩:=a2.1.c3;unfold set3 at a1;go_wp2;rw[<-a1];refine AU (v:=.tuple #[.agg #[s.valid,xi s.f,xi s.nest],true]) (by simp[results,results81,go_sem,p0,p1,p2]) rfl ⟨a2.2,.inl ⟨s,ak.out,rfl⟩⟩
   .have zm:((m:Int) != 1)=true:=by have:¬(m:Int)=1:=qo;simpa using this
    obtain⟨W9,a1⟩:=qW (set3 wr w false (xi 0) (xi 0));have a2:Hid (yA W9 w 142 3 w [false,xi 0,xi 0]/\Below w w W9):=by rw[a1];exact⟨HJ.2.res.set3 _ _ _,yGh HJ.2.k qr _ _ _⟩
    obtain⟨p0,p1,p2⟩:=a2.1.c3;unfold set3 at a1;go_wp2;rw[<-a1];refine AU (v:=.tuple #[.agg #[false,xi 0,xi 0],false]) (by simp[results,results81,go_sem,p0,p1,p2]) rfl ⟨a2.2,.inr ⟨λs q=>?_,rfl⟩⟩;rw[ak.out]at q;have h1:=HJ.1;rw[AC q]at h1;exact hm1 h1
theorem yDw.cells{v:Vv}(h:yDw w v es):v.cells=#[v]:=by rcases h with⟨a,cap,rfl,_⟩|⟨b,off,cap,rfl,_⟩<;>rfl
theorem yDw.one{v:Vv}(h:yDw w v es):∃a n c,v=.slice a n c/\n=es.length:=by rcases h with⟨a,cap,rfl,rfl⟩|⟨b,off,cap,rfl,_⟩<;>exact⟨_,_,_,rfl,rfl⟩
structure Bk where
 v:Vv
 cnt:Int
 l:List Ix
abbrev Bk.val(x:Bk):Vv:=.agg #[x.v,xi x.cnt]
abbrev Bk.vw(x:Bk):Int×List Ix:=(x.cnt,x.l)
abbrev Bk.two(x:Bk):List Vv:= [x.v,.int .i64 x.cnt]
structure Bk.ok(x:Bk):Prop where
 cnt:(Lit.int .i64 x.cnt).wf=true
 ins:∀e∈x.l,e.ok
def xCm(w:Ww)(b off:Nat)(bs:List Bk):Prop:=∀i x,bs[i]?=some x->xk w b (off+i*2) x.v/\xk w b (off+i*2+1) (xi x.cnt)/\yDw w x.v x.l
variable {bs:List Bk}
theorem xCm.k(h:xCm w b off bs)(hb:Below w w w')(hlt:b<w.heap.size):xCm w' b off bs:=by intro i x hx;have⟨h0,h1,h2⟩:=h i x hx;exact⟨by rw[hb.cell (p:=(xd b (off+i*2))) hlt];exact h0,by rw[hb.cell (p:=(xd b (off+i*2+1))) hlt];exact h1,h2.k hb qr⟩
def yIr(w:Ww)(v:Vv)(bs:List Bk):Prop:=
 (∃a cap,v=.slice a 0 cap/\bs= [])\/
 ∃b off cap,v=(xy b off bs.length cap)/\xCm w b off bs/\b<w.heap.size/\bs.length<=cap/\cap<=maxLen
theorem yIr.k{v:Vv}(h:yIr w v bs)(hb:Below w w w'):yIr w' v bs:=by
 rcases h with h|⟨b,off,cap,hv,hE,a0,h1,h2⟩
 .exact .inl h
 .exact .inr ⟨b,off,cap,hv,hE.k hb a0,qw hb.size,h1,h2⟩
def OwnZ(e:TypeId)(w:Ww)(O g cp:Nat)(ds:List Int)(kd:IntKind):Prop:=w.ownsRow O e 1 (xg g ds.length cp) ds.length (ds.map λd=>.int kd d)
def yUi(P:Prop)(w:Ww)(r:Ae)(w':Ww):Prop:=∃b,r=.returned (.bool b)/\(b=true↔P)/\Below w.heap.size w w'
def xM5(e d:Int)(O g cp j:Nat)(ds:List Int)(w:Ww)(r:Ae)(w':Ww):Prop:=∃b,r=.returned (.bool b)/\(b=true↔(e=0\/e=d)/\1<=d/\d<=250)/\(b=true->OwnZ 2 w' O g cp (ds.set j d) .i64)/\Chg (λq=>q=g) w w'
theorem yRo(e:Nd)(w:Ww):Calls prog 120 #[e.v] w (yUi (cntK e.f) w):=by
 go_enter func120,ntmps120;go_wp2;all_goals go_ret
 all_goals exact⟨_,rfl,by simp_all[cntK],qB⟩
theorem yI7(op:Int)(w:Ww):Calls prog 114 #[.int .i64 op] w (yUi (op=5\/op=6) w):=by
 go_enter func114,ntmps114;go_wp2;all_goals go_ret
 all_goals exact⟨_,rfl,by simp_all,Below.refl _ _⟩
theorem yQb(w:Ww)(e:Nd):yBb (w.alloc (AD #[.int .i64 e.f,.string e.s,.bool e.hi,.string e.t,.int .u64 e.lo,.int .u64 e.up,.int .i64 e.n] 83)) w.heap.size w.heap.size 1 [e]:=
 World.ownsRow_lit w #[.int .i64 e.f,.string e.s,.bool e.hi,.string e.t,.int .u64 e.lo,.int .u64 e.up,.int .i64 e.n] 1 (AG _) qj rfl
variable {e:TypeId} {kd:IntKind}
theorem OwnZ.z(h:OwnZ e w O g cp ds kd)(hd:ds[j]?=some d):w.cell? ⟨g,j,none⟩=some (.int kd d)/\w.frozen? ⟨g,j,none⟩=false:=by have hj:=(AN.1 hd).1;refine⟨?_,Ac h j⟩;rw[AI h j qo,Aj,hd];rfl
theorem OwnZ.lt(h:OwnZ e w O g cp ds kd):O<=g/\g<w.heap.size:=AF h g rfl
theorem OwnZ.k(h:OwnZ e w O g cp ds kd)(hb:Below w.heap.size w w'):OwnZ e w' O g cp ds kd:=yAh (S:=λ_=>False) h (Chg.h hb) (λk _ q=>q)
theorem OwnZ.set(h:OwnZ e w O g cp ds kd)(j:Nat)(d:Int):OwnZ e (w.setCell ⟨g,j,none⟩ (.int kd d)) O g cp (ds.set j d) kd:=by have:=(AP h j (.int kd d)).1;unfold OwnZ;rw[Al,map_set];exact this
theorem xC7(h:ds[j]?=some d):ds.set j d=ds:=by
 apply ext_getElem?;intro i;rw[getElem?_set];split
 .rename_i e;subst e;rw[iB (AN.1 h).1,h]
 .rfl
theorem yW5(O g cp:Nat)(ds:List Int)(j:Nat)(d e:Int)(w:Ww)(h:OwnZ 2 w O g cp ds .i64)(hj:ds[j]?=some e)(hl:ds.length<=4001):
  Calls prog 113 #[(xg g ds.length cp),.int .i64 j,.int .i64 d] w (xM5 e d O g cp j ds w):=by
 have HO:=qH1 h;have⟨c0,f0⟩:=h.z hj;have a0:=(AN.1 hj).1;have HJ:=qH1 hj;have zj:(j:Int)<(ds.length:Int):=qo
 go_enter func113,ntmps113;by_cases he:e=0
 .subst he;have HS:=qH1 (HO.set j d);go_wp2;all_goals go_ret
  all_goals exact⟨_,rfl,by simp_all<;>omega,λ_=>HS.out,Chg.D _ _ _ _ rfl⟩
 .by_cases hed:e=d
  .subst hed;have HS:Hid (OwnZ 2 w O g cp (ds.set j e) .i64):=by show OwnZ _ _ _ _ _ _ _;rw[xC7 HJ.out];exact HO.out
   go_wp2;all_goals go_ret
   all_goals exact⟨_,rfl,by simp_all<;>omega,λ_=>HS.out,Chg.refl _ _⟩
  .go_wp2;go_ret;exact⟨_,rfl,by simp_all,λq=>by simp_all,Chg.refl _ _⟩
theorem yEi(h:WdN w g o cp xs)(hok:∀e∈xs,e.ok):Calls prog 34 #[.agg #[(xy g o xs.length cp)]] w (yG6 xs w):=by
 have HO:=qH2 h hok;have hg:=h.lt;have⟨n,hn⟩:=qE xs.length;have HN:=qH1 hn;have a3:=h.caps;rw[<-hn]at a3|-;unfold maxLen at a3;clear h hok hn;have⟨W0,a1⟩:=qE (xw w #[(xy g o n cp)] 25:Ww);have HW0:Hid (yA W0 w 25 1 w [(xy g o n cp)]/\Below w w W0):=a1▸⟨yAa w _ qr rfl,qB⟩
 have c0:=HW0.1.z (j:=0) rfl;have s0:=HW0.2.size;go_enter func34,ntmps34;go_upto_region 1 with fail;rw[<-a1];clear a1;by_cases hbig:200<n
 .exact xJ7
 have zb:¬(200:Int)<(n:Int):=qo
 have HC:Hid (Calls prog 81 #[(xy g o n cp),.func (Fn.func 82) #[] #[]] W0 (yWb xs W0)):=by
  have hl:xs.length<=200:=by rw[<-HN.out];omega
  have:=yRc (w:=W0) (gN:=g) (oN:=o) (cpN:=cp) (HO.1.at.k HW0.2 hg) qo HO.2 hl;rw[<-HN.out]at this;exact this
 go_wp2_with fail;refine HC.mono ?_;rintro r w2 ⟨hb2,(⟨s,hs,rfl⟩|⟨hs,rfl⟩)⟩
 .have HF:Hid (yBe xs↔(s.valid=true/\s.nest<=20)):=by
   show yBe xs↔_;have a0:=yRa goodB hs;constructor
   .rintro⟨_,t,ht,hv,hn⟩;rw[yY4 a0 ht];exact⟨hv,hn⟩
   .rintro⟨hv,hn⟩;exact⟨by have:=HN.out;omega,s,a0,hv,hn⟩
  have HB:=qH1 (HW0.2.trans (hb2.mono s0));obtain⟨v,hv⟩:=qE s.valid;obtain⟨k,hk⟩:=qE s.nest;obtain⟨kd,a2⟩:=qE s.f;rw[<-hv,<-hk]at HF;rw[<-hv,<-hk,<-a2];clear hs hb2 c0 HC hv hk a2;cases v
  .go_wp2_with fail;go_ret;exact⟨_,rfl,by rw[HF.out];simp,HB.trans ((Below.refl _ _).alloc HB.size _)⟩
  .go_wp2_with fail;go_ret;exact⟨_,rfl,by rw[HF.out];simp<;>omega,HB.trans ((Below.refl _ _).alloc HB.size _)⟩
 .have HF:Hid (¬yBe xs):=λq=>by obtain⟨_,s,a0,_⟩:=q;have:=ShT.fold goodB a0 [];exact hs s (by simpa using this)
  have HB:=qH1 (HW0.2.trans (hb2.mono s0));clear hs hb2 c0 HC;exact zF (HB.trans ((Below.refl _ _).alloc HB.size _))
theorem yLb(h:yBb w O g cp xs)(hok:∀e∈xs,e.ok):Calls prog 34 #[.agg #[xg g xs.length cp]] w (yG6 xs w):=yEi h.wd hok
theorem yLc(k:Int) w:Calls prog 141 #[xi k] w (yUi (cntK k) w):=by
 go_enter func141,ntmps141;go_wp2;all_goals go_ret
 all_goals exact⟨_,rfl,by simp_all[cntK],Below.refl _ _⟩
theorem yGz(g:Nat):∀(vs:List Vv)(o:Nat)(w:Ww),w.setCells g o vs=setCs w g o vs
 | [],_,_=>rfl
 |v::vs,o,w=>yGz g vs (o+1) _
theorem yWq(w:Ww)(ty g o:Nat)(vs:List Vv)(hi:(prog.info? ty).map (·.size)=some vs.length)(hc:∀j,j<vs.length->(w.cell? (xd g (o+j))).isSome=true)(hf:∀j,w.frozen? (xd g j)=false)(h1:∀v∈vs,v.oneCell'=true):
  (storeVar ty (xd g o) (.agg vs.toArray)).run prog w=.ok () (setCs w g o vs):=by
 have h9:=run_storeCells_cells (P:=prog) g o vs 0 w (by simpa using hc) (λj _=>hf _) h1;rw[Ap,yGz]at h9;cases hq:prog.info? ty with
 |none=>simp[hq]at hi
 |some i=>
  have hs:i.size=vs.length:=by simpa [hq]using hi
  simp[storeVar,sizeOf,typeInfo,hq,Value.cells,hs,h9]
variable {oo:Oper} {E:Prop}
theorem ySf{a:Act}{K:Act->Ww->Prop}(hgd:oo.guard=none) p x (ty:Nat) (ho:oo.op=.store ty p x) (g o:Nat) (hp:a.eval p=.pointer (some ⟨g,o,none⟩)) (vs:List Vv) (hx:a.eval x=.agg vs.toArray)
  (hi:(prog.info? ty).map (·.size)=some vs.length) (hc:∀j,j<vs.length->(w.cell? (xd g (o+j))).isSome=true) (hf:∀j,w.frozen? (xd g j)=false) (h1:∀v∈vs,v.oneCell'=true)
  (h:K (a.put oo.dst undef) (setCs w g o vs)):if AO oo (yielded ops a.tmps)=true then Oper.wp prog oo a w K Q else E:=by
 have hw:AO oo (yielded ops a.tmps)=true:=by simp[AO,hgd]
 rw[iB hw];unfold Oper.wp execOp;simp only[ho,hp,hx,Instr.storeAt,Instr.sureAddr,Sem.run_bind,Sem.run_pure,Result.andThen_ok,yWq w ty g o vs hi hc hf h1];exact h
theorem yHq(es:List Nd):(yC0 es).length=es.length*7:=yB4 (f:=Nd.seven) (λ_=>rfl) es
theorem Tryz.infoNd:(prog.info? 83).map (λi=>(i.zero,i.size,i.bytes))=some (some (.agg #[xi 0,xe,false,xe,xu 0,xu 0,xi 0]),7,72):=qk
theorem yBb.put{es:List Nd}(h:yBb w O g cap es)(k:Nat)(f e:Nd)(hk:es[k]?=some f):
  yBb (xt ((((((w.setCell (xd g (k*7)) (xi e.f)).setCell (xd g (k*7+1)) e.s).setCell (xd g (k*7+2)) e.hi).setCell (xd g (k*7+3)) e.t).setCell (xd g (k*7+4)) (xu e.lo)).setCell (xd g (k*7+5)) (xu e.up)) g (k*7+6) (xi e.n)) O g cap (es.set k e):=by have h1:=OwnG.setAll (f:=Nd.seven) (λ_=>rfl) h (e:=e) (qf hk);simp only[setCs,Ap,Ai,Nat.reduceAdd]at h1;exact h1
section
section
variable {T:Type} (V:Nd->List T->T)
theorem IsT.trv{k:Nat}(h:IsT k xs):∃ss,ss.length=k/\TrV V ss xs:=by
 induction h with
 |nil=>exact⟨[],rfl,.nil⟩
 | @snoc k xs n h ih=>
   obtain⟨ss,hl,hs⟩:=ih;refine⟨ss.take k++ [V n (ss.drop k)],by simp;omega,.snoc n (by simp;omega) ?_⟩;rw[AM];exact hs
end
def isK(xs:List Nd)(k:Int):Prop:=∃n,xs= [n]/\n.f=k
open Classical in
noncomputable def normOf(e:Nd)(ns:List (List Nd)):List Nd:=
 match ns with
 | [a,b]=>
   if e.f=14 then
    if isK a 1\/isK b 2 then b else if isK b 1\/isK a 2\/(isK a 3/\isK b 3)then a else a++b++ [e]
   else
    if isK a 2 then b else if isK b 2\/isK a 1\/a=b then a else a++b++ [e]
 | [p,a,b]=>if isK p 1 then a else if isK p 2 then b else if a=b then a else p++a++b++ [e]
 |_=> [e]
variable {e:Nd}
theorem xDy{x:Nd}(h:x∈normOf e ns):x=e\/∃k∈ns,x∈k:=by
 unfold normOf at h;split at h
 .rename_i a b;have fin:x∈a++b++ [e]->x=e\/∃k∈ [a,b],x∈k:=λq=>by
   simp at q;rcases q with q|q|q
   .exact .inr ⟨a,by simp,q⟩
   .exact .inr ⟨b,by simp,q⟩
   .exact .inl q
  split at h
  .exact xJl
  .exact xJl
 .rename_i p a b;split at h
  .exact .inr ⟨a,by simp,h⟩
  .split at h
   .exact .inr ⟨b,by simp,h⟩
   .split at h
    .exact .inr ⟨a,by simp,h⟩
    .simp at h;rcases h with q|q|q|q
     .exact .inr ⟨p,by simp,q⟩
     .exact .inr ⟨a,by simp,q⟩
     .exact .inr ⟨b,by simp,q⟩
     .exact .inl q
 .simp at h;exact .inl h
theorem xDz:(normOf e ns).length<=ns.flatten.length+1:=by
 unfold normOf;split
 .repeat' split
  all_goals simp
  all_goals omega
 .repeat' split
  all_goals simp
  all_goals omega
 .simp
theorem yJ7:∀(n:Nat){y:List Nd}{xs:List Nd},xs.length<=n->TrV normOf [y] xs->(∀x∈y,x∈xs)/\y.length<=xs.length
 |0,y,xs,hn,h=>by
  obtain⟨ys,e,os,rfl,_⟩:=TrV.inv _ h
  simp at hn
 |n+1,y,xs,hn,h=>by
  obtain⟨ys,e,os,rfl,_,h2,rfl⟩:=TrV.inv _ h
  obtain⟨ks,rfl,hK⟩:=TrV.kids _ h2
  simp only[AA,AB]at hn
  have hk:∀(j:Nat)(o:List Nd),os[j]?=some o->∃k∈ks,(∀x∈o,x∈k)/\o.length<=k.length:=λj o ho=>by
   have hj:=qf ho
   obtain⟨k,hk⟩:∃k,ks[j]?=some k:=qg (qw (KidV.length _ hK))
   obtain⟨o',ho',ht⟩:=KidV.nth _ hK hk
   rw[ho]at ho'
   cases ho'
   have hm:=AE hk
   have:=yDl hm
   exact⟨k,hm,yJ7 n qo ht⟩
  refine⟨λx hx=>?_,?_⟩
  .rcases xDy hx with rfl|⟨o,ho,hxo⟩
   .simp
   .obtain⟨j,hj⟩:=Am ho
    obtain⟨k,hm,h3,_⟩:=hk j o hj
    exact List.mem_append_left _ (List.mem_flatten.2 ⟨k,hm,h3 x hxo⟩)
  .have h4:∀{os:List (List Nd)}{ks:List (List Nd)},KidV normOf os ks->(∀k∈ks,k.length<=n)->os.flatten.length<=ks.flatten.length:=by
    intro os ks h;induction h with
    |nil=>intro _;simp
    |cons h1 t ih=>
     intro hb;have h5:=(yJ7 n (hb _ (by simp)) h1).2;have h6:=ih (λk hk=>hb k (by simp[hk]));simp only[List.flatten_cons,AA];omega
   have h7:=h4 hK (λk hk=>qw (yDl hk))
   have h8:=xDz (e:=e) (ns:=os)
   simp only[AA,AB]
   omega
def yLx(xs y:List Nd):Prop:=TrV normOf [y] xs
theorem yQe{z:List Nd}(h:yLx xs y)(k:yLx xs z):y=z:=by have:=TrV.one _ h k;simpa using this
theorem xD0(h:IsT 1 xs):∃y,yLx xs y:=by
 obtain⟨ss,hl,hs⟩:=IsT.trv normOf h;match ss,hl with
 | [y],_=>exact⟨y,hs⟩
theorem xEz{a b:Ba}(h:a.toList=b.toList):a=b:=by
 rw[AT,AT]at h;cases a with
 |mk a=>cases b with
  |mk b=>
   simp only at h;congr 1;exact Array.toList_inj.1 h
def yCa(k:Int):Nd:=⟨k,⟨#[]⟩,false,⟨#[]⟩,0,0,0⟩
theorem yQ8(h:yBq e)(hk:e.f=1\/e.f=2\/e.f=3\/e.f=14\/e.f=15\/e.f=16):e=yCa e.f:=by
 have hE:(⟨#[]⟩:Ba).toList= []:=by rw[AT]
 obtain⟨kind,s,hi,t,lo,up,n⟩:=e;obtain⟨_,_,_,h4⟩:=h;simp only at hk h4;have h5:s.toList= []/\hi=false/\t.toList= []/\lo=0/\up=0/\n=0:=by
  rcases h4 with⟨q,_⟩|⟨q,_⟩|⟨q,_⟩|⟨q,_⟩|⟨_,q⟩
  .omega
  .omega
  .omega
  .omega
  .exact q
 obtain⟨h1,rfl,h2,rfl,rfl,rfl⟩:=h5;have e1:s=⟨#[]⟩:=xEz (by rw[h1,hE]);have e2:t=⟨#[]⟩:=xEz (by rw[h2,hE]);rw[e1,e2];rfl
theorem yVt{k:Int}(h:isK xs k)(hg:∀x∈xs,yBq x)(hk:k=1\/k=2\/k=3):xs= [yCa k]:=by obtain⟨n,rfl,rfl⟩:=h;rw[yQ8 (hg n (by simp)) qo];rfl
end
variable {u:CT}
theorem yFn(h:yBf xs t)(k:yBf xs u):t=u:=by have:=TrV.one _ h k;exact(List.cons.inj this).1
theorem yUq(h:IsT 1 xs):∃t,yBf xs t:=by
 obtain⟨ss,hl,hs⟩:=IsT.trv ctV h;match ss,hl,hs with
 | [t],_,hs=>exact⟨t,hs⟩
def CT.J:CT->Nat
 | .leaf _=>0
 | .chain _ a b| .inter _ a b=>a.J+b.J
 | .cond _ a b c=>a.J+1+b.J+c.J
def CT.passes:CT->Bool
 | .leaf n=>yDg n.f
 | .chain _ a b| .inter _ a b=>a.passes || b.passes
 | .cond _ _ b c=>b.passes || c.passes
def opI(op:Int):Ix:=⟨op,0,0,false,yA8⟩
def CT.gen:CT->Bool->Nat->List Ix
 | .leaf n,s,_=> [⟨1,0,0, !s,n⟩]
 | .chain _ a b,s,f=>a.gen s f++b.gen (s || a.passes) (f+a.J)
 | .inter _ a b,s,f=> [opI 2]++a.gen s f++ [opI 3]++b.gen s (f+a.J)++ [opI 4]
 | .cond _ a b c,s,f=> [⟨5,((f+a.J:Nat):Int),((b.gen s (f+a.J+1)).length:Int)+2,false,yA8⟩]++b.gen s (f+a.J+1)++ [⟨6,0,((c.gen s (f+a.J+1+b.J)).length:Int)+1,false,yA8⟩]++c.gen s (f+a.J+1+b.J)
def cntI(x:Ix):Nat:=if x.op=1/\yDg x.leaf.f=true then 1 else 0
def fixI(k c:Nat)(x:Ix):Ix:=⟨x.op,if x.op=1/\yDg x.leaf.f=true then(c:Int)else x.a,if x.op=5\/x.op=6 then x.b+(k:Int)else x.b,x.free,x.leaf⟩
def absG:Nat->Nat->List Ix->List Ix
 |_,_,[]=> []
 |k,c,x::r=>fixI k c x::absG (k+1) (c+cntI x) r
def cntL:List Ix->Nat
 | []=>0
 |x::r=>cntI x+cntL r
theorem yAj l m:cntL (l++m)=cntL l+cntL m:=by
 induction l with
 |nil=>simp[cntL]
 |cons x r ih=>simp only[Af,cntL,ih];omega
theorem yAl:∀(k c:Nat)(l:List Ix),(absG k c l).length=l.length
 |_,_,[]=>rfl
 |k,c,x::r=>by simp only[absG,Ag,yAl]
theorem yC9:∀(k c:Nat)(l m:List Ix),absG k c (l++m)=absG k c l++absG (k+l.length) (c+cntL l) m
 |k,c,[],m=>by simp[absG,cntL]
 |k,c,x::r,m=>by
  simp only[Af,absG,yC9 (k+1) (c+cntI x) r m,Ag,cntL]
  rw[show k+1+r.length=k+(r.length+1)by omega,Ai c (cntI x) (cntL r)]
def CT.V:CT->List Ix->Bool->Nat->List (List Ix)
 | .leaf _,_,_,_=> []
 | .chain _ a b,l,s,f=>a.V l s f++b.V (l++a.gen s f) (s || a.passes) (f+a.J)
 | .inter _ a b,l,s,f=>a.V l s f++b.V l s (f+a.J)
 | .cond _ a b c,l,s,f=>a.V l s f++ [l++a.gen s f]++b.V l s (f+a.J+1)++c.V l s (f+a.J+1+b.J)
theorem yDe(t:CT):∀(l:List Ix)(s:Bool)(f:Nat),(t.V l s f).length=t.J:=by
 induction t with
 |leaf n=>intro l s f;rfl
 |chain n a b ha hb|inter n a b ha hb=>intro l s f;simp only[CT.V,CT.J,AA,ha,hb]
 |cond n a b c ha hb hc=>intro l s f;simp only[CT.V,CT.J,AA,AB,ha,hb,hc]
theorem yE7(t:CT):∀(s:Bool)(f:Nat),(t.gen s f).length+2<=3*t.size:=by
 induction t with
 |leaf n=>intro s f;simp[CT.gen,CT.size]
 |chain n a b ha hb=>intro s f;have h1:=ha s f;have h2:=hb (s || a.passes) (f+a.J);simp only[CT.gen,CT.size,AA];omega
 |inter n a b ha hb=>intro s f;have h1:=ha s f;have h2:=hb s (f+a.J);simp only[CT.gen,CT.size,AA,AB];omega
 |cond n a b c ha hb hc=>intro s f;have h1:=hb s (f+a.J+1);have h2:=hc s (f+a.J+1+b.J);simp only[CT.gen,CT.size,AA,AB];omega
theorem yF(t:CT):∀(s:Bool)(f:Nat),cntL (t.gen s f)<=t.size:=by
 induction t with
 |leaf n=>intro s f;simp only[CT.gen,CT.size,cntL,cntI];split<;>omega
 |chain n a b ha hb=>intro s f;have h1:=ha s f;have h2:=hb (s || a.passes) (f+a.J);simp only[CT.gen,CT.size,yAj];omega
 |inter n a b ha hb=>
  intro s f;have h1:=ha s f;have h2:=hb s (f+a.J);have e:∀o:Int,o≠1->cntL [opI o]=0:=λo ho=>by simp[cntL,cntI,opI,ho]
  simp only[CT.gen,CT.size,yAj,e 2 qj,e 3 qj,e 4 qj];omega
 |cond n a b c ha hb hc=>
  intro s f;have h1:=hb s (f+a.J+1);have h2:=hc s (f+a.J+1+b.J);simp only[CT.gen,CT.size,yAj];simp[cntL,cntI];omega
theorem yTy(t:CT):∀(l:List Ix)(s:Bool)(f:Nat),∀x∈t.V l s f,x.length<=l.length+3*t.size:=by
 induction t with
 |leaf n=>intro l s f x hx;simp[CT.V]at hx
 |chain n a b ha hb=>
  intro l s f x hx;simp only[CT.V,AS]at hx;have hg:=yE7 a s f;simp only[CT.size];rcases hx with hx|hx
  .have:=ha _ _ _ x hx;omega
  .have:=hb _ _ _ x hx;simp only[AA]at this;omega
 |inter n a b ha hb=>
  intro l s f x hx;simp only[CT.V,AS]at hx;simp only[CT.size];rcases hx with hx|hx
  .have:=ha _ _ _ x hx;omega
  .have:=hb _ _ _ x hx;omega
 |cond n a b c ha hb hc=>
  intro l s f x hx;simp only[CT.V,AS,List.mem_singleton]at hx;have hg:=yE7 a s f;simp only[CT.size];rcases hx with((hx|hx)|hx)|hx
  .have:=ha _ _ _ x hx;omega
  .subst hx;simp only[AA];omega
  .have:=hb _ _ _ x hx;omega
  .have:=hc _ _ _ x hx;omega
def ifsL(xs:List Nd):Nat:=(xs.filter (λe=>decide (e.f=16))).length
theorem xDq(n:Nat):∀{t:CT}{xs:List Nd},xs.length<=n->yBf xs t->ifsL xs=t.J:=by
 have hadd:∀a b:List Nd,ifsL (a++b)=ifsL a+ifsL b:=λa b=>by simp[ifsL]
 have hone:∀e:Nd,¬e.f=16->ifsL [e]=0:=λe he=>by simp[ifsL,he]
 have htwo:∀e:Nd,e.f=16->ifsL [e]=1:=λe he=>by simp[ifsL,he]
 induction n with
 |zero=>intro t xs hl h;have:=h.part;cases this<;>simp at hl
 |succ n ih=>
  intro t xs hl h;cases h.part with
  |leaf n hk=>exact hone n (λq=>by rw[q]at hk;simp[yAk]at hk)
  |chain n hk ha hb|inter n hk ha hb=>simp only[AA,AB]at hl;rw[hadd,hadd,hone n qo,ih qo ha,ih qo hb];rfl
  |cond n hk ha hb hc=>simp only[AA,AB]at hl;rw[hadd,hadd,hadd,htwo n hk,ih qo ha,ih qo hb,ih qo hc];simp only[CT.J];omega
theorem yBf.J(h:yBf xs t):ifsL xs=t.J:=xDq _ qr h
theorem Tryz.infoI64:(prog.info? 2).map (λi=>(i.zero,i.size,i.bytes))=some (some (.int .i64 0),1,8):=qk
variable {a:Act}
theorem yH3(w:Ww)(hgd:oo.guard=none) s x
  (ho:oo.op=.call {callee:=.builtin .append,args:=#[s,x],argTypes:=#[189,189]})
  (O gq cp n b m cx:Nat) (us vs:List Int) (hs:a.eval s=(xg gq n cp)) (hx:a.eval x=(xg b m cx)) (hn:n=us.length) (hm:m=vs.length) (hO:OwnZ 2 w O gq cp us .i64)
  (hc:∀(j:Nat) v,vs[j]?=some v->w.cell? (xd b j)=some (.int .i64 v)) (hlen:us.length+vs.length<=10000) (hbase:O<=w.heap.size)
  (h:∀g' cp' w',OwnZ 2 w' O g' cp' (us++vs) .i64->w.grownBy w' (some gq)->wpList prog ops Q rest (a.put oo.dst (xg g' (n+m) cp')) w'):wpList prog ops Q (oo::rest) a w:=by
 subst hn hm;have⟨i,hi,a3,a2,a1⟩:=info_parts Tryz.infoI64;refine wpList_append_own_at w hgd s x 189 ho O 2 i _ 1 8 underlying189 hi a3 a2 a1 rfl qj (xg gq us.length cp) us.length (us.map λd=>(xi d)) hs hO (xd b 0) vs.length cx (vs.map λd=>(xi d)) hx (by simp) ?_ ?_ ?_ ?_ hbase ?_
 .intro j u hu;rw[Aj]at hu;cases hq:vs[j]? with
  |none=>rw[hq]at hu;cases hu
  |some d=>rw[hq]at hu;obtain rfl:=AC hu;rw[Addr.add_mid,Ab];exact hc j d hq
 .intro v hv;obtain⟨d,_,rfl⟩:=List.mem_map.1 hv;rfl
 .unfold maxLen;omega
 .omega
 .intro v' w' a0 a5 a4 a8;rcases a0.2 with⟨h0,_⟩|⟨g',a6,cur,hv,_,_,hn,a7,_,_⟩
  .have:=(a4.1 h0).1;cases this
  .subst hv;refine h g' a6 w' ?_ a5;unfold OwnZ;rw[AA,map_append];exact a0
def yEk(bs:List Bk)(m:Bk):Prop:=bs.length<=200/\yCc m.l m.cnt bs.length/\∀(k:Nat)(x:Bk),bs[k]?=some x->yCc x.l x.cnt k
theorem xIi(xs:List Nd):ifsL xs<=xs.length:=List.length_filter_le _ _
theorem xDt(w:Ww)(x:Ix):OwnX (xw w #[xi x.op,xi x.a,xi x.b,x.free,xi x.leaf.f,x.leaf.s,x.leaf.hi,x.leaf.t,xu x.leaf.lo,xu x.leaf.up,xi x.leaf.n] 153) w w 1 [x]:=
 World.ownsRow_lit w #[xi x.op,xi x.a,xi x.b,x.free,xi x.leaf.f,x.leaf.s,x.leaf.hi,x.leaf.t,xu x.leaf.lo,xu x.leaf.up,xi x.leaf.n] 1 qr qj rfl
inductive Knd:CT->List (List Nd)->Nd->Prop
 |leaf (n:Nd) (h:yAk n.f=0):Knd (.leaf n) [] n
 |chain (n:Nd) {a b:CT} {ka kb:List Nd} (h:n.f=14) (ha:yBf ka a) (hb:yBf kb b):Knd (.chain n a b) [ka,kb] n
 |inter (n:Nd) {a b:CT} {ka kb:List Nd} (h:n.f=15) (ha:yBf ka a) (hb:yBf kb b):Knd (.inter n a b) [ka,kb] n
 |cond (n:Nd) {a b c:CT} {ka kb kc:List Nd} (h:n.f=16) (ha:yBf ka a) (hb:yBf kb b) (hc:yBf kc c):Knd (.cond n a b c) [ka,kb,kc] n
theorem yBf.knd(h:yBf xs t):∃ks n,xs=ks.flatten++ [n]/\Knd t ks n/\ks.length=yAk n.f/\∀k∈ks,IsT 1 k:=by
 have e2:∀ka kb:List Nd,∀n:Nd,ka++kb++ [n]= [ka,kb].flatten++ [n]:=λka kb n=>by simp
 have e3:∀ka kb kc:List Nd,∀n:Nd,ka++kb++kc++ [n]= [ka,kb,kc].flatten++ [n]:=λka kb kc n=>by simp
 have tr:∀{k:List Nd}{a:CT},yBf k a->IsT 1 k:=λq=>TrV.tree _ q;cases h.part with
 |leaf n hk=>exact⟨[],n,rfl,.leaf n hk,hk.symm,λk hk=>by cases hk⟩
 |chain n hk ha hb=>exact⟨[_,_],n,e2 _ _ _,.chain n hk ha hb,by simp[yAk,hk],λk hm=>by rcases AH.1 hm with rfl|hm;exact tr ha;rcases AH.1 hm with rfl|hm;exact tr hb;cases hm⟩
 |inter n hk ha hb=>exact⟨[_,_],n,e2 _ _ _,.inter n hk ha hb,by simp[yAk,hk],λk hm=>by rcases AH.1 hm with rfl|hm;exact tr ha;rcases AH.1 hm with rfl|hm;exact tr hb;cases hm⟩
 |cond n hk ha hb hc=>exact⟨[_,_,_],n,e3 _ _ _ _,.cond n hk ha hb hc,by simp[yAk,hk],λk hm=>by rcases AH.1 hm with rfl|hm;exact tr ha;rcases AH.1 hm with rfl|hm;exact tr hb;rcases AH.1 hm with rfl|hm;exact tr hc;cases hm⟩
open Classical in
noncomputable def isKB(xs:List Nd)(k:Int):Bool:=decide (isK xs k)
theorem yJw xs (k:Int):isKB xs k=true↔isK xs k:=by unfold isKB;simp
open Classical in
noncomputable def sameB(xs ys:List Nd):Bool:=decide (xs=ys)
theorem yHh xs ys:sameB xs ys=true↔xs=ys:=by unfold sameB;simp
theorem xA1{k:Int}(h:¬isK xs k):isKB xs k=false:=by
 cases q:isKB xs k with
 |false=>rfl
 |true=>exact absurd ((yJw xs k).1 q) h
theorem yU4(h:¬xs=ys):sameB xs ys=false:=by
 cases q:sameB xs ys with
 |false=>rfl
 |true=>exact absurd ((yHh xs ys).1 q) h
theorem yMw.form{v:Vv}(h:yMw w v xs):∃a c,v=.slice a xs.length c/\(xs≠ []->∃b o,a=some ⟨b,o,none⟩/\yCq w b o xs/\b<w.heap.size/\xs.length<=c/\c<=maxLen):=by
 rcases h with⟨a,cap,rfl,rfl⟩|⟨b,off,cap,rfl,hE,hlt,h1,h2⟩
 .exact⟨a,cap,rfl,λq=>absurd rfl q⟩
 .exact⟨_,cap,rfl,λ_=>⟨b,off,rfl,hE,hlt,h1,h2⟩⟩
theorem xD4(x y:Nd):∃B:Bool,(B=false↔x=y)/\∀wx,(binOp .neq 83 (.agg #[xi x.f,x.s,x.hi,x.t,xu x.lo,xu x.up,xi x.n]) (.agg #[xi y.f,y.s,y.hi,y.t,xu y.lo,xu y.up,xi y.n])).run prog wx=.ok B wx:=by
 obtain⟨k,s,h,t,l,u,n⟩:=x;obtain⟨k',s',h',t',l',u',n'⟩:=y;refine⟨! decide (k=k'/\s.toList=s'.toList/\h=h'/\t.toList=t'.toList/\l=l'/\u=u'/\n=n'),?_,λwx=>?_⟩
 .rw[Bool.not_eq_eq_eq_not,Bool.not_false,decide_eq_true_eq];constructor
  .rintro⟨rfl,h1,rfl,h2,rfl,rfl,rfl⟩;rw[xEz h1,xEz h2]
  .intro q;cases q
   exact⟨rfl,rfl,rfl,rfl,rfl,rfl,rfl⟩
 .go_simp;repeat' split
  all_goals simp_all
def yI9(bs:List Bk):List Vv:=bs.flatMap Bk.two
theorem yOw(es:List Bk):(yI9 es).length=es.length*2:=yB4 (f:=Bk.two) (λ_=>rfl) es
theorem yX2 es:∀(k:Nat)(e:Bk),es[k]?=some e->∀j,j<2->(yI9 es)[k*2+j]?=e.two[j]?:=yCg (f:=Bk.two) (λ_=>rfl) es
theorem Tryz.infoB:(prog.info? 32).map (λi=>(i.zero,i.size,i.bytes))=some (some (.agg #[xh,xi 0]),2,32):=qk
def RowX(w:Ww)(O:Nat)(v:Vv)(X:List Ix):Prop:=w.ownsRow O 153 11 v X.length (yF2 X)
variable {X:List Ix}
theorem RowX.cases{v:Vv}(h:RowX w O v X):(v=xh/\X= [])\/∃g cp,v=(xg g X.length cp)/\OwnX w O g cp X:=by
 rcases h.2 with⟨h0,h1⟩|⟨g',a0,cur,hv,rest⟩
 .exact xI9
 .subst hv;exact .inr ⟨g',a0,rfl,h⟩
theorem RowX.in{v:Vv}(h:RowX w O v X):yDw w v X:=by
 rcases h.cases with⟨rfl,rfl⟩|⟨g,cp,rfl,hO⟩
 .exact .inl ⟨none,0,rfl,rfl⟩
 .exact yDw.Z hO rfl
theorem RowX.i{v:Vv}(h:RowX w O v X)(hc:Chg S w w')(hn:∀k,v.ownBlock=some k->¬S k):RowX w' O v X:=yAh h hc hn
theorem RowX.k{v:Vv}(h:RowX w O v X)(hb:Below w w w'):RowX w' O v X:=h.i (S:=λ_=>False) (Chg.h hb) (λ_ _ q=>q)
variable {base':Nat}
theorem RowX.low{v:Vv}(h:RowX w O v es)(hb:base'<=O):RowX w base' v es:=by exact yYe
theorem yN7(w:Ww)(O:Nat):RowX w O xh []:=⟨rfl,.inl ⟨rfl,rfl⟩⟩
theorem RowX.blk{v:Vv}(h:RowX w O v X){k:Nat}(hk:v.ownBlock=some k):O<=k/\k<w.heap.size:=by exact xFb
theorem RowX.slice{v:Vv}(h:RowX w O v X):∃a c,v=.slice a X.length c:=by
 exact xJg
def RowB(w:Ww)(O:Nat)(v:Vv)(bs:List Bk):Prop:=w.ownsRow O 32 2 v bs.length (yI9 bs)
theorem RowB.i{v:Vv}{X:List Bk}(h:RowB w O v X)(hc:Chg S w w')(hn:∀k,v.ownBlock=some k->¬S k):RowB w' O v X:=yAh h hc hn
theorem RowB.low{v:Vv}{es:List Bk}(h:RowB w O v es)(hb:base'<=O):RowB w base' v es:=by exact yYe
theorem yU7(w:Ww)(O:Nat):RowB w O xh []:=⟨rfl,.inl ⟨rfl,rfl⟩⟩
theorem RowB.cases{v:Vv}{X:List Bk}(h:RowB w O v X):(v=xh/\X= [])\/∃g cp,v=(xg g X.length cp)/\O<=g/\g<w.heap.size/\X.length<=cp/\cp<=maxLen:=by
 have h':=h;rcases h.2 with⟨h0,h1⟩|⟨g',a1,cur,hv,_,_,hn,a0,_,_⟩
 .exact xI9
 .subst hv;exact .inr ⟨g',a1,rfl,(AF h' g' rfl).1,(AF h' g' rfl).2,hn,a0⟩
theorem RowB.slice{v:Vv}{X:List Bk}(h:RowB w O v X):∃a c,v=.slice a X.length c:=by
 exact xJg
theorem RowB.blk{v:Vv}{X:List Bk}(h:RowB w O v X){k:Nat}(hk:v.ownBlock=some k):O<=k/\k<w.heap.size:=by
 rcases h.cases with⟨rfl,rfl⟩|⟨g,cp,rfl,h1,h2,_⟩
 .simp[AL]at hk
 .simp[AL]at hk;subst hk;exact⟨h1,h2⟩
theorem RowB.z(h:RowB w O (xg g bs.length cp) bs){i:Nat}{x:Bk}(hx:bs[i]?=some x):xk w g (i*2) x.v/\xk w g (i*2+1) (xi x.cnt):=by exact xMf
def Eac(w:Ww)(O:Nat)(bs:List Bk):Prop:=∀x∈bs,RowX w O x.v x.l
theorem yP5{v u:Vv}(h:RowX w O v X)(h':RowB w base' u bs):∀k,v.ownBlock=some k->u.ownBlock≠some k:=yAc h h' qj
theorem RowB.inB(hr:RowB w O cv bs)(he:Eac w O bs):yIr w cv bs:=by
 rcases hr.cases with⟨rfl,rfl⟩|⟨g,cp,rfl,_,h2,h3,h4⟩
 .exact .inl ⟨_,_,rfl,rfl⟩
 .refine .inr ⟨g,0,cp,rfl,λi x hx=>?_,h2,h3,h4⟩;have:=hr.z hx;rw[Ab];exact⟨this.1,this.2,(he x (AE hx)).in⟩
theorem yPf es fs:yC0 (es++fs)=yC0 es++yC0 fs:=by simp[yC0]
theorem yLf{α:Type}{ns:List (List α)}{k:Nat}{y:List α}(h:ns[k]?=some y):(ns.take (k+1)).flatten=(ns.take k).flatten++y:=by rw[AY,h];simp
theorem xBf{α:Type}(ns:List (List α))(k:Nat):(ns.take k).flatten.length<=ns.flatten.length:=by
 have h:ns.flatten=(ns.take k).flatten++(ns.drop k).flatten:=by rw[<-List.flatten_append,AM]
 rw[h,AA];omega
theorem xLn(e:Nd):∀u∈e.seven,u.oneCell'=true:=by intro u h;simp at h;rcases h with rfl|rfl|rfl|rfl|rfl|rfl|rfl<;>rfl
theorem xFx{l:List Nd}(h:yCq w b off l):AtV w b off (yC0 l):=yNf (f:=Nd.seven) (sz:=7) (λ_=>rfl) qj (λi e he j u hu=>by
 obtain⟨c0,c1,c2,c3,c4,c5,c6⟩:=h i e he;match j,hu with
 |0,hu=>cases hu;exact c0
 |1,hu=>cases hu;exact c1
 |2,hu=>cases hu;exact c2
 |3,hu=>cases hu;exact c3
 |4,hu=>cases hu;exact c4
 |5,hu=>cases hu;exact c5
 |6,hu=>cases hu;exact c6) λx _=>xLn x
theorem apNd:ApT 23 83 7 yC0 yBb yCq:=apTG ⟨underlying23,_,_,Tryz.infoNd,rfl,qj,qj⟩ (λ_=>rfl) Iff.rfl xFx
theorem xLx(h:yDf w b off l):AtV w b off (yF2 l):=yNf (f:=Ix.ten) (sz:=11) (λ_=>rfl) qj (λi e he j u hu=>by
 obtain⟨c0,c1,c2,c3,c4,c5,c6,c7,c8,c9,c10⟩:=h i e he;match j,hu with
 |0,hu=>cases hu;exact c0
 |1,hu=>cases hu;exact c1
 |2,hu=>cases hu;exact c2
 |3,hu=>cases hu;exact c3
 |4,hu=>cases hu;exact c4
 |5,hu=>cases hu;exact c5
 |6,hu=>cases hu;exact c6
 |7,hu=>cases hu;exact c7
 |8,hu=>cases hu;exact c8
 |9,hu=>cases hu;exact c9
 |10,hu=>cases hu;exact c10) λx _ u h=>by simp only[Ix.ten,AH,List.mem_nil_iff,or_false]at h;rcases h with rfl|rfl|rfl|rfl|rfl|rfl|rfl|rfl|rfl|rfl|rfl<;>rfl
structure AppX(w w':Ww)(O:Nat)(v v':Vv)(X Y:List Ix):Prop where
 Z:RowX w' O v' (X++Y)
 grown:w.grownBy w' v.ownBlock
 U:v'.ownBlock=v.ownBlock\/v'.ownBlock=some w
theorem yPe l m:yF2 (l++m)=yF2 l++yF2 m:=by simp[yF2]
theorem yK{K:Act->Ww->Prop}(w:Ww)(hgd:oo.guard=none) s x
  (ho:oo.op=.call {callee:=.builtin .append,args:=#[s,x],argTypes:=#[30,30]})
  (O:Nat) (v:Vv) (b off m cx:Nat) (fs es:List Ix) (hs:a.eval s=v) (hx:a.eval x=(xy b off m cx)) (hm:m=es.length) (hO:RowX w O v fs)
  (hc:yDf w b off es) (hlen:fs.length+es.length<=2^30) (hbase:O<=w.heap.size)
  (h:∀v' w',AppX w w' O v v' fs es->K (a.put oo.dst v') w'):if AO oo (yielded ops a.tmps)=true then Oper.wp prog oo a w K Q else E:=by
 subst hm;exact stA hgd (apV ⟨underlying30,_,_,Tryz.infoX,rfl,qj,qj⟩ ho hs hx hO (yOu es) (xLx hc) (Aa hlen qj) hbase λv' w' h1 h2 h3 h4=>h v' w' ⟨by unfold RowX;rw[AA,yPe];exact h1,h2,h4⟩)
structure AppB(w w':Ww)(O:Nat)(v v':Vv)(X Y:List Bk):Prop where
 Z:RowB w' O v' (X++Y)
 grown:w.grownBy w' v.ownBlock
 U:v'.ownBlock=v.ownBlock\/v'.ownBlock=some w
 nil:v'=xh↔v=xh/\Y.length=0
theorem yPh l m:yI9 (l++m)=yI9 l++yI9 m:=by simp[yI9]
def xCn(w:Ww)(b off:Nat)(bs:List Bk):Prop:=∀i x,bs[i]?=some x->xk w b (off+i*2) x.v/\xk w b (off+i*2+1) (xi x.cnt)
theorem xL8{l:List Bk}(h:xCn w b off l)(h1:∀x∈l,x.v.oneCell'=true):AtV w b off (yI9 l):=yNf (f:=Bk.two) (sz:=2) (λ_=>rfl) qj (λi e he j u hu=>by
 obtain⟨c0,c1⟩:=h i e he;match j,hu with
 |0,hu=>cases hu;exact c0
 |1,hu=>cases hu;exact c1) λx hx u h=>by simp at h;rcases h with rfl|rfl;exact h1 x hx;rfl
theorem yKa{K:Act->Ww->Prop}(w:Ww)(hgd:oo.guard=none)(s x:Operand)
  (ho:oo.op=.call {callee:=.builtin .append,args:=#[s,x],argTypes:=#[29,29]})
  (O:Nat) (v:Vv) (b off m cx:Nat) (fs es:List Bk) (hs:a.eval s=v) (hx:a.eval x=(xy b off m cx)) (hm:m=es.length) (hO:RowB w O v fs)
  (hc:xCn w b off es) (h1:∀x∈es,x.v.oneCell'=true) (hlen:fs.length+es.length<=2^30) (hbase:O<=w.heap.size)
  (h:∀v' w',AppB w w' O v v' fs es->K (a.put oo.dst v') w'):if AO oo (yielded ops a.tmps)=true then Oper.wp prog oo a w K Q else E:=by
 subst hm;exact stA hgd (apV ⟨underlying29,_,_,Tryz.infoB,rfl,qj,qj⟩ ho hs hx hO (yOw es) (xL8 hc h1) (Aa hlen qj) hbase λv' w' h1 h2 h3 h4=>h v' w' ⟨by unfold RowB;rw[AA,yPh];exact h1,h2,h4,h3⟩)
structure EmAt(w:Ww)(eb:Nat)(v:Vv)(X:List Ix)(c:Nat):Prop where
 A:yA w eb 79 2 eb [v,xi c]
 j:RowX w (eb+1) v X
variable {eb:Nat}
theorem EmAt.lt{v:Vv}(h:EmAt w eb v X c):eb<w.heap.size:=h.A.lt.2
theorem EmAt.k{v:Vv}(h:EmAt w eb v X c)(hb:Below w w w'):EmAt w' eb v X c:=⟨h.A.k hb,h.j.k hb⟩
def EmS(eb:Nat)(v:Vv)(b:Nat):Prop:=b=eb\/v.ownBlock=some b
structure EmTo(w w':Ww)(eb:Nat)(v v':Vv)(X:List Ix)(c:Nat):Prop where
 U:EmAt w' eb v' X c
 i:Chg (EmS eb v) w w'
 new:∀k,v'.ownBlock=some k->v.ownBlock=some k\/w.heap.size<=k
variable {X1 X2:List Ix}
theorem EmTo.trans{v v1 v2:Vv}(h:EmTo w w1 eb v v1 X1 c1)(k:EmTo w1 w2 eb v1 v2 X2 c2):EmTo w w2 eb v v2 X2 c2:=by
 refine⟨k.U,⟨k.i.os.trans h.i.os,k.i.tape.trans h.i.tape,k.i.output.trans h.i.output,Aa h.i.size k.i.size,λi hi hn=>?_⟩,λi hi=>?_⟩
 .refine(k.i.block i (Nat.lt_of_lt_of_le hi h.i.size) ?_).trans (h.i.block i hi hn);rintro(q|q)
  .exact hn (.inl q)
  .rcases h.new i q with q|q
   .exact hn (.inr q)
   .omega
 .exact xJd
theorem EmTo.h{v:Vv}(h:EmAt w eb v X c)(hb:Below w w w'):EmTo w w' eb v v X c:=⟨h.k hb,Chg.h hb,λk hk=>.inl hk⟩
variable {v':Vv}
variable {X':List Ix}
theorem EmTo.k{v:Vv}(h:EmAt w eb v X c)(k:EmTo w w' eb v v' X' c'):Below eb w w':=
 ⟨k.i.os,k.i.tape,k.i.output,k.i.size,λi hi=>k.i.block i (qw h.lt) (by
  rintro(q|q)
  .omega
  .have:=(h.j.blk q).1;omega)⟩
variable {Y:List Ix}
theorem EmAt.app{v:Vv}(h:EmAt w eb v X c)(hA:AppX w w' (eb+1) v v' X Y):EmTo w (xt w' eb 0 v') eb v v' (X++Y) c:=by
 have hch:Chg (λk=>v.ownBlock=some k) w w':=Chg.M hA.grown (λk hk=>hk);have hne:¬v.ownBlock=some eb:=λq=>qw ((h.j.blk q).1)
 have hbx:=h.A.i hch hne;have hset:Chg (λb=>b=eb) w' (xt w' eb 0 v'):=Chg.D _ _ _ _ rfl;refine⟨⟨?_,hA.Z.i hset (λk hk q=>qw ((hA.Z.blk hk).1))⟩,(hch.mono (λk hk=>.inr hk)).trans (hset.mono (λk hk=>.inl hk)),λk hk=>?_⟩
 .have:=hbx.set 0 v';simpa using this
 .rcases hA.U with q|q
  .rw[q]at hk;exact .inl hk
  .rw[q]at hk;cases hk;exact .inr qr
theorem yGl{v:Vv}(h:EmAt w eb v X c)(x:Ix)(hl:X.length<=100000):Calls prog 85 #[xp eb,x.v] w λr w'=>r=.returned (.tuple #[])/\∃v',EmTo w w' eb v v' (X++ [x]) c:=by
 obtain⟨va,vc,hv⟩:=h.j.slice;obtain⟨vn,hvn⟩:=qE X.length;rw[<-hvn]at hv;subst hv;have HE:=qH1 h;have HL:=qH1 hl;have hlt:=h.lt;clear h hvn hl;obtain⟨W0,hW0⟩:=qW (xw w #[xi x.op,xi x.a,xi x.b,x.free,xi x.leaf.f,x.leaf.s,x.leaf.hi,x.leaf.t,xu x.leaf.lo,xu x.leaf.up,xi x.leaf.n] 153);obtain⟨P,hP⟩:=qE w;have HB0:Hid (yA W0 P 153 11 P x.ten/\Below w w W0/\P=w.heap.size):=by rw[hW0,hP];exact⟨yAa w _ qr rfl,qB,rfl⟩
 have HE0:=qH1 (HE.k HB0.2.1);have q0:=HE0.A.z (j:=0) rfl;have hSd:SW (λw':Ww=>xk w' eb 0 (.slice va vn vc)/\xk w' P 0 (xi x.op)/\xk w' P 1 (xi x.a)/\xk w' P 2 (xi x.b)/\xk w' P 3 x.free/\xk w' P 4 (xi x.leaf.f)/\xk w' P 5 x.leaf.s/\xk w' P 6 x.leaf.hi/\xk w' P 7 x.leaf.t/\xk w' P 8 (xu x.leaf.lo)/\xk w' P 9 (xu x.leaf.up)/\xk w' P 10 (xi x.leaf.n)) W0.drew:=⟨q0,HB0.1.z (j:=0) rfl,HB0.1.z (j:=1) rfl,HB0.1.z (j:=2) rfl,HB0.1.z (j:=3) rfl,HB0.1.z (j:=4) rfl,HB0.1.z (j:=5) rfl,HB0.1.z (j:=6) rfl,HB0.1.z (j:=7) rfl,HB0.1.z (j:=8) rfl,HB0.1.z (j:=9) rfl,HB0.1.z (j:=10) rfl⟩;go_enter func85,ntmps85;go_upto_region 1 with fail;rw[<-hW0,<-hP];clear hW0 hP;refine wpR 12 hSd ?_;refine ja 0 hSd ?_;iterate 6 refine jb hSd ?_
 obtain⟨V1,hV1⟩:=qW ((W0.alloc (AD #[xi x.op,xi x.a,xi x.b,x.free,xi x.leaf.f,x.leaf.s,x.leaf.hi,x.leaf.t,xu x.leaf.lo,xu x.leaf.up,xi x.leaf.n] 153)).drew);obtain⟨G1,hG1⟩:=qE W0;have hbV:Below W0 W0 V1:=by rw[hV1];exact(qB).drew
 have HV:Hid (yDf V1 G1 0 [x]/\EmAt V1 eb (.slice va vn vc) X c/\eb+1<=V1.heap.size):=by refine⟨?_,HE0.k hbV,(HE0.k hbV).lt⟩;rw[hV1,hG1];exact(xDt W0 x).at
 have HBV:=qH1 (HB0.1.k hbV);have HbV:=qH1 (HB0.2.1.trans (hbV.mono HB0.2.1.size));have hS1:=SWm hSd V1 <|⟨HV.2.1.A.z (j:=0) rfl,HBV.z (j:=0) rfl,HBV.z (j:=1) rfl,HBV.z (j:=2) rfl,HBV.z (j:=3) rfl,HBV.z (j:=4) rfl,HBV.z (j:=5) rfl,HBV.z (j:=6) rfl,HBV.z (j:=7) rfl,HBV.z (j:=8) rfl,HBV.z (j:=9) rfl,HBV.z (j:=10) rfl⟩;clear hbV;refine qO 7 rfl λK hK=>?_;go_simp;rw[<-hV1,<-hG1];clear hV1 hG1;refine hK.out _ _ (.inr hS1) (jS ?_);clear hK;refine qO 8 rfl λK hK=>?_;refine yK _ rfl _ _ rfl (eb+1) (.slice va vn vc) G1 0 1 1 X [x] rfl rfl rfl HV.2.1.j HV.1 (by have:=HL.out;simp;omega) HV.2.2 ?_;intro v' w2 hA;have HT:=qH1 (HV.2.1.app hA);have hgr:=Chg.M hA.grown (λk hk=>hk);have HB2:=qH1 (HV.2.1.A.i hgr (λq=>qw ((HV.2.1.j.blk q).1)));have HB3:=qH1 (HBV.i hgr (λq=>by have:=(HE.j.blk q).2;rw[<-HB0.2.2]at this;omega));have hS2:=SWm hS1 w2 <|⟨HB2.z (j:=0) rfl,HB3.z (j:=0) rfl,HB3.z (j:=1) rfl,HB3.z (j:=2) rfl,HB3.z (j:=3) rfl,HB3.z (j:=4) rfl,HB3.z (j:=5) rfl,HB3.z (j:=6) rfl,HB3.z (j:=7) rfl,HB3.z (j:=8) rfl,HB3.z (j:=9) rfl,HB3.z (j:=10) rfl⟩;obtain⟨a9,c9,hv9⟩:=hA.Z.slice;obtain⟨n9,hn9⟩:=qE ((X++ [x]).length);rw[<-hn9]at hv9;clear hn9;subst hv9;clear hA hgr;refine hK.out _ _ (.inr hS2) (jS ?_);clear hK;refine kO 9 hS2 ?_;refine kO 10 hS2 ?_;refine kO 11 hS2 ?_;have z0:=HB2.frozen 0;have e0:=HB2.z (j:=0) rfl;refine kL 12 ?_;refine qD ?_;go_wp2_with fail;refine As (Au rfl _ _ _) rfl ?_;exact⟨rfl,_,(EmTo.h HE.out HbV.out).trans HT.out⟩
structure yUh(w:Ww)(P1 P3 eb k:Nat):Prop where
 e:yA w P1 76 1 P1 [xp eb]
 U:yA w P3 3 1 P3 [xi k]
theorem xB5{t P:Nat}{v:Vv}(h:yA w O t sz P vs)(hE:EmAt w eb v X c)(h1:t≠79)(h2:t≠153):¬EmS eb v P:=by
 rintro(q|q)
 .have:=yAc h hE.A h1 P rfl;rw[q]at this;exact this rfl
 .exact yAc h hE.j h2 P rfl q
theorem yUh.K{k:Nat}{v:Vv}(h:yUh w P1 P3 eb k)(hE:EmAt w eb v X c)(hT:EmTo w w' eb v v' X' c'):yUh w' P1 P3 eb k:=
 ⟨h.e.i hT.i (xB5 h.e hE qj qj),h.U.i hT.i (xB5 h.U hE qj qj)⟩
abbrev labV(P1 P3:Nat):Vv:=.func (Fn.func 140) #[] #[xp P1,xp P3]
theorem EmAt.jump{k:Nat}{y:Ix}(h:EmAt w eb (xg g n cp) X c)(hk:X[k]?=some y)(b:Int):
  EmTo w (xt w g (k*11+2) (xi b)) eb (xg g n cp) (xg g n cp) (X.set k {y with b:=b}) c:=by
 have hn:n=X.length:=by have⟨a,c',hv⟩:=h.j.slice;cases hv;rfl
 subst hn;have hO:OwnX w (eb+1) g cp X:=h.j;have hg:=hO.lt;have hch:Chg (λb=>b=g) w (xt w g (k*11+2) (xi b)):=Chg.D _ _ _ _ rfl;refine⟨⟨h.A.i hch (by omega),?_⟩,hch.mono (λj hj=>.inr (by subst hj;rfl)),λj hj=>.inl hj⟩;have:=hO.set k 2 y {y with b:=b} (xi b) hk (by omega) rfl;unfold RowX;unfold OwnX at this;rw[List.length_set]at this|-;exact this
theorem yNa{k:Nat}{v:Vv}{y:Ix}(h:EmAt w eb v X c)(hL:yUh w P1 P3 eb k)(hk:X[k]?=some y)(hl:X.length<=100000):Calls prog 140 #[xp P1,xp P3] w λr w'=>r=.returned (.tuple #[])/\EmTo w w' eb v v (X.set k {y with b:=(X.length:Int)}) c:=by
 have hkl:=qf hk;rcases h.j.cases with⟨_,h0⟩|⟨g,cp,hv,hO⟩
 .rw[h0]at hkl;simp at hkl
 subst hv;obtain⟨n,hn⟩:=qE X.length;rw[<-hn]at hkl hl h;have HJ:Hid (EmTo w (xt w g (k*11+2) (xi n)) eb (xg g n cp) (xg g n cp) (X.set k {y with b:=(n:Int)}) c):=h.jump hk _;have hcp:=hO.caps;rw[<-hn]at hcp;have HX:=qH3 hO hk hn;have HB:Hid (EmAt w eb (xg g n cp) X c/\yUh w P1 P3 eb k):=⟨h,hL⟩;have zk:(k:Int)<(n:Int):=by omega
 have hSd:SW (λw':Ww=>xk w' eb 0 (xg g n cp)/\xk w' P1 0 (xp eb)/\xk w' P3 0 (xi k)) w.drew:=⟨h.A.z (j:=0) rfl,hL.e.z (j:=0) rfl,hL.U.z (j:=0) rfl⟩;have cb:(xk w g (k*11+2) (xi y.b):Prop):=by have:=(hO.at k y hk).2.2.1;simpa using this
 have fb:w.frozen? (xd g (k*11+2))=false:=Ac hO _;rw[<-hn];clear h hL hk hn hO;go_enter func140,ntmps140;refine wpR 14 hSd ?_;refine ja 0 hSd ?_;iterate 11 refine jb hSd ?_
 refine kO 12 hSd ?_;refine kO 13 hSd ?_;refine kL 14 ?_;refine qD ?_;go_wp2_with fail;refine As (Au rfl _ _ _) rfl ?_;exact⟨rfl,HJ.trans (EmTo.h HJ.U ((Below.refl _ _).drew))⟩
def JmpP(w:Ww)(eb c:Nat)(v:Vv)(X:List Ix)(x:Ix)(r:Ae)(w':Ww):Prop:=∃P1 P3 v',r=.returned (labV P1 P3)/\yUh w' P1 P3 eb X.length/\EmTo w w' eb v v' (X++ [x]) c
theorem yJb{v:Vv}(h:EmAt w eb v X c)(x:Ix)(hl:X.length<=100000):Calls prog 86 #[xp eb,x.v] w (JmpP w eb c v X x):=by
 have⟨va,vc,hv⟩:=h.j.slice;have⟨vn,hvn⟩:=qE X.length;rw[<-hvn]at hv;subst hv;have HE:=qH2 h hvn;have HL:=qH1 hl;clear h hvn hl;have⟨W0,hW0⟩:=qW (xw (w.alloc (AD #[xp eb] 76)) #[xi x.op,xi x.a,xi x.b,x.free,xi x.leaf.f,x.leaf.s,x.leaf.hi,x.leaf.t,xu x.leaf.lo,xu x.leaf.up,xi x.leaf.n] 153);have⟨P1,hP1⟩:=qE w;have⟨P2,hP2⟩:=qE (w.heap.size+1);have z1:(w.alloc (AD #[.pointer (some ⟨eb,0,none⟩)] 76)).heap.size=w+1:=by simp
 have HB0:Hid (yA W0 P1 76 1 P1 [.pointer (some ⟨eb,0,none⟩)]/\yA W0 P2 153 11 P2 x.ten/\Below w.heap.size w W0):=by have hb2:=yAa (w.alloc (AD #[.pointer (some ⟨eb,0,none⟩)] 76)) (O:=w.heap.size+1) (t:=153) (sz:=11) #[.int .i64 x.op,.int .i64 x.a,.int .i64 x.b,.bool x.free,.int .i64 x.leaf.f,.string x.leaf.s,.bool x.leaf.hi,.string x.leaf.t,.int .u64 x.leaf.lo,.int .u64 x.leaf.up,.int .i64 x.leaf.n] (z1▸AG _) rfl;rw[z1]at hb2;rw[hW0,hP1,hP2];exact⟨(yAa w _ (AG _) rfl).k (qB),hb2,(qB).alloc (by simp) _⟩
 clear z1;have HE0:=qH1 (HE.1.k HB0.2.2);have q0:=HE0.A.z (j:=0) rfl;have q1:=HB0.1.z (j:=0) rfl;have⟨W1,hW1⟩:=qW (W0.alloc (AD #[.int .i64 (vn:Int)] 3));have⟨P3,hP3⟩:=qE W0.heap.size;have hbA:Below W0 W0 W1:=hW1▸qB
 have HB1:Hid (yA W1 P3 3 1 P3 [.int .i64 (vn:Int)]/\yA W1 P1 76 1 P1 [.pointer (some ⟨eb,0,none⟩)]/\yA W1 P2 153 11 P2 x.ten/\EmAt W1 eb (.slice va vn vc) X c/\Below w.heap.size w W1):=by refine⟨?_,HB0.1.k hbA,HB0.2.1.k hbA,HE0.k hbA,HB0.2.2.trans (hbA.mono HB0.2.2.size)⟩;rw[hW1,hP3];exact yAa W0 _ (AG _) rfl
 clear hbA;go_enter func86,ntmps86;go_upto_region 1 with fail;rw[<-hW0,<-hP2,<-hP1];clear hW0 hP1 hP2;go_upto_region 2 with fail;rw[<-hW1,<-hP3];clear hW1 hP3 q0 q1;have q1:=HB1.2.1.z (j:=0) rfl;have d0:=HB1.2.2.1.z (j:=0) rfl;have d1:=HB1.2.2.1.z (j:=1) rfl;have d2:=HB1.2.2.1.z (j:=2) rfl;have d3:=HB1.2.2.1.z (j:=3) rfl;have d4:=HB1.2.2.1.z (j:=4) rfl;have d5:=HB1.2.2.1.z (j:=5) rfl;have d6:=HB1.2.2.1.z (j:=6) rfl;have d7:=HB1.2.2.1.z (j:=7) rfl;have d8:=HB1.2.2.1.z (j:=8) rfl;have d9:=HB1.2.2.1.z (j:=9) rfl;have d10:=HB1.2.2.1.z (j:=10) rfl;go_wp2_with fail;apply (yGl HB1.2.2.2.1 x HL.out).mono;rintro r w2 ⟨rfl,v',hT⟩;have HR:Hid (JmpP w eb c (.slice va vn vc) X x (.returned (labV P1 P3)) w2):=by have hl:yUh W1 P1 P3 eb X.length:=⟨HB1.2.1,by rw[<-HE.2];exact HB1.1⟩;exact⟨P1,P3,v',rfl,hl.K HB1.2.2.2.1 hT,(EmTo.h HE.1 HB1.2.2.2.2).trans hT⟩
 clear hT q1 d0 d1 d2 d3 d4 d5 d6 d7 d8 d9 d10;go_wp2_with fail;go_ret;exact HR
theorem xA4(k:Int) w:Calls prog 141 #[xi k] w λr w'=>r=.returned (yDg k)/\w'=w:=by
 go_enter func141,ntmps141;go_wp2_with fail;all_goals go_ret
 all_goals exact⟨by(have e0:yDg k=(k==11 || k==12 || k==13):=by simp only[yDg,Bool.decide_or,Bool.or_assoc];rfl);rw[e0];simp_all,rfl⟩
theorem EmAt.count{v:Vv}(h:EmAt w eb v X c)(c':Nat):EmTo w (xt w eb 1 (xi c')) eb v v X c':=by have hset:Chg (λb=>b=eb) w (xt w eb 1 (xi c')):=Chg.D _ _ _ _ rfl;refine⟨⟨?_,h.j.i hset (λk hk q=>qw ((h.j.blk hk).1))⟩,hset.mono (λk hk=>.inl hk),λk hk=>.inl hk⟩;have:=h.A.set 1 (xi c');simpa using this
theorem yYa{n:Nd}{k:Nat}{f:Bool}(h:yDg n.f=false):absG k c [⟨1,0,0,f,n⟩]= [⟨1,0,0,f,n⟩]/\cntL [⟨1,0,0,f,n⟩]=0:=by simp[absG,fixI,cntL,cntI,h]
theorem yUc{n:Nd}{k:Nat}{f:Bool}(h:yDg n.f=true):absG k c [⟨1,0,0,f,n⟩]= [⟨1,(c:Int),0,f,n⟩]/\cntL [⟨1,0,0,f,n⟩]=1:=by simp[absG,fixI,cntL,cntI,h]
def xCp(w:Ww)(eb c:Nat)(v:Vv)(X:List Ix)(n:Nd)(s:Bool)(r:Ae)(w':Ww):Prop:=∃v',r=.returned (s || yDg n.f)/\EmTo w w' eb v v' (X++absG X.length c [⟨1,0,0, !s,n⟩]) (c+cntL [⟨1,0,0, !s,n⟩])
theorem yR2{v:Vv}(h:EmAt w eb v X c)(n:Nd)(s:Bool)(hl:X.length<=100000)(hc:c<=100000):Calls prog 87 #[xp eb,n.v,s] w (xCp w eb c v X n s):=by
 have HE:=qH1 h;have HL:=qH1 hl;clear h hl;have⟨W1,hW1⟩:=qW (xw (w.alloc (AD #[xi n.f,n.s,n.hi,n.t,xu n.lo,xu n.up,xi n.n] 83)) #[xi 1,xi 0,xi 0,(!s),xi n.f,n.s,n.hi,n.t,xu n.lo,xu n.up,xi n.n] 153);have⟨P1,hP1⟩:=qE w;have⟨P2,hP2⟩:=qE (w.heap.size+1);have z1:(w.alloc (AD #[xi n.f,n.s,n.hi,n.t,xu n.lo,xu n.up,.int .i64 n.n] 83)).heap.size=w+1:=by simp
 have HB1:Hid (yA W1 P1 83 7 P1 [.int .i64 n.f,.string n.s,.bool n.hi,.string n.t,.int .u64 n.lo,.int .u64 n.up,.int .i64 n.n]/\yA W1 P2 153 11 P2 (Ix.ten ⟨1,0,0, !s,n⟩)/\Below w.heap.size w W1/\w<=P2):=by have hb2:=yAa (w.alloc (AD #[.int .i64 n.f,.string n.s,.bool n.hi,.string n.t,.int .u64 n.lo,.int .u64 n.up,.int .i64 n.n] 83)) (O:=w.heap.size+1) (t:=153) (sz:=11) #[.int .i64 1,.int .i64 0,.int .i64 0,.bool (!s),.int .i64 n.f,.string n.s,.bool n.hi,.string n.t,.int .u64 n.lo,.int .u64 n.up,.int .i64 n.n] (z1▸AG _) rfl;rw[z1]at hb2;rw[hW1,hP1,hP2];exact⟨(yAa w _ (AG _) rfl).k (qB),hb2,(qB).alloc (by simp) _,qo⟩
 clear z1;have HE1:=qH1 (HE.k HB1.2.2.1);have HOf:Hid (∀k,v.ownBlock=some k->k≠P2):=λk hk q=>qv ((HE.j.blk hk).2) HB1.2.2.2
 have HeP:Hid (¬eb=P2):=λq=>qv HE.lt HB1.2.2.2
 go_enter func87,ntmps87;go_upto_region 2 with fail;rw[<-hW1,<-hP2,<-hP1];clear hW1 hP1 hP2;have q0:=HB1.1.z (j:=0) rfl;go_wp2_with fail;apply (xA4 n.f W1).mono;rintro r w1' ⟨rfl,hw1⟩;rw[hw1];clear hw1 q0;have⟨ct,hct⟩:=qE (yDg n.f);rw[<-hct];have HCt:=qH1 hct;clear hct;cases ct
 case false=>
  have HY:Hid (absG X.length c [⟨1,0,0, !s,n⟩]= [⟨1,0,0, !s,n⟩]/\cntL [⟨1,0,0, !s,n⟩]=0):=yYa HCt.symm;have d0:=HB1.2.1.z (j:=0) rfl;have d1:=HB1.2.1.z (j:=1) rfl;have d2:=HB1.2.1.z (j:=2) rfl;have d3:=HB1.2.1.z (j:=3) rfl;have d4:=HB1.2.1.z (j:=4) rfl;have d5:=HB1.2.1.z (j:=5) rfl;have d6:=HB1.2.1.z (j:=6) rfl;have d7:=HB1.2.1.z (j:=7) rfl;have d8:=HB1.2.1.z (j:=8) rfl;have d9:=HB1.2.1.z (j:=9) rfl;have d10:=HB1.2.1.z (j:=10) rfl;go_wp2_with fail;apply (yGl HE1.out ⟨1,0,0, !s,n⟩ HL.out).mono;rintro r w2 ⟨rfl,v',hT⟩;have HR:Hid (xCp w eb c v X n s (.returned s) w2):=by refine⟨v',by rw[<-HCt];simp,?_⟩;rw[HY.1,HY.2];exact(EmTo.h HE HB1.2.2.1).trans hT
  exact xI8
 case true=>
  have HY:Hid (absG X.length c [⟨1,0,0, !s,n⟩]= [⟨1,(c:Int),0, !s,n⟩]/\cntL [⟨1,0,0, !s,n⟩]=1):=yUc HCt.symm;have q1:=HE1.A.z (j:=1) rfl;have q2:=HB1.2.1.z (j:=1) rfl;have f2:=HB1.2.1.frozen 1;have⟨W2,hW2⟩:=qE (xt W1 P2 1 (xi c):Ww);have hset:Chg (λb=>b=P2) W1 W2:=hW2▸(Chg.D _ _ _ _ rfl)
  have HE2:Hid (EmAt W2 eb v X c/\yA W2 P2 153 11 P2 (Ix.ten ⟨1,(c:Int),0, !s,n⟩)/\Below w w W2):=by
   refine⟨⟨HE1.A.i hset HeP,HE1.j.i hset (λk hk q=>HOf k hk q)⟩,?_,?_⟩
   .rw[hW2];exact HB1.2.1.set 1 _
   .rw[hW2];exact yAb HB1.2.2.1 HB1.2.2.2 _ _
  clear hset;go_upto_region 4 with fail;rw[<-hW2];clear hW2 q1 q2 f2;have q1:=HE2.1.A.z (j:=1) rfl;have f2:=HE2.1.A.frozen 1;have⟨W3,hW3⟩:=qE (xt W2 eb 1 (xi ((c:Int)+1)):Ww);have HE3:Hid (EmTo W2 W3 eb v v X (c+1)/\yA W3 P2 153 11 P2 (Ix.ten ⟨1,(c:Int),0, !s,n⟩)):=by rw[hW3];refine⟨by have:=HE2.1.count (c+1);rwa [Int.natCast_add]at this,HE2.2.1.Q (λq=>HeP q.symm) _ _⟩
  go_upto_region 5 with fail;rw[<-hW3];clear hW3 q1 f2;have d0:=HE3.2.z (j:=0) rfl;have d1:=HE3.2.z (j:=1) rfl;have d2:=HE3.2.z (j:=2) rfl;have d3:=HE3.2.z (j:=3) rfl;have d4:=HE3.2.z (j:=4) rfl;have d5:=HE3.2.z (j:=5) rfl;have d6:=HE3.2.z (j:=6) rfl;have d7:=HE3.2.z (j:=7) rfl;have d8:=HE3.2.z (j:=8) rfl;have d9:=HE3.2.z (j:=9) rfl;have d10:=HE3.2.z (j:=10) rfl;go_wp2_with fail;apply (yGl HE3.1.U ⟨1,(c:Int),0, !s,n⟩ HL.out).mono;rintro r w2 ⟨rfl,v',hT⟩;have HR:Hid (xCp w eb c v X n s (.returned true) w2):=by refine⟨v',by rw[<-HCt];simp,?_⟩;rw[HY.1,HY.2];exact((EmTo.h HE HE2.2.2).trans HE3.1).trans hT
  exact xI8
abbrev ptrV(p:Nat):Vv:=(xp p)
abbrev xMn(n:Nd)(v:Vv)(k:Int):List Vv:= [.int .i64 n.f,.string n.s,.bool n.hi,.string n.t,.int .u64 n.lo,.int .u64 n.up,.int .i64 n.n,v,.int .i64 k]
def BoxT(w:Ww)(O p:Nat)(n:Nd)(v:Vv)(k:Int):Prop:=yA w O 149 9 p (xMn n v k)
def PRow(w:Ww)(O q cq:Nat)(ps:List Nat):Prop:=w.ownsRow O 71 1 (xg q ps.length cq) ps.length (ps.map ptrV)
def TrAt(w:Ww):CT->Nat->Nat->Nat->Option Nat->Prop
 | .leaf n,lo,hi,p,_=>yAk n.f=0/\∃v k,BoxT w lo p n v k/\p<hi
 | .chain n a b,lo,hi,p,f=>n.f=14/\∃m m2 pa pb q cq k,TrAt w a lo m pa f/\TrAt w b m m2 pb (f.map (· +a.J))/\lo<=m/\m<=m2/\BoxT w m2 p n (xg q 2 cq) k/\PRow w m2 q cq [pa,pb]/\p<hi/\q<hi
 | .inter n a b,lo,hi,p,f=>n.f=15/\∃m m2 pa pb q cq k,TrAt w a lo m pa f/\TrAt w b m m2 pb (f.map (· +a.J))/\lo<=m/\m<=m2/\BoxT w m2 p n (xg q 2 cq) k/\PRow w m2 q cq [pa,pb]/\p<hi/\q<hi
 | .cond n a b c,lo,hi,p,f=>n.f=16/\∃m m2 m3 pa pb pc q cq k,TrAt w a lo m pa f/\TrAt w b m m2 pb (f.map (· +a.J+1))/\TrAt w c m2 m3 pc (f.map (· +a.J+1+b.J))/\lo<=m/\m<=m2/\m2<=m3/\BoxT w m3 p n (xg q 3 cq) k/\PRow w m3 q cq [pa,pb,pc]/\p<hi/\q<hi/\∀f0,f=some f0->k=((f0+a.J:Nat):Int)
variable {cq:Nat} {ps:List Nat}
theorem PRow.i(h:PRow w O q cq ps)(hc:Chg S w w')(hn:¬S q):PRow w' O q cq ps:=yAh h hc (λk hk=>by simp[AL]at hk;subst hk;exact hn)
theorem PRow.lt(h:PRow w O q cq ps):O<=q/\q<w.heap.size:=AF h q rfl
variable {p:Nat}
theorem PRow.z(h:PRow w O q cq ps)(hj:ps[j]?=some p):(xk w q j (ptrV p):Prop):=by have hl:=qf hj;rw[AI h j qo,Aj,hj];rfl
theorem PRow.caps(h:PRow w O q cq ps):ps.length<=cq/\cq<=maxLen:=by exact yNn
theorem TrAt.i(hc:Chg S w w'):∀{t:CT}{lo hi p:Nat}{f:Option Nat},TrAt w t lo hi p f->(∀b,lo<=b->b<hi->¬S b)->TrAt w' t lo hi p f:=by
 intro t;induction t with
 |leaf n=>intro lo hi p f h hS;obtain⟨h0,v,k,hb,hp⟩:=h;exact⟨h0,v,k,hb.i hc (hS p hb.lt.1 hp),hp⟩
 |chain n a b ha hb'|inter n a b ha hb'=>
  intro lo hi p f h hS;obtain⟨h0,m,m2,pa,pb,q,cq,k,h1,h2,l1,l2,hb,hr,hp,hq⟩:=h;have:=hb.lt;have:=hr.lt;exact⟨h0,m,m2,pa,pb,q,cq,k,ha h1 (λb h3 h4=>hS b h3 qo),hb' h2 (λb h3 h4=>hS b qo qo),l1,l2,hb.i hc (hS p qo hp),hr.i hc (hS q qo hq),hp,hq⟩
 |cond n a b c ha hb' hc'=>
  intro lo hi p f h hS;obtain⟨h0,m,m2,m3,pa,pb,pc,q,cq,k,h1,h2,h3,l1,l2,l3,hb,hr,hp,hq,hk⟩:=h;have:=hb.lt;have:=hr.lt;exact⟨h0,m,m2,m3,pa,pb,pc,q,cq,k,ha h1 (λb h3 h4=>hS b h3 qo),hb' h2 (λb h3 h4=>hS b qo qo),hc' h3 (λb h3 h4=>hS b qo qo),l1,l2,l3,hb.i hc (hS p qo hp),hr.i hc (hS q qo hq),hp,hq,hk⟩
theorem TrAt.k(h:TrAt w t lo hi p f)(hb:Below B w w')(hB:hi<=B)(hs:B<=w.heap.size):TrAt w' t lo hi p f:=
 h.i (S:=λb=>B<=b) ⟨hb.os,hb.tape,hb.output,hb.size,λk hk hn=>hb.block k qo⟩ (λb h1 h2 h3=>qo)
theorem TrAt.high{hi':Nat}(h:TrAt w t lo hi p f)(hh:hi<=hi'):TrAt w t lo hi' p f:=by
 cases t with
 |leaf n=>obtain⟨h0,v,k,hb,hp⟩:=h;exact⟨h0,v,k,hb,qo⟩
 |chain n a b|inter n a b=>obtain⟨h0,m,m2,pa,pb,q,cq,k,h1,h2,l1,l2,hb,hr,hp,hq⟩:=h;exact⟨h0,m,m2,pa,pb,q,cq,k,h1,h2,l1,l2,hb,hr,qo,qo⟩
 |cond n a b c=>obtain⟨h0,m,m2,m3,pa,pb,pc,q,cq,k,h1,h2,h3,l1,l2,l3,hb,hr,hp,hq,hk⟩:=h;exact⟨h0,m,m2,m3,pa,pb,pc,q,cq,k,h1,h2,h3,l1,l2,l3,hb,hr,qo,qo,hk⟩
def EmP(w:Ww)(eb c:Nat)(v:Vv)(X:List Ix)(t:CT)(s:Bool)(f:Nat)(r:Ae)(w':Ww):Prop:=∃v',r=.returned (s || t.passes)/\EmTo w w' eb v v' (X++absG X.length c (t.gen s f)) (c+cntL (t.gen s f))
def EmC(t:CT):Prop:=∀(w:Ww)(lo hi p f eb c:Nat)(v:Vv)(X:List Ix)(s:Bool),TrAt w t lo hi p (some f)->EmAt w eb v X c->hi<=eb->X.length+3*t.size<=50000->c+t.size<=50000->f+t.J<=50000->
 Calls prog 39 #[ptrV p,ptrV eb,s] w (EmP w eb c v X t s f)
theorem yUd{o:Int}(h1:o≠1)(h5:o≠5)(h6:o≠6)(k c:Nat):absG k c [opI o]= [opI o]/\cntL [opI o]=0:=by simp[absG,fixI,opI,cntL,cntI,h1,h5,h6]
def yCx(l:List Ix):Int×List Ix:=((cntL l:Nat),absG 0 0 l)
variable {cs:List Bk}
theorem Eac.grown{v:Vv}(h:Eac w O bs)(hB:RowB w base' v cs)(hg:w.grownBy w' v.ownBlock):Eac w' O bs:=λx hx=>
 (h x hx).i (S:=λk=>v.ownBlock=some k) (Chg.M hg (λk hk=>hk)) (λk hk q=>yP5 (h x hx) hB k hk q)
structure Cds(w0 w:Ww)(v:Vv)(X:List (List Ix))(bs:List Bk):Prop where
 j:RowB w w0 v bs
 each:Eac w w0 bs
 view:bs.map Bk.vw=X.map yCx
 k:Below w0 w0 w
theorem xFn(h:yLx xs y):y≠ []:=by
 have gen:∀(n:Nat){y xs:List Nd},xs.length<=n->yLx xs y->y≠ []:=by
  intro n;induction n with
  |zero=>
   intro y xs hn h;obtain⟨ys,e,os,rfl,_⟩:=TrV.inv _ h;simp at hn
  |succ n ih=>
   intro y xs hn h;obtain⟨ys,e,os,rfl,_,h2,rfl⟩:=TrV.inv _ h;obtain⟨ks,rfl,hK⟩:=TrV.kids _ h2;simp only[AA,AB]at hn;have hne:∀x∈os,x≠ []:=λx hx=>by
    obtain⟨j,hj⟩:=Am hx;have hjl:=qf hj;obtain⟨k,hk⟩:∃k,ks[j]?=some k:=qg (qw (KidV.length _ hK));obtain⟨x',hx',ht⟩:=KidV.nth _ hK hk;rw[hj]at hx';cases hx'
    have:=yDl (AE hk);exact ih qo ht
   unfold normOf;split
   .rename_i a b;repeat' split
    all_goals first|(simp;done)|exact hne _ (by simp)
   .rename_i p a b;repeat' split
    all_goals first|(simp;done)|exact hne _ (by simp)
   .simp
 exact gen _ qr h
end Go.Proofs.YtnnagkfoiganfaaGreatDoor
