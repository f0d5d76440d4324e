import Derived.Test.YtnnagkfoiganfaaGreatDoorRkAD
import Derived.Test.YtnnagkfoiganfaaGreatDoorRkAC
import Derived.Test.YtnnagkfoiganfaaGreatDoorRkAB
namespace Go.Proofs.YtnnagkfoiganfaaGreatDoor
open Go.ChangeShapes Go.WideShapes Go.ChangeAt Go.RowKit Go.Deep XD XI XU XG XP XK XW XT XF XE XH _root_.List _root_.Nat Go.Proofs.Tryz
set_option linter.unusedVariables false
set_option linter.unusedSimpArgs false
set_option maxRecDepth 100000
set_option maxHeartbeats 40000000
set_option linter.unnecessarySimpa false
def mixL(R S:PS)(k:Nat):List Value:= [.int .u64 (if 0<k then(wdN R 0:Int)else(wdN S 0:Int)),.int .u64 (if 1<k then(wdN R 1:Int)else(wdN S 1:Int)),.int .u64 (if 2<k then(wdN R 2:Int)else(wdN S 2:Int)),.int .u64 (if 3<k then(wdN R 3:Int)else(wdN S 3:Int))]
theorem yPy R S:mixL R S 0=psL S:=by simp[mixL,psL]
theorem yU6 R S:mixL R S 4=psL R:=by simp[mixL,psL]
theorem yY4 R S {k:Nat} (hk:k<4):(mixL R S k)[k]?=some (.int .u64 (wdN S k:Int)):=by rcases(by omega:k=0\/k=1\/k=2\/k=3)with rfl|rfl|rfl|rfl<;>simp[mixL]
theorem yU5 R S {k:Nat} (hk:k<4):(mixL R S k).set k (xu (wdN R k))=mixL R S (k+1):=by rcases(by omega:k=0\/k=1\/k=2\/k=3)with rfl|rfl|rfl|rfl<;>simp[mixL]
theorem xDe S {k:Nat} (hk:k<4):(psL S)[k]?=some (.int .u64 (wdN S k:Int)):=by rcases(by omega:k=0\/k=1\/k=2\/k=3)with rfl|rfl|rfl|rfl<;>simp[psL]
abbrev z4:Array Value:=#[.int .u64 0,.int .u64 0,.int .u64 0,.int .u64 0]
theorem yDa S T (w:World):(xf 247 #[psV S,psV T] w (psV (sOr S T)):Prop):=by
 have HI:=qH1 (box3 (w:=w) (a:=(psL S).toArray) (s:=328) (b:=(psL T).toArray) (t:=328) (c:=z4) (u:=328) rfl)
 go_enter func247,ntmps247;go_wp2_with fail;go_loopw[6] (λiv wr=>∃k:Nat,k<=4/\iv=(xi k)/\Hid (yA wr w 328 4 w (mixL (sOr S T) S k)/\yA wr w 328 4 (w+1) (psL T)/\yA wr w 328 4 (w+1+1) z4.toList/\Below w w wr)) (λiv _=>4-(intOf iv).toNat);case atStart=>exact⟨0,qo,rfl,by rw[yPy];exact HI.out⟩
 case round=>
  clear HI;obtain⟨k,hk,rfl,HJ⟩:=hrel;by_cases hlt:k<4
  .have zk:(k:Int)<4:=qo
   have c0:=HJ.1.cell (yY4 (sOr S T) S hlt);have c1:=HJ.2.1.cell (xDe T hlt);have f0:=HJ.1.frozen k;have wo:=xIo S T k;go_upto_region 4 with fail;refine yAf 8 (λwz=>xk wz w k (xu (wdN S k))/\xk wz (w+1) k (xu (wdN T k))) qk ?_;refine ja 0 ⟨by simpa using c0,by simpa using c1⟩ ?_;iterate 7 refine jb ⟨by simpa using c0,by simpa using c1⟩ ?_
   refine qO 8 rfl λK hK=>?_;go_simp;refine hK.out _ _ (.inl rfl) ?_;clear hK;refine jS ?_;refine qD ?_;have a0:Hid (yA (xt wr.drew w k (xu (wdN (sOr S T) k))) w 328 4 w (mixL (sOr S T) S (k+1))/\yA (xt wr.drew w k (xu (wdN (sOr S T) k))) w 328 4 (w+1) (psL T)/\yA (xt wr.drew w k (xu (wdN (sOr S T) k))) w 328 4 (w+1+1) z4.toList/\Below w w (xt wr.drew w k (xu (wdN (sOr S T) k)))):=by have kd:Below wr wr wr.drew:=(Below.refl _ _).drew;refine⟨?_,(HJ.2.1.below kd).beside qo _ _,(HJ.2.2.1.below kd).beside qo _ _,yAc HJ.2.2.2.drew qr _ _⟩;rw[<-yU5 _ _ hlt];exact(HJ.1.below kd).set k _
   go_wp2_with fail;refine⟨⟨k+1,qo,by go_num,a0⟩,?_⟩;go_light;simp[intOf];omega
  .obtain rfl:k=4:=qo
   rw[yU6]at HJ;obtain⟨c0,c1,c2,c3⟩:=HJ.1.c4;obtain⟨d0,d1,d2,d3⟩:=HJ.2.2.1.c4;obtain⟨f0,f1,f2,f3⟩:=HJ.2.2.1.f4;have a1:=HJ.2.2.1.lt.2;go_wp2_with fail;refine bodyPost_ret (v:=psV (sOr S T)) (by simp[results,results247,go_sem,d0,d1,d2,d3]) rfl ⟨rfl,?_⟩;repeat (first|exact HJ.2.2.2|refine Below.drew ?_|refine yAc ?_ qo _ _)
theorem yKj S T (w:World):(xf 234 #[psV S,psV T] w (psV (sAnd S T)):Prop):=by
 have HI:=qH1 (box3 (w:=w) (a:=(psL S).toArray) (s:=328) (b:=(psL T).toArray) (t:=328) (c:=z4) (u:=328) rfl)
 go_enter func234,ntmps234;go_wp2_with fail;go_loopw[6] (λiv wr=>∃k:Nat,k<=4/\iv=(xi k)/\Hid (yA wr w 328 4 w (mixL (sAnd S T) S k)/\yA wr w 328 4 (w+1) (psL T)/\yA wr w 328 4 (w+1+1) z4.toList/\Below w w wr)) (λiv _=>4-(intOf iv).toNat);case atStart=>exact⟨0,qo,rfl,by rw[yPy];exact HI.out⟩
 case round=>
  clear HI;obtain⟨k,hk,rfl,HJ⟩:=hrel;by_cases hlt:k<4
  .have zk:(k:Int)<4:=qo
   have c0:=HJ.1.cell (yY4 (sAnd S T) S hlt);have c1:=HJ.2.1.cell (xDe T hlt);have f0:=HJ.1.frozen k;have wo:=xHc S T k;go_upto_region 4 with fail;refine yAf 8 (λwz=>xk wz w k (xu (wdN S k))/\xk wz (w+1) k (xu (wdN T k))) qk ?_;refine ja 0 ⟨by simpa using c0,by simpa using c1⟩ ?_;iterate 7 refine jb ⟨by simpa using c0,by simpa using c1⟩ ?_
   refine qO 8 rfl λK hK=>?_;go_simp;refine hK.out _ _ (.inl rfl) ?_;clear hK;refine jS ?_;refine qD ?_;have a0:Hid (yA (xt wr.drew w k (xu (wdN (sAnd S T) k))) w 328 4 w (mixL (sAnd S T) S (k+1))/\yA (xt wr.drew w k (xu (wdN (sAnd S T) k))) w 328 4 (w+1) (psL T)/\yA (xt wr.drew w k (xu (wdN (sAnd S T) k))) w 328 4 (w+1+1) z4.toList/\Below w w (xt wr.drew w k (xu (wdN (sAnd S T) k)))):=by have kd:Below wr wr wr.drew:=(Below.refl _ _).drew;refine⟨?_,(HJ.2.1.below kd).beside qo _ _,(HJ.2.2.1.below kd).beside qo _ _,yAc HJ.2.2.2.drew qr _ _⟩;rw[<-yU5 _ _ hlt];exact(HJ.1.below kd).set k _
   go_wp2_with fail;refine⟨⟨k+1,qo,by go_num,a0⟩,?_⟩;go_light;simp[intOf];omega
  .obtain rfl:k=4:=qo
   rw[yU6]at HJ;obtain⟨c0,c1,c2,c3⟩:=HJ.1.c4;obtain⟨d0,d1,d2,d3⟩:=HJ.2.2.1.c4;obtain⟨f0,f1,f2,f3⟩:=HJ.2.2.1.f4;have a1:=HJ.2.2.1.lt.2;go_wp2_with fail;refine bodyPost_ret (v:=psV (sAnd S T)) (by simp[results,results234,go_sem,d0,d1,d2,d3]) rfl ⟨rfl,?_⟩;repeat (first|exact HJ.2.2.2|refine Below.drew ?_|refine yAc ?_ qo _ _)
variable {j m:Nat}
theorem yCl{p:List UInt8}{c:UInt8}{zs:List UInt8}(h:cut p j m=c::zs)(hm:m<=p.length):p[j]?=some c/\cut p (j+1) m=zs/\j<m:=by exact xGm
theorem yTt{p:List UInt8}{xs zs:List UInt8}(h:cut p j m=xs++zs)(hm:m<=p.length):cut p j (j+xs.length)=xs/\cut p (j+xs.length) m=zs/\j+xs.length<=max j m:=by
 have hl:=congrArg List.length h;rw[yAw hm,length_append]at hl;by_cases hjm:j<=m
 .exact xGe
 .have hx:xs= []:=length_eq_zero_iff.1 qo;subst hx;refine⟨by simp[yDe],by simpa using h,by simp;omega⟩
theorem xAx{A:List UInt8->Pat->Prop}{xs:List UInt8}(h:TokG A xs)(hA:∀ys t,A ys t->ys≠ []):xs= []\/(∃c zs,xs=c::zs/\(c=124\/isOp c)/\TokG A zs)\/(∃ys zs t,xs=ys++zs/\A ys t/\TokG A zs):=by
 cases h with
 |nil=>exact .inl rfl
 |sign hc h=>exact .inr (.inl ⟨_,_,rfl,hc,h⟩)
 |atom ha h=>exact .inr (.inr ⟨_,_,_,rfl,ha,h⟩)
def EndC(p:ByteArray)(n:Nat):Prop:=∀(i k:Nat)(t:Pat)(w:World),yAm n (cut (sb p) i k) t->k<=p.size->(xf 207 #[p,xi i] w (xi k):Prop)
variable {n:Nat}
theorem xH8{p:ByteArray}(hp:p.size<=200)(H:EndC p n):EndC p (n+1):=by
 intro i k t w hA hk;have a1:k<=(sb p).length:=by rw[yAe];exact hk
 obtain⟨c,ys,hc,_⟩:=hA.first;obtain⟨ae,_,aH⟩:=yCl hc a1;obtain⟨hi,gi⟩:=yAr ae;have zi:(i:Int)<(p.size:Int):=qo
 have ar:=yAw (p:=sb p) (i:=i) a1;have HP:Hid ((sb p)[i]?=some c/\(cut (sb p) i k).length=k-i):=⟨ae,ar⟩;clear hc ae ar;have one:∀d,¬d=92->¬d=91->¬d=40->c=d->k=i+1->(xf 207 #[p,xi i] w (xi k):Prop):=λd h92 h91 h40 a0 a2=>by
  subst a0 a2;have aN:((c.toNat:Int)==92)=false:=beq_eq_false_iff_ne.2 (yA8 (c:=92) h92);have aO:((c.toNat:Int)==91)=false:=beq_eq_false_iff_ne.2 (yA8 (c:=91) h91);have aQ:((c.toNat:Int) != 40)=true:=by have:=yA8 (c:=40) h40;simpa using this
  go_enter func207,ntmps207;go_wp2;go_ret;exact⟨rfl,Below.refl _ _⟩
 have az:=hA;rcases hA with⟨d,h1,hs,_⟩|⟨h1,_⟩|⟨d,h1,_⟩|⟨zs,os,h1,hT,_⟩|⟨q,j,m,f,h1,h2,h3,_⟩
 .have a2:k=i+1:=by have:=HP.2;rw[h1]at this;simp at this;omega
  have a0:c=d:=by have:=(yCl h1 a1).1;rw[HP.1]at this;exact Option.some.inj this
  exact one d (λq=>hs (.inr (.inr (.inr (.inr q))))) (λq=>hs (.inr (.inr (.inl q)))) (λq=>hs (.inr (.inl q))) a0 a2
 .have a2:k=i+1:=by have:=HP.2;rw[h1]at this;simp at this;omega
  have a0:c=46:=by have:=(yCl h1 a1).1;rw[HP.1]at this;exact Option.some.inj this
  exact one 46 qj qj qj a0 a2
 .have a2:k=i+2:=by have:=HP.2;rw[h1]at this;simp at this;omega
  have a0:c=92:=by have:=(yCl h1 a1).1;rw[HP.1]at this;exact Option.some.inj this
  subst a0 a2;clear one;go_enter func207,ntmps207;go_wp2;go_ret;exact⟨rfl,Below.refl _ _⟩
 .obtain⟨af,ao,_⟩:=yCl (zs:=zs++ [41]) (by simpa using h1) a1;have aK:c=40:=by rw[HP.1]at af;exact Option.some.inj af
  subst aK;obtain⟨ab,aa,an⟩:=yTt ao a1;obtain⟨e,he⟩:=qE (i+1+zs.length);rw[<-he]at ab aa an;obtain⟨aA,am,aX⟩:=yCl aa a1;have a2:k=e+1:=by have h3:=yAw (p:=sb p) (i:=e+1) a1;rw[am]at h3;simp at h3;omega
  obtain⟨aW,ge⟩:=yAr aA;have HT:Hid (TokG (yAm n) (cut (sb p) (i+1) e)):=by show TokG (yAm n) (cut (sb p) (i+1) e);rw[ab];exact hT.tok
  have aI:i+1<=e:=qo
  have HK:=qH1 a2;have HH:Hid (EndC p n):=H;clear one h1 hT az ao ab aa an am aA af he a2 H;go_enter func207,ntmps207;go_wp2;go_loopw[7] (λjv wr=>∃(j:Nat),jv=(xi j)/\i+1<=j/\j<=e/\TokG (yAm n) (cut (sb p) j e)/\Below w w wr) (λjv _=>e-(intOf jv).toNat);case atStart=>exact⟨i+1,by go_num,Nat.le_refl _,aI,HT.out,Below.refl _ _⟩
  case round=>
   obtain⟨j,rfl,aV,aU,ay,hb⟩:=hrel;have ai:Hid (TokG (yAm n) (cut (sb p) j e)):=ay;have hs:=hb.size;clear ay HT;have ag:e<=(sb p).length:=by rw[yAe];omega
   have aS:j<p.size:=qo
   have zj:(j:Int)<(p.size:Int):=qo
   by_cases hje:j=e
   .subst hje;go_wp2;go_ret;exact⟨by rw[HK.out];rfl,hb⟩
   .have aG:=xAx ai.out (λys t q=>by obtain⟨c,zs,h,_⟩:=q.first;rw[h];simp);rcases aG with h0|⟨c',aC,h0,a8,a7⟩|⟨a3,aC,t',h0,ah,a7⟩
    .have h3:=yAw (p:=sb p) (i:=j) ag;rw[h0]at h3;simp at h3;omega
    .obtain⟨a5,av,aR⟩:=yCl h0 ag;obtain⟨_,gj⟩:=yAr a5;have HN:Hid (TokG (yAm n) (cut (sb p) (j+1) e)):=by show TokG (yAm n) (cut (sb p) (j+1) e);rw[av];exact a7
     have a9:((c'.toNat:Int) != 41)=true:=by
      have h5:¬c'=41:=λq=>by subst q;rcases a8 with q|q|q|q<;>exact absurd q qj
      have:=yA8 (c:=41) h5;simpa using this
     clear a5 av h0 a7 ai;by_cases h124:c'=124
     .subst h124;clear a8;exact xCq
     .have aD:((c'.toNat:Int)==124)=false:=beq_eq_false_iff_ne.2 (yA8 (c:=124) h124);have aq:isOp c':=a8.elim (λq=>absurd q h124) (λq=>q);have aj:Hid (Calls prog 142 #[.int .u8 (c'.toNat:Int)] wr λe w'=>e=.returned true/\w'=wr):=by have:=yBi c' wr;rw[decide_eq_true aq]at this;exact this
      clear a8 aq;go_wp2_with fail;refine aj.mono ?_;rintro e' w5 ⟨rfl,a4⟩;rw[a4];clear a4;exact xCq
    .obtain⟨ad,hy2,aF⟩:=yTt h0 ag;obtain⟨c',yt,ac,a9,al,ak⟩:=ah.first;have aE:0<a3.length:=by rw[ac];simp
     have au:j+a3.length<=e:=qo
     obtain⟨a5,_,_⟩:=yCl (c:=c') (zs:=yt) (by rw[ad];exact ac) (by rw[yAe];omega);obtain⟨_,gj⟩:=yAr a5;have aP:((c'.toNat:Int) != 41)=true:=by have:=yA8 (c:=41) a9;simpa using this
     have aD:((c'.toNat:Int)==124)=false:=beq_eq_false_iff_ne.2 (yA8 (c:=124) al);have aj:Hid (Calls prog 142 #[.int .u8 (c'.toNat:Int)] wr λe w'=>e=.returned false/\w'=wr):=by have:=yBi c' wr;rw[decide_eq_false ak]at this;exact this
     have HN:Hid (TokG (yAm n) (cut (sb p) (j+a3.length) e)):=by show TokG (yAm n) (cut (sb p) (j+a3.length) e);rw[hy2];exact a7
     obtain⟨m,hm⟩:=qE (j+a3.length);have aM:Hid ((xf 207 #[p,xi j] wr (xi m):Prop)):=by rw[hm];exact HH.out j (j+a3.length) t' wr (by rw[ad];exact ah) qo
     rw[<-hm]at HN au;have aT:j<m:=qo
     clear h0 a7 ai ah ad hy2 aF ac a5 a9 al ak hm aE;go_wp2_with fail;refine aj.mono ?_;rintro e' w5 ⟨rfl,a4⟩;rw[a4];clear a4;go_wp2_with fail;refine aM.mono ?_;rintro e' w6 ⟨rfl,aw⟩;have aL:=hb.trans (aw.mono hs);clear aw;refine zY ?_;exact⟨m,rfl,qo,au,HN.out,aL⟩
 .have a0:=yMs h1 h2 h3 a1 aH;have aJ:c=91:=by have:=a0.1;rw[HP.1]at this;exact Option.some.inj this
  subst aJ;have aB:=qH1 a0.2;clear one h1 h2 h3 a0 az;go_enter func207,ntmps207;go_wp2_with fail;refine(yIe p i w hp hi).mono ?_;rintro e w4 ⟨hP,ax⟩;rcases hP with⟨f',k',a6,rfl⟩|⟨c4,k',a6,rfl⟩;case inr=>rw[aB.out]at a6;cases a6
  obtain⟨rfl,rfl⟩:f=f'/\k=k':=by rw[aB.out]at a6;simpa using a6
  go_wp2;go_ret;exact⟨rfl,ax.trans ((Below.refl _ _).alloc ax.size _)⟩
theorem yKf{p:ByteArray}(hp:p.size<=200):∀n,EndC p n
 |0=>λi k t w h=>h.elim
 |n+1=>xH8 hp (yKf hp n)
abbrev less(a b:ByteArray):Prop:=Op.bytesLess a.toList b.toList=true
theorem xBq(k:Int)(s:ByteArray)(h:Bool)(t:ByteArray)(l u n k':Int)(s':ByteArray)(h':Bool)(t':ByteArray)(l' u' n':Int)(wx:World):
  (binOp .eql 83 (.agg #[xi k,s,h,t,xu l,xu u,xi n]) (.agg #[xi k',s',h',t',xu l',xu u',xi n'])).run prog wx=.ok (decide (k=k'/\s.toList=s'.toList/\h=h'/\t.toList=t'.toList/\l=l'/\u=u'/\n=n')) wx:=by
 go_simp;repeat' split
 all_goals simp_all
theorem yXd(e:Nd)(w:World):Calls prog 88 #[e.v,.bool true,.bool false,.bool false,.bool false,.bool false] w λr w'=>∃b,r=.returned (.bool b)/\(b=true↔e.hi=false/\e.t.toList= []/\e.lo=0/\e.up=0/\e.n=0)/\Below w w w':=by exact yXl
theorem yT5(e:Nd)(w:World):Calls prog 88 #[e.v,.bool true,.bool true,.bool true,.bool false,.bool false] w λr w'=>∃b,r=.returned (.bool b)/\(b=true↔e.lo=0/\e.up=0/\e.n=0)/\Below w w w':=by exact yXl
theorem yXe(e:Nd)(w:World):Calls prog 88 #[e.v,.bool false,.bool true,.bool false,.bool true,.bool false] w λr w'=>∃b,r=.returned (.bool b)/\(b=true↔e.s.toList= []/\e.t.toList= []/\e.n=0)/\Below w w w':=by exact yXl
theorem yXf(e:Nd)(w:World):Calls prog 88 #[e.v,.bool false,.bool false,.bool false,.bool false,.bool true] w λr w'=>∃b,r=.returned (.bool b)/\(b=true↔e.s.toList= []/\e.hi=false/\e.t.toList= []/\e.lo=0/\e.up=0)/\Below w w w':=by exact yXl
theorem yXc(e:Nd)(w:World):Calls prog 88 #[e.v,.bool false,.bool false,.bool false,.bool false,.bool false] w λr w'=>∃b,r=.returned (.bool b)/\(b=true↔e.s.toList= []/\e.hi=false/\e.t.toList= []/\e.lo=0/\e.up=0/\e.n=0)/\Below w w w':=by exact yXl
theorem yZv(e:Nd)(w:World):Calls prog 184 #[e.v] w λr w'=>∃b,r=.returned (.bool b)/\(b=true↔((e.hi=false/\e.t.toList= []/\e.up=0)\/(e.hi=true/\(less e.s e.t\/e.lo<e.up))))/\Below w w w':=by
 go_enter func184,ntmps184;go_wp2_with fail;all_goals go_ret
 all_goals exact⟨_,rfl,by simp_all[less],qB⟩
def yCb(e:Nd):Prop:=e.s.size<=200/\e.t.size<=200/\(e.hi=false->e.t.toList= []/\e.up=0)/\
 (((e.kind=4\/e.kind=5\/e.kind=6\/e.kind=7)/\(e.hi=false/\e.t.toList= []/\e.lo=0/\e.up=0/\e.n=0)/\(yAj (sb e.s)).1=0)\/
  ((e.kind=8\/e.kind=9)/\(e.lo=0/\e.up=0/\e.n=0)/\(e.hi=true->less e.s e.t))\/
  (e.kind=10/\(e.s.toList= []/\e.t.toList= []/\e.n=0)/\(e.hi=true->e.lo<e.up))\/
  ((e.kind=11\/e.kind=12\/e.kind=13)/\(e.s.toList= []/\e.hi=false/\e.t.toList= []/\e.lo=0/\e.up=0)/\1<=e.n/\e.n<=1000)\/
  ((e.kind=1\/e.kind=2\/e.kind=3\/e.kind=14\/e.kind=15\/e.kind=16)/\(e.s.toList= []/\e.hi=false/\e.t.toList= []/\e.lo=0/\e.up=0/\e.n=0)))
theorem yUt(c k:Int)(w:World):(Instr.field 158 (.agg #[xi c,xi k]) 0).run prog w=.ok (xi c) w:=qk
def xDo(e:Nd)(w:World)(r:Ending)(w':World):Prop:=∃b,r=.returned (.bool b)/\(b=true↔yCb e)/\Below w w w'
variable {p:Prop}
theorem zGf(h:p:=by go_wp2_with fail;go_ret;refine⟨_,rfl,⟨nofun,λq=>?_⟩,HW0.2.trans (hb1.mono hbw)⟩;have hB:=HB.out;simp[yCb]at q hB;simp_all):p:=h
theorem zGt(h:p:=by go_wp2_with fail;go_ret;refine⟨_,rfl,?_,HW0.2.trans (hb1.mono hbw)⟩;have hB:=HB.out;have hG:=HG.out;simp at hB;simp[yCb,less];simp_all;try omega):p:=h
theorem zGa(h:p:=by go_wp2_with fail;refine(yXd ⟨_,s,hi,t,lo,up,n⟩ _).mono ?_;rintro r w1 ⟨b,rfl,hb,hb1⟩;have HB:=qH1 hb;obtain⟨d0,d1,d2,d3,d4,d5,d6⟩:=(HW0.1.below hb1).c7;clear hb;cases b;exact zGf;exact xIl):p:=h
theorem zGb(h:p:=by go_wp2_with fail;refine(yT5 ⟨_,s,hi,t,lo,up,n⟩ _).mono ?_;rintro r w1 ⟨b,rfl,hb,hb1⟩;have HB:=qH1 hb;obtain⟨d0,d1,d2,d3,d4,d5,d6⟩:=(HW0.1.below hb1).c7;clear hb;cases b;exact zGf;cases hi<;>exact zGt):p:=h
theorem zGc(h:p:=by go_wp2_with fail;refine(yXf ⟨_,s,hi,t,lo,up,n⟩ _).mono ?_;rintro r w1 ⟨b,rfl,hb,hb1⟩;have HB:=qH1 hb;obtain⟨d0,d1,d2,d3,d4,d5,d6⟩:=(HW0.1.below hb1).c7;clear hb;cases b;exact zGf;by_cases h1:1<=n<;>exact zGt):p:=h
theorem zGe(h:p:=by go_wp2_with fail;refine(yXc ⟨_,s,hi,t,lo,up,n⟩ _).mono ?_;rintro r w1 ⟨b,rfl,hb,hb1⟩;have HB:=qH1 hb;clear hb;go_wp2_with fail;go_ret;refine⟨_,rfl,?_,HW0.2.trans (hb1.mono hbw)⟩;rw[HB.out];have hG:=HG.out;simp[yCb];simp_all):p:=h
theorem yZo(e:Nd)(w:World)(hs:e.s.size<=maxLen)(ht:e.t.size<=maxLen):Calls prog 40 #[e.v] w (xDo e w):=by
 obtain⟨kind,s,hi,t,lo,up,n⟩:=e;have HS:=qH1 hs;unfold maxLen at hs ht;simp only[]at hs ht;obtain⟨W0,a0⟩:=qE (w.alloc (Obj.cells #[.int .i64 kind,.string s,.bool hi,.string t,.int .u64 lo,.int .u64 up,.int .i64 n] 83):World);have HW0:Hid (yA W0 w.heap.size 83 7 w.heap.size [.int .i64 kind,.string s,.bool hi,.string t,.int .u64 lo,.int .u64 up,.int .i64 n]/\Below w.heap.size w W0):=by rw[a0];exact⟨yAa w _ (Nat.le_refl _) rfl,qB⟩
 have hbw:=HW0.2.size;obtain⟨c0,c1,c2,c3,c4,c5,c6⟩:=HW0.1.c7;go_enter func40,ntmps40;go_upto_region 1 with fail;rw[<-a0];clear a0;by_cases hgood:s.size<=200/\t.size<=200/\(hi=true\/(hi=false/\t.toList= []/\up=0));case neg=>
  have HG:Hid (¬yCb ⟨kind,s,hi,t,lo,up,n⟩):=λq=>hgood ⟨q.1,q.2.1,by
   cases hi
   .exact .inr ⟨rfl,q.2.2.1 rfl⟩
   .exact .inl rfl⟩
  by_cases h1:s.size<=200
  .have z1:¬(200:Int)<(s.size:Int):=qo
   by_cases h2:t.size<=200
   .have z2:¬(200:Int)<(t.size:Int):=qo
    have a2:hi=false:=by cases hi;rfl;exact absurd ⟨h1,h2,.inl rfl⟩ hgood
    subst a2;by_cases h3:t.toList= []
    .have h4:¬up=0:=λq=>hgood ⟨h1,h2,.inr ⟨rfl,h3,q⟩⟩;exact yVn
    .exact yVn
   .have z2:(200:Int)<(t.size:Int):=qo
    exact yVn
  .have z1:(200:Int)<(s.size:Int):=qo
   exact yVn
 have HG:=qH3 hgood.1 hgood.2.1 (λq=>hgood.2.2.elim (λz=>by rw[q]at z;cases z) (λz=>z.2):(hi=false->t.toList= []/\up=0));go_cut[27] (λs wx=>s=.bool false/\wx=W0);case first=>
  have z1:¬(200:Int)<(s.size:Int):=by have:=HG.1;omega
  have z2:¬(200:Int)<(t.size:Int):=by have:=HG.2.1;omega
  rcases hgood.2.2 with rfl|⟨rfl,h3,rfl⟩
  .go_wp2_with fail;go_meet;exact⟨rfl,rfl⟩
  .go_wp2_with fail;go_meet;exact⟨rfl,rfl⟩
 case rest=>
 obtain⟨rfl,rfl⟩:=hcut;clear hgood hs ht;obtain⟨c,hc⟩:=qE ((yAj (sb s)).1);obtain⟨k,hk⟩:=qE (((yAj (sb s)).2:Int):Int);have HV:=qH1 hc;have HC:Hid (∀w,Calls prog 89 #[.string s] w λe w'=>e=.returned (.agg #[.int .i64 c,.int .i64 k])/\Below w w w'):=λw=>by rw[hc,hk];exact yB6 s w HS.out
 clear hc hk;by_cases k1:kind=4\/kind=5\/kind=6\/kind=7
 .rcases k1 with rfl|rfl|rfl|rfl<;>exact zGa
 by_cases k2:kind=8\/kind=9
 .rcases k2 with rfl|rfl<;>exact zGb
 by_cases k3:kind=10
 .subst k3;go_wp2_with fail;refine(yXe ⟨_,s,hi,t,lo,up,n⟩ _).mono ?_;rintro r w1 ⟨b,rfl,hb,hb1⟩;have HB:=qH1 hb;obtain⟨d0,d1,d2,d3,d4,d5,d6⟩:=(HW0.1.below hb1).c7;clear hb;cases b;exact zGf;cases hi<;>exact zGt
 by_cases k4:kind=11\/kind=12\/kind=13
 .rcases k4 with rfl|rfl|rfl<;>exact zGc
 by_cases k5:kind=1\/kind=2\/kind=3\/kind=14\/kind=15\/kind=16
 .rcases k5 with rfl|rfl|rfl|rfl|rfl|rfl<;>exact zGe
 have HF:Hid (¬yCb ⟨kind,s,hi,t,lo,up,n⟩):=by show¬yCb _;simp only[yCb];rintro⟨_,_,_,q⟩;omega
 have a1:¬(1<=kind/\kind<=16):=qo
 by_cases k0:1<=kind
 .have a3:¬kind<=16:=λq=>a1 ⟨k0,q⟩;exact zF HW0.2
 .exact zF HW0.2
open Classical in
noncomputable def goodB(e:Nd):Bool:=decide (yCb e)
theorem yKc e:goodB e=true↔yCb e:=by unfold goodB;simp
def yFk(xs:List Nd):Prop:=xs.length<=200/\∃s,ShT goodB [s] xs/\s.valid=true/\s.nest<=20
variable {xs:List Nd}
theorem yF(h:yFk xs):∀e∈xs,yCb e:=by obtain⟨_,s,hs,hv,_⟩:=h;have:=ShT.valid goodB hs;simp[hv]at this;exact λe he=>(yKc e).1 (this e he)
theorem xD{s t:yA1}(h:ShT goodB [s] xs)(k:ShT goodB [t] xs):s=t:=by have a:=ShT.fold goodB h [];have b:=ShT.fold goodB k [];rw[a]at b;simpa using b
def yOz(xs:List Nd)(w:World)(r:Ending)(w':World):Prop:=∃b,r=.returned (.bool b)/\(b=true↔yFk xs)/\Below w w w'
structure WdN(w:World)(g o cp:Nat)(xs:List Nd):Prop where
 nds:yH1 w g o xs
 lt:g<w.heap.size
 caps:xs.length<=cp/\cp<=maxLen
variable {w:World} {o cp:Nat}
theorem WdN.at{g:Nat}(h:WdN w g o cp xs):yH1 w g o xs:=h.nds
variable {B:Nat} {w':World}
theorem WdN.below{g:Nat}(h:WdN w g o cp xs)(hb:Below B w w')(hg:g<B):WdN w' g o cp xs:=
 ⟨h.at.below hb hg,by have:=hb.size;have:=h.lt;omega,h.caps⟩
variable {base:Nat}
theorem yC7.wd{g:Nat}(h:yC7 w base g cp xs):WdN w g 0 cp xs:=⟨h.at,h.lt.2,h.caps⟩
theorem yLc{g:Nat}(h:WdN w g o cp xs)(hok:∀e∈xs,e.ok):Calls prog 8 #[.agg #[.slice (some ⟨g,o,none⟩) xs.length cp]] w (yOz xs w):=by
 have HO:=qH2 h hok;have hg:=h.lt;have a1:=h.caps;obtain⟨n,hn⟩:=qE xs.length;have HN:=qH1 hn;rw[<-hn]at a1|-;unfold maxLen at a1;clear h hok hn;obtain⟨W0,a3⟩:=qE (xw w #[.slice (some ⟨g,o,none⟩) n cp] 25:World);have HW0:Hid (yA W0 w 25 1 w [.slice (some ⟨g,o,none⟩) n cp]/\Below w w W0):=by rw[a3];exact⟨yAa w _ qr rfl,qB⟩
 have c0:=HW0.1.cell (j:=0) rfl;have s0:=HW0.2.size;go_enter func8,ntmps8;go_upto_region 1 with fail;rw[<-a3];clear a3;by_cases hbig:200<n
 .exact xF7
 have zb:¬(200:Int)<(n:Int):=qo
 go_wp2_with fail;clear c0;go_loopw[3] (λiv wr=>∃(j:Nat),iv=(xi j)/\j<=n/\(∀e∈xs.take j,yCb e)/\yA wr w 25 1 w [.slice (some ⟨g,o,none⟩) n cp]/\Below w w wr) (λiv _=>n-(intOf iv).toNat);case atStart=>exact⟨0,rfl,zero_le _,by simp,HW0.out⟩
 case round=>
  obtain⟨j,rfl,hj,hG,hB,hb⟩:=hrel;have HJ:=qH3 hG hB hb;have c0:=hB.cell (j:=0) rfl;have sr:=hb.size;clear hG hB hb HW0;by_cases hlt:j<n
  .have zj:(j:Int)<(n:Int):=qo
   obtain⟨e,he⟩:∃e,xs[j]?=some e:=qg (by have:=HN.out;omega);obtain⟨d0,d1,d2,d3,d4,d5,d6⟩:=(HO.1.at.below HJ.2.2 hg) j e he;have ok:=HO.2 e (mem_of_getElem? he);have HE:=qH4 ok.s ok.t (mem_of_getElem? he) (by rw[take_add_one,he];rfl:xs.take (j+1)=xs.take j++ [e]);clear ok he;go_wp2_with fail;refine(yZo e wr HE.1 HE.2.1).mono ?_;rintro r w2 ⟨b,rfl,hb,hb2⟩;have HB:=qH1 hb;have a4:=qH2 (HJ.2.1.below hb2) (HJ.2.2.trans (hb2.mono sr));clear hb hb2 c0 d0 d1 d2 d3 d4 d5 d6;cases b
   .have HF:Hid (¬yFk xs):=λq=>by have:=HB.2 (yF q e HE.2.2.1);cases this
    exact zF a4.2
   .go_wp2_with fail;go_roundw;case rel=>
     refine⟨j+1,by go_num,qo,?_,a4.1,a4.2⟩;intro e' a5;rw[HE.2.2.2]at a5;rcases List.mem_append.1 a5 with h|h
     .exact HJ.1 e' h
     .simp at h;subst h;exact HB.1 (by first|rfl|trivial)
    case measure=>simp[intOf];omega
  .have zj:¬(j:Int)<(n:Int):=qo
   have HA:Hid (∀e∈xs,yCb e):=by have h1:=HJ.1;rw[take_of_length_le (by have:=HN.out;omega)]at h1;exact h1
   have a2:Win wr g o cp xs:=⟨HO.1.at.below HJ.2.2 hg,qo,by rw[<-HN.out];exact a1.1,qo,by have:=HN.out;omega⟩;have HT:Hid (Calls prog 41 #[.slice (some ⟨g,o,none⟩) n cp] wr λr w'=>w'=wr/\((r=.returned true/\IsT 1 xs)\/(r=.returned false/\¬IsT 1 xs))):=by rw[HN.out];exact yS6 a2
   have a8:Hid (∀s,ShT goodB [s] xs->(xf 42 #[.slice (some ⟨g,o,none⟩) n cp] wr (xi s.nest):Prop)):=λs hs=>by rw[HN.out];exact yU3 goodB xs.length wr g o cp xs s qr a2 hs
   clear a2;go_wp2_with fail;refine HT.mono ?_;rintro r w2 ⟨a0,(⟨rfl,hT⟩|⟨rfl,hT⟩)⟩
   .rw[a0];clear a0;obtain⟨ss,hl,hs⟩:=IsT.shapes goodB hT;obtain⟨s,rfl⟩:∃s,ss= [s]:=by
     match ss,hl with
     | [s],_=>exact⟨s,rfl⟩
    have a7:=qH1 hs;have HV:Hid (s.valid=true):=by show s.valid=true;have h1:=ShT.valid goodB hs;have h2:=all_eq_true.2 (λe he=>(yKc e).2 (HA.out e he));rw[h2]at h1;simpa using h1
    have HF:Hid (yFk xs↔s.nest<=20):=by
     show yFk xs↔_;constructor
     .rintro⟨_,t,ht,_,hn⟩;rw[xD hs ht];exact hn
     .intro hn;exact⟨by have:=HN.out;omega,s,hs,HV.out,hn⟩
    clear hT hl hs;go_wp2_with fail;refine(a8.out s a7.out).mono ?_;rintro r w3 ⟨rfl,a6⟩;have a9:=qH1 (HJ.2.2.trans (a6.mono sr));clear a6 c0;go_wp2_with fail;go_ret;exact⟨_,rfl,by rw[HF.out];simp<;>omega,a9.out⟩
   .rw[a0];clear a0;have HF:Hid (¬yFk xs):=λq=>by obtain⟨_,s,hs,_⟩:=q;exact hT hs.tree
    clear hT;exact zF HJ.2.2
theorem yJc{g:Nat}(h:yC7 w base g cp xs)(hok:∀e∈xs,e.ok)(hc:cp<=281474976710656):Calls prog 8 #[.agg #[xg g xs.length cp]] w (yOz xs w):=yLc h.wd hok
section
section
variable {T:Type} (V:Nd->List T->T)
inductive TrV:List T->List Nd->Prop
 |nil:TrV [] []
 |snoc {ss os:List T} {xs:List Nd} (n:Nd) (ho:os.length=yA0 n.kind) (h:TrV (ss++os) xs):TrV (ss++ [V n os]) (xs++ [n])
def xEf(st:List T)(n:Nd):Option (List T):=
 if st.length<yA0 n.kind then none else some (st.take (st.length-yA0 n.kind)++ [V n (st.drop (st.length-yA0 n.kind))])
def yQr(st:List T):List Nd->Option (List T)
 | []=>some st
 |n::ns=>(xEf V st n).bind λs=>yQr s ns
theorem yQq(st:List T) xs ys:yQr V st (xs++ys)=(yQr V st xs).bind (λs=>yQr V s ys):=by
 induction xs generalizing st with
 |nil=>rfl
 |cons x xs ih=>
  simp only[cons_append,yQr];cases xEf V st x with
  |none=>rfl
  |some s=>exact ih s
theorem TrV.tree{ss:List T}(h:TrV V ss xs):IsT ss.length xs:=by exact xF2
theorem TrV.fold{ss:List T}(h:TrV V ss xs):∀st,yQr V st xs=some (st++ss):=by
 induction h with
 |nil=>intro st;simp[yQr]
 | @snoc ss os xs n ho h ih=>
   intro st;rw[yQq,ih];simp only[Option.bind_some,yQr,xEf];rw[if_neg (by simp;omega)];have hl:(st++(ss++os)).length-yA0 n.kind=(st++ss).length:=by simp;omega
   rw[hl,<-append_assoc,take_left,drop_left,append_assoc];simp
theorem TrV.one{ss ts:List T}(h:TrV V ss xs)(k:TrV V ts xs):ss=ts:=by have a:=h.fold V [];have b:=k.fold V [];rw[a]at b;simpa using b
theorem TrV.split{ss:List T}(h:TrV V ss xs):∀{a b:List T},ss=a++b->∃ys zs,xs=ys++zs/\TrV V a ys/\TrV V b zs:=by
 induction h with
 |nil=>intro a b e;obtain⟨rfl,rfl⟩:a= []/\b= []:=by simpa using e.symm
       exact⟨[],[],rfl,.nil,.nil⟩
 | @snoc ss os xs n ho h ih=>
   intro a b e;rcases eq_nil_or_concat b with rfl|⟨b',z,rfl⟩
   .simp at e;subst e;exact⟨xs++ [n],[],by simp,.snoc n ho h,.nil⟩
   .rw[concat_eq_append,<-append_assoc]at e;have e2:=append_inj' e rfl;obtain⟨e3,e4⟩:=e2;simp at e4;subst e3 e4;obtain⟨ys,zs,rfl,h1,h2⟩:=ih (a:=a) (b:=b'++os) (by simp);refine⟨ys,zs++ [n],by simp,h1,?_⟩;rw[concat_eq_append];exact .snoc n ho h2
theorem TrV.inv{s:T}(h:TrV V [s] xs):∃ys n os,xs=ys++ [n]/\os.length=yA0 n.kind/\TrV V os ys/\s=V n os:=by exact xGh
inductive KidV:List T->List (List Nd)->Prop
 |nil:KidV [] []
 |cons {o:T} {os:List T} {k:List Nd} {ks:List (List Nd)} (h:TrV V [o] k) (t:KidV os ks):KidV (o::os) (k::ks)
theorem TrV.kids:∀{os:List T}{ys:List Nd},TrV V os ys->∃ks,ys=ks.flatten/\KidV V os ks
 | [],ys,h=>by
   have:=(TrV.tree V h).zero
   subst this
   exact⟨[],rfl,.nil⟩
 |o::os,ys,h=>by
  obtain⟨a,b,rfl,h1,h2⟩:=TrV.split V h (a:= [o]) (b:=os) rfl
  obtain⟨ks,rfl,hk⟩:=TrV.kids h2
  exact⟨a::ks,rfl,.cons h1 hk⟩
variable {ks:List (List Nd)}
theorem KidV.length{os:List T}(h:KidV V os ks):os.length=ks.length:=by
 induction h with
 |nil=>rfl
 |cons _ _ ih=>simp[ih]
theorem KidV.tree{os:List T}(h:KidV V os ks):∀k∈ks,IsT 1 k:=by exact xC2
theorem KidV.nth{os:List T}(h:KidV V os ks):∀{j:Nat}{k:List Nd},ks[j]?=some k->∃o,os[j]?=some o/\TrV V [o] k:=by
 induction h with
 |nil=>intro j k hk;simp at hk
 |cons h1 _ ih=>
  intro j k hk;cases j with
  |zero=>simp at hk;subst hk;exact⟨_,rfl,h1⟩
  |succ j=>simp at hk;simpa using ih hk
end
end
section
section
variable {α:Type} {f:α->List Value} {sz:Nat}
theorem yCk(hf:∀x,(f x).length=sz)(es:List α):(es.flatMap f).length=es.length*sz:=by
 induction es with
 |nil=>simp
 |cons e es ih=>rw[flatMap_cons,length_append,ih,hf,length_cons,Nat.add_mul];omega
theorem yFb(hf:∀x,(f x).length=sz):∀(es:List α)(k:Nat)(e:α),es[k]?=some e->∀j,j<sz->(es.flatMap f)[k*sz+j]?=(f e)[j]?
 | [],k,e,h,j,hj=>by simp at h
 |a::es,0,e,h,j,hj=>by
  simp at h;subst h
  rw[flatMap_cons,getElem?_append_left (by rw[hf];omega)]
  simp
 |a::es,k+1,e,h,j,hj=>by
  simp at h
  rw[flatMap_cons,getElem?_append_right (by rw[hf,Nat.add_mul];omega),hf]
  rw[show(k+1)*sz+j-sz=k*sz+j by rw[Nat.add_mul];omega]
  exact yFb hf es k e h j hj
theorem yMk(hf:∀x,(f x).length=sz):∀(es:List α)(k:Nat),k<=es.length->(es.take k).flatMap f=(es.flatMap f).take (k*sz)
 |es,0,_=>by simp
 | [],k+1,h=>by simp at h
 |a::es,k+1,h=>by rw[take_succ_cons,flatMap_cons,flatMap_cons,yMk hf es k (by simpa using h),take_append,hf,take_of_length_le (l:=f a) (by rw[hf,Nat.add_mul];omega),show(k+1)*sz-sz=k*sz by rw[Nat.add_mul];omega]
def OwnG(f:α->List Value)(sz ty:Nat)(w:World)(base g cap:Nat)(es:List α):Prop:=w.ownsRow base ty sz (xg g es.length cap) es.length (es.flatMap f)
variable {ty:Nat} {cap:Nat}
theorem OwnG.cell(hf:∀x,(f x).length=sz){g:Nat}{es:List α}(h:OwnG f sz ty w base g cap es){i:Nat}{e:α}(he:es[i]?=some e)(j:Nat)(hj:j<sz):w.cell? (xd g (i*sz+j))=(f e)[j]?:=by
 have hi:=qf he;have h1:i*sz+j<es.length*sz:=by have:(i+1)*sz<=es.length*sz:=mul_le_mul_right sz hi;rw[Nat.add_mul]at this;omega
 have:=(World.ownsRow.cellAt h (i*sz+j) h1).trans (yFb hf es i e he j hj);simpa using this
theorem OwnG.lt{g:Nat}{es:List α}(h:OwnG f sz ty w base g cap es):base<=g/\g<w.heap.size:=World.ownsRow.lt h g rfl
theorem OwnG.chg{S:Nat->Prop}{g:Nat}{es:List α}(h:OwnG f sz ty w base g cap es)(hc:Chg S w w')(hn:¬S g):OwnG f sz ty w' base g cap es:=yAh h hc (λk q=>by simp[Value.ownBlock]at q;subst q;exact hn)
theorem OwnG.below{g:Nat}{es:List α}(h:OwnG f sz ty w base g cap es)(hb:Below w w w'):OwnG f sz ty w' base g cap es:=h.chg (Chg.of_below hb) (S:=λ_=>False) (λq=>q)
theorem OwnG.mono{base' g:Nat}{es:List α}(h:OwnG f sz ty w base g cap es)(hb:base'<=base):OwnG f sz ty w base' g cap es:=by exact yO0
theorem OwnG.caps{g:Nat}{es:List α}(h:OwnG f sz ty w base g cap es):es.length<=cap/\cap<=maxLen:=by exact yMx
theorem OwnG.take(hf:∀x,(f x).length=sz){g:Nat}{es:List α}(h:OwnG f sz ty w base g cap es){k:Nat}(hk:k<=es.length):OwnG f sz ty w base g cap (es.take k):=by
 have hl:(es.take k).length=k:=by rw[length_take];omega
 rcases h.2 with⟨h0,_⟩|⟨g',a0,cur,hv,h1,h2,h3,h4,h5,h6⟩
 .cases h0
 .simp only[Value.slice.injEq,Option.some.injEq,Addr.mk.injEq,and_true,true_and]at hv;obtain⟨rfl,rfl⟩:=hv;refine⟨yCk hf _,.inr ⟨g,cap,cur,rfl,h1,h2,qo,h4,h5,?_⟩⟩;rw[hl,yMk hf es k hk,<-h6,take_take];congr 1;have:=mul_le_mul_right sz hk;omega
theorem yU1(w:World)(hb:base<=w.heap.size):OwnG f sz ty (xw w #[] ty) base w 0 []:=
 World.ownsRow_made w #[] 0 hb (zero_le _) (by simp)
end
section
variable {α:Type} {f:α->List Value} {sz ty:Nat} {Q:Exit->Act->World->Prop}
theorem yDb{ops:Array Oper}{rest:List Oper}{o:Oper}{a:Act}(hf:∀x,(f x).length=sz)(w:World)(hgd:o.guard=none) s x (sty:Nat)
  (ho:o.op=.call {callee:=.builtin .append,args:=#[s,x],argTypes:=#[sty,sty]}) (hst:prog.underlying sty=some (.slice ty)) {z:Value} {bytes:Nat} (hin:(prog.info? ty).map (λi=>(i.zero,i.size,i.bytes))=some (some z,sz,bytes)) (hz:z.cells.size=sz) (hsz:0<sz) (hby:bytes<=1000)
  (h1:∀x,∀u∈f x,u.oneCell'=true)
  (base g cp n b cx:Nat) (fs:List α) (e:α) (hs:a.eval s=(xg g n cp)) (hx:a.eval x=(xg b 1 cx)) (hn:n=fs.length) (hO:OwnG f sz ty w base g cp fs)
  (hc:∀j u,(f e)[j]?=some u->(xk w b j u:Prop)) (hlen:fs.length<=1000000) (hbase:base<=w.heap.size)
  (h:∀g' cp' w',OwnG f sz ty w' base g' cp' (fs++ [e])->w.grownBy w' (some g)->(g'=g\/g'=w.heap.size)->wpList prog ops Q rest (a.put o.dst (xg g' (n+1) cp')) w'):wpList prog ops Q (o::rest) a w:=by
 subst hn;obtain⟨i,hi,a3,a2,a1⟩:=info_parts hin;refine wpList_append_own_at w hgd s x sty ho base ty i _ sz bytes hst hi a3 a2 a1 hz hsz (xg g fs.length cp) fs.length (fs.flatMap f) hs hO (xd b 0) 1 cx (f e) hx (by rw[hf];omega) (λj u hu=>by rw[Addr.add_mid,Nat.zero_add];exact hc j u hu) (h1 e) ?_ ?_ hbase ?_
 .unfold maxLen;omega
 .have:=Nat.mul_le_mul (show fs.length+1<=1000001 by omega) hby;omega
 .intro v' w' hO' a5 a4 a0;rcases hO'.2 with⟨h0,_⟩|⟨g',a6,cur,hv,_,_,hn,a7,_,_⟩
  .have:=(a4.1 h0).1;cases this
  .subst hv;refine h g' a6 w' ?_ a5 ?_
   .exact xAm
   .simp[Value.ownBlock]at a0;exact a0
theorem yBm(w:World)(cs:List Value)(ty:Nat):∀j u,cs[j]?=some u->(xk (w.alloc (Obj.cells cs.toArray ty)) w j u:Prop):=by intro j u hu;rw[World.cell?_alloc_new];simpa using hu
def setCs(w:World)(g:Nat):Nat->List Value->World
 |_,[]=>w
 |o,v::vs=>setCs (xt w g o v) g (o+1) vs
def setL:List Value->Nat->List Value->List Value
 |L,_,[]=>L
 |L,o,v::vs=>setL (L.set o v) (o+1) vs
theorem yIv:∀(vs:List Value)(L:List Value)(o j:Nat),(setL L o vs)[j]?=if o<=j/\j<o+vs.length/\j<L.length then vs[j-o]? else L[j]?
 | [],L,o,j=>by rw[setL,if_neg (by simp;omega)]
 |v::vs,L,o,j=>by
  rw[setL,yIv vs,length_set,length_cons]
  by_cases h1:j=o
  .subst h1
   rw[if_neg (by omega)]
   by_cases h2:j<L.length
   .rw[if_pos ⟨Nat.le_refl _,by omega,h2⟩,Nat.sub_self];simp[h2]
   .rw[if_neg (by omega)];simp[h2]
  .by_cases h2:o+1<=j/\j<o+1+vs.length/\j<L.length
   .rw[if_pos h2,if_pos (by omega),show j-o=(j-(o+1))+1 by omega,getElem?_cons_succ]
   .rw[if_neg h2,if_neg qo,getElem?_set_ne (λq=>h1 q.symm)]
theorem yAl{S:Nat->Prop}(g:Nat)(hs:S g):∀(vs:List Value)(o:Nat)(w:World),Chg S w (setCs w g o vs)
 | [],o,w=>Chg.of_below (Below.refl _ _)
 |v::vs,o,w=>(Chg.of_set w g o v hs).trans (yAl g hs vs (o+1) _)
theorem yBu{g:Nat}{v:Value}(hv:v.ownBlock=some g)(hv0:∃c,v=(xg g n c)):∀(vs:List Value)(o:Nat)(w:World)(L:List Value),w.ownsRow base ty sz v n L->(setCs w g o vs).ownsRow base ty sz v n (setL L o vs)
 | [],o,w,L,h=>h
 |x::vs,o,w,L,h=>by
  obtain⟨c,rfl⟩:=hv0
  exact yBu hv ⟨c,rfl⟩ vs (o+1) _ _ (World.ownsRow.stored h o x).1
variable {cap:Nat}
theorem OwnG.setAll(hf:∀x,(f x).length=sz){g:Nat}{es:List α}(h:OwnG f sz ty w base g cap es){i:Nat}{e:α}(hi:i<es.length):OwnG f sz ty (setCs w g (i*sz) (f e)) base g cap (es.set i e):=by
 have h1:=yBu (sz:=sz) (ty:=ty) (base:=base) (g:=g) (n:=es.length) (v:=(xg g es.length cap)) rfl ⟨cap,rfl⟩ (f e) (i*sz) w (es.flatMap f) h;have h2:setL (es.flatMap f) (i*sz) (f e)=(es.set i e).flatMap f:=by
  apply ext_getElem?;intro j;rw[yIv,hf,yCk hf];by_cases hs:sz=0
  .subst hs;rw[if_neg qo,getElem?_eq_none (by rw[yCk hf];omega),getElem?_eq_none (by rw[yCk hf];omega)]
  have hd:=div_add_mod j sz;have hm:=mod_lt j (Nat.pos_of_ne_zero hs);have hj:j=j/sz*sz+j%sz:=by rw[Nat.mul_comm];omega
  by_cases hjl:j/sz<es.length
  .obtain⟨x,hx⟩:∃x,(es.set i e)[j/sz]?=some x:=qg (by rw[length_set];exact hjl);obtain⟨y,hy⟩:∃y,es[j/sz]?=some y:=qg hjl;have g1:=yFb hf (es.set i e) (j/sz) x hx (j%sz) hm;have g2:=yFb hf es (j/sz) y hy (j%sz) hm;rw[<-hj]at g1 g2;rw[g1];by_cases hji:j/sz=i
   .have a1:x=e:=by rw[hji]at hx;rw[getElem?_set_self hi]at hx;exact(Option.some.inj hx).symm
    have a3:i*sz<=j:=by rw[<-hji];omega
    have a2:j<es.length*sz:=by have:=mul_le_mul_right sz (show j/sz+1<=es.length from hjl);rw[Nat.add_mul]at this;omega
    rw[if_pos ⟨a3,by rw[<-hji];omega,a2⟩,a1];congr 1;rw[<-hji];omega
   .have a0:x=y:=by rw[getElem?_set_ne (λq=>hji q.symm)]at hx;rw[hx]at hy;exact Option.some.inj hy
    rw[if_neg (λq=>hji ?_),g2,a0];have h3:j/sz≥i:=(le_div_iff_mul_le (Nat.pos_of_ne_zero hs)).2 q.1;have h4:j/sz<i+1:=(div_lt_iff_lt_mul (Nat.pos_of_ne_zero hs)).2 (by rw[Nat.add_mul];omega);omega
  .have h3:es.length*sz<=j:=qw (mul_le_mul_right sz (show es.length<=j/sz by omega))
   rw[if_neg (by omega),getElem?_eq_none (by rw[yCk hf];exact h3),getElem?_eq_none (by rw[yCk hf,length_set];exact h3)]
 rw[h2]at h1;unfold OwnG;rw[length_set];exact h1
end
end
structure Ix where
 op:Int
 a:Int
 b:Int
 free:Bool
 leaf:Nd
structure Ix.ok(e:Ix):Prop where
 op:(Lit.int .i64 e.op).wf=true
 a:(Lit.int .i64 e.a).wf=true
 b:(Lit.int .i64 e.b).wf=true
 leaf:e.leaf.ok
abbrev Ix.ten(e:Ix):List Value:= [.int .i64 e.op,.int .i64 e.a,.int .i64 e.b,.bool e.free,.int .i64 e.leaf.kind,.string e.leaf.s,.bool e.leaf.hi,.string e.leaf.t,.int .u64 e.leaf.lo,.int .u64 e.leaf.up,.int .i64 e.leaf.n]
abbrev Ix.v(e:Ix):Value:=.agg #[xi e.op,xi e.a,xi e.b,e.free,xi e.leaf.kind,e.leaf.s,e.leaf.hi,e.leaf.t,xu e.leaf.lo,xu e.leaf.up,xi e.leaf.n]
def yXn:Ix:=⟨0,0,0,false,xIn⟩
def cellsX(es:List Ix):List Value:=es.flatMap Ix.ten
theorem yDf(e:Ix) es:cellsX (e::es)=e.ten++cellsX es:=by simp[cellsX]
theorem yN8(es:List Ix):(cellsX es).length=es.length*11:=by
 induction es with
 |nil=>rfl
 |cons e es ih=>rw[yDf,length_append,ih];simp;omega
theorem yMu es:∀(k:Nat)(e:Ix),es[k]?=some e->∀j,j<11->(cellsX es)[k*11+j]?=e.ten[j]?:=by
 induction es with
 |nil=>intro k e h;simp at h
 |cons f es ih=>
  intro k e h j hj;rw[yDf];cases k with
  |zero=>
   simp at h;subst h;rw[getElem?_append_left (by show 0*11+j<11;omega)];simp
  |succ k=>
   simp at h;rw[getElem?_append_right (by show 11<=(k+1)*11+j;omega)];have:(k+1)*11+j-f.ten.length=k*11+j:=by show(k+1)*11+j-11=_;omega
   rw[this];exact ih k e h j hj
theorem yW3(es:List Ix):∀(k:Nat)(e e':Ix)(u:Value)(j:Nat),es[k]?=some e->j<11->e'.ten=e.ten.set j u->(cellsX es).set (k*11+j) u=cellsX (es.set k e'):=by
 induction es with
 |nil=>intro k e e' u j h;simp at h
 |cons f es ih=>
  intro k e e' u j h hj hc;rw[yDf];cases k with
  |zero=>
   simp at h;subst h;rw[set_append_left _ _ (by show 0*11+j<11;omega),set_cons_zero,yDf,hc];simp
  |succ k=>
   simp at h;rw[set_append_right _ _ (by show 11<=(k+1)*11+j;omega),set_cons_succ,yDf];have:(k+1)*11+j-f.ten.length=k*11+j:=by show(k+1)*11+j-11=_;omega
   rw[this,ih k e e' u j h hj hc]
def yB5(w:World)(b off:Nat)(es:List Ix):Prop:=
 ∀i e,es[i]?=some e->xk w b (off+i*11) (xi e.op)/\xk w b (off+i*11+1) (xi e.a)/\xk w b (off+i*11+2) (xi e.b)/\xk w b (off+i*11+3) e.free/\xk w b (off+i*11+4) (xi e.leaf.kind)/\xk w b (off+i*11+5) e.leaf.s/\xk w b (off+i*11+6) e.leaf.hi/\xk w b (off+i*11+7) e.leaf.t/\xk w b (off+i*11+8) (xu e.leaf.lo)/\xk w b (off+i*11+9) (xu e.leaf.up)/\xk w b (off+i*11+10) (xi e.leaf.n)
variable {b:Nat} {es:List Ix}
theorem yB5.below{off:Nat}(h:yB5 w b off es)(hb:Below B w w')(hlt:b<B):yB5 w' b off es:=by
 intro i e he;have:=h i e he;refine⟨?_,?_,?_,?_,?_,?_,?_,?_,?_,?_,?_⟩;all_goals rw[hb.cell (by exact hlt)]
 .exact this.1
 .exact this.2.1
 .exact this.2.2.1
 .exact this.2.2.2.1
 .exact this.2.2.2.2.1
 .exact this.2.2.2.2.2.1
 .exact this.2.2.2.2.2.2.1
 .exact this.2.2.2.2.2.2.2.1
 .exact this.2.2.2.2.2.2.2.2.1
 .exact this.2.2.2.2.2.2.2.2.2.1
 .exact this.2.2.2.2.2.2.2.2.2.2
theorem yB5.chg{S:Nat->Prop}{off:Nat}(h:yB5 w b off es)(hb:Chg S w w')(hlt:b<w.heap.size)(hn:¬S b):yB5 w' b off es:=by
 intro i e he;have:=h i e he;refine⟨?_,?_,?_,?_,?_,?_,?_,?_,?_,?_,?_⟩;all_goals rw[hb.cell (by exact hlt) (by exact hn)]
 .exact this.1
 .exact this.2.1
 .exact this.2.2.1
 .exact this.2.2.2.1
 .exact this.2.2.2.2.1
 .exact this.2.2.2.2.2.1
 .exact this.2.2.2.2.2.2.1
 .exact this.2.2.2.2.2.2.2.1
 .exact this.2.2.2.2.2.2.2.2.1
 .exact this.2.2.2.2.2.2.2.2.2.1
 .exact this.2.2.2.2.2.2.2.2.2.2
def OwnX(w:World)(base g cap:Nat)(es:List Ix):Prop:=w.ownsRow base 153 11 (xg g es.length cap) es.length (cellsX es)
variable {cap:Nat}
theorem OwnX.at{g:Nat}(h:OwnX w base g cap es):yB5 w g 0 es:=by
 intro i e he;have hi:=qf he;have c:=λj (hj:j<11)=>(World.ownsRow.cellAt h (i*11+j) qo).trans (yMu es i e he j hj);refine⟨?_,?_,?_,?_,?_,?_,?_,?_,?_,?_,?_⟩
 .simpa using c 0 qo
 .simpa using c 1 qo
 .simpa using c 2 qo
 .simpa using c 3 qo
 .simpa using c 4 qo
 .simpa using c 5 qo
 .simpa using c 6 qo
 .simpa using c 7 qo
 .simpa using c 8 qo
 .simpa using c 9 qo
 .simpa using c 10 qo
theorem OwnX.lt{g:Nat}(h:OwnX w base g cap es):base<=g/\g<w.heap.size:=World.ownsRow.lt h g rfl
theorem OwnX.below{g:Nat}(h:OwnX w base g cap es)(hb:Below B w w')(hg:g<B):OwnX w' base g cap es:=by exact xAr
theorem OwnX.caps{g:Nat}{R:List Ix}(h:OwnX w base g cp R):R.length<=cp/\cp<=maxLen:=by exact yMx
theorem OwnX.set{g:Nat}(h:OwnX w base g cap es)(k j:Nat)(e e':Ix)(u:Value)(hk:es[k]?=some e)(hj:j<11)(hc:e'.ten=e.ten.set j u):
  OwnX (xt w g (k*11+j) u) base g cap (es.set k e'):=by
 have:=(World.ownsRow.stored h (k*11+j) u).1;rw[yW3 es k e e' u j hk hj hc]at this;unfold OwnX;rw[length_set];exact this
theorem Tryz.infoX:(prog.info? 153).map (λi=>(i.zero,i.size,i.bytes))=some (some (.agg #[xi 0,xi 0,xi 0,false,xi 0,xe,false,xe,xu 0,xu 0,xi 0]),11,104):=qk
theorem OwnX.put{g:Nat}(h:OwnX w base g cap es)(k:Nat)(f e:Ix)(hk:es[k]?=some f):
  OwnX (xt ((((((((((w.setCell (xd g (k*11)) (xi e.op)).setCell (xd g (k*11+1)) (xi e.a)).setCell (xd g (k*11+2)) (xi e.b)).setCell (xd g (k*11+3)) e.free).setCell (xd g (k*11+4)) (xi e.leaf.kind)).setCell (xd g (k*11+5)) e.leaf.s).setCell (xd g (k*11+6)) e.leaf.hi).setCell (xd g (k*11+7)) e.leaf.t).setCell (xd g (k*11+8)) (xu e.leaf.lo)).setCell (xd g (k*11+9)) (xu e.leaf.up)) g (k*11+10) (xi e.leaf.n)) base g cap (es.set k e):=by
 have a0:=qf hk;have g1:=h.set k 0 f ({f with op:=e.op}) (xi e.op) hk qo rfl;have g2:=g1.set k 1 ({f with op:=e.op}) ({f with op:=e.op,a:=e.a}) (xi e.a) (by simp[a0]) qo rfl;have g3:=g2.set k 2 ({f with op:=e.op,a:=e.a}) ({f with op:=e.op,a:=e.a,b:=e.b}) (xi e.b) (by simp[a0]) qo rfl;have g4:=g3.set k 3 ({f with op:=e.op,a:=e.a,b:=e.b}) ({f with op:=e.op,a:=e.a,b:=e.b,free:=e.free}) e.free (by simp[a0]) qo rfl;have g5:=g4.set k 4 ({f with op:=e.op,a:=e.a,b:=e.b,free:=e.free}) ({f with op:=e.op,a:=e.a,b:=e.b,free:=e.free,leaf:={f.leaf with kind:=e.leaf.kind}}) (xi e.leaf.kind) (by simp[a0]) qo rfl;have g6:=g5.set k 5 ({f with op:=e.op,a:=e.a,b:=e.b,free:=e.free,leaf:={f.leaf with kind:=e.leaf.kind}}) ({f with op:=e.op,a:=e.a,b:=e.b,free:=e.free,leaf:={f.leaf with kind:=e.leaf.kind,s:=e.leaf.s}}) e.leaf.s (by simp[a0]) qo rfl;have g7:=g6.set k 6 ({f with op:=e.op,a:=e.a,b:=e.b,free:=e.free,leaf:={f.leaf with kind:=e.leaf.kind,s:=e.leaf.s}}) ({f with op:=e.op,a:=e.a,b:=e.b,free:=e.free,leaf:={f.leaf with kind:=e.leaf.kind,s:=e.leaf.s,hi:=e.leaf.hi}}) e.leaf.hi (by simp[a0]) qo rfl;have g8:=g7.set k 7 ({f with op:=e.op,a:=e.a,b:=e.b,free:=e.free,leaf:={f.leaf with kind:=e.leaf.kind,s:=e.leaf.s,hi:=e.leaf.hi}}) ({f with op:=e.op,a:=e.a,b:=e.b,free:=e.free,leaf:={f.leaf with kind:=e.leaf.kind,s:=e.leaf.s,hi:=e.leaf.hi,t:=e.leaf.t}}) e.leaf.t (by simp[a0]) qo rfl;have g9:=g8.set k 8 ({f with op:=e.op,a:=e.a,b:=e.b,free:=e.free,leaf:={f.leaf with kind:=e.leaf.kind,s:=e.leaf.s,hi:=e.leaf.hi,t:=e.leaf.t}}) ({f with op:=e.op,a:=e.a,b:=e.b,free:=e.free,leaf:={f.leaf with kind:=e.leaf.kind,s:=e.leaf.s,hi:=e.leaf.hi,t:=e.leaf.t,lo:=e.leaf.lo}}) (xu e.leaf.lo) (by simp[a0]) qo rfl;have a2:=g9.set k 9 ({f with op:=e.op,a:=e.a,b:=e.b,free:=e.free,leaf:={f.leaf with kind:=e.leaf.kind,s:=e.leaf.s,hi:=e.leaf.hi,t:=e.leaf.t,lo:=e.leaf.lo}}) ({f with op:=e.op,a:=e.a,b:=e.b,free:=e.free,leaf:={f.leaf with kind:=e.leaf.kind,s:=e.leaf.s,hi:=e.leaf.hi,t:=e.leaf.t,lo:=e.leaf.lo,up:=e.leaf.up}}) (xu e.leaf.up) (by simp[a0]) qo rfl;have a1:=a2.set k 10 ({f with op:=e.op,a:=e.a,b:=e.b,free:=e.free,leaf:={f.leaf with kind:=e.leaf.kind,s:=e.leaf.s,hi:=e.leaf.hi,t:=e.leaf.t,lo:=e.leaf.lo,up:=e.leaf.up}}) e (xi e.leaf.n) (by simp[a0]) qo rfl;simpa only[set_set,Nat.add_zero]using a1
theorem yVu{fs:List Ix}{k:Nat}{e:Ix}(h:fs.take k=es.take k)(hl:fs.length=es.length)(he:es[k]?=some e):(fs.set k e).take (k+1)=es.take (k+1):=by have a0:k<es.length:=qf he;rw[List.take_set,take_add_one,take_add_one (l:=es),he,getElem?_eq_getElem (by omega),h];simp only[Option.toList];rw[set_append_right _ _ (by simp;omega)];simp;rw[show k-min k es.length=0 by omega];rfl
theorem yVv(e:Ix)(left:Int)(w:World)(ho:e.ok)(h0:0<=left)(h1:left<=2^40):
  Calls prog 168 #[e.v,xi left] w λr w'=>∃x,r=.returned (xi x)/\(x= -1\/(0<=x/\x<=left))/\Below w w w':=by
 go_enter func168,ntmps168;go_wp2_with fail;refine(yR0 e.leaf left _ ho.leaf h0 h1).mono ?_;rintro r w1 ⟨x,rfl,hx,a0⟩;have k1:=((Below.refl _ _).alloc qr (Obj.cells #[xi e.op,xi e.a,xi e.b,e.free,xi e.leaf.kind,e.leaf.s,e.leaf.hi,e.leaf.t,xu e.leaf.lo,xu e.leaf.up,xi e.leaf.n] 264)).trans (a0.mono (by simp));have HX:Hid (x= -1\/(0<=x/\x<=left)):=by show _\/_;omega
 by_cases hx0:x<0
 .clear hx;go_wp2_with fail;go_ret;exact⟨_,rfl,.inl rfl,k1⟩
 .clear hx;go_wp2_with fail;go_ret;exact⟨_,rfl,HX.out,k1⟩
theorem yKu{a:World}(h:Below B a w){g:Nat}(hg:B<=g)(o0 o1 o2 o3 o4 o5 o6 o7 o8 o9 o10:Nat)(v0 v1 v2 v3 v4 v5 v6 v7 v8 v9 v10:Value):
  Below B a (xt ((((((((((w.setCell (xd g o0) v0).setCell (xd g o1) v1).setCell (xd g o2) v2).setCell (xd g o3) v3).setCell (xd g o4) v4).setCell (xd g o5) v5).setCell (xd g o6) v6).setCell (xd g o7) v7).setCell (xd g o8) v8).setCell (xd g o9) v9) g o10 v10):=
 ((((((((((h.setCell hg _).setCell hg _).setCell hg _).setCell hg _).setCell hg _).setCell hg _).setCell hg _).setCell hg _).setCell hg _).setCell hg _).setCell hg _
theorem yVs(e:Ix)(w:World):(xf 173 #[e.v] w e.v:Prop):=by
 obtain⟨W0,a3⟩:=qE (xw ((w.alloc (Obj.cells #[xi e.op,xi e.a,xi e.b,e.free,xi e.leaf.kind,e.leaf.s,e.leaf.hi,e.leaf.t,xu e.leaf.lo,xu e.leaf.up,xi e.leaf.n] 264)).alloc (Obj.cells #[xi 0,xi 0,xi 0,false,xi 0,xe,false,xe,xu 0,xu 0,xi 0] 153)) #[xi e.op,xi e.a,xi e.b,e.free,xi 0,xe,false,xe,xu 0,xu 0,xi 0] 153:World);have HB:=qH1 (box3 a3);go_enter func173,ntmps173;go_upto_region 6 with fail;rw[<-a3];clear a3;obtain⟨_,_,_,_,a4,a5,a6,a7,a8,a9,ac⟩:=HB.1.c11;go_wp2_with fail;refine(yRw e.leaf _).mono ?_;rintro r w1 ⟨rfl,a2⟩;clear a4 a5 a6 a7 a8 a9 ac;have HC:=qH3 (HB.2.1.below a2) (HB.2.2.1.below a2) (HB.2.2.2.trans (a2.mono HB.2.2.2.size));obtain⟨b0,b1,b2,b3,b4,b5,b6,b7,b8,b9,aa⟩:=HC.2.1.c11;have bf:=λj=>HC.2.1.frozen j;go_upto_region 7 with fail;obtain⟨W7,a0⟩:=qE (setCs w1 (w+1+1) 4 [xi e.leaf.kind,e.leaf.s,e.leaf.hi,e.leaf.t,xu e.leaf.lo,xu e.leaf.up,xi e.leaf.n]:World);have a1:Chg (λq=>q=w.heap.size+1+1) w1 W7:=by rw[a0];exact yAl (S:=λq=>q=_) _ rfl _ _ _
 have H7:=qH3 (by rw[a0];exact yBu (v:=(xg (w+1+1) 1 1)) rfl ⟨1,rfl⟩ _ 4 w1 _ HC.2.1:yA W7 w 153 11 (w+1+1) e.ten) (HC.1.chg a1 qo) (Chg.below HC.2.2 a1 HC.2.2.size (λq hq=>qo));simp only[setCs,Nat.reduceAdd]at a0;rw[<-a0];clear a0 a1 bf b0 b1 b2 b3 b4 b5 b6 b7 b8 b9 aa;obtain⟨b0,b1,b2,b3,b4,b5,b6,b7,b8,b9,aa⟩:=H7.1.c11;obtain⟨d0,d1,d2,d3,d4,d5,d6,d7,d8,d9,ab⟩:=H7.2.1.c11;have df:=λj=>H7.2.1.frozen j;go_wp2_with fail;refine bodyPost_ret (v:=e.v) (by simp[results,results173,go_sem,d0,d1,d2,d3,d4,d5,d6,d7,d8,d9,ab]) rfl ⟨rfl,?_⟩;exact yKu H7.2.2 qo _ _ _ _ _ _ _ _ _ _ _ _ _ _ _ _ _ _ _ _ _ _
theorem yWv(e:Ix)(w:World):(xf 174 #[e.v,e.v] w true:Prop):=by have k0:Below w w (xw (w.alloc (Obj.cells #[xi e.op,xi e.a,xi e.b,e.free,xi e.leaf.kind,e.leaf.s,e.leaf.hi,e.leaf.t,xu e.leaf.lo,xu e.leaf.up,xi e.leaf.n] 153)) #[xi e.op,xi e.a,xi e.b,e.free,xi e.leaf.kind,e.leaf.s,e.leaf.hi,e.leaf.t,xu e.leaf.lo,xu e.leaf.up,xi e.leaf.n] 153):=(qB).alloc (by simp) _;go_enter func174,ntmps174;go_wp2_with fail;refine(yTn e.leaf _).mono ?_;rintro r w1 ⟨rfl,a0⟩;go_wp2_with fail;go_ret;exact⟨rfl,k0.trans (a0.mono (by simp;omega))⟩
theorem Tryz.cellsX:prog.cellsOf 264=11:=qk
variable {α:Type}
theorem xH1{cs:List α}(h:cs.length=11):∃c0 c1 c2 c3 c4 c5 c6 c7 c8 c9 c10,cs= [c0,c1,c2,c3,c4,c5,c6,c7,c8,c9,c10]:=by
 match cs,h with
 | [c0,c1,c2,c3,c4,c5,c6,c7,c8,c9,c10],_=>exact⟨c0,c1,c2,c3,c4,c5,c6,c7,c8,c9,c10,rfl⟩
theorem xHz{cs:List α}(h:cs.length=5):∃c0 c1 c2 c3 c4,cs= [c0,c1,c2,c3,c4]:=by
 match cs,h with
 | [c0,c1,c2,c3,c4],_=>exact⟨c0,c1,c2,c3,c4,rfl⟩
theorem yWq{H:Type}{enc:TypeId×Value->H}{spare:Nat->Bool}{held:Bool}{fuel:Nat}{cs:List Value}{x:DataW H×List MemPlace}
  (h:DataW.trod enc prog w base spare held fuel 264 cs=some x):∃e:Ix,e.ok/\cs=e.ten:=by
 obtain⟨xs,n,_,_,hl,a4,hf⟩:=DataW.trod_struct underlying264 h;rw[Tryz.cellsX]at hl;obtain⟨c0,c1,c2,c3,c4,c5,c6,c7,c8,c9,c10,rfl⟩:=xH1 hl;obtain⟨x0,x1,x2,x3,x4,rfl⟩:=xHz (cs:=xs) a4;have h0:=hf 0 _ rfl;have h1:=hf 1 _ rfl;have h2:=hf 2 _ rfl;have h3:=hf 3 _ rfl;have h4:=hf 4 _ rfl;simp[Tryz.cellsStr,Tryz.cellsU64,Tryz.cellsI64,Tryz.cellsBool,Tryz.cellsNd]at h0 h1 h2 h3 h4;obtain⟨a0,e0,_,b0⟩:=DataW.trod_int underlying2 h0;obtain⟨a1,e1,_,b1⟩:=DataW.trod_int underlying2 h1;obtain⟨a2,e2,_,b2⟩:=DataW.trod_int underlying2 h2;obtain⟨a3,e3,_⟩:=DataW.trod_bool underlying4 h3;obtain⟨e,ok,he⟩:=yWh h4;simp only[List.cons.injEq,and_true]at e0 e1 e2 e3 he;obtain⟨f0,f1,f2,f3,f4,f5,f6⟩:=he;exact⟨⟨a0,a1,a2,a3,e⟩,⟨b0,b1,b2,ok⟩,by rw[e0,e1,e2,e3,f0,f1,f2,f3,f4,f5,f6]⟩
def yAy(w:World)(v:Value)(es:List Ix):Prop:=
 (∃a cap,v=.slice a 0 cap/\es= [])\/
 ∃b off cap,v=.slice (some ⟨b,off,none⟩) es.length cap/\yB5 w b off es/\b<w.heap.size/\es.length<=cap/\cap<=maxLen
theorem yAy.below{v:Value}(h:yAy w v es)(hb:Below B w w')(hB:w.heap.size<=B):yAy w' v es:=by exact xAq
theorem yTi{H:Type}{enc:TypeId×Value->H}{held:Bool}{fuel:Nat}{v:Value}{x:DataW H×List MemPlace}
  (h:DataW.trod enc prog w base (λ_=>true) held fuel 47 [v]=some x):∃es:List Ix,yAy w v es/\∀e∈es,e.ok:=by
 rcases open_slice underlying47 h with⟨hcs,_⟩|⟨a,len,cap,m,n,D,Pl,hcs,a7,hl,hm,a3,_,a4⟩
 .exact xDt
 .simp only[List.cons.injEq,and_true]at hcs;subst hcs;rw[if_pos rfl]at a3;subst a3;have a1:∀i,i<m->∃cs',w.cells? base (a.add (i*11)) 11=some cs'/\DataW.trod enc prog w base (λ_=>true) held n 264 cs'=some (D i,Pl i):=λi hi=>by have:=a4 i hi;rw[Tryz.cellsX]at this;exact this
  clear a4;have HM:=qH1 hm;clear hm;by_cases h0:len=0
  .subst h0;exact⟨[],.inl ⟨_,_,rfl,rfl⟩,by simp⟩
  .obtain⟨b,off,a2⟩:=a;have a5:a2=none:=by
    obtain⟨cs',hc,_⟩:=a1 0 qo;obtain⟨_,a6,a0⟩:=World.cells?_some hc;have h1:=a0 0 qo;have h2:(w.cell? ((Addr.add ⟨b,off,a2⟩ (0*11)).add 0)).isSome=true:=by rw[h1];simp;omega
    obtain⟨u,hu⟩:=Option.isSome_iff_exists.1 h2;simpa [Addr.add]using World.cell?_spot hu
   subst a5;obtain⟨es,hes,hp⟩:=yC0 (P:=λi (e:Ix)=>e.ok/\(xk w b (off+i*11) (xi e.op)/\xk w b (off+i*11+1) (xi e.a)/\xk w b (off+i*11+2) (xi e.b)/\xk w b (off+i*11+3) e.free/\xk w b (off+i*11+4) (xi e.leaf.kind)/\xk w b (off+i*11+5) e.leaf.s/\xk w b (off+i*11+6) e.leaf.hi/\xk w b (off+i*11+7) e.leaf.t/\xk w b (off+i*11+8) (xu e.leaf.lo)/\xk w b (off+i*11+9) (xu e.leaf.up)/\xk w b (off+i*11+10) (xi e.leaf.n))) len (λi hi=>by
    obtain⟨cs',hc,ht⟩:=a1 i qo
    obtain⟨e,ok,rfl⟩:=yWq ht
    obtain⟨_,a6,a0⟩:=World.cells?_some hc
    refine⟨e,ok,?_,?_,?_,?_,?_,?_,?_,?_,?_,?_,?_⟩
    .simpa [Addr.add_mid]using a0 0 qo
    .simpa [Addr.add_mid]using a0 1 qo
    .simpa [Addr.add_mid]using a0 2 qo
    .simpa [Addr.add_mid]using a0 3 qo
    .simpa [Addr.add_mid]using a0 4 qo
    .simpa [Addr.add_mid]using a0 5 qo
    .simpa [Addr.add_mid]using a0 6 qo
    .simpa [Addr.add_mid]using a0 7 qo
    .simpa [Addr.add_mid]using a0 8 qo
    .simpa [Addr.add_mid]using a0 9 qo
    .simpa [Addr.add_mid]using a0 10 qo)
   have hlt:b<w.heap.size:=by obtain⟨cs',hc,_⟩:=a1 0 qo;simpa [Addr.add]using World.cells?_block hc qo
   exact xD0
theorem yR2(b off cap:Nat)(es:List Ix)(left:Int)(w:World)(hE:yB5 w b off es)(hok:∀e∈es,e.ok)(hB:b<w.heap.size)(hlen:es.length<=cap)(hcap:cap<=maxLen)(h0:0<=left)(h1:left<=2^40):
  Calls prog 117 #[.slice (some ⟨b,off,none⟩) es.length cap,xi left] w λe w'=>
   ∃x,e=.returned (xi x)/\(x= -1\/(0<=x/\x+es.length<=left))/\Below w w w':=by
 have HE:Hid (yB5 w b off es):=hE;have HO:Hid (∀e∈es,e.ok):=hok;clear hE hok;unfold maxLen at hcap;by_cases hle:left<es.length
 .have a0:left-es.length<0:=qo
  go_enter func117,ntmps117;go_wp2;go_ret;exact⟨_,rfl,.inl rfl,Below.refl _ _⟩
 have a0:0<=left-es.length:=qo
 go_enter func117,ntmps117;go_wp2;go_loopw[1,5] (λl i wr=>∃(k:Nat)(x:Int),k<=es.length/\i=(xi k)/\l=(xi x)/\0<=x/\x+es.length<=left/\Below w w wr) (λ_ i _=>es.length-(intOf i).toNat);case atStart=>exact⟨0,_,zero_le _,rfl,rfl,a0,qo,Below.refl _ _⟩
 case round=>
  obtain⟨k,x,hk,rfl,rfl,a3,a2,hb⟩:=hrel;by_cases hlt:k<es.length
  .obtain⟨e,he⟩:∃e,es[k]?=some e:=qg hlt;obtain⟨c0,c1,c2,c3,c4,c5,c6,c7,c8,c9,c10⟩:=(HE.below hb hB) k e he;have ok:=HO.out e (mem_of_getElem? he);have HK:Hid e.ok:=ok;clear ok he;go_wp2_with fail;refine(yVv e _ _ HK.out qo qo).mono ?_;rintro e w1 ⟨y,rfl,hy,a1⟩;have a4:=hb.size;have hb2:=hb.trans (a1.mono a4);clear c0 c1 c2 c3 c4 c5 c6 c7 c8 c9 c10 a1;exact xGj
  .go_wp2;go_ret;exact⟨_,rfl,.inr ⟨a3,a2⟩,hb⟩
theorem yR1(a:Option Addr)(cap:Nat)(left:Int)(w:World)(h0:0<=left)(h1:left<=2^40):
  (xf 117 #[.slice a 0 cap,xi left] w (xi left):Prop):=by
 go_enter func117,ntmps117;exact xD5
theorem yVw(v:Value)(es:List Ix)(left:Int)(w:World)(h:yAy w v es)(hok:∀e∈es,e.ok)(h0:0<=left)(h1:left<=2^40):
  Calls prog 117 #[v,xi left] w λe w'=>
   ∃x,e=.returned (xi x)/\(x= -1\/(0<=x/\x+es.length<=left))/\Below w w w':=by
 rcases h with⟨a,cap,rfl,rfl⟩|⟨b,off,cap,rfl,hE,a0,g1,g2⟩
 .exact(yR1 a cap left w h0 h1).mono λe w' ⟨he,hb⟩=>⟨left,he,.inr ⟨h0,by simp⟩,hb⟩
 .exact yR2 b off cap es left w hE hok a0 g1 g2 h0 h1
theorem yMc(n:Nat):(madeCells #[xi 0,xi 0,xi 0,false,xi 0,xe,false,xe,xu 0,xu 0,xi 0] (n*11)).toList=cellsX (List.replicate n yXn):=by
 apply ext_getElem?;intro j;by_cases hj:j<n*11
 .have h:=yMu (List.replicate n yXn) (j/11) yXn (by rw[getElem?_replicate,if_pos (by omega)]) (j%11) (mod_lt _ (by omega));rw[show j/11*11+j%11=j by omega]at h;rw[h];have h6:j%11<11:=mod_lt _ qo;simp[madeCells,hj];generalize j%11=m at*;match m,h6 with
  |0,_=>rfl
  |1,_=>rfl
  |2,_=>rfl
  |3,_=>rfl
  |4,_=>rfl
  |5,_=>rfl
  |6,_=>rfl
  |7,_=>rfl
  |8,_=>rfl
  |9,_=>rfl
  |10,_=>rfl
 .have h1:(cellsX (List.replicate n yXn)).length<=j:=by rw[yN8,length_replicate];omega
  rw[getElem?_eq_none h1];simp[madeCells,hj]
theorem yRy(b off cap:Nat)(es:List Ix)(w:World)(hE:yB5 w b off es)(hB:b<w.heap.size)(hlen:es.length<=cap)(hcap:cap<=maxLen)(h1:es.length<=1048576):
  Calls prog 124 #[.slice (some ⟨b,off,none⟩) es.length cap] w λe w'=>
   ∃g,e=.returned (xg g es.length es.length)/\OwnX w' w g es.length es/\Below w w w':=by
 have HE:=qH1 hE;clear hE;unfold maxLen at hcap;obtain⟨i,hi,a3,a2,a1⟩:=info_parts Tryz.infoX;have HI:=qH4 hi a3 a2 a1;clear hi a3 a2 a1;go_enter func124,ntmps124;go_wp2_with (at_make;refine wpList_make_full _ rfl _ _ 30 rfl w 153 i _ 11 underlying30 HI.1 HI.2.1 HI.2.2.1 _ _ _ _ es.length rfl rfl ?_ ?_ ?hb ?hm ?hs ?_);case hb=>rw[HI.2.2.2];omega
 case hm=>unfold maxLen;omega
 case hs=>exact Nat.le_refl _
 .rfl
 .rfl
 intro w1 a0 a5;rw[yMc]at a0;have a4:OwnX w1 w w es.length (List.replicate es.length yXn):=by unfold OwnX;rw[length_replicate];exact a0
 have HW:=qH1 a4;have a9:=(Below.refl _ _).grown a5 qr (λk hk=>by cases hk);clear a0 a4 a5;go_wp2;go_loopw[4] (λi wr=>∃(k:Nat)(fs:List Ix),k<=es.length/\i=(xi k)/\fs.length=es.length/\fs.take k=es.take k/\OwnX wr w w es.length fs/\Below w w wr) (λi _=>es.length-(intOf i).toNat);case atStart=>exact⟨0,_,zero_le _,rfl,length_replicate ..,rfl,HW.out,a9⟩
 case round=>
  obtain⟨k,fs,hk,rfl,a7,a6,hO,hb⟩:=hrel;have HO:=qH3 a7 a6 hO;clear a7 a6 hO;by_cases hlt:k<es.length
  .obtain⟨e,he⟩:∃e,es[k]?=some e:=qg hlt;obtain⟨c0,c1,c2,c3,c4,c5,c6,c7,c8,c9,c10⟩:=(HE.below hb hB) k e he;have HG:=qH1 he;clear he;go_wp2_with fail;refine(yVs e _).mono ?_;rintro e' w2 ⟨rfl,hb2⟩;have hO2:=(HO.2.2).below hb2 (HO.2.2).lt.2;obtain⟨f,hf⟩:∃f,fs[k]?=some f:=qg (by rw[HO.1];exact hlt);obtain⟨d0,d1,d2,d3,d4,d5,d6,d7,d8,d9,aa⟩:=hO2.at k f hf;simp only[Nat.zero_add]at d0 d1 d2 d3 d4 d5 d6 d7 d8 d9 aa;have ab:=λj=>World.ownsRow.frozenAt hO2 j;have a8:=qH2 hO2 hf;clear hO2 hf c0 c1 c2 c3 c4 c5 c6 c7 c8 c9 c10;refine zY ?_;exact⟨k+1,fs.set k e,qo,by go_num,by rw[length_set];exact HO.1,yVu HO.2.1 HO.1 HG.out,a8.1.put k f e a8.2,yKu (hb.trans (hb2.mono hb.size)) qr _ _ _ _ _ _ _ _ _ _ _ _ _ _ _ _ _ _ _ _ _ _⟩
  .exact xGd
theorem yRx(a:Option Addr)(cap:Nat)(w:World):
  Calls prog 124 #[.slice a 0 cap] w λe w'=>
   ∃g,e=.returned (xg g 0 0)/\OwnX w' w g 0 []/\Below w w w':=by
 obtain⟨i,hi,a2,a1,a0⟩:=info_parts Tryz.infoX;have HI:=qH4 hi a2 a1 a0;clear hi a2 a1 a0;go_enter func124,ntmps124;go_wp2_with (at_make;refine wpList_make_full _ rfl _ _ 30 rfl w 153 i _ 11 underlying30 HI.1 HI.2.1 HI.2.2.1 _ _ _ _ 0 rfl rfl ?_ ?_ ?hb ?hm ?hs ?_);case hb=>rw[HI.2.2.2];omega
 case hm=>unfold maxLen;omega
 case hs=>exact Nat.le_refl _
 .rfl
 .rfl
 intro w1 hown hgrow;have HW:Hid (OwnX w1 w w 0 []):=by have h0:=yMc 0;rw[Nat.zero_mul]at h0;rw[h0]at hown;exact hown
 exact xGn
theorem yVt(v:Value)(es:List Ix)(w:World)(h:yAy w v es)(h1:es.length<=1048576):
  Calls prog 124 #[v] w λe w'=>
   ∃g,e=.returned (xg g es.length es.length)/\OwnX w' w g es.length es/\Below w w w':=by
 rcases h with⟨a,cap,rfl,rfl⟩|⟨b,off,cap,rfl,hE,a0,g1,g2⟩
 .exact yRx a cap w
 .exact yRy b off cap es w hE a0 g1 g2 h1
theorem yTo(b off cap b' off' cap':Nat)(es:List Ix)(w:World)(hE:yB5 w b off es)(hE':yB5 w b' off' es)(hB:b<w.heap.size)(hB':b'<w.heap.size)(hlen:es.length<=maxLen):
  Calls prog 125 #[.slice (some ⟨b,off,none⟩) es.length cap,.slice (some ⟨b',off',none⟩) es.length cap'] w λe w'=>
   e=.returned true/\Below w w w':=by
 have HE:=qH2 hE hE';clear hE hE';unfold maxLen at hlen;go_enter func125,ntmps125;go_wp2;go_loopw[5] (λi wr=>∃(k:Nat),k<=es.length/\i=(xi k)/\Below w w wr) (λi _=>es.length-(intOf i).toNat);case atStart=>exact⟨0,zero_le _,rfl,Below.refl _ _⟩
 case round=>
  obtain⟨k,hk,rfl,hb⟩:=hrel;have a2:=hb.size;by_cases hlt:k<es.length
  .obtain⟨e,he⟩:∃e,es[k]?=some e:=qg hlt;obtain⟨c0,c1,c2,c3,c4,c5,c6,c7,c8,c9,c10⟩:=HE.1.below hb hB k e he;obtain⟨d0,d1,d2,d3,d4,d5,d6,d7,d8,d9,a1⟩:=HE.2.below hb hB' k e he;clear he;go_upto_region 6 with fail;go_cut[26] (λs wx=>s=false/\Below w w wx);case first=>
    have z2:(k:Int)<(es.length:Int):=qo
    go_region_with (go_at_call 174;refine(yWv e _).mono ?_;rintro e' w' ⟨rfl,a0⟩);all_goals go_wp2_with fail
    all_goals go_meet
    all_goals exact⟨rfl,hb.drew.trans (a0.mono (by simp;omega))⟩
   case rest=>
   obtain⟨rfl,h3⟩:=hcut;clear c0 c1 c2 c3 c4 c5 c6 c7 c8 c9 c10 d0 d1 d2 d3 d4 d5 d6 d7 d8 d9 a1;exact xDx
  .go_wp2;go_ret;exact⟨rfl,hb⟩
theorem yGd(a a':Option Addr)(cap cap':Nat)(w:World):
  (xf 125 #[.slice a 0 cap,.slice a' 0 cap'] w true:Prop):=by
 go_enter func125,ntmps125;exact xD2
theorem yAy.own{g:Nat}(h:OwnX w base g cap es)(hn:n=es.length):yAy w (xg g n cap) es:=by subst hn;exact .inr ⟨g,0,cap,rfl,h.at,h.lt.2,h.caps.1,h.caps.2⟩
theorem yWw(u u':Value) es (w:World) (h:yAy w u es) (h':yAy w u' es):
  (xf 125 #[u,u'] w true:Prop):=by
 rcases h with⟨a,cap,rfl,rfl⟩|⟨b,off,cap,rfl,hE,a4,g1,g2⟩
 .rcases h' with⟨a',a0,rfl,_⟩|⟨b',a1,a0,rfl,a3,a2,a6,a5⟩
  .exact yGd a a' cap a0 w
  .exact yGd a _ cap a0 w
 .rcases h' with⟨a',a0,rfl,rfl⟩|⟨b',a1,a0,rfl,a3,a2,a6,a5⟩
  .exact yGd _ a' cap a0 w
  .exact yTo b off cap b' a1 a0 es w hE a3 a4 a2 (Nat.le_trans g1 g2)
inductive CT where
 |leaf (n:Nd)
 |chain (n:Nd) (a b:CT)
 |inter (n:Nd) (a b:CT)
 |cond (n:Nd) (a b c:CT)
def ctV(n:Nd):List CT->CT
 | [a,b]=>if n.kind=14 then .chain n a b else .inter n a b
 | [a,b,c]=>.cond n a b c
 |_=>.leaf n
def yIs(xs:List Nd)(t:CT):Prop:=TrV ctV [t] xs
inductive Part:CT->List Nd->Prop
 |leaf (n:Nd) (h:yA0 n.kind=0):Part (.leaf n) [n]
 |chain (n:Nd) {a b:CT} {ka kb:List Nd} (h:n.kind=14) (ha:yIs ka a) (hb:yIs kb b):Part (.chain n a b) (ka++kb++ [n])
 |inter (n:Nd) {a b:CT} {ka kb:List Nd} (h:n.kind=15) (ha:yIs ka a) (hb:yIs kb b):Part (.inter n a b) (ka++kb++ [n])
 |cond (n:Nd) {a b c:CT} {ka kb kc:List Nd} (h:n.kind=16) (ha:yIs ka a) (hb:yIs kb b) (hc:yIs kc c):Part (.cond n a b c) (ka++kb++kc++ [n])
theorem yEf{T:Type}{V:Nd->List T->T}{os:List T}{ks:List (List Nd)}{o:T}{k:List Nd}(h:KidV V os ks)(ho:os[j]?=some o)(hk:ks[j]?=some k):TrV V [o] k:=by
 obtain⟨o',h1,h2⟩:=KidV.nth _ h hk;rw[ho]at h1;cases h1
 exact h2
theorem yIs.part{t:CT}(h:yIs xs t):Part t xs:=by
 obtain⟨ys,n,os,rfl,hl,hT,rfl⟩:=TrV.inv _ h;obtain⟨ks,rfl,hK⟩:=TrV.kids _ hT;have a0:=hK.length;by_cases h14:n.kind=14
 .have ha:yA0 n.kind=2:=by unfold yA0;rw[if_pos (.inl h14)]
  rw[ha]at hl;match os,ks,hl,a0,hK with
  | [a,b],[ka,kb],_,_,hK=>
    have e1:ctV n [a,b]=.chain n a b:=if_pos h14;have e2: [ka,kb].flatten++ [n]=ka++kb++ [n]:=by simp
    rw[e1,e2];exact .chain n h14 (yEf hK (j:=0) rfl rfl) (yEf hK (j:=1) rfl rfl)
 .by_cases h15:n.kind=15
  .have ha:yA0 n.kind=2:=by unfold yA0;rw[if_pos (.inr h15)]
   rw[ha]at hl;match os,ks,hl,a0,hK with
   | [a,b],[ka,kb],_,_,hK=>
     have e1:ctV n [a,b]=.inter n a b:=if_neg h14;have e2: [ka,kb].flatten++ [n]=ka++kb++ [n]:=by simp
     rw[e1,e2];exact .inter n h15 (yEf hK (j:=0) rfl rfl) (yEf hK (j:=1) rfl rfl)
  .by_cases h16:n.kind=16
   .have ha:yA0 n.kind=3:=by unfold yA0;rw[if_neg qo,if_pos h16]
    rw[ha]at hl;match os,ks,hl,a0,hK with
    | [a,b,c],[ka,kb,kc],_,_,hK=>
      have e2: [ka,kb,kc].flatten++ [n]=ka++kb++kc++ [n]:=by simp
      rw[e2];exact .cond n h16 (yEf hK (j:=0) rfl rfl) (yEf hK (j:=1) rfl rfl) (yEf hK (j:=2) rfl rfl)
   .have ha:yA0 n.kind=0:=by unfold yA0;rw[if_neg qo,if_neg h16]
    have a1:os= []:=length_eq_zero_iff.1 qo;have a2:ks= []:=length_eq_zero_iff.1 qo;subst a1;subst a2;exact .leaf n ha
def yTk(k:Int):Bool:=decide (k=11\/k=12\/k=13)
def CT.size:CT->Nat
 | .leaf _=>1
 | .chain _ a b=>a.size+b.size+1
 | .inter _ a b=>a.size+b.size+1
 | .cond _ a b c=>a.size+b.size+c.size+1
theorem yYm(n:Nat):∀{t:CT}{xs:List Nd},xs.length<=n->yIs xs t->t.size=xs.length:=by
 induction n with
 |zero=>intro t xs hl h;have:=h.part;cases this<;>simp at hl
 |succ n ih=>
  intro t xs hl h;cases h.part with
  |leaf n h=>rfl
  |chain n h ha hb=>simp only[length_append,length_singleton]at hl|-;simp only[CT.size,ih qo ha,ih qo hb]
  |inter n h ha hb=>simp only[length_append,length_singleton]at hl|-;simp only[CT.size,ih qo ha,ih qo hb]
  |cond n h ha hb hc=>simp only[length_append,length_singleton]at hl|-;simp only[CT.size,ih qo ha,ih qo hb,ih qo hc]
theorem yIs.size{t:CT}(h:yIs xs t):t.size=xs.length:=yYm _ qr h
def cntK(k:Int):Prop:=k=11\/k=12\/k=13
def NoNd(e:Nd):Prop:=e.kind=0/\e.s.toList= []/\e.hi=false/\e.t.toList= []/\e.lo=0/\e.up=0/\e.n=0
def yIi(x:Ix):Prop:=x.free=false/\NoNd x.leaf
def yCy(x:Ix)(k n cnt conds:Int):Prop:=
 (x.op=1/\yFk [x.leaf]/\x.b=0/\((cntK x.leaf.kind/\0<=x.a/\x.a<cnt)\/(¬cntK x.leaf.kind/\x.a=0)))\/
 (x.op=5/\yIi x/\0<=x.a/\x.a<conds/\k<x.b/\x.b<=n)\/
 (x.op=6/\yIi x/\x.a=0/\k<x.b/\x.b<=n)\/
 ((x.op=2\/x.op=3\/x.op=4)/\yIi x/\x.a=0/\x.b=0)
def more(op:Int):Int:=if op=2 then 1 else if op=4 then-1 else 0
def least(op:Int):Int:=if op=3\/op=4 then 2 else 1
def ways(k:Nat)(x:Ix):List Nat:=if x.op=5 then [k+1,x.b.toNat]else if x.op=6 then [x.b.toNat]else [k+1]
def note(ds:List Int)(j:Nat)(d:Int):Option (List Int):=
 match ds[j]? with
 |some e=>if e=0\/e=d then some (ds.set j d)else none
 |none=>none
def yB1(d:Int):List Nat->List Int->Option (List Int)
 | [],ds=>some ds
 |j::js,ds=>(note ds j d).bind (yB1 d js)
def yC2(ds:List Int)(k:Nat)(x:Ix):Option (List Int):=
 match ds[k]? with
 |some e=>if e<least x.op\/250<e+more x.op then none else yB1 (e+more x.op) (ways k x) ds
 |none=>none
def yC6(xs:List Ix):Nat->Option (List Int)
 |0=>some (1::List.replicate xs.length 0)
 |k+1=>(yC6 xs k).bind λds=>(xs[k]?).bind λx=>yC2 ds k x
def yBe(l:List Ix)(cnt:Int)(conds:Nat):Prop:=
 1<=l.length/\l.length<=4000/\0<=cnt/\cnt<=200/\(∀(k:Nat)(x:Ix),l[k]?=some x->yCy x k l.length cnt conds)/\∃ds,yC6 l l.length=some ds/\ds[l.length]?=some 1
variable {xs:List Ix} {k:Nat} {ds:List Int} {x:Ix}
theorem yD3(h:yC6 xs k=some ds)(hx:xs[k]?=some x):yC6 xs (k+1)=yC2 ds k x:=by simp[yC6,h,hx]
theorem yQt(h:yC6 xs k=none)(hkm:k<=m):yC6 xs m=none:=by
 induction m with
 |zero=>have:k=0:=qo
        subst this;exact h
 |succ m ih=>
  by_cases e:k=m+1
  .subst e;exact h
  .simp[yC6,ih qo]
structure yIj(n:Nat)(ds:List Int):Prop where
 len:ds.length=n+1
 ran:∀d∈ds,0<=d/\d<=250
theorem xI2(xs:List Ix):yIj xs.length (1::List.replicate xs.length 0):=
 ⟨by simp,λd hd=>by
  rcases mem_cons.1 hd with rfl|hd
  .omega
  .have:=(List.mem_replicate.1 hd).2;omega⟩
variable {d:Int}
theorem xE5{ds':List Int}(h:yIj n ds)(hd:0<=d/\d<=250)(hn:note ds j d=some ds'):yIj n ds'/\ds'=ds.set j d/\j<=n:=by
 unfold note at hn;cases hj:ds[j]? with
 |none=>rw[hj]at hn;cases hn
 |some e=>
  rw[hj]at hn;have hl:=qf hj;simp only at hn;split at hn
  .obtain rfl:=Option.some.inj hn;refine⟨⟨by rw[length_set];exact h.len,λx hx=>?_⟩,rfl,qw h.len⟩;rcases mem_or_eq_of_mem_set hx with q|q
   .exact h.ran x q
   .rw[q];exact hd
  .cases hn
theorem yJp{e:Int}(hj:ds[j]?=some e)(h:e=0\/e=d):note ds j d=some (ds.set j d):=by unfold note;rw[hj];simp[h]
theorem yNx{e:Int}(hj:ds[j]?=some e)(h:¬(e=0\/e=d)):note ds j d=none:=by unfold note;rw[hj];simp[h]
theorem yNw(hd:0<=d/\d<=250):∀(js:List Nat){ds ds':List Int},yIj n ds->yB1 d js ds=some ds'->yIj n ds'
 | [],_,_,h,hn=>by obtain rfl:=Option.some.inj hn;exact h
 |j::js,ds,ds',h,hn=>by
  simp only[yB1,Option.bind_eq_some_iff]at hn
  obtain⟨d1,h1,h2⟩:=hn
  exact yNw hd js (xE5 h hd h1).1 h2
theorem xEe{ds':List Int}(h:yIj n ds)(hs:yC2 ds k x=some ds'):yIj n ds':=by
 unfold yC2 at hs;cases hj:ds[k]? with
 |none=>rw[hj]at hs;cases hs
 |some e=>
  rw[hj]at hs;simp only at hs;split at hs
  .cases hs
  .rename_i hc;have h1:=h.ran e (mem_of_getElem? hj);refine yNw ⟨?_,qo⟩ _ h hs;unfold least more at hc;unfold more;split at hc<;>split at hc<;>simp_all<;>omega
theorem yHn(h:yC6 xs k=some ds):yIj xs.length ds:=by
 induction k generalizing ds with
 |zero=>obtain rfl:=Option.some.inj h;exact xI2 xs
 |succ k ih=>
  simp only[yC6,Option.bind_eq_some_iff]at h;obtain⟨d1,h1,x,hx,h2⟩:=h;exact xEe (ih h1) h2
variable {cnt:Int}
theorem yC3{l:List Ix}{conds:Nat}(h:yBe l cnt conds)(hx:l[k]?=some x):yCy x k l.length cnt conds:=h.2.2.2.2.1 k x hx
theorem yHm{l:List Ix}{conds:Nat}(h:yBe l cnt conds)(hk:k<=l.length):yC6 l k≠none:=by intro q;obtain⟨ds,h1,_⟩:=h.2.2.2.2.2;rw[yQt q hk]at h1;cases h1
theorem yKg:(⟨#[]⟩:ByteArray).toList= []:=by first|(simp;done)|(kernel_rfl;done)|(go_simp;done)
theorem xIz:Op.bytesLess [] []=false:=by first|(kernel_rfl;done)|(decide;done)|(simp[Op.bytesLess];done)
theorem yJt(s:ByteArray)(h:Bool)(t:ByteArray)(l u n:Int)(s':ByteArray)(h':Bool)(t':ByteArray)(l' u' n':Int)(B:Bool)(hB:B=decide (s.toList=s'.toList/\h=h'/\t.toList=t'.toList/\l=l'/\u=u'/\n=n'))(k:Int)(wx:World):
  (binOp .eql 83 (.agg #[xi k,s,h,t,xu l,xu u,xi n]) (.agg #[xi k,s',h',t',xu l',xu u',xi n'])).run prog wx=.ok B wx:=by
 rw[hB,xBq k s h t l u n k s' h' t' l' u' n' wx];simp
theorem zVf(h:p:=by go_wp2_with fail;go_ret;refine⟨_,rfl,⟨nofun,λq=>?_⟩,HW0.2⟩;have hB:=HB.out;have hE:=yKg;(try simp only[hE]at hB);simp[yCb]at q hB;simp_all):p:=h
theorem zVa(h:p:=by obtain⟨B,hB⟩:=qE (decide (s.toList=(⟨#[]⟩:ByteArray).toList/\hi=false/\t.toList=(⟨#[]⟩:ByteArray).toList/\lo=0/\up=0/\n=0));have hq:=yJt s hi t lo up n ⟨#[]⟩ false ⟨#[]⟩ 0 0 0 B hB;have HB:=qH1 hB;clear hB;go_wp2_with fail;go_ret;refine⟨_,rfl,?_,HW0.2⟩;rw[HB.out];have hG:=HG.out;simp[yCb,yKg];constructor<;>intro q<;>simp_all):p:=h
theorem zVb(h:p:=by obtain⟨B,hB⟩:=qE (decide (s.toList=s.toList/\hi=false/\t.toList=(⟨#[]⟩:ByteArray).toList/\lo=0/\up=0/\n=0));have hq:=yJt s hi t lo up n s false ⟨#[]⟩ 0 0 0 B hB;have HB:=qH1 hB;clear hB;cases B;exact zVf;have hfd:=yUt c k;go_wp2_with fail;refine(HC.out _).mono ?_;rintro r w2 ⟨rfl,hb2⟩;clear c0 c1 c2 c3 c4 c5 c6;go_wp2_with fail;go_ret;refine⟨_,rfl,?_,HW0.2.trans (hb2.mono hbw)⟩;have hB:=HB.out;have hG:=HG.out;have hE:=yKg;(try simp only[hE]at hB);rw[HV.out];simp at hB;simp[yCb];simp_all):p:=h
theorem zVe(h:p:=by go_wp2_with fail;refine(yZv ⟨_,s,hi,t,lo,up,n⟩ _).mono ?_;rintro r w2 ⟨b,rfl,hb,hb2⟩;have Hb:=qH1 hb;clear hb c0 c1 c2 c3 c4 c5 c6;go_wp2_with fail;go_ret;refine⟨_,rfl,?_,HW0.2.trans (hb2.mono hbw)⟩;have hB:=HB.out;have hG:=HG.out;have hE:=yKg;have hL:=xIz;(try simp only[hE]at hB);simp at hB;rw[Hb.out];simp[yCb];cases hi<;>simp_all[less]):p:=h
theorem zVc(h:p:=by obtain⟨B,hB⟩:=qE (decide (s.toList=s.toList/\hi=hi/\t.toList=t.toList/\lo=0/\up=0/\n=0));have hq:=yJt s hi t lo up n s hi t 0 0 0 B hB;have HB:=qH1 hB;clear hB;cases B;exact zVf;exact zVe):p:=h
theorem zVt(h:p:=by go_wp2_with fail;go_ret;refine⟨_,rfl,?_,HW0.2⟩;have hB:=HB.out;have hG:=HG.out;have hE:=yKg;(try simp only[hE]at hB);simp at hB;simp[yCb];simp_all;try omega):p:=h
theorem zVd(h:p:=by obtain⟨B,hB⟩:=qE (decide (s.toList=(⟨#[]⟩:ByteArray).toList/\hi=false/\t.toList=(⟨#[]⟩:ByteArray).toList/\lo=0/\up=0/\n=n));have hq:=yJt s hi t lo up n ⟨#[]⟩ false ⟨#[]⟩ 0 0 n B hB;have HB:=qH1 hB;clear hB;cases B;exact zVf;by_cases h1:1<=n<;>exact zVt):p:=h
theorem yK6(e:Nd) w (hs:e.s.size<=maxLen) (ht:e.t.size<=maxLen):Calls prog 138 #[e.v] w (xDo e w):=by
 obtain⟨kind,s,hi,t,lo,up,n⟩:=e;have HS:=qH1 hs;unfold maxLen at hs ht;simp only[]at hs ht;obtain⟨W0,a0⟩:=qE (xw w #[xi kind,s,hi,t,xu lo,xu up,xi n] 83:World);have HW0:Hid (yA W0 w 83 7 w [xi kind,s,hi,t,xu lo,xu up,xi n]/\Below w w W0):=by rw[a0];exact⟨yAa w _ qr rfl,qB⟩
 have hbw:=HW0.2.size;obtain⟨c0,c1,c2,c3,c4,c5,c6⟩:=HW0.1.c7;go_enter func138,ntmps138;go_upto_region 1 with fail;rw[<-a0];clear a0;by_cases hgood:s.size<=200/\t.size<=200;case neg=>
  have HG:Hid (¬yCb ⟨kind,s,hi,t,lo,up,n⟩):=λq=>hgood ⟨q.1,q.2.1⟩;by_cases h1:s.size<=200
  .have z1:¬(200:Int)<(s.size:Int):=qo
   have h2:¬t.size<=200:=λq=>hgood ⟨h1,q⟩;have z2:(200:Int)<(t.size:Int):=qo
   exact yVn
  .have z1:(200:Int)<(s.size:Int):=qo
   exact yVn
 have HG:=qH1 hgood;have z1:¬(200:Int)<(s.size:Int):=qo
 have z2:¬(200:Int)<(t.size:Int):=qo
 clear hgood hs ht;obtain⟨c,hc⟩:=qE ((yAj (sb s)).1);obtain⟨k,hk⟩:=qE (((yAj (sb s)).2:Int):Int);have HV:=qH1 hc;have HC:Hid (∀w,(xf 183 #[s] w (.agg #[xi c,xi k]):Prop)):=λw=>by rw[hc,hk];exact yLl s w HS.out
 clear hc hk;by_cases k1:kind=1\/kind=2\/kind=3\/kind=14\/kind=15\/kind=16
 .rcases k1 with rfl|rfl|rfl|rfl|rfl|rfl<;>exact zVa
 by_cases k2:kind=4\/kind=5\/kind=6\/kind=7
 .rcases k2 with rfl|rfl|rfl|rfl<;>exact zVb
 by_cases k3:kind=8\/kind=9
 .rcases k3 with rfl|rfl<;>exact zVc
 by_cases k4:kind=10
 .subst k4;obtain⟨B,hB⟩:=qE (decide (s.toList=(⟨#[]⟩:ByteArray).toList/\hi=hi/\t.toList=(⟨#[]⟩:ByteArray).toList/\lo=lo/\up=up/\n=0));have hq:=yJt s hi t lo up n ⟨#[]⟩ hi ⟨#[]⟩ lo up 0 B hB;have HB:=qH1 hB;clear hB;cases B;exact zVf;exact zVe
 by_cases k5:kind=11\/kind=12\/kind=13
 .rcases k5 with rfl|rfl|rfl<;>exact zVd
 have HF:Hid (¬yCb ⟨kind,s,hi,t,lo,up,n⟩):=by show¬yCb _;simp only[yCb];rintro⟨_,_,_,q⟩;omega
 simp only[not_or]at k1 k2 k3 k5;obtain⟨_,_,_,_,_,_⟩:=k1;obtain⟨_,_,_,_⟩:=k2;obtain⟨_,_⟩:=k3;obtain⟨_,_,_⟩:=k5;exact zF HW0.2
theorem yHj(k:Int) w:Calls prog 83 #[xi k] w λe w'=>e=.returned (xi (yA0 k))/\w'=w:=by
 by_cases h14:k=14
 .subst h14;exact yXm
 by_cases h15:k=15
 .subst h15;exact yXm
 by_cases h16:k=16
 .subst h16;exact yXm
 have a2:(k==14)=false:=by simpa using h14
 have a1:(k==15)=false:=by simpa using h15
 have a0:(k==16)=false:=by simpa using h16
 have H:Hid (yA0 k=0):=by show yA0 k=0;unfold yA0;rw[if_neg qo,if_neg h16]
 go_enter func83,ntmps83;go_wp2;go_ret;exact⟨by rw[H.out];rfl,rfl⟩
theorem yM9(k:Int) w:Calls prog 185 #[xi k] w λe w'=>e=.returned (xi (yCc k))/\w'=w:=by
 by_cases h15:k=15
 .subst h15;go_enter func185,ntmps185;go_wp2;go_ret;exact⟨rfl,rfl⟩
 by_cases h14:k=14
 .subst h14;go_enter func185,ntmps185;go_wp2;go_ret;exact⟨rfl,rfl⟩
 have a1:(k==14)=false:=by simpa using h14
 have a0:(k==15)=false:=by simpa using h15
 have H:Hid (yCc k=3):=by show yCc k=3;unfold yCc;rw[if_neg h15,if_neg h14]
 go_enter func185,ntmps185;go_wp2;go_ret;exact⟨by rw[H.out];rfl,rfl⟩
theorem yG1(op:Int)(i:Nat)(kid:Int) w (hop:¬op=16):Calls prog 139 #[xi op,xi i,xi kid] w λe w'=>e=.returned (yCf op i kid)/\w'=w:=by
 by_cases hi:i=0
 .subst hi;have HL:Hid (yCf op 0 kid=decide (yCc kid<yCc op)):=by show yCf op 0 kid=_;unfold yCf;simp[hop]
  exact xGa
 .have zi:((i:Int)==0)=false:=by simpa using hi
  have HL:Hid (yCf op i kid=decide (yCc kid<=yCc op)):=by show yCf op i kid=_;unfold yCf;simp[hop,hi]
  exact xGa
abbrev yA1.three(s:yA1):List Value:= [.bool s.valid,.int .i64 s.kind,.int .i64 (s.nest:Int)]
def yBk(ss:List yA1):List Value:=ss.flatMap yA1.three
theorem yGz(ss:List yA1):(yBk ss).length=ss.length*3:=by
 induction ss with
 |nil=>rfl
 |cons e es ih=>simp only[yBk,flatMap_cons,length_append]at ih|-;rw[ih];simp;omega
theorem yOp(es fs:List yA1):yBk (es++fs)=yBk es++yBk fs:=by simp[yBk]
theorem yW4(es:List yA1):∀(k:Nat)(e:yA1),es[k]?=some e->∀j,j<3->(yBk es)[k*3+j]?=e.three[j]?:=by
 induction es with
 |nil=>intro k e h;simp at h
 |cons f es ih=>
  intro k e h j hj;have hc:yBk (f::es)=f.three++yBk es:=by simp[yBk]
  rw[hc];cases k with
  |zero=>
   simp at h;subst h;rw[getElem?_append_left (by show 0*3+j<3;omega)];simp
  |succ k=>
   simp at h;rw[getElem?_append_right (by show 3<=(k+1)*3+j;omega)];have:(k+1)*3+j-f.three.length=k*3+j:=by show(k+1)*3+j-3=_;omega
   rw[this];exact ih k e h j hj
theorem yTx(es:List yA1)(k:Nat):yBk (es.take k)=(yBk es).take (k*3):=by
 induction es generalizing k with
 |nil=>simp[yBk]
 |cons f es ih=>
  cases k with
  |zero=>simp[yBk]
  |succ k=>
   have hc:yBk (f::es)=f.three++yBk es:=by simp[yBk]
   have hd:yBk (f::es.take k)=f.three++yBk (es.take k):=by simp[yBk]
   have e1:(k+1)*3=f.three.length+k*3:=by show(k+1)*3=3+k*3;omega
   rw[take_succ_cons,hd,hc,ih,e1,take_length_add_append]
def yL0(w:World)(b o:Nat)(ss:List yA1):Prop:=∀i s,ss[i]?=some s->xk w b (o+i*3) s.valid/\xk w b (o+i*3+1) (xi s.kind)/\xk w b (o+i*3+2) (xi s.nest)
variable {ss:List yA1}
theorem yL0.below(h:yL0 w b o ss)(hb:Below B w w')(hlt:b<B):yL0 w' b o ss:=by
 intro i e he;have:=h i e he;refine⟨?_,?_,?_⟩;all_goals rw[hb.cell (by exact hlt)]
 .exact this.1
 .exact this.2.1
 .exact this.2.2
theorem yL0.drop(h:yL0 w b o ss)(k:Nat):yL0 w b (o+k*3) (ss.drop k):=by intro i s hs;have:=h (k+i) s (by rw[<-getElem?_drop];exact hs);rw[Nat.add_mul,<-Nat.add_assoc]at this;exact this
def yEs(w:World)(base g cp:Nat)(ss:List yA1):Prop:=w.ownsRow base 142 3 (xg g ss.length cp) ss.length (yBk ss)
theorem yEs.lt{g:Nat}(h:yEs w base g cp ss):base<=g/\g<w.heap.size:=World.ownsRow.lt h g rfl
theorem yEs.below{g:Nat}(h:yEs w base g cp ss)(hb:Below w w w'):yEs w' base g cp ss:=yAh h (Chg.of_below hb) (S:=λ_=>False) (λk q z=>z)
theorem yEs.at{g:Nat}(h:yEs w base g cp ss):yL0 w g 0 ss:=by
 intro i e he;have hi:=qf he;have c:=λj (hj:j<3)=>(World.ownsRow.cellAt h (i*3+j) qo).trans (yW4 ss i e he j hj);refine⟨?_,?_,?_⟩
 .simpa using c 0 qo
 .simpa using c 1 qo
 .simpa using c 2 qo
theorem yEs.caps{g:Nat}(h:yEs w base g cp ss):ss.length<=cp/\cp<=maxLen:=by exact yMx
theorem yEs.take{g:Nat}(h:yEs w base g cp ss)(hk:k<=ss.length):yEs w base g cp (ss.take k):=by
 rcases h.2 with⟨h0,_⟩|⟨g',a0,cur,hv,h1,h2,h3,h4,h5,h6⟩
 .cases h0
 .simp only[Value.slice.injEq,Option.some.injEq,Addr.mk.injEq,and_true,true_and]at hv;obtain⟨rfl,rfl⟩:=hv;have hl:(ss.take k).length=k:=by rw[length_take];omega
  refine⟨by rw[yGz],.inr ⟨g,cp,cur,rfl,h1,h2,qo,h4,h5,?_⟩⟩;rw[hl,yTx,<-h6,take_take];congr 1;omega
theorem yYo(w:World)(hb:base<=w.heap.size):yEs (xw w #[] 142) base w 0 []:=
 World.ownsRow_made w #[] 0 hb (zero_le _) (by simp)
structure SoJ(w:World)(e:Nd)(WB:Nat)(v:Bool)(a:Nat)(wr:World):Prop where
 node:yA wr w 83 7 w e.seven
 res:yA wr w 142 3 (w+1) [false,xi 0,xi 0]
 whole:yA wr w 142 3 WB [v,xi e.kind,xi a]
 ne:w.heap.size+2<=WB
 below:Below w w wr
variable {e:Nd} {WB a:Nat} {wr:World}
theorem SoJ.move{v:Bool}(h:SoJ w e WB v a wr)(hb:Below wr wr w'):SoJ w e WB v a w':=
 ⟨h.node.below hb,h.res.below hb,h.whole.below hb,h.ne,h.below.trans (hb.mono h.below.size)⟩
theorem xAv(e:Nd)(w:World)(hs:e.s.size<=maxLen)(ht:e.t.size<=maxLen):(xf 138 #[.agg #[xi e.kind,e.s,e.hi,e.t,xu e.lo,xu e.up,xi e.n]] w (goodB e):Prop):=by refine(yK6 e w hs ht).mono ?_;rintro r w' ⟨b,rfl,hb,hb2⟩;refine⟨?_,hb2⟩;congr 2;rw[Bool.eq_iff_iff,hb,yKc]
def SoA(w:World)(e:Nd)(W0:World):Prop:=yA W0 w 83 7 w e.seven/\yA W0 w 142 3 (w+1) [false,xi 0,xi 0]/\Below w w W0/\W0.heap.size=w.heap.size+2
theorem xAz{W0:World}{gd:Bool}(hA:SoA w e W0)(hb:Below W0.drew W0.drew w'):SoJ w e w' gd 0 (xw w' #[gd,xi e.kind,xi 0] 142):=by have h1:=((Below.refl W0 W0).drew).trans hb;have h2:=h1.size;have h3:Below W0 W0 (xw w' #[gd,xi e.kind,xi 0] 142):=h1.alloc h2 _;have h4:=hA.2.2.2;exact⟨hA.1.below h3,hA.2.1.below h3,yAa w' _ (by omega) rfl,by omega,hA.2.2.1.trans (h3.mono (by omega))⟩
theorem yX6{W0:World}{gd:Bool}(hA:SoA w e W0)(hb:Below (W0.drew.alloc (Obj.cells #[false,xi 0,xi 0] 142)).heap.size (xw W0.drew #[false,xi 0,xi 0] 142) w'):
  SoJ w e (w+2) gd 0 (xt ((w'.setCell (xd (w+2) 0) gd).setCell (xd (w+2) 1) (xi e.kind)) (w+2) 2 (xi 0)):=by
 have h4:=hA.2.2.2;have hd:W0.drew.heap.size=W0.heap.size:=by simp
 have h0:Below W0 W0 (xw W0.drew #[false,xi 0,xi 0] 142):=((Below.refl W0 W0).drew).alloc (by simp) _;have h1:=h0.trans (hb.mono (by simp));have hB:yA w' w 142 3 (w+2) [false,xi 0,xi 0]:=by have:=yAa W0.drew (base:=w.heap.size) (t:=142) (sz:=3) #[false,xi 0,xi 0] (by simp;omega) rfl;rw[hd,h4]at this;exact this.below hb
 refine⟨(((hA.1.below h1).beside qo 0 _).beside qo 1 _).beside qo 2 _,(((hA.2.1.below h1).beside qo 0 _).beside (by omega) 1 _).beside (by omega) 2 _,((hB.set 0 _).set 1 _).set 2 _,Nat.le_refl _,?_⟩;exact yAc (yAc (yAc (hA.2.2.1.trans (h1.mono (by omega))) (by omega) 0 _) (by omega) 1 _) (by omega) 2 _
structure SoK(w:World)(e:Nd)(WB OB:Nat)(v:Bool)(a:Nat)(x:yA1)(q:Nat)(wr:World):Prop where
 so:SoJ w e WB v a wr
 ob:yA wr w 142 3 OB [x.valid,xi x.kind,xi q]
 ne:¬OB=WB
 ge:w.heap.size+2<=OB
theorem SoJ.round{v:Bool}(h:SoJ w e WB v a wr)(x:yA1):SoK w e WB wr v a x x.nest (xw wr #[x.valid,xi x.kind,xi x.nest] 142):=by have hb:Below wr wr (xw wr #[x.valid,xi x.kind,xi x.nest] 142):=qB;have h1:=h.whole.lt.2;have h2:=h.ne;exact⟨h.move hb,yAa wr _ h.below.size rfl,by omega,by omega⟩
variable {OB q:Nat} {x:yA1}
theorem SoK.valid{v:Bool}(h:SoK w e WB OB v a x q wr)(v2:Bool):SoK w e WB OB v2 a x q (xt wr WB 0 v2):=by have h2:=h.so.ne;exact⟨⟨h.so.node.beside qo 0 _,h.so.res.beside qo 0 _,h.so.whole.set 0 _,h2,yAc h.so.below qo 0 _⟩,h.ob.beside h.ne 0 _,h.ne,h.ge⟩
theorem SoK.more{v:Bool}(h:SoK w e WB OB v a x q wr)(q2:Nat):SoK w e WB OB v a x q2 (xt wr OB 2 (xi q2)):=by have h2:=h.so.ne;have h3:=h.ge;have h4:=h.ne;exact⟨⟨h.so.node.beside qo 2 _,h.so.res.beside qo 2 _,h.so.whole.beside qo 2 _,h2,yAc h.so.below qo 2 _⟩,h.ob.set 2 _,h.ne,h.ge⟩
theorem SoK.done{v:Bool}(h:SoK w e WB OB v a x q wr)(a2:Nat):SoJ w e WB v a2 (xt wr WB 2 (xi a2)):=by have h2:=h.so.ne;exact⟨h.so.node.beside qo 2 _,h.so.res.beside qo 2 _,h.so.whole.set 2 _,h2,yAc h.so.below qo 2 _⟩
variable {os:List yA1}
theorem yUj(h:os[j]?=some x):(os.take (j+1)).all (·.valid)=((os.take j).all (·.valid) && x.valid):=by rw[take_add_one,h];simp
theorem yJs(op:Int){o:yA1}(h:os[j]?=some o):yA2 op j a (os.drop j)=yA2 op (j+1) (max a (o.nest+if yCf op j o.kind then 1 else 0)) (os.drop (j+1)):=by exact xF5
theorem yH9(e:Nd)(h:yL0 w b o os)(hbl:b<w.heap.size)(hl:os.length<=cap)(h3:os.length<=3)(hcap:cap<=9223372036854775807)(hN:∀x∈os,x.nest<=1000)(hs:e.s.size<=maxLen)(ht:e.t.size<=maxLen):
  (xf 82 #[e.v,.slice (some ⟨b,o,none⟩) os.length cap] w (.agg #[(yDp goodB e os).valid,xi e.kind,xi (yDp goodB e os).nest]):Prop):=by
 have HF:=qH4 h hN hs ht;obtain⟨n,hn⟩:=qE os.length;have HL:=qH1 hn;rw[<-hn]at hl h3|-;clear h hN hs ht hn;obtain⟨gd,ab⟩:=qE (goodB e);have HG:=qH1 ab;have ah:Hid (∀w,(xf 138 #[.agg #[xi e.kind,e.s,e.hi,e.t,xu e.lo,xu e.up,xi e.n]] w gd:Prop)):=λw=>by rw[ab];exact xAv e w HF.2.2.1 HF.2.2.2
 clear ab;obtain⟨W0,ae⟩:=qW (xw (w.alloc (Obj.cells #[xi e.kind,e.s,e.hi,e.t,xu e.lo,xu e.up,xi e.n] 83)) #[false,xi 0,xi 0] 142);have a5:Hid (yA W0 w 83 7 w e.seven/\yA W0 w 142 3 (w+1) [false,xi 0,xi 0]/\Below w w W0/\W0.heap.size=w.heap.size+2):=by rw[ae];exact⟨yA.ofHeap (vs:=#[.int .i64 e.kind,.string e.s,.bool e.hi,.string e.t,.int .u64 e.lo,.int .u64 e.up,.int .i64 e.n]) (heap_alloc2_old w _ _) qr rfl,yA.ofHeap (vs:=#[.bool false,.int .i64 0,.int .i64 0]) (heap_alloc2_new w _ _) qo rfl,(qB).alloc (by simp) _,by simp⟩
 obtain⟨c0,c1,c2,c3,c4,c5,c6⟩:=a5.1.c7;have hz:=a5.2.2.2;obtain⟨tot,aa⟩:=qE ((yDp goodB e os).nest);have HT:Hid (yA2 e.kind 0 0 os=tot):=by rw[aa];exact(rfl:yA2 e.kind 0 0 os=_)
 have HV:Hid ((yDp goodB e os).valid=(gd && os.all (·.valid))):=by show(yDp goodB e os).valid=_;rw[HG.out];rfl
 rw[<-aa];clear aa;go_enter func82,ntmps82;go_upto_region 1 with fail;rw[<-ae];clear ae;go_cut[5] (λs wx=>∃WB,s=(xp WB)/\SoJ w e WB gd 0 wx);case first=>
  have am:w.heap.size<W0.heap.size:=qo
  have ao:∀o,(xk (W0.alloc o) w 0 (xi e.kind):Prop):=λo=>by rw[((Below.refl W0 W0).alloc qr o).cell (p:=(xd w 0)) am];exact c0
  go_region_law ((go_simp;go_at_call 138;refine(ah.out _).mono ?_;rintro r w' ⟨rfl,a6⟩;obtain⟨an,ay⟩:=yOw a6;have al:=a6.size;have k0:(xk w' w 0 (xi e.kind):Prop):=by {rw[an w 0 (by simp;omega)];first|exact c0|(simp;first|exact c0|exact ao _)};have kl:w.heap.size<w'.heap.size:=by {simp at al;omega};have ar:∀o,(xk (w'.alloc o) w 0 (xi e.kind):Prop):=λo=>by {rw[((Below.refl w' w').alloc qr o).cell (p:=(xd w 0)) kl];exact k0}));all_goals go_wp2_with fail
  all_goals go_meet
  all_goals first
   |exact⟨_,rfl,xAz a5.out a6⟩
   |exact⟨_,rfl,yX6 a5.out a6⟩
 case rest=>
 obtain⟨WB,rfl,hJ⟩:=hcut;have aj:=qH1 hJ;clear hJ c0 c1 c2 c3 c4 c5 c6 hz a5 ah;go_wp2;go_loopw[15] (λiv wr=>∃(j a:Nat)(v:Bool),iv=(xi j)/\j<=n/\a<=2000/\v=(gd && (os.take j).all (·.valid))/\yA2 e.kind j a (os.drop j)=tot/\SoJ w e WB v a wr) (λiv _=>n-(intOf iv).toNat);case atStart=>exact⟨0,0,gd,rfl,zero_le _,zero_le _,by simp,HT.out,aj.out⟩
 case round=>
  obtain⟨j,a,v,rfl,hj,ha,hv,hN,hJ⟩:=hrel;have HJ:=qH3 hv hN hJ;have aA:=hJ.whole.lt;have az:=hJ.ne;clear hv hN hJ aj HT;by_cases hlt:j<n
  .have zj:(j:Int)<(n:Int):=qo
   obtain⟨x,hx⟩:∃x,os[j]?=some x:=qg (qw HL.out);obtain⟨d0,d1,d2⟩:=(HF.1.below HJ.2.2.below hbl) j x hx;have au:=HF.2.1 x (mem_of_getElem? hx);have HX:=qH1 hx;obtain⟨W1,ad⟩:=qW (xw wr #[x.valid,xi x.kind,xi x.nest] 142);have a0:Hid (SoK w e WB wr v a x x.nest W1):=by rw[ad];exact HJ.2.2.round x
   clear hx;go_upto_region 5 with fail;rw[<-ad];clear ad d0 d1 d2;obtain⟨v0,a4⟩:=qE v;have a7:Hid (v0=(gd && (os.take j).all (·.valid))):=by rw[a4];exact HJ.1
   have ai:=qH1 HJ.2.1;clear HJ;have w0:=a0.so.whole.cell (j:=0) rfl;have af:=a0.so.whole.frozen 0;have o0:=a0.ob.cell (j:=0) rfl;have av:=a0.ne;have ax:=a0.ge;cases v
   .have a9:=a4;clear a4;obtain⟨W2,a1⟩:=qW (xt W1 WB 0 false);have HK2:Hid (SoK w e WB wr false a x x.nest W2):=by rw[a1];exact a0.valid false
    have HVn:Hid (false=(gd && (os.take (j+1)).all (·.valid))):=by show false=_;rw[yUj HX.out,<-Bool.and_assoc,<-a7.out,a9];simp
    go_upto_region 6 with fail;rw[<-a1];clear a1 w0 af o0 a0 a7;have m0:=HK2.so.node.cell (j:=0) rfl;have o1:=HK2.ob.cell (j:=1) rfl;have o2:=HK2.ob.cell (j:=2) rfl;have o2f:=HK2.ob.frozen 2;have w2:=HK2.so.whole.cell (j:=2) rfl;have w2f:=HK2.so.whole.frozen 2;have fin:∀(y:Nat),y=max a (x.nest+(if yCf e.kind j x.kind then 1 else 0))->yA2 e.kind (j+1) y (os.drop (j+1))=tot:=λy hy=>by rw[hy,<-yJs e.kind HX.out];exact ai.out
    by_cases h16:e.kind=16
    .have hlv:yCf e.kind j x.kind=true:=by unfold yCf;rw[h16];rfl
     have a8:(e.kind==16)=true:=by simpa using h16
     clear h16;exact xGx
    .have a8:(e.kind==16)=false:=by simpa using h16
     go_wp2_with fail;refine(yG1 e.kind j x.kind _ h16).mono ?_;rintro r w9 ⟨rfl,a3⟩;rw[a3];clear a3 h16;cases hlv:yCf e.kind j x.kind
     .skip;obtain⟨a2,ha2⟩:=qE (max a (x.nest));have HFin:=qH2 (fin a2 (by rw[ha2,hlv];rfl)) (by omega:a2<=2000);have ha3:max (a:Int) ((x.nest:Int))=(a2:Int):=qo
      clear fin hlv ha2;go_wp2;go_roundw;case rel=>
       refine⟨j+1,a2,false,by go_num,qo,HFin.2,HVn.out,HFin.1,?_⟩;exact HK2.done a2
      case measure=>simp[intOf];omega
     .skip;exact xGx
   .have a9:=a4;clear a4;obtain⟨W2,a1⟩:=qW (xt W1 WB 0 x.valid);have HK2:Hid (SoK w e WB wr x.valid a x x.nest W2):=by rw[a1];exact a0.valid x.valid
    have HVn:Hid (x.valid=(gd && (os.take (j+1)).all (·.valid))):=by show x.valid=_;rw[yUj HX.out,<-Bool.and_assoc,<-a7.out,a9];simp
    go_upto_region 6 with fail;rw[<-a1];clear a1 w0 af o0 a0 a7;have m0:=HK2.so.node.cell (j:=0) rfl;have o1:=HK2.ob.cell (j:=1) rfl;have o2:=HK2.ob.cell (j:=2) rfl;have o2f:=HK2.ob.frozen 2;have w2:=HK2.so.whole.cell (j:=2) rfl;have w2f:=HK2.so.whole.frozen 2;have fin:∀(y:Nat),y=max a (x.nest+(if yCf e.kind j x.kind then 1 else 0))->yA2 e.kind (j+1) y (os.drop (j+1))=tot:=λy hy=>by rw[hy,<-yJs e.kind HX.out];exact ai.out
    by_cases h16:e.kind=16
    .have hlv:yCf e.kind j x.kind=true:=by unfold yCf;rw[h16];rfl
     have a8:(e.kind==16)=true:=by simpa using h16
     clear h16;exact xGy
    .have a8:(e.kind==16)=false:=by simpa using h16
     go_wp2_with fail;refine(yG1 e.kind j x.kind _ h16).mono ?_;rintro r w9 ⟨rfl,a3⟩;rw[a3];clear a3 h16;cases hlv:yCf e.kind j x.kind
     .skip;obtain⟨a2,ha2⟩:=qE (max a (x.nest));have HFin:=qH2 (fin a2 (by rw[ha2,hlv];rfl)) (by omega:a2<=2000);have ha3:max (a:Int) ((x.nest:Int))=(a2:Int):=qo
      clear fin hlv ha2;go_wp2;go_roundw;case rel=>
       refine⟨j+1,a2,x.valid,by go_num,qo,HFin.2,HVn.out,HFin.1,?_⟩;exact HK2.done a2
      case measure=>simp[intOf];omega
     .skip;exact xGy
  .have zj:¬(j:Int)<(n:Int):=qo
   have aq:Hid (a=tot/\v=(yDp goodB e os).valid):=by show _/\_;have h1:=HJ.2.1;have h2:=HJ.1;have aw:=HL.out;rw[drop_eq_nil_of_le qo]at h1;rw[take_of_length_le qo]at h2;exact⟨h1,by rw[h2,HV.out]⟩
   obtain⟨w0,w1,w2⟩:=HJ.2.2.whole.c3;obtain⟨r0,r1,r2⟩:=HJ.2.2.res.c3;obtain⟨f0,f1,f2⟩:=HJ.2.2.res.f3;obtain⟨W9,ac⟩:=qW (set3 wr (w+1) v (xi e.kind) (xi a));have ag:Hid (yA W9 w 142 3 (w+1) [v,xi e.kind,xi a]/\Below w w W9):=by rw[ac];exact⟨HJ.2.2.res.set3 _ _ _,yFt HJ.2.2.below qo _ _ _⟩
   obtain⟨p0,p1,p2⟩:=ag.1.c3;unfold set3 at ac;go_wp2_with fail;rw[<-ac];obtain⟨rfl,ak⟩:=aq.out;rw[<-ak];refine bodyPost_ret (v:=.agg #[v,xi e.kind,xi a]) (by simp[results,results82,go_sem,p0,p1,p2]) rfl ⟨rfl,ag.2⟩
theorem Tryz.infoSh:(prog.info? 142).map (λi=>(i.zero,i.size,i.bytes))=some (some (.agg #[false,xi 0,xi 0]),3,24):=qk
variable {oo:Oper} {K:Act->World->Prop} {Q:Exit->Act->World->Prop} {E:Prop}
theorem yHe{ops:Array Oper}{a:Act}(w:World)(hgd:oo.guard=none) s x
  (ho:oo.op=.call {callee:=.builtin .append,args:=#[s,x],argTypes:=#[218,218]})
  (base n g cp blk:Nat) (ss:List yA1) (y:yA1) (hn:n=ss.length) (hs:a.eval s=(xg g n cp)) (hx:a.eval x=(xg blk 1 1)) (hO:yEs w base g cp ss)
  (hc:yL0 w blk 0 [y]) (hlen:ss.length<=1000) (hbase:base<=w.heap.size)
  (h:∀g' cp' w',yEs w' base g' cp' (ss++ [y])->w.grownBy w' (some g)->(g=g'\/g'=w.heap.size)->K (a.put oo.dst (xg g' (n+1) cp')) w'):if Region.wanted oo (yielded ops a.tmps)=true then Oper.wp prog oo a w K Q else E:=by
 subst hn;obtain⟨i,hi,a4,a3,a2⟩:=info_parts Tryz.infoSh;obtain⟨c0,c1,c2⟩:=hc 0 y rfl;refine step_append_lies w hgd s x 218 ho base 142 i _ 3 24 underlying218 hi a4 a3 a2 rfl qj (xg g ss.length cp) ss.length (yBk ss) hs hO (xd blk 0) 1 1 (yBk [y]) hx rfl ?_ ?_ qj ?_ ?_ hbase w rfl ?_
 .intro j u hu;have hj:j<3:=by have:=qf hu;rw[yGz]at this;simpa using this
  rw[Addr.add_mid];have a0:yBk [y]=y.three:=by simp[yBk]
  rw[a0]at hu;match j,hj with
  |0,_=>simp at hu;rw[<-hu];simpa using c0
  |1,_=>simp at hu;rw[<-hu];simpa using c1
  |2,_=>simp at hu;rw[<-hu];simpa using c2
 .intro u hu;have a0:yBk [y]=y.three:=by simp[yBk]
  rw[a0]at hu;simp at hu;rcases hu with rfl|rfl|rfl<;>rfl
 .unfold maxLen;omega
 .omega
 .intro g' cp' w' a6 a5 a1 a7;refine h g' cp' w' ?_ a5 ?_
  .unfold yEs;rw[length_append,yOp];exact a6
  .simp[Value.ownBlock]at a1;exact a1
variable {xs:List Nd}
theorem yZr(h:yC5 goodB [] xs=some ss):∀s∈ss,s.nest<=xs.length:=by intro s hs;obtain⟨ks,rfl,hK⟩:=ShT.kids goodB (yQo goodB h);obtain⟨k,hk,h3⟩:=yTc goodB hK hs;have h4:=yIx hk;have h5:=yNz goodB _ qr h3;omega
structure FoJ(w:World)(xs:List Nd)(j g cp:Nat)(ss:List yA1)(wr:World):Prop where
 fold:yC5 goodB [] (xs.take j)=some ss
 own:yEs wr (w+1) g cp ss
 res:yA wr w 142 3 w [false,xi 0,xi 0]
 below:Below w w wr
theorem FoJ.move{g:Nat}(h:FoJ w xs j g cp ss wr)(hb:Below wr wr w'):FoJ w xs j g cp ss w':=
 ⟨h.fold,h.own.below hb,h.res.below hb,h.below.trans (hb.mono h.below.size)⟩
theorem yZq(h:yC5 goodB [] (xs.take j)=some ss)(he:xs[j]?=some e)(hl:yA0 e.kind<=ss.length):yC5 goodB [] (xs.take (j+1))=some (ss.take (ss.length-yA0 e.kind)++ [yDp goodB e (ss.drop (ss.length-yA0 e.kind))]):=by rw[take_add_one,he,yFc,h];simp only[Option.toList,Option.bind_some,yC5,yVy];rw[if_neg qo]
theorem yZp(h:yC5 goodB [] (xs.take j)=some ss)(he:xs[j]?=some e)(hl:ss.length<yA0 e.kind):yC5 goodB [] xs=none:=by
 have hj:=qf he;have:xs=xs.take j++e::xs.drop (j+1):=by
  conv=>lhs;rw[<-take_append_drop j xs,drop_eq_getElem_cons hj]
  rw[show xs[j]=e from Option.some.inj ((getElem?_eq_getElem hj).symm.trans he)]
 rw[this,yFc,h];simp only[Option.bind_some,yC5,yVy];rw[if_pos hl]
def yVm(xs:List Nd)(w:World)(r:Ending)(w':World):Prop:=Below w w w'/\((∃s,yC5 goodB [] xs=some [s]/\r=.returned (.tuple #[.agg #[s.valid,xi s.kind,xi s.nest],true]))\/((∀s,¬yC5 goodB [] xs=some [s])/\r=.returned (.tuple #[.agg #[false,xi 0,xi 0],false])))
theorem yAy.cells{v:Value}(h:yAy w v es):v.cells=#[v]:=by rcases h with⟨a,cap,rfl,_⟩|⟨b,off,cap,rfl,_⟩<;>rfl
theorem yAy.one{v:Value}(h:yAy w v es):∃a n c,v=.slice a n c/\n=es.length:=by rcases h with⟨a,cap,rfl,rfl⟩|⟨b,off,cap,rfl,_⟩<;>exact⟨_,_,_,rfl,rfl⟩
structure Bk where
 v:Value
 cnt:Int
 l:List Ix
abbrev Bk.val(x:Bk):Value:=.agg #[x.v,xi x.cnt]
abbrev Bk.vw(x:Bk):Int×List Ix:=(x.cnt,x.l)
abbrev Bk.two(x:Bk):List Value:= [x.v,.int .i64 x.cnt]
structure Bk.ok(x:Bk):Prop where
 cnt:(Lit.int .i64 x.cnt).wf=true
 ins:∀e∈x.l,e.ok
def totB:List Bk->Nat
 | []=>0
 |x::bs=>x.l.length+totB bs
variable {bs:List Bk}
theorem yUh{x:Bk}(h:x∈bs):x.l.length<=totB bs:=by
 induction bs with
 |nil=>cases h
 |cons a l ih=>
  rcases mem_cons.1 h with rfl|h
  .simp[totB]
  .have:=ih h;simp only[totB];omega
theorem yXz{x:Bk}(h:bs[k]?=some x):totB (bs.take (k+1))=totB (bs.take k)+x.l.length:=by
 induction bs generalizing k with
 |nil=>simp at h
 |cons a l ih=>
  cases k with
  |zero=>simp at h;subst h;simp[totB]
  |succ k=>simp at h;simp[totB,ih h];omega
def yK0(w:World)(b off:Nat)(bs:List Bk):Prop:=∀i x,bs[i]?=some x->xk w b (off+i*2) x.v/\xk w b (off+i*2+1) (xi x.cnt)/\yAy w x.v x.l
theorem yK0.below{off:Nat}(h:yK0 w b off bs)(hb:Below w w w')(hlt:b<w.heap.size):yK0 w' b off bs:=by intro i x hx;obtain⟨h0,h1,h2⟩:=h i x hx;exact⟨by rw[hb.cell (p:=(xd b (off+i*2))) hlt];exact h0,by rw[hb.cell (p:=(xd b (off+i*2+1))) hlt];exact h1,h2.below hb qr⟩
def yCg(w:World)(v:Value)(bs:List Bk):Prop:=
 (∃a cap,v=.slice a 0 cap/\bs= [])\/
 ∃b off cap,v=.slice (some ⟨b,off,none⟩) bs.length cap/\yK0 w b off bs/\b<w.heap.size/\bs.length<=cap/\cap<=maxLen
theorem yCg.below{v:Value}(h:yCg w v bs)(hb:Below w w w'):yCg w' v bs:=by
 rcases h with h|⟨b,off,cap,hv,hE,a0,h1,h2⟩
 .exact .inl h
 .exact .inr ⟨b,off,cap,hv,hE.below hb a0,qw hb.size,h1,h2⟩
theorem yCg.cells{v:Value}{es:List Bk}(h:yCg w v es):v.cells=#[v]:=by rcases h with⟨a,cap,rfl,_⟩|⟨b,off,cap,rfl,_⟩<;>rfl
theorem yAy.chg{S:Nat->Prop}{v:Value}{l:List Ix}(h:yAy w v l)(hc:Chg S w w')(hv:∀g n c,v=.slice (some g) n c->l≠ []->¬S g.block):yAy w' v l:=by
 rcases h with h|⟨b,off,cap,hq,hE,a0,h1,h2⟩
 .exact .inl h
 .by_cases hn:l= []
  .subst hn;exact .inl ⟨_,_,hq,rfl⟩
  .exact .inr ⟨b,off,cap,hq,hE.chg hc a0 (hv (xd b off) _ _ hq hn),qw hc.size,h1,h2⟩
theorem yH8(x:Bk)(left:Int)(w:World)(h:yAy w x.v x.l)(ho:x.ok)(h0:0<=left)(h1:left<=2^40):
  Calls prog 54 #[x.val,.int .i64 left] w λr w'=>∃y,r=.returned (.int .i64 y)/\(y= -1\/(0<=y/\y+x.l.length<=left))/\Below w w w':=by
 have hu:=h.cells;have HE:=qH2 h ho;obtain⟨v,cnt,l⟩:=x;simp only at hu;clear h ho;go_enter func54,ntmps54;go_wp2_with fail;refine(yVw _ l left _ (HE.1.below (qB) qr) HE.2.ins h0 h1).mono ?_;rintro r w1 ⟨y,rfl,hy,a0⟩;have k1:=((Below.refl _ _).alloc qr (Obj.cells #[v,xi cnt] 49)).trans (a0.mono (by simp));have HX:=qH1 hy;by_cases hy0:y<0
 .clear hy;go_wp2;go_ret;exact⟨_,rfl,.inl rfl,k1⟩
 .clear hy;go_wp2;go_ret;exact⟨_,rfl,HX.out,k1⟩
theorem yM8(b off cap:Nat)(bs:List Bk)(left:Int)(w:World)(hE:yK0 w b off bs)(hok:∀x∈bs,x.ok)(hB:b<w.heap.size)(hlen:bs.length<=cap)(hcap:cap<=maxLen)(h0:0<=left)(h1:left<=2^40):
  Calls prog 53 #[.slice (some ⟨b,off,none⟩) bs.length cap,xi left] w λe w'=>
   ∃x,e=.returned (xi x)/\(x= -1\/(0<=x/\x+bs.length+totB bs<=left))/\Below w.heap.size w w':=by
 have HE:=qH1 hE;have HO:=qH1 hok;clear hE hok;unfold maxLen at hcap;by_cases hle:left<bs.length
 .have a1:left-bs.length<0:=qo
  go_enter func53,ntmps53;go_wp2;go_ret;exact⟨_,rfl,.inl rfl,Below.refl _ _⟩
 have a1:0<=left-bs.length:=qo
 go_enter func53,ntmps53;go_wp2;go_loopw[1,5] (λl i wr=>∃(k:Nat)(x:Int),k<=bs.length/\i=.int .i64 k/\l=.int .i64 x/\0<=x/\x+bs.length+totB (bs.take k)<=left/\Below w.heap.size w wr) (λ_ i _=>bs.length-(intOf i).toNat);case atStart=>exact⟨0,_,zero_le _,rfl,rfl,a1,by simp[totB],Below.refl _ _⟩
 case round=>
  obtain⟨k,x,hk,rfl,rfl,a5,a0,hb⟩:=hrel;have sb:=hb.size;by_cases hlt:k<bs.length
  .obtain⟨y,hy⟩:∃y,bs[k]?=some y:=⟨_,getElem?_eq_getElem hlt⟩;obtain⟨c0,c1,hI⟩:=(HE.below hb hB) k y hy;have HK:=qH3 hI (HO.out y (mem_of_getElem? hy)) hy;have hu:=hI.cells;clear hI hy;go_wp2_with fail;refine(yH8 y _ _ HK.1 HK.2.1 qo qo).mono ?_;rintro e w1 ⟨z,rfl,hz,a2⟩;have hb2:=hb.trans (a2.mono sb);have ht:=yXz HK.2.2;clear c0 c1 a2;by_cases hz0:z<0
   .clear hz;go_wp2;go_ret;exact⟨_,rfl,.inl rfl,hb2⟩
   .have a4:0<=z:=qo
    have a3:z+bs.length+totB (bs.take (k+1))<=left:=qo
    clear hz;refine zY ?_;exact⟨k+1,z,qo,by go_num,rfl,a4,a3,hb2⟩
  .have a6:k=bs.length:=qo
   rw[a6,take_length]at a0;go_wp2;go_ret;exact⟨_,rfl,.inr ⟨a5,a0⟩,hb⟩
theorem yM7(a:Option Addr)(cap:Nat)(left:Int)(w:World)(h0:0<=left)(h1:left<=2^40):
  (xf 53 #[.slice a 0 cap,xi left] w (xi left):Prop):=by
 go_enter func53,ntmps53;exact xD5
theorem yPa(v:Value)(bs:List Bk)(left:Int)(w:World)(h:yCg w v bs)(hok:∀x∈bs,x.ok)(h0:0<=left)(h1:left<=2^40):
  Calls prog 53 #[v,xi left] w λe w'=>
   ∃x,e=.returned (xi x)/\(x= -1\/(0<=x/\x+bs.length+totB bs<=left))/\Below w w w':=by
 rcases h with⟨a,cap,rfl,rfl⟩|⟨b,off,cap,rfl,hE,a0,g1,g2⟩
 .exact(yM7 a cap left w h0 h1).mono λe w' ⟨he,hb⟩=>⟨left,he,.inr ⟨h0,by simp[totB]⟩,hb⟩
 .exact yM8 b off cap bs left w hE hok a0 g1 g2 h0 h1
theorem yVx(v:Value)(bs:List Bk)(m:Bk)(left:Int)(w:World)(h:yCg w v bs)(hok:∀x∈bs,x.ok)(hm:yAy w m.v m.l)(hmo:m.ok)(h0:0<=left)(h1:left<=2^40):
  Calls prog 16 #[.agg #[v,m.v,.int .i64 m.cnt],.int .i64 left] w λe w'=>
   ∃x,e=.returned (.int .i64 x)/\(x= -1\/(0<=x/\x+bs.length+totB bs+m.l.length<=left))/\Below w w w':=by
 have HE:=qH4 h hok hm hmo;have hu:=h.cells;have a7:=hm.cells;clear h hok hm hmo;obtain⟨W0,a0⟩:=qW (xw w #[v,m.v,xi m.cnt] 51);have a2:=qN a0
 have a3:w.heap.size<W0.heap.size:=by rw[a0];simp
 have a5:Hid (∀wx,Below W0 W0 wx->xk wx w 1 m.v/\xk wx w 2 (xi m.cnt)/\yAy wx m.v m.l):=λwx hx=>⟨by rw[hx.cell (p:=(xd w 1)) a3,a0];simp,by rw[hx.cell (p:=(xd w 2)) a3,a0];simp,(HE.2.2.1.below a2 qr).below hx qr⟩;have a6:=qH1 (HE.1.below a2);have c0:(xk W0 w 0 v:Prop):=by rw[a0];simp
 go_enter func16,ntmps16;go_upto_region 1 with fail;rw[<-a0];clear a0;go_wp2_with fail;refine(yPa v bs left _ a6.out HE.2.1 h0 h1).mono ?_;rintro e w1 ⟨x,rfl,hx,a1⟩;have s1:=a1.size;by_cases hx0:x<0
 .clear hx;go_wp2;go_ret;exact⟨_,rfl,.inl rfl,a2.trans (a1.mono qo)⟩
 have a4:0<=x/\x+bs.length+totB bs<=left:=qo
 clear hx c0;obtain⟨c1,c2,hI⟩:=a5.out w1 a1;have HI:=qH1 hI;clear hI;go_wp2_with fail;refine(yH8 m _ _ HI.out HE.2.2.2 qo qo).mono ?_;rintro e w2 ⟨y,rfl,hy,hb2⟩;have k2:=(a2.trans (a1.mono qo)).trans (hb2.mono qo);by_cases hy0:y<0
 .clear hy;go_wp2;go_ret;exact⟨_,rfl,.inl rfl,k2⟩
 have HY:Hid (0<=y/\y+bs.length+totB bs+m.l.length<=left):=by show _/\_;omega
 clear hy a4;go_wp2;go_ret;exact⟨_,rfl,.inr HY.out,k2⟩
structure FoK(w:World)(xs:List Nd)(j g cp:Nat)(ss:List yA1)(SB:Nat)(y:yA1)(wr:World):Prop where
 fo:FoJ w xs j g cp ss wr
 box:yA wr w 142 3 SB y.three
 ne:¬SB=g
 ge:w.heap.size+1<=SB
theorem xB2{g:Nat}{W1:World}(y:yA1)(h:FoJ w xs j g cp ss W1)(hb:Below W1.drew W1.drew w'):FoK w xs j g cp ss w' y (xw w' #[y.valid,xi y.kind,xi y.nest] 142):=by have h1:=((Below.refl W1 W1).drew).trans hb;have h2:=h1.size;have h3:Below W1 W1 (xw w' #[y.valid,xi y.kind,xi y.nest] 142):=h1.alloc h2 _;have h4:=h.own.lt;have h5:=h.below.size;have h6:=h.res.lt;exact⟨h.move h3,yAa w' _ (by omega) rfl,by omega,by omega⟩
theorem yZs{g:Nat}{W1:World}(y:yA1)(h:FoJ w xs j g cp ss W1)(hb:Below (W1.drew.alloc (Obj.cells #[false,xi 0,xi 0] 142)).heap.size (xw W1.drew #[false,xi 0,xi 0] 142) w'):
  FoK w xs j g cp ss W1 y (xt ((w'.setCell (xd W1 0) y.valid).setCell (xd W1 1) (xi y.kind)) W1 2 (xi y.nest)):=by
 have hd:W1.drew.heap.size=W1.heap.size:=by simp
 have h0:Below W1 W1 (xw W1.drew #[false,xi 0,xi 0] 142):=((Below.refl W1 W1).drew).alloc (by simp) _;have h1:=h0.trans (hb.mono (by simp));have h4:=h.own.lt;have h5:=h.below.size;have h6:=h.res.lt;have hB:yA w' w 142 3 W1 [false,xi 0,xi 0]:=by have:=yAa W1.drew (base:=w.heap.size) (t:=142) (sz:=3) #[false,xi 0,xi 0] (by simp;omega) rfl;rw[hd]at this;exact this.below hb
 have hJ:=h.move h1
 have hC:Chg (λk=>k=W1.heap.size) w' (xt ((w'.setCell (xd W1 0) y.valid).setCell (xd W1 1) (xi y.kind)) W1 2 (xi y.nest)):=
  ((Chg.of_set w' W1 0 _ (S:=λk=>k=W1.heap.size) rfl).trans (Chg.of_set _ W1 1 _ (S:=λk=>k=W1.heap.size) rfl)).trans (Chg.of_set _ W1 2 _ (S:=λk=>k=W1.heap.size) rfl)
 refine⟨⟨hJ.fold,yAh hJ.own hC (λk q=>by simp[Value.ownBlock]at q;omega),hJ.res.chg hC qo,?_⟩,((hB.set 0 _).set 1 _).set 2 _,qo,by omega⟩;exact yAc (yAc (yAc hJ.below (by omega) 0 _) (by omega) 1 _) (by omega) 2 _
theorem xHg(X:World)(y:yA1)(B:Nat)(hB:X.heap.size=B):yL0 (xw X #[y.valid,xi y.kind,xi y.nest] 142) B 0 [y]:=by
 subst hB;intro i s hs;have hi:i=0:=by have:=qf hs;simpa using this
 subst hi;simp at hs;subst hs;exact⟨by simp,by simp,by simp⟩
theorem xFj{wc X:World}{g g' cp' fr:Nat}{y:yA1}(h:FoJ w xs j g cp ss wc)(hX:Below wc wc X)(hY:yC5 goodB [] (xs.take (j+1))=some (ss.take fr++ [y]))(hO:yEs w' (w+1) g' cp' (ss.take fr++ [y]))(hgr:X.grownBy w' (some g))(hm:fr=(ss.take fr).length):FoJ w xs (j+1) g' cp' (ss.take fr++ [y]) w'/\fr+1<=cp':=by have hJ:=h.move hX;have h1:=hJ.own.lt;have hC:Chg (λk=>k=g) X w':=Chg.of_grown hgr (λk hk=>by cases hk;rfl);refine⟨⟨hY,hO,hJ.res.chg hC (by omega),Chg.below hJ.below hC hJ.below.size (λk q=>by omega)⟩,?_⟩;have:=hO.caps.1;rw[length_append,length_singleton,<-hm]at this;exact this
theorem yQs{gN oN cpN:Nat}(h:yH1 w gN oN xs)(hg:gN<w.heap.size)(hok:∀e∈xs,e.ok)(hl:xs.length<=200):
  Calls prog 81 #[.slice (some ⟨gN,oN,none⟩) xs.length cpN,.func (Fn.func 82) #[] #[]] w (yVm xs w):=by
 have HF:=qH2 h hok;obtain⟨n,hn⟩:=qE xs.length;have HL:=qH1 hn;rw[<-hn]at hl|-;clear h hok hn;obtain⟨W0,a6⟩:=qW (xw (w.alloc (Obj.cells #[false,xi 0,xi 0] 142)) #[] 142);have ai:Hid (FoJ w xs 0 (w+1) 0 [] W0):=by
  obtain⟨V,hV⟩:=qW (xw w #[false,xi 0,xi 0] 142);have hz:=qS hV
  have hb:Below V V W0:=by rw[a6,<-hV];exact qB
  have av:=qN hV
  have hB:yA V w 142 3 w [false,xi 0,xi 0]:=by rw[hV];exact yAa w _ qr rfl
  refine⟨rfl,?_,hB.below hb,av.trans (hb.mono qo)⟩;rw[a6,<-hV,<-hz];exact yYo V qr
 go_enter func81,ntmps81;go_upto_region 2 with fail;rw[<-a6];clear a6;go_wp2;go_loopw[6,14] (λsv iv wr=>∃(j m g cp:Nat)(ss:List yA1),iv=(xi j)/\j<=n/\m=ss.length/\m<=j/\m<=cp/\sv=(xg g m cp)/\FoJ w xs j g cp ss wr) (λ_ iv _=>n-(intOf iv).toNat);case atStart=>exact⟨0,0,_,0,[],rfl,zero_le _,rfl,Nat.le_refl _,zero_le _,rfl,ai.out⟩
 case round=>
  obtain⟨j,m,g,cp,ss,rfl,hj,hm,aD,aE,rfl,hJ⟩:=hrel;have HJ:=qH2 hm hJ;have aG:=hJ.own.lt;have aK:cp<=9223372036854775807:=by have:=hJ.own.caps.2;unfold maxLen at this;omega
  have an:=hJ.below.size;have aB:=hJ.res.lt.2;obtain⟨r0,r1,r2⟩:=hJ.res.c3;obtain⟨f0,f1,f2⟩:=hJ.res.f3;clear hm hJ ai;by_cases hlt:j<n
  .have zj:(j:Int)<(n:Int):=qo
   obtain⟨e,he⟩:∃e,xs[j]?=some e:=qg (qw HL.out);obtain⟨d0,d1,d2,d3,d4,d5,d6⟩:=(HF.1.below HJ.2.below hg) j e he;have ok:=HF.2 e (mem_of_getElem? he);have HE:=qH3 he ok.s ok.t;clear ok he;obtain⟨W1,a4⟩:=qW (xw wr #[xi e.kind,e.s,e.hi,e.t,xu e.lo,xu e.up,xi e.n] 83);have ag:=qN a4
   have am:=qS a4
   have a0:Hid (m=ss.length/\FoJ w xs j g cp ss W1/\yA W1 w 83 7 wr e.seven):=by refine⟨HJ.1,HJ.2.move ag,?_⟩;rw[a4];exact yAa wr _ an rfl
   go_upto_region 5 with fail;rw[<-a4];clear a4 d0 d1 d2 d3 d4 d5 d6 r0 r1 r2 f0 f1 f2 HJ ag;obtain⟨c0,c1,c2,c3,c4,c5,c6⟩:=a0.2.2.c7;obtain⟨a,ha⟩:=qE (yA0 e.kind);have aM:a<=3:=by rw[ha];exact yI3 _
   have al:Hid (Calls prog 83 #[xi e.kind] W1 λr w'=>r=.returned (xi a)/\w'=W1):=by rw[ha];exact yHj e.kind W1
   have a9:=qH1 ha;clear ha;go_wp2_with fail;refine al.mono ?_;rintro r w9 ⟨rfl,aa⟩;rw[aa];clear aa al;by_cases hfr:m<a
   .have zf:(m:Int)-(a:Int)<0:=qo
    obtain⟨r0,r1,r2⟩:=a0.2.1.res.c3;obtain⟨f0,f1,f2⟩:=a0.2.1.res.f3;have HS:=qH1 (yZp a0.2.1.fold HE.1 (by rw[<-a0.1,<-a9.out];exact hfr));obtain⟨W9,a1⟩:=qW (set3 W1 w false (xi 0) (xi 0));have a2:Hid (yA W9 w 142 3 w [false,xi 0,xi 0]/\Below w w W9):=by rw[a1];exact⟨a0.2.1.res.set3 _ _ _,yFt a0.2.1.below qr _ _ _⟩
    obtain⟨p0,p1,p2⟩:=a2.1.c3;unfold set3 at a1;go_wp2;rw[<-a1];refine bodyPost_ret (v:=.tuple #[.agg #[false,xi 0,xi 0],false]) (by simp[results,results81,go_sem,p0,p1,p2]) rfl ⟨a2.2,.inr ⟨λs q=>(by rw[HS.out]at q;cases q),rfl⟩⟩
   .obtain⟨fr,aI⟩:∃fr:Nat,(m:Int)-(a:Int)=(fr:Int):=⟨m-a,qo⟩;have ar:fr<=m:=qo
    have a8:Hid (fr=ss.length-yA0 e.kind/\yA0 e.kind<=ss.length):=by have h1:=a0.1;have h2:=a9.out;exact⟨qo,qo⟩
    have zf:¬(fr:Int)<0:=qo
    have z2:(fr:Int)<=(m:Int):=qo
    have z3:(m:Int)<=(cp:Int):=qo
    obtain⟨y,hy⟩:=qE (yDp goodB e (ss.drop fr));have HY:Hid (yC5 goodB [] (xs.take (j+1))=some (ss.take fr++ [y])):=by show _=_;rw[hy,a8.1];exact yZq a0.2.1.fold HE.1 a8.2
    obtain⟨ad,ax⟩:∃ad:Option Addr,(if cp=fr then some (⟨g,0,none⟩:Addr)else some ⟨g,fr*3,none⟩)=ad:=⟨_,rfl⟩;have aj:Hid (∀X,Below W1 W1 X->(xf 82 #[.agg #[xi e.kind,e.s,e.hi,e.t,xu e.lo,xu e.up,xi e.n],.slice ad (m-fr) (cp-fr)] X (.agg #[y.valid,xi y.kind,xi y.nest]):Prop)):=λX hX=>by
     have ao:=a0.2.1.own.at.below hX a0.2.1.own.lt.2;have ab:=ao.drop fr;rw[Nat.zero_add]at ab;have a3:(ss.drop fr).length=m-fr:=by rw[length_drop,<-a0.1]
     have aN:=hX.size;have aH:=a0.2.1.own.lt.2;have ae:∀x∈ss.drop fr,x.nest<=1000:=λx hx=>by have h1:=yZr a0.2.1.fold x (mem_of_mem_drop hx);rw[length_take]at h1;omega
     have ac:(ss.drop fr).length<=3:=by rw[a3];have:=a8.1;have:=a9.out;have:=a0.1;omega
     rw[hy,<-ax];by_cases hcf:cp=fr
     .rw[if_pos hcf];have aq:=length_eq_zero_iff.1 (by rw[a3];omega);have h9:=yH9 (w:=X) (b:=g) (o:=0) (cap:=cp-fr) (os:=ss.drop fr) e (by rw[aq];intro i s hs;simp at hs) qo (by rw[a3];omega) ac qo ae HE.2.1 HE.2.2;rw[a3]at h9;exact h9
     .rw[if_neg hcf];have h9:=yH9 (w:=X) (b:=g) (o:=fr*3) (cap:=cp-fr) (os:=ss.drop fr) e ab qo (by rw[a3];omega) ac qo ae HE.2.1 HE.2.2;rw[a3]at h9;exact h9
    clear hy hfr;go_upto_region 8 with fail;go_cut[10] (λsv wx=>∃SB,sv=(xp SB)/\FoK w xs j g cp ss SB y wx);case first=>
     go_region_law ((go_simp;go_at_call 82;refine(aj.out _ ?hX).mono ?_;(case hX=>(repeat (first|exact Below.refl _ _|refine Below.drew ?_|refine Below.alloc ?_ (by simp) _)));rintro r w' ⟨rfl,a5⟩;obtain⟨aL,aJ⟩:=yOw a5;have az:=a5.size));all_goals go_wp2_with fail
     all_goals go_meet
     all_goals first
      |exact⟨_,rfl,xB2 y a0.2.1 a5⟩
      |exact⟨_,rfl,by have h9:=yZs y a0.2.1 a5;rw[am]at h9;exact h9⟩
    case rest=>
    obtain⟨SB,rfl,hK⟩:=hcut;have HK:=qH1 hK;obtain⟨b0,b1,b2⟩:=hK.box.c3;have aF:=hK.fo.own.lt;have aA:=hK.box.lt.2;have aC:=hK.ne;have ay:=hK.fo.below.size;have HM:Hid (fr=(ss.take fr).length):=by show fr=_;rw[length_take,<-a0.1];omega
    clear hK c0 c1 c2 c3 c4 c5 c6 aj;go_upto_region 9 with fail;have au:fr<=ss.length:=by rw[<-a0.1];exact ar
    have z4:(fr:Int)<=(cp:Int):=qo
    have z5:fr<=cp:=qo
    go_region_law ((refine yHe _ (by rfl) _ _ (by rfl) (w+1) fr g cp wc (ss.take fr) y HM.out (by rfl) (by rfl) ?hO ?hc ?hl ?hb ?_
                    case hO=>(refine yEs.below (HK.fo.own.take au) ?_;repeat (first|exact Below.refl _ _|refine Below.drew ?_|refine Below.alloc ?_ (by simp) _))
                    case hc=>exact xHg _ y _ (by simp)
                    case hl=>rw[<-HM.out];omega
                    case hb=>simp;omega
                    intro g' a7 w' ah af aw
                    have fin:Hid (FoJ w xs (j+1) g' a7 (ss.take fr++ [y]) w'/\fr+1<=a7):=xFj HK.fo (by repeat (first|exact Below.refl _ _|refine Below.drew ?_|refine Below.alloc ?_ (by simp) _)) HY.out ah af HM.out
                    clear ah af aw))
    all_goals go_wp2_with fail
    all_goals go_roundw
    all_goals first
     |exact⟨j+1,fr+1,g',a7,ss.take fr++ [y],by go_num,qo,by rw[length_append,length_singleton,<-HM.out],qo,fin.out.2,rfl,fin.out.1⟩
     |(simp[intOf];omega)
  .have zj:¬(j:Int)<(n:Int):=qo
   have ak:Hid (yC5 goodB [] xs=some ss):=by have h1:=HJ.2.fold;rw[take_of_length_le (qw HL.out)]at h1;exact h1
   by_cases hm1:m=1
   .subst hm1;obtain⟨s,rfl⟩:∃s,ss= [s]:=by
     have h1:=HJ.1;match ss,h1 with
     | [s],_=>exact⟨s,rfl⟩
    obtain⟨e0,e1,e2⟩:=HJ.2.own.at 0 s rfl;simp only[Nat.zero_add,Nat.zero_mul]at e0 e1 e2;obtain⟨W9,a1⟩:=qW (set3 wr w s.valid (xi s.kind) (xi s.nest));have a2:Hid (yA W9 w 142 3 w [s.valid,xi s.kind,xi s.nest]/\Below w w W9):=by rw[a1];exact⟨HJ.2.res.set3 _ _ _,yFt HJ.2.below qr _ _ _⟩
    obtain⟨p0,p1,p2⟩:=a2.1.c3;unfold set3 at a1;go_wp2;rw[<-a1];refine bodyPost_ret (v:=.tuple #[.agg #[s.valid,xi s.kind,xi s.nest],true]) (by simp[results,results81,go_sem,p0,p1,p2]) rfl ⟨a2.2,.inl ⟨s,ak.out,rfl⟩⟩
   .have zm:((m:Int) != 1)=true:=by have:¬(m:Int)=1:=qo;simpa using this
    obtain⟨W9,a1⟩:=qW (set3 wr w false (xi 0) (xi 0));have a2:Hid (yA W9 w 142 3 w [false,xi 0,xi 0]/\Below w w W9):=by rw[a1];exact⟨HJ.2.res.set3 _ _ _,yFt HJ.2.below qr _ _ _⟩
    obtain⟨p0,p1,p2⟩:=a2.1.c3;unfold set3 at a1;go_wp2;rw[<-a1];refine bodyPost_ret (v:=.tuple #[.agg #[false,xi 0,xi 0],false]) (by simp[results,results81,go_sem,p0,p1,p2]) rfl ⟨a2.2,.inr ⟨λs q=>?_,rfl⟩⟩;rw[ak.out]at q;have h1:=HJ.1;rw[Option.some.inj q]at h1;exact hm1 h1
def OwnZ(e:TypeId)(w:World)(base g cp:Nat)(ds:List Int)(kd:IntKind):Prop:=w.ownsRow base e 1 (.slice (some ⟨g,0,none⟩) ds.length cp) ds.length (ds.map λd=>.int kd d)
def yH3(P:Prop)(w:World)(r:Ending)(w':World):Prop:=∃b,r=.returned (.bool b)/\(b=true↔P)/\Below w.heap.size w w'
def xIe(e d:Int)(base g cp j:Nat)(ds:List Int)(w:World)(r:Ending)(w':World):Prop:=∃b,r=.returned (.bool b)/\(b=true↔(e=0\/e=d)/\1<=d/\d<=250)/\(b=true->OwnZ 2 w' base g cp (ds.set j d) .i64)/\Chg (λq=>q=g) w w'
variable {a b k n:Int} {free:Bool}
theorem yGc{conds:Int}:yCy ⟨1,a,b,free,e⟩ k n cnt conds↔yFk [e]/\b=0/\((cntK e.kind/\0<=a/\a<cnt)\/(¬cntK e.kind/\a=0)):=by simp[yCy]
theorem yKb{conds:Int}:yCy ⟨5,a,b,free,e⟩ k n cnt conds↔(free=false/\NoNd e)/\0<=a/\a<conds/\k<b/\b<=n:=by simp[yCy,yIi]
theorem yKa{conds:Int}:yCy ⟨6,a,b,free,e⟩ k n cnt conds↔(free=false/\NoNd e)/\a=0/\k<b/\b<=n:=by simp[yCy,yIi]
theorem yK{op conds:Int}(h1:op≠1)(h5:op≠5)(h6:op≠6):yCy ⟨op,a,b,free,e⟩ k n cnt conds↔(2<=op/\op<=4)/\(free=false/\NoNd e)/\a=0/\b=0:=by
 simp only[yCy,yIi,h1,h5,h6,false_and,false_or];constructor
 .rintro⟨h,r⟩;exact⟨qo,r⟩
 .rintro⟨h,r⟩;exact⟨qo,r⟩
theorem xBp(k:Int)(s:ByteArray)(h:Bool)(t:ByteArray)(l u n k':Int)(s':ByteArray)(h':Bool)(t':ByteArray)(l' u' n':Int)(wx:World):
  (binOp .neq 83 (.agg #[.int .i64 k,.string s,.bool h,.string t,.int .u64 l,.int .u64 u,.int .i64 n]) (.agg #[.int .i64 k',.string s',.bool h',.string t',.int .u64 l',.int .u64 u',.int .i64 n'])).run prog wx=.ok (.bool (! decide (k=k'/\s.toList=s'.toList/\h=h'/\t.toList=t'.toList/\l=l'/\u=u'/\n=n'))) wx:=by
 go_simp;repeat' split
 all_goals simp_all
theorem xE8(k:Int)(s:ByteArray)(h:Bool)(t:ByteArray)(l u n:Int):∃B:Bool,(B=false↔NoNd ⟨k,s,h,t,l,u,n⟩)/\∀wx,(binOp .neq 83 (.agg #[.int .i64 k,.string s,.bool h,.string t,.int .u64 l,.int .u64 u,.int .i64 n]) (.agg #[.int .i64 0,.string ⟨#[]⟩,.bool false,.string ⟨#[]⟩,.int .u64 0,.int .u64 0,.int .i64 0])).run prog wx=.ok (.bool B) wx:=
 ⟨_,by
   have hE:=yKg
   rw[Bool.not_eq_eq_eq_not,Bool.not_false,decide_eq_true_eq,hE]
   exact Iff.rfl,λwx=>xBp k s h t l u n 0 ⟨#[]⟩ false ⟨#[]⟩ 0 0 0 wx⟩
theorem yQ6(e:Nd)(w:World):Calls prog 120 #[e.v] w (yH3 (cntK e.kind) w):=by
 go_enter func120,ntmps120;go_wp2_with fail;all_goals go_ret
 all_goals exact⟨_,rfl,by simp_all[cntK],qB⟩
theorem yE9(op:Int)(w:World):Calls prog 114 #[.int .i64 op] w (yH3 (op=5\/op=6) w):=by
 go_enter func114,ntmps114;go_wp2_with fail;all_goals go_ret
 all_goals exact⟨_,rfl,by simp_all,Below.refl _ _⟩
theorem yPr(w:World)(e:Nd):yC7 (w.alloc (Obj.cells #[.int .i64 e.kind,.string e.s,.bool e.hi,.string e.t,.int .u64 e.lo,.int .u64 e.up,.int .i64 e.n] 83)) w.heap.size w.heap.size 1 [e]:=
 World.ownsRow_lit w #[.int .i64 e.kind,.string e.s,.bool e.hi,.string e.t,.int .u64 e.lo,.int .u64 e.up,.int .i64 e.n] 1 (Nat.le_refl _) qj rfl
theorem yOe(x:Ix)(k n cnt conds:Int)(w:World)(ho:x.ok):Calls prog 112 #[x.v,.int .i64 k,.int .i64 n,.int .i64 cnt,.int .i64 conds] w (yH3 (yCy x k n cnt conds) w):=by
 have HO:=ho;obtain⟨op,a,b,free,⟨kind,s,hi,t,lo,up,nn⟩⟩:=x;clear ho;obtain⟨P,hP⟩:=qE (yCy ⟨op,a,b,free,⟨kind,s,hi,t,lo,up,nn⟩⟩ k n cnt conds:Prop);rw[<-hP];have HP:Hid (P↔yCy ⟨op,a,b,free,⟨kind,s,hi,t,lo,up,nn⟩⟩ k n cnt conds):=by show P↔_;rw[hP]
 clear hP;obtain⟨W0,a1⟩:=qE (w.alloc (Obj.cells #[.int .i64 op,.int .i64 a,.int .i64 b,.bool free,.int .i64 kind,.string s,.bool hi,.string t,.int .u64 lo,.int .u64 up,.int .i64 nn] 153):World);have hb0:Below w.heap.size w W0:=by rw[a1];exact qB
 have a5:w.heap.size<W0.heap.size:=by rw[a1];simp
 have HK:Hid (∀wx,Below W0.heap.size W0 wx->wx.cell? ⟨w.heap.size,0,none⟩=some (.int .i64 op)/\wx.cell? ⟨w.heap.size,1,none⟩=some (.int .i64 a)/\wx.cell? ⟨w.heap.size,2,none⟩=some (.int .i64 b)/\wx.cell? ⟨w.heap.size,3,none⟩=some (.bool free)/\wx.cell? ⟨w.heap.size,4,none⟩=some (.int .i64 kind)/\wx.cell? ⟨w.heap.size,5,none⟩=some (.string s)/\wx.cell? ⟨w.heap.size,6,none⟩=some (.bool hi)/\wx.cell? ⟨w.heap.size,7,none⟩=some (.string t)/\wx.cell? ⟨w.heap.size,8,none⟩=some (.int .u64 lo)/\wx.cell? ⟨w.heap.size,9,none⟩=some (.int .u64 up)/\wx.cell? ⟨w.heap.size,10,none⟩=some (.int .i64 nn)):=by
  intro wx hx;refine⟨?_,?_,?_,?_,?_,?_,?_,?_,?_,?_,?_⟩;all_goals rw[hx.cell (by exact a5),a1]
  all_goals simp[go_sem]
 obtain⟨c0,c1,c2,c3,c4,c5,c6,c7,c8,c9,c10⟩:=HK.out W0 (Below.refl _ _);go_enter func112,ntmps112;go_upto_region 1 with fail;rw[<-a1];clear a1;by_cases h1:op=1
 .subst h1;obtain⟨W1,a2⟩:=qE (W0.alloc (Obj.cells #[.int .i64 kind,.string s,.bool hi,.string t,.int .u64 lo,.int .u64 up,.int .i64 nn] 83):World);have a4:Below W0.heap.size W0 W1:=by rw[a2];exact qB
  have a7:Hid (yC7 W1 W0.heap.size W0.heap.size 1 [⟨kind,s,hi,t,lo,up,nn⟩]):=by rw[a2];exact yPr W0 ⟨kind,s,hi,t,lo,up,nn⟩
  go_wp2_with fail;rw[<-a2];clear a2 c0 c1 c2 c3 c4 c5 c6 c7 c8 c9 c10;refine(yJc a7.out (λe he=>by simp at he;subst he;exact HO.leaf) qj).mono ?_;rintro e w2 ⟨r,rfl,hr,hb2⟩;have HR:=qH1 hr;have k2:=a4.trans (hb2.mono a4.size);have a3:=hb0.trans (k2.mono qo);obtain⟨c0,c1,c2,c3,c4,c5,c6,c7,c8,c9,c10⟩:=HK.out w2 k2;clear hr;cases r
  .have HF:Hid (¬P):=λq=>Bool.noConfusion (HR.2 (yGc.1 (HP.1 q)).1);exact zF a3
  .by_cases hbz:b=0
   .subst hbz;go_wp2_with fail;refine(yQ6 ⟨kind,s,hi,t,lo,up,nn⟩ _).mono ?_;rintro e w3 ⟨q,rfl,hq,a6⟩;have HQ:=qH1 hq;have k3:=k2.trans (a6.mono k2.size);have a0:=hb0.trans (k3.mono qo);clear hq c0 c1 c2 c3 c4 c5 c6 c7 c8 c9 c10;obtain⟨c0,c1,c2,c3,c4,c5,c6,c7,c8,c9,c10⟩:=HK.out w3 k3;have HF:Hid (P↔((q=true/\0<=a/\a<cnt)\/(q=false/\a=0))):=by have h1:=HR.out;have h2:=HQ.out;show P↔_;rw[HP.out,yGc];simp only[true_iff]at h1;simp only[h1,true_and];cases q<;>simp_all
    clear HR HQ;cases q
    case false=>
     have HF:Hid (P↔a=0):=by show P↔_;have:=HF.out;simpa using this
     by_cases p0:a=0;case neg=>
      have HG:Hid (¬P):=λq=>p0 (HF.1 q);go_wp2_with fail;go_ret;exact⟨_,rfl,by simp[HG.out,p0],a0⟩
     have HG:Hid (P):=HF.2 p0;go_wp2_with fail;go_ret;exact⟨_,rfl,by simp[HG.out,p0],a0⟩
    case true=>
     have HF:Hid (P↔0<=a/\a<cnt):=by show P↔_;have:=HF.out;simpa using this
     by_cases p0:0<=a;case neg=>
      have HG:Hid (¬P):=λq=>p0 (HF.1 q).1;go_wp2_with fail;go_ret;exact⟨_,rfl,by simp[HG.out,p0],a0⟩
     by_cases p1:a<cnt;case neg=>
      have HG:Hid (¬P):=λq=>p1 (HF.1 q).2;go_wp2_with fail;go_ret;exact⟨_,rfl,by simp[HG.out,p0,p1],a0⟩
     have HG:Hid (P):=HF.2 ⟨p0,p1⟩;go_wp2_with fail;go_ret;exact⟨_,rfl,by simp[HG.out,p0,p1],a0⟩
   .have HF:Hid (¬P):=λq=>hbz (yGc.1 (HP.1 q)).2.1;exact zF a3
 obtain⟨B,hB,hq⟩:=xE8 kind s hi t lo up nn;have HB:=qH1 hB;clear hB;cases B
 case true=>
  have HF:Hid (¬P):=λq=>by replace q:=HP.1 q;have hB:=HB.out;simp only[yCy,yIi,h1,false_and,false_or]at q;simp_all
  exact zF hb0
 case false=>
 cases free
 case true=>
  have HF:Hid (¬P):=λq=>by replace q:=HP.1 q;simp only[yCy,yIi,h1,false_and,false_or]at q;simp_all
  exact zF hb0
 case false=>
 have HN:=qH1 (HB.1 rfl);by_cases h5:op=5
 .subst h5;have HF:Hid (P↔0<=a/\a<conds/\k<b/\b<=n):=by show P↔_;rw[HP.out,yKb];simp[HN.out]
  by_cases p0:0<=a;case neg=>
   exact xDw
  by_cases p1:a<conds;case neg=>
   exact xDz
  by_cases p2:k<b;case neg=>
   exact xCk
  by_cases p3:b<=n;case neg=>
   exact xCl
  exact xCj
 by_cases h6:op=6
 .subst h6;have HF:Hid (P↔a=0/\k<b/\b<=n):=by show P↔_;rw[HP.out,yKa];simp[HN.out]
  by_cases p0:a=0;case neg=>
   exact xDw
  by_cases p1:k<b;case neg=>
   exact xDz
  by_cases p2:b<=n;case neg=>
   have HG:Hid (¬P):=λq=>p2 (HF.1 q).2.2;go_wp2_with fail;go_ret;exact⟨_,rfl,by simp[HG.out,p0,p1,p2],hb0⟩
  have HG:Hid (P):=HF.2 ⟨p0,p1,p2⟩;go_wp2_with fail;go_ret;exact⟨_,rfl,by simp[HG.out,p0,p1,p2],hb0⟩
 have HF:Hid (P↔2<=op/\op<=4/\a=0/\b=0):=by show P↔_;rw[HP.out,yK h1 h5 h6];simp[HN.out,and_assoc]
 by_cases p0:2<=op;case neg=>
  exact xDw
 by_cases p1:op<=4;case neg=>
  exact xDz
 by_cases p2:a=0;case neg=>
  exact xCk
 by_cases p3:b=0;case neg=>
  exact xCl
 exact xCj
variable {e:TypeId} {kd:IntKind}
theorem OwnZ.cell{g:Nat}(h:OwnZ e w base g cp ds kd)(hd:ds[j]?=some d):w.cell? ⟨g,j,none⟩=some (.int kd d)/\w.frozen? ⟨g,j,none⟩=false:=by have hj:=(List.getElem?_eq_some_iff.1 hd).1;refine⟨?_,World.ownsRow.frozenAt h j⟩;rw[World.ownsRow.cellAt h j qo,getElem?_map,hd];rfl
theorem OwnZ.lt{g:Nat}(h:OwnZ e w base g cp ds kd):base<=g/\g<w.heap.size:=World.ownsRow.lt h g rfl
theorem OwnZ.below{g:Nat}(h:OwnZ e w base g cp ds kd)(hb:Below w.heap.size w w'):OwnZ e w' base g cp ds kd:=yAh (S:=λ_=>False) h (Chg.of_below hb) (λk _ q=>q)
theorem OwnZ.set{g:Nat}(h:OwnZ e w base g cp ds kd)(j:Nat)(d:Int):OwnZ e (w.setCell ⟨g,j,none⟩ (.int kd d)) base g cp (ds.set j d) kd:=by have:=(World.ownsRow.stored h j (.int kd d)).1;unfold OwnZ;rw[length_set,map_set];exact this
theorem xA1(h:ds[j]?=some d):ds.set j d=ds:=by
 apply ext_getElem?;intro i;rw[getElem?_set];split
 .rename_i e;subst e;rw[if_pos (List.getElem?_eq_some_iff.1 h).1,h]
 .rfl
theorem yWe(base g cp:Nat)(ds:List Int)(j:Nat)(d e:Int)(w:World)(h:OwnZ 2 w base g cp ds .i64)(hj:ds[j]?=some e)(hl:ds.length<=4001):
  Calls prog 113 #[.slice (some ⟨g,0,none⟩) ds.length cp,.int .i64 j,.int .i64 d] w (xIe e d base g cp j ds w):=by
 have HO:=qH1 h;obtain⟨c0,f0⟩:=h.cell hj;have a0:=(List.getElem?_eq_some_iff.1 hj).1;have HJ:=qH1 hj;have zj:(j:Int)<(ds.length:Int):=qo
 clear h hj;go_enter func113,ntmps113;by_cases he:e=0
 .subst he;have HS:=qH1 (HO.set j d);go_wp2_with fail;all_goals go_ret
  all_goals exact⟨_,rfl,by simp_all<;>omega,λ_=>HS.out,Chg.of_set _ _ _ _ rfl⟩
 .by_cases hed:e=d
  .subst hed;have HS:Hid (OwnZ 2 w base g cp (ds.set j e) .i64):=by show OwnZ _ _ _ _ _ _ _;rw[xA1 HJ.out];exact HO.out
   go_wp2_with fail;all_goals go_ret
   all_goals exact⟨_,rfl,by simp_all<;>omega,λ_=>HS.out,Chg.refl _ _⟩
  .go_wp2_with fail;go_ret;exact⟨_,rfl,by simp_all,λq=>by simp_all,Chg.refl _ _⟩
theorem yE{f:α->List Value}{sz ty:Nat}{ops:Array Oper}{a:Act}(hf:∀x,(f x).length=sz)(w:World)(hgd:oo.guard=none) s x (sty:Nat)
  (ho:oo.op=.call {callee:=.builtin .append,args:=#[s,x],argTypes:=#[sty,sty]}) (hst:prog.underlying sty=some (.slice ty)) {z:Value} {bytes:Nat} (hin:(prog.info? ty).map (λi=>(i.zero,i.size,i.bytes))=some (some z,sz,bytes)) (hz:z.cells.size=sz) (hsz:0<sz) (hby:bytes<=1000)
  (h1:∀x,∀u∈f x,u.oneCell'=true)
  (base g cp n b cx:Nat) (fs:List α) (e:α) (hs:a.eval s=(xg g n cp)) (hx:a.eval x=(xg b 1 cx)) (hn:n=fs.length) (hO:OwnG f sz ty w base g cp fs)
  (hc:∀j u,(f e)[j]?=some u->(xk w b j u:Prop)) (hlen:fs.length<=1000000) (hbase:base<=w.heap.size)
  (h:∀g' cp' w',OwnG f sz ty w' base g' cp' (fs++ [e])->w.grownBy w' (some g)->(g'=g\/g'=w.heap.size)->K (a.put oo.dst (xg g' (n+1) cp')) w'):if Region.wanted oo (yielded ops a.tmps)=true then Oper.wp prog oo a w K Q else E:=by
 subst hn;obtain⟨i,hi,a3,a2,a1⟩:=info_parts hin;refine step_append_lies w hgd s x sty ho base ty i _ sz bytes hst hi a3 a2 a1 hz hsz (xg g fs.length cp) fs.length (fs.flatMap f) hs hO (xd b 0) 1 cx (f e) hx (by rw[hf];omega) (λj u hu=>by rw[Addr.add_mid,Nat.zero_add];exact hc j u hu) (h1 e) (by decide) ?_ ?_ hbase w rfl ?_
 .unfold maxLen;omega
 .have:=Nat.mul_le_mul (show fs.length+1<=1000001 by omega) hby;omega
 .intro g' cp' w' hO' a4 a0 a5;refine h g' cp' w' ?_ a4 ?_
  .exact xAm
  .simp[Value.ownBlock]at a0;rcases a0 with q|q
   .exact .inl q.symm
   .exact .inr q
theorem yW0(e:Nd)(w:World):(xf 120 #[e.v] w (yTk e.kind):Prop):=by
 go_enter func120,ntmps120;go_wp2_with fail;all_goals go_ret
 all_goals exact⟨by(have e0:yTk e.kind=(e.kind==11 || e.kind==12 || e.kind==13):=by simp only[yTk,Bool.decide_or,Bool.or_assoc];rfl);rw[e0];simp_all,qB⟩
theorem yLk{g:Nat}(h:WdN w g o cp xs)(hok:∀e∈xs,e.ok):Calls prog 34 #[.agg #[.slice (some ⟨g,o,none⟩) xs.length cp]] w (yOz xs w):=by
 have HO:=qH2 h hok;have hg:=h.lt;obtain⟨n,hn⟩:=qE xs.length;have HN:=qH1 hn;have a3:=h.caps;rw[<-hn]at a3|-;unfold maxLen at a3;clear h hok hn;obtain⟨W0,a1⟩:=qE (xw w #[.slice (some ⟨g,o,none⟩) n cp] 25:World);have HW0:Hid (yA W0 w 25 1 w [.slice (some ⟨g,o,none⟩) n cp]/\Below w w W0):=by rw[a1];exact⟨yAa w _ qr rfl,qB⟩
 have c0:=HW0.1.cell (j:=0) rfl;have s0:=HW0.2.size;go_enter func34,ntmps34;go_upto_region 1 with fail;rw[<-a1];clear a1;by_cases hbig:200<n
 .exact xF7
 have zb:¬(200:Int)<(n:Int):=qo
 have HC:Hid (Calls prog 81 #[.slice (some ⟨g,o,none⟩) n cp,.func (Fn.func 82) #[] #[]] W0 (yVm xs W0)):=by
  have hl:xs.length<=200:=by rw[<-HN.out];omega
  have:=yQs (w:=W0) (gN:=g) (oN:=o) (cpN:=cp) (HO.1.at.below HW0.2 hg) qo HO.2 hl;rw[<-HN.out]at this;exact this
 go_wp2_with fail;refine HC.mono ?_;rintro r w2 ⟨hb2,(⟨s,hs,rfl⟩|⟨hs,rfl⟩)⟩
 .have HF:Hid (yFk xs↔(s.valid=true/\s.nest<=20)):=by
   show yFk xs↔_;have a0:=yQo goodB hs;constructor
   .rintro⟨_,t,ht,hv,hn⟩;rw[xD a0 ht];exact⟨hv,hn⟩
   .rintro⟨hv,hn⟩;exact⟨by have:=HN.out;omega,s,a0,hv,hn⟩
  have HB:=qH1 (HW0.2.trans (hb2.mono s0));obtain⟨v,hv⟩:=qE s.valid;obtain⟨k,hk⟩:=qE s.nest;obtain⟨kd,a2⟩:=qE s.kind;rw[<-hv,<-hk]at HF;rw[<-hv,<-hk,<-a2];clear hs hb2 c0 HC hv hk a2;cases v
  .go_wp2_with fail;go_ret;exact⟨_,rfl,by rw[HF.out];simp,HB.trans ((Below.refl _ _).alloc HB.size _)⟩
  .go_wp2_with fail;go_ret;exact⟨_,rfl,by rw[HF.out];simp<;>omega,HB.trans ((Below.refl _ _).alloc HB.size _)⟩
 .have HF:Hid (¬yFk xs):=λq=>by obtain⟨_,s,a0,_⟩:=q;have:=ShT.fold goodB a0 [];exact hs s (by simpa using this)
  have HB:=qH1 (HW0.2.trans (hb2.mono s0));clear hs hb2 c0 HC;exact zF (HB.trans ((Below.refl _ _).alloc HB.size _))
theorem yJ6{g:Nat}(h:yC7 w base g cp xs)(hok:∀e∈xs,e.ok):Calls prog 34 #[.agg #[xg g xs.length cp]] w (yOz xs w):=yLk h.wd hok
theorem yG(g:Nat):∀(vs:List Value)(o:Nat)(w:World),w.setCells g o vs=setCs w g o vs
 | [],_,_=>rfl
 |v::vs,o,w=>yG g vs (o+1) _
theorem yV4(w:World)(ty g o:Nat)(vs:List Value)(hi:(prog.info? ty).map (·.size)=some vs.length)(hc:∀j,j<vs.length->(w.cell? (xd g (o+j))).isSome=true)(hf:∀j,w.frozen? (xd g j)=false)(h1:∀v∈vs,v.oneCell'=true):
  (storeVar ty (xd g o) (.agg vs.toArray)).run prog w=.ok () (setCs w g o vs):=by
 have h9:=run_storeCells_cells (P:=prog) g o vs 0 w (by simpa using hc) (λj _=>hf _) h1;rw[Nat.add_zero,yG]at h9;cases hq:prog.info? ty with
 |none=>simp[hq]at hi
 |some i=>
  have hs:i.size=vs.length:=by simpa [hq]using hi
  simp[storeVar,sizeOf,typeInfo,hq,Value.cells,hs,h9]
theorem yR6{ops:Array Oper}{a:Act}(hgd:oo.guard=none) p x (ty:Nat) (ho:oo.op=.store ty p x) (g o:Nat) (hp:a.eval p=.pointer (some ⟨g,o,none⟩)) (vs:List Value) (hx:a.eval x=.agg vs.toArray)
  (hi:(prog.info? ty).map (·.size)=some vs.length) (hc:∀j,j<vs.length->(w.cell? (xd g (o+j))).isSome=true) (hf:∀j,w.frozen? (xd g j)=false) (h1:∀v∈vs,v.oneCell'=true)
  (h:K (a.put oo.dst undef) (setCs w g o vs)):if Region.wanted oo (yielded ops a.tmps)=true then Oper.wp prog oo a w K Q else E:=by
 have hw:Region.wanted oo (yielded ops a.tmps)=true:=by simp[Region.wanted,hgd]
 rw[if_pos hw];unfold Oper.wp execOp;simp only[ho,hp,hx,Instr.storeAt,Instr.sureAddr,Sem.run_bind,Sem.run_pure,Result.andThen_ok,yV4 w ty g o vs hi hc hf h1];exact h
end Go.Proofs.YtnnagkfoiganfaaGreatDoor
