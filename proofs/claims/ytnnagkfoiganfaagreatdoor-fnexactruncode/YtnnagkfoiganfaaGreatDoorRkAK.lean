import Derived.Test.YtnnagkfoiganfaaGreatDoorRkAH
import Derived.Test.YtnnagkfoiganfaaGreatDoorRkAI
namespace Go.Proofs.YtnnagkfoiganfaaGreatDoor
open Go.ChangeShapes Go.WideShapes Go.ChangeAt Go.RowKit Go.Deep XD XI XU XG XP XK XW XT XF XE XH _root_.List _root_.Nat Go.Proofs.Tryz
set_option linter.unusedVariables false
set_option linter.unusedSimpArgs false
set_option maxRecDepth 100000
set_option maxHeartbeats 40000000
def MatB(p s:ByteArray)(b:Bool):Prop:=(¬(yAj (sb p)).1=0/\b=false)\/((yAj (sb p)).1=0/\∃n os,AltG (yAm n) os (sb p)/\(b=true↔s.size<=200/\LgA os (sb s)))
theorem MatB.one{p s:ByteArray}{b c:Bool}(h:MatB p s b)(k:MatB p s c):b=c:=by
 rcases h with⟨h1,rfl⟩|⟨h1,n,os,h2,h3⟩
 .rcases k with⟨_,rfl⟩|⟨k1,_⟩
  .rfl
  .exact absurd k1 h1
 .rcases k with⟨k1,_⟩|⟨_,m,us,k2,k3⟩
  .exact absurd h1 k1
  .obtain rfl:=xEx h2 k2;rw[Bool.eq_iff_iff,h3,k3]
def SpeB(p s:ByteArray)(w:World)(e:Ending)(w':World):Prop:=∃b:Bool,e=.returned b/\Hid (Below w w w'/\MatB p s b)
theorem yLb(p s:ByteArray) w (hpm:p.size<=maxLen):Calls prog 169 #[p,s] w (SpeB p s w):=by
 by_cases hc0:(yAj (sb p)).1=0
 .obtain⟨os,ho⟩:=ySm p hpm hc0;obtain⟨n,hg⟩:=ho.gr;have a0:cut (sb p) 0 p.size=sb p:=by unfold cut;rw[drop_zero,Nat.sub_zero,<-yAe,take_length]
  rw[a0]at hg;by_cases hs:s.size<=200
  .refine(yPf p s hpm hc0 hs n os hg w).mono ?_;rintro e w' ⟨b,rfl,H,hb⟩;exact⟨b,rfl,hb,.inr ⟨hc0,n,os,hg,H.trans ⟨λq=>⟨hs,q⟩,λq=>q.2⟩⟩⟩
  .refine(yLa p s hpm qo w).mono ?_;rintro e w' ⟨rfl,hb⟩;exact⟨false,rfl,hb,.inr ⟨hc0,n,os,hg,⟨λq=>(by cases q),λq=>absurd q.1 hs⟩⟩⟩
 .refine(yGo p s hpm hc0 w).mono ?_;rintro e w' ⟨rfl,hb⟩;exact⟨false,rfl,hb,.inl ⟨hc0,rfl⟩⟩
open Classical in
noncomputable def mtB(p s:ByteArray):Bool:=decide (MatB p s true)
theorem yY3{p s:ByteArray}{b:Bool}(h:MatB p s b):b=mtB p s:=by
 unfold mtB;cases b with
 |true=>exact(@decide_eq_true _ (Classical.propDecidable _) h).symm
 |false=>
  refine(@decide_eq_false _ (Classical.propDecidable _) λq=>?_).symm;have:=MatB.one h q;cases this
def lsB(a b:ByteArray):Bool:=Op.bytesLess a.toList b.toList
def inS(x:ByteArray)(n:Nd):Bool:= !(lsB x n.s) && (!n.hi || lsB x n.t)
noncomputable def tstB(n:Nd)(c:Ent):Bool:=
 if n.kind=1\/n.kind=3 then true else if n.kind=4 then mtB n.s c.row else if n.kind=5 then mtB n.s c.fam else if n.kind=6 then mtB n.s c.qual else if n.kind=7 then mtB n.s c.val
 else if n.kind=8 then inS c.row n else if n.kind=9 then inS c.qual n else if n.kind=10 then decide (n.lo<=c.ts) && (!n.hi || decide (c.ts<n.up))else false
structure Sub(row l:List Ent):Prop where
 ord:Ord l
 key:∀x∈l,∃y∈row,yAo x y=0
 kind:∀x∈l,x.kind=0
 ok:∀x∈l,x.ok
theorem Sub.trans{row l m:List Ent}(h:Sub row l)(k:Sub l m):Sub row m:=
 ⟨k.ord,λx hx=>by
  obtain⟨y,hy,h1⟩:=k.key x hx
  obtain⟨z,hz,h2⟩:=h.key y hy
  exact⟨z,hz,by rw[yQh h1];exact h2⟩,k.kind,k.ok⟩
structure Hn where
 rank:Int
 txt:ByteArray
structure It where
 alive:Bool
 strip:Bool
 hint:Hn
structure Ctr where
 used:Bool
 row:ByteArray
 fam:ByteArray
 qual:ByteArray
 count:Int
def noH:Hn:=⟨0,⟨#[]⟩⟩
def newI:It:=⟨true,false,noH⟩
def yBl(h:Hn):It:=⟨false,false,h⟩
def newC:Ctr:=⟨false,⟨#[]⟩,⟨#[]⟩,⟨#[]⟩,0⟩
def eqB(a b:ByteArray):Bool:=a.toList==b.toList
def famB(c x:Ent):Bool:=eqB x.row c.row && eqB x.fam c.fam
def yAz(h:Hn)(c x:Ent):Bool:=
 if h.rank=1 then famB c x && eqB x.qual c.qual else if h.rank=2 then famB c x && lsB x.qual h.txt else if h.rank=3 then famB c x
 else if h.rank=4 then eqB x.row c.row else if h.rank=5 then lsB x.row h.txt else decide (h.rank=6)
def yN7(a b:Hn):Hn:=if b.rank<a.rank\/(b.rank=a.rank/\lsB b.txt a.txt=true)then b else a
def yCm(x p:ByteArray):Bool:=decide (p.size<=x.size) && ((x.extract 0 p.size).toList==p.toList)
def yB4(p:ByteArray)(n:Nd)(c:Ent):Hn:=
 if n.kind=2 then⟨6,⟨#[]⟩⟩
 else if n.kind=4 then(if lsB c.row p=true then⟨5,p⟩else if yCm c.row p=true then⟨4,⟨#[]⟩⟩else⟨6,⟨#[]⟩⟩)
 else if n.kind=5 then⟨3,⟨#[]⟩⟩
 else if n.kind=6 then(if lsB c.qual p=true then⟨2,p⟩else if yCm c.qual p=true then⟨1,⟨#[]⟩⟩else⟨3,⟨#[]⟩⟩)
 else if n.kind=8 then(if lsB c.row n.s=true then⟨5,n.s⟩else⟨6,⟨#[]⟩⟩)
 else if n.kind=9 then(if lsB c.qual n.s=true then⟨2,n.s⟩else⟨3,⟨#[]⟩⟩)
 else if n.kind=10 then(if c.ts<n.lo then⟨1,⟨#[]⟩⟩else noH)
 else if n.kind=11 then⟨1,⟨#[]⟩⟩
 else if n.kind=12 then⟨4,⟨#[]⟩⟩
 else noH
def yPj(n:Nd)(k:Ctr)(c:Ent):Bool:=k.used && eqB k.row c.row && (!decide (n.kind=11) || (eqB k.fam c.fam && eqB k.qual c.qual))
def yC4(n:Nd)(k:Ctr)(c:Ent):Ctr:=if yPj n k c=true then k else⟨true,c.row,c.fam,c.qual,0⟩
def yCh(n:Nd)(k:Ctr)(c:Ent):Bool×Ctr:=
 if(yC4 n k c).count<n.n then(decide (¬n.kind=13),{yC4 n k c with count:=(yC4 n k c).count+1})else(decide (n.kind=13),yC4 n k c)
def yB(i:It)(c:Ent):Ent:=if i.strip=true then {c with val:=⟨#[]⟩}else c
noncomputable def leafI(P:ByteArray->ByteArray)(x:Ix)(c:Ent)(i:It)(cs:List Ctr):It×List Ctr:=
 if i.alive=true then
  (let s:It:=⟨true,i.strip || decide (x.leaf.kind=3),i.hint⟩
   let d:It:=yBl (if x.free=true then yB4 (P x.leaf.s) x.leaf c else noH)
   match (if x.leaf.kind=11\/x.leaf.kind=12\/x.leaf.kind=13 then cs[x.a.toNat]? else none)with
   |some k=>(if(yCh x.leaf k c).1=true then s else d,cs.set x.a.toNat (yCh x.leaf k c).2)
   |none=>(if tstB x.leaf (yB i c)=true then s else d,cs))
 else(i,cs)
def yTh(l r:It):It:=if l.alive=true then l else if r.alive=true then r else yBl (yN7 l.hint r.hint)
structure Lk where
 at_:Nat
 st:List It
 cs:List Ctr
noncomputable def stepL(P:ByteArray->ByteArray)(c:Ent)(conds:List Bool)(x:Ix)(s:Lk):Lk:=
 if x.op=1 then(match s.st with
  |i::r=>⟨s.at_+1,(leafI P x c i s.cs).1::r,(leafI P x c i s.cs).2⟩
  | []=>⟨s.at_+1,[],s.cs⟩)
 else if x.op=2 then(match s.st with
  |i::r=>⟨s.at_+1,i::i::r,s.cs⟩
  | []=>⟨s.at_+1,[],s.cs⟩)
 else if x.op=3 then(match s.st with
  |i::j::r=>⟨s.at_+1,j::i::r,s.cs⟩
  |r=>⟨s.at_+1,r,s.cs⟩)
 else if x.op=4 then(match s.st with
  |i::j::r=>⟨s.at_+1,yTh j i::r,s.cs⟩
  |r=>⟨s.at_+1,r,s.cs⟩)
 else if x.op=5 then(if conds[x.a.toNat]?=some false then⟨x.b.toNat,s.st,s.cs⟩else⟨s.at_+1,s.st,s.cs⟩)
 else if x.op=6 then⟨x.b.toNat,s.st,s.cs⟩
 else⟨s.at_+1,s.st,s.cs⟩
inductive LkR(P:ByteArray->ByteArray)(l:List Ix)(c:Ent)(conds:List Bool):Lk->It×List Ctr->Prop
 |fin {s:Lk} {i:It} (h:¬s.at_<l.length) (hs:s.st= [i]):LkR P l c conds s (i,s.cs)
 |step {s:Lk} {x:Ix} {r:It×List Ctr} (hx:l[s.at_]?=some x) (h:LkR P l c conds (stepL P c conds x s) r):LkR P l c conds s r
theorem LkR.one{P:ByteArray->ByteArray}{l:List Ix}{c:Ent}{conds:List Bool}{s:Lk}{r r':It×List Ctr}(h:LkR P l c conds s r)(k:LkR P l c conds s r'):r=r':=by
 induction h with
 |fin h hs=>cases k with
  |fin _ ks=>rw[hs]at ks;cases ks;rfl
  |step hx _=>exact absurd (qf hx) h
 |step hx _ ih=>cases k with
  |fin h _=>exact absurd (qf hx) h
  |step hx' k=>rw[hx]at hx';cases hx';exact ih k
structure yUc(l:List Ix)(d:Nat->Nat):Prop where
 start:d 0=1
 last:d l.length=1
 step:∀(k:Nat)(x:Ix),l[k]?=some x->1<=d k->(least x.op:Int)<=d k/\(d k:Int)+more x.op<=250/\∀j∈ways k x,((d j:Nat):Int)=d k+more x.op/\k<j/\j<=l.length
theorem yZe(P:ByteArray->ByteArray) x c i (cs:List Ctr):(leafI P x c i cs).2.length=cs.length:=by
 unfold leafI;split
 .dsimp only;split<;>simp
 .rfl
theorem yWs(x:ByteArray)(n:Nd)(w:World):(xf 170 #[x,n.v] w (inS x n):Prop):=by
 obtain⟨k,s,hi,t,lo,up,nn⟩:=n;unfold inS lsB;cases h1:Op.bytesLess x.toList s.toList<;>cases hi<;>cases h3:Op.bytesLess x.toList t.toList
 all_goals go_enter func170,ntmps170
 all_goals go_wp2_with fail
 all_goals go_ret
 all_goals exact⟨rfl,qB⟩
theorem yR9(p s:ByteArray)(w:World)(hp:p.size<=maxLen):(xf 169 #[p,s] w (mtB p s):Prop):=by refine(yLb p s w hp).mono ?_;rintro e w' ⟨b,rfl,H⟩;rw[yY3 H.2];exact⟨rfl,H.1⟩
theorem yS7(n:Nd)(c:Ent)(w:World)(hs:n.s.size<=maxLen):(xf 119 #[n.v,c.c] w (tstB n c):Prop):=by
 obtain⟨k,s,hi,t,lo,up,nn⟩:=n;have HM:Hid (∀(x:ByteArray)(w:World),(xf 169 #[s,x] w (mtB s x):Prop)):=λx w=>yR9 s x w hs;have HS:Hid (∀(x:ByteArray)(w:World),(xf 170 #[x,.agg #[xi k,s,hi,t,xu lo,xu up,xi nn]] w (inS x ⟨k,s,hi,t,lo,up,nn⟩):Prop)):=λx w=>yWs x _ w;have HB:Hid (∀wx:World,Below w w wx->Below w w wx):=λ_ h=>h;obtain⟨res,a1⟩:=qE (tstB ⟨k,s,hi,t,lo,up,nn⟩ c);have HR:=qH1 a1;rw[<-a1];obtain⟨W2,a0⟩:=qW (xw (w.alloc (.cells #[xi k,s,hi,t,xu lo,xu up,xi nn] 83)) #[c.row,c.fam,c.qual,xu c.ts,c.val] 70);have HW2:Hid (Below w w W2):=by rw[a0];exact(qB).alloc (by simp) _
 clear a1 hs;by_cases h1:k=1
 .subst h1;have hv:res=true:=HR.trans (by simp[tstB]);exact xDy
 have b1:=qn h1
 by_cases h3:k=3
 .subst h3;have hv:res=true:=HR.trans (by simp[tstB]);exact xDy
 have b3:=qn h3
 by_cases h4:k=4
 .subst h4;have hv:res=mtB s c.row:=HR.trans (by simp[tstB]);go_enter func119,ntmps119;go_wp2_with fail;rw[<-a0];clear a0;refine(HM.out c.row W2).mono ?_;exact yVo
 have b4:=qn h4
 by_cases h5:k=5
 .subst h5;have hv:res=mtB s c.fam:=HR.trans (by simp[tstB]);go_enter func119,ntmps119;go_wp2_with fail;rw[<-a0];clear a0;refine(HM.out c.fam W2).mono ?_;exact yVo
 have b5:=qn h5
 by_cases h6:k=6
 .subst h6;have hv:res=mtB s c.qual:=HR.trans (by simp[tstB]);go_enter func119,ntmps119;go_wp2_with fail;rw[<-a0];clear a0;refine(HM.out c.qual W2).mono ?_;exact yVo
 have b6:=qn h6
 by_cases h7:k=7
 .subst h7;have hv:res=mtB s c.val:=HR.trans (by simp[tstB]);go_enter func119,ntmps119;go_wp2_with fail;rw[<-a0];clear a0;refine(HM.out c.val W2).mono ?_;exact yVo
 have b7:=qn h7
 by_cases h8:k=8
 .subst h8;have hv:res=inS c.row ⟨8,s,hi,t,lo,up,nn⟩:=HR.trans (by simp[tstB]);go_enter func119,ntmps119;go_wp2_with fail;rw[<-a0];clear a0;refine(HS.out c.row W2).mono ?_;exact yVo
 have b8:=qn h8
 by_cases h9:k=9
 .subst h9;have hv:res=inS c.qual ⟨9,s,hi,t,lo,up,nn⟩:=HR.trans (by simp[tstB]);go_enter func119,ntmps119;go_wp2_with fail;rw[<-a0];clear a0;refine(HS.out c.qual W2).mono ?_;exact yVo
 have b9:=qn h9
 by_cases h10:k=10
 .subst h10;have hv:res=(decide (lo<=c.ts) && (!hi || decide (c.ts<up))):=HR.trans (by simp[tstB]);subst hv;by_cases g1:lo<=c.ts<;>cases hi<;>by_cases g2:c.ts<up
  all_goals simp only[g1,g2,decide_true,decide_false,Bool.not_true,Bool.not_false,Bool.true_and,Bool.false_and,Bool.true_or,Bool.false_or]
  all_goals go_enter func119,ntmps119
  all_goals go_wp2_with fail
  all_goals go_ret
  all_goals exact⟨rfl,(qB).alloc (by simp) _⟩
 have a2:=qn h10
 have hv:res=false:=HR.trans (by simp[tstB,h1,h3,h4,h5,h6,h7,h8,h9,h10]);exact xDy
abbrev Hn.v(h:Hn):Value:=.agg #[xi h.rank,h.txt]
theorem up2(w:World)(a b:Obj):Below w w ((w.alloc a).alloc b):=(qB).alloc (by simp) _
theorem up3(w:World)(a b c:Obj):Below w w (((w.alloc a).alloc b).alloc c):=(up2 w a b).alloc (by simp;omega) _
theorem ySy(a b:Hn)(w:World):(xf 123 #[a.v,b.v] w (yN7 a b).v:Prop):=by
 obtain⟨ar,at_⟩:=a;obtain⟨br,bt⟩:=b;unfold yN7 lsB;by_cases h1:br<ar
 .rw[if_pos (.inl h1)];exact xGp
 .by_cases h2:br=ar
  .subst h2;cases h3:Op.bytesLess bt.toList at_.toList
   .rw[if_neg (by simp)];go_enter func123,ntmps123;go_wp2;refine bodyPost_ret (v:=.agg #[xi br,at_]) (by simp[results,results123,go_sem]) rfl ⟨rfl,?_⟩;repeat (first|exact Below.refl _ _|refine Below.alloc ?_ (by first|(simp;done)|(simp;omega)) _|refine yAc ?_ (by first|(simp;done)|(simp;omega)) _ _)
   .rw[if_pos (.inr ⟨rfl,rfl⟩)];exact xGp
  .have z2:(br==ar)=false:=by rw[beq_eq_false_iff_ne];exact h2
   rw[if_neg (λq=>q.elim h1 (λz=>h2 z.1))];go_enter func123,ntmps123;go_wp2;refine bodyPost_ret (v:=.agg #[xi ar,at_]) (by simp[results,results123,go_sem]) rfl ⟨rfl,?_⟩;repeat (first|exact Below.refl _ _|refine Below.alloc ?_ (by first|(simp;done)|(simp;omega)) _|refine yAc ?_ (by first|(simp;done)|(simp;omega)) _ _)
theorem yV0(h:Hn)(c x:Ent)(w:World):(xf 60 #[h.v,c.c,x.c] w (yAz h c x):Prop):=by
 obtain⟨rk,tx⟩:=h;unfold yAz famB eqB lsB;obtain⟨e1,h1⟩:∃b,(x.row.toList==c.row.toList)=b:=⟨_,rfl⟩;obtain⟨e2,h2⟩:∃b,(x.fam.toList==c.fam.toList)=b:=⟨_,rfl⟩;obtain⟨e3,h3⟩:∃b,(x.qual.toList==c.qual.toList)=b:=⟨_,rfl⟩;obtain⟨e4,h4⟩:∃b,Op.bytesLess x.qual.toList tx.toList=b:=⟨_,rfl⟩;obtain⟨e5,h5⟩:∃b,Op.bytesLess x.row.toList tx.toList=b:=⟨_,rfl⟩;rw[h1,h2,h3,h4,h5];by_cases k1:rk=1
 .subst k1;cases e1<;>cases e2<;>cases e3
  all_goals
   go_enter func60,ntmps60
   go_wp2_with fail
   go_ret
   exact⟨by simp,up3 w _ _ _⟩
 by_cases k2:rk=2
 .subst k2;cases e1<;>cases e2<;>cases e4
  all_goals
   go_enter func60,ntmps60
   go_wp2_with fail
   go_ret
   exact⟨by simp,up3 w _ _ _⟩
 by_cases k3:rk=3
 .subst k3;exact xAo
 by_cases k4:rk=4
 .subst k4;exact xAo
 by_cases k5:rk=5
 .subst k5;cases e1<;>cases e2<;>cases e5
  all_goals
   go_enter func60,ntmps60
   go_wp2_with fail
   go_ret
   exact⟨by simp,up3 w _ _ _⟩
 by_cases k6:rk=6
 .subst k6;exact xAo
 have z1:=qn k1
 have z2:=qn k2
 have z3:=qn k3
 have z4:=qn k4
 have z5:=qn k5
 have z6:=qn k6
 simp only[k1,k2,k3,k4,k5,k6,if_false,decide_false];exact xAo
theorem yO4(i:It)(c:Ent)(w:World):(xf 59 #[.agg #[i.alive,i.strip,xi i.hint.rank,i.hint.txt],c.c] w (yB i c).c:Prop):=by
 unfold yB;cases h:i.strip
 .rw[if_neg (by simp)];go_enter func59,ntmps59;go_wp2;refine bodyPost_ret (v:=c.c) (by simp[results,results59,go_sem]) rfl ⟨rfl,?_⟩;repeat (first|exact Below.refl _ _|refine Below.alloc ?_ (by first|(simp;done)|(simp;omega)) _|refine yAc ?_ (by first|(simp;done)|(simp;omega)) _ _)
 .rw[if_pos rfl];go_enter func59,ntmps59;go_wp2;refine bodyPost_ret (v:=.agg #[c.row,c.fam,c.qual,xu c.ts,xe]) (by simp[results,results59,go_sem]) rfl ⟨rfl,?_⟩;repeat (first|exact Below.refl _ _|refine Below.alloc ?_ (by first|(simp;done)|(simp;omega)) _|refine yAc ?_ (by first|(simp;done)|(simp;omega)) _ _)
abbrev Ctr.five(k:Ctr):List Value:= [.bool k.used,.string k.row,.string k.fam,.string k.qual,.int .i64 k.count]
abbrev Ctr.v(k:Ctr):Value:=.agg #[k.used,k.row,k.fam,k.qual,xi k.count]
abbrev It.four(i:It):List Value:= [.bool i.alive,.bool i.strip,.int .i64 i.hint.rank,.string i.hint.txt]
abbrev It.v(i:It):Value:=.agg #[i.alive,i.strip,xi i.hint.rank,i.hint.txt]
theorem yGe(k:Ctr):k.five.length=5:=rfl
theorem yAd(i:It):i.four.length=4:=rfl
theorem xFk(k:Ctr):∀u∈k.five,u.oneCell'=true:=λu hu=>by simp at hu;rcases hu with rfl|rfl|rfl|rfl|rfl<;>rfl
theorem yG2(i:It):∀u∈i.four,u.oneCell'=true:=λu hu=>by simp at hu;rcases hu with rfl|rfl|rfl|rfl<;>rfl
theorem Tryz.infoCtr:(prog.info? 198).map (λi=>(i.zero,i.size,i.bytes))=some (some newC.v,5,64):=qk
theorem Tryz.infoItm:(prog.info? 115).map (λi=>(i.zero,i.size,i.bytes))=some (some (yBl noH).v,4,32):=qk
abbrev yF0(w:World)(base g cap:Nat)(es:List Ctr):Prop:=OwnG Ctr.five 5 198 w base g cap es
abbrev xId(w:World)(base g cap:Nat)(es:List It):Prop:=OwnG It.four 4 115 w base g cap es
theorem yMm(m:Nat)(w:World)(hm:m<=1000):Calls prog 57 #[xi m] w λe w'=>∃g cp,e=.returned (xg g m cp)/\yF0 w' w g cp (List.replicate m newC)/\Below w w w':=by
 obtain⟨W1,a3⟩:=qW (xw w #[] 198);have HS:Hid (yF0 W1 w w 0 (List.replicate 0 newC)/\Below w w W1):=by rw[a3];exact⟨yU1 w qr,qB⟩
 go_enter func57,ntmps57;go_upto_region 2 with fail;rw[<-a3];clear a3;go_wp2;go_loopw[3,4] (λov iv wr=>∃(i g cp:Nat),i<=m/\iv=(xi i)/\ov=(xg g i cp)/\Hid (yF0 wr w g cp (List.replicate i newC)/\Below w w wr)) (λ_ iv _=>m-(intOf iv).toNat);case atStart=>exact⟨0,_,0,zero_le _,rfl,rfl,HS.out⟩
 case round=>
  clear HS;obtain⟨i,g,cp,hi,rfl,rfl,HJ⟩:=hrel;have a7:=HJ.1.lt;have sr:=HJ.2.size;by_cases hlt:i<m
  .have z:(i:Int)<(m:Int):=qo
   obtain⟨W2,a0⟩:=qW (xw wr #[false,xe,xe,xe,xi 0] 198);have hb2:=qN a0
   have a1:=qH4 (HJ.1.below hb2) (HJ.2.trans (hb2.mono sr)) (by rw[a0];exact yBm wr newC.five 198:(∀j u,newC.five[j]?=some u->(xk W2 wr j u:Prop))) (by simp:i=(List.replicate i newC).length);have s2:=hb2.size;clear hb2;go_wp2_with (at_builtin;(try rw[<-a0]);refine yDb yGe _ rfl _ _ 110 rfl underlying110 Tryz.infoCtr rfl qj qj xFk w g cp i wr 1 (List.replicate i newC) newC rfl rfl a1.2.2.2 a1.1 a1.2.2.1 ?hl ?hb ?_);case hl=>rw[length_replicate];omega
   case hb=>omega
   intro g' a6 w' a5 a2 a8;have a4:W2.grownBy w' (some g):=by first|exact a2|(rw[a0];exact a2)
   have HR:=qH2 (by rw[replicate_succ'];exact a5:yF0 w' w g' a6 (List.replicate (i+1) newC)) (a1.2.1.grown a4 qo (λj hj=>by cases hj;exact a7.1));clear a5 a2 a4 a8 a0;refine zY ?_;exact⟨i+1,g',a6,qo,by go_num,rfl,HR.out⟩
  .have z:¬(i:Int)<(m:Int):=qo
   obtain rfl:i=m:=qo
   go_wp2;go_ret;exact⟨g,cp,rfl,HJ.out⟩
variable {p:Prop}
theorem zSk(h:p:=by go_enter func160,ntmps160;go_wp2;go_ret;exact⟨by simp,up3 w _ _ _⟩):p:=h
theorem zBl(h:p:=by repeat (first|exact Below.refl _ _|refine Below.alloc ?_ (by first|(simp;done)|(simp;omega)) _|refine yAc ?_ (by first|(simp;done)|(simp;omega)) _ _)):p:=h
theorem ySb(h:Hn)(c x:Ent)(w:World):(xf 160 #[h.v,c.c,x.c] w (yAz h c x):Prop):=by
 obtain⟨rk,tx⟩:=h;unfold yAz famB eqB lsB;obtain⟨e1,h1⟩:∃b,(x.row.toList==c.row.toList)=b:=⟨_,rfl⟩;obtain⟨e2,h2⟩:∃b,(x.fam.toList==c.fam.toList)=b:=⟨_,rfl⟩;obtain⟨e3,h3⟩:∃b,(x.qual.toList==c.qual.toList)=b:=⟨_,rfl⟩;obtain⟨e4,h4⟩:∃b,Op.bytesLess x.qual.toList tx.toList=b:=⟨_,rfl⟩;obtain⟨e5,h5⟩:∃b,Op.bytesLess x.row.toList tx.toList=b:=⟨_,rfl⟩;rw[h1,h2,h3,h4,h5];by_cases k1:rk=1
 .subst k1;cases e1<;>cases e2<;>cases e3<;>exact zSk
 by_cases k2:rk=2
 .subst k2;cases e1<;>cases e2<;>cases e4<;>exact zSk
 by_cases k3:rk=3
 .subst k3;cases e1<;>cases e2<;>exact zSk
 by_cases k4:rk=4
 .subst k4;cases e1<;>cases e2<;>exact zSk
 by_cases k5:rk=5
 .subst k5;cases e1<;>cases e2<;>cases e5<;>exact zSk
 by_cases k6:rk=6
 .subst k6;cases e1<;>cases e2<;>exact zSk
 have z1:=qn k1
 have z2:=qn k2
 have z3:=qn k3
 have z4:=qn k4
 have z5:=qn k5
 have z6:=qn k6
 simp only[k1,k2,k3,k4,k5,k6,if_false,decide_false];cases e1<;>cases e2<;>exact zSk
variable {a:ByteArray}
theorem yZb{b:ByteArray}(h1:Op.bytesLess a.toList b.toList=false)(h2:Op.bytesLess b.toList a.toList=false):a=b:=by
 by_cases h3:(a.toList==b.toList)=true
 .have h4:=eq_of_beq h3;rw[ByteArray.toList_eq,ByteArray.toList_eq]at h4;cases a;cases b
  congr;exact Array.toList_inj.1 h4
 .have h5:=yOs h1 (by simpa using h3);have h6:=yOs (a:=b) (b:=a) h2 (by
   have:¬(b.toList==a.toList)=true:=λq=>h3 (by rw[beq_iff_eq]at q|-;exact q.symm)
   simpa using this)
  have h7:=yZ6 a b;omega
theorem yZa(a b:Hn):(if a.rank<b.rank\/(a.rank=b.rank/\lsB a.txt b.txt=true)then a else b)=yN7 a b:=by
 obtain⟨ar,at_⟩:=a;obtain⟨br,bt⟩:=b;unfold yN7 lsB;simp only;by_cases h1:ar<br
 .rw[if_pos (.inl h1),if_neg qo]
 .by_cases h2:br<ar
  .rw[if_neg (λq=>q.elim (λz=>qo) (λz=>qo)),if_pos (.inl h2)]
  .obtain rfl:ar=br:=qo
   cases h3:Op.bytesLess at_.toList bt.toList
   .rw[if_neg (by simp)];cases h4:Op.bytesLess bt.toList at_.toList
    .rw[if_neg (by simp),yZb h3 h4]
    .rw[if_pos (.inr ⟨rfl,rfl⟩)]
   .rw[if_pos (.inr ⟨rfl,rfl⟩),if_neg];rintro(q|⟨_,q⟩)
    .omega
    .have h5:=yOt h3;have h6:=yOt q;have h7:=yZ6 at_ bt;omega
theorem yP5(a b:Hn)(w:World):(xf 201 #[a.v,b.v] w (yN7 a b).v:Prop):=by
 rw[<-yZa];obtain⟨ar,at_⟩:=a;obtain⟨br,bt⟩:=b;unfold lsB;simp only;by_cases h1:ar<br
 .rw[if_pos (.inl h1)];exact xG
 .by_cases h2:ar=br
  .subst h2;cases h3:Op.bytesLess at_.toList bt.toList
   .rw[if_neg (by simp)];go_enter func201,ntmps201;go_wp2;exact bodyPost_ret (v:=.agg #[xi ar,bt]) (by simp[results,results201,go_sem]) rfl ⟨rfl,zBl⟩
   .rw[if_pos (.inr ⟨rfl,rfl⟩)];exact xG
  .have z2:(ar==br)=false:=by rw[beq_eq_false_iff_ne];exact h2
   rw[if_neg (λq=>q.elim h1 (λz=>h2 z.1))];go_enter func201,ntmps201;go_wp2;exact bodyPost_ret (v:=.agg #[xi br,bt]) (by simp[results,results201,go_sem]) rfl ⟨rfl,zBl⟩
theorem yL9(h:Hn)(c:Ent)(w:World):(xf 190 #[h.v,c.c] w h.v:Prop):=by go_enter func190,ntmps190;go_wp2;exact bodyPost_ret (v:=h.v) (by simp[results,results190,go_sem]) rfl ⟨rfl,zBl⟩
theorem yJf(i:It)(c:Ent)(w:World):(xf 106 #[i.v,c.c] w (yB i c).c:Prop):=by
 unfold yB;cases h:i.strip
 .rw[if_neg (by simp)];go_enter func106,ntmps106;go_wp2;exact bodyPost_ret (v:=c.c) (by simp[results,results106,go_sem]) rfl ⟨rfl,zBl⟩
 .rw[if_pos rfl];go_enter func106,ntmps106;go_wp2;exact bodyPost_ret (v:=.agg #[c.row,c.fam,c.qual,xu c.ts,xe]) (by simp[results,results106,go_sem]) rfl ⟨rfl,zBl⟩
theorem yT4(x p:ByteArray) w:Calls prog 172 #[x,p] w λe w'=>e=.returned (.bool (yCm x p))/\w'=w:=by
 unfold yCm;by_cases h:p.size<=x.size
 .have z:(p.size:Int)<=(x.size:Int):=qo
  have z2:¬(x.size:Int)<(p.size:Int):=qo
  cases e1:((x.extract 0 p.size).toList==p.toList)
  .go_enter func172,ntmps172;go_wp2_with fail;go_ret;exact⟨by simp[h,e1],rfl⟩
  .go_enter func172,ntmps172;go_wp2_with fail;go_ret;exact⟨by simp[h,e1],rfl⟩
 .have z:¬(p.size:Int)<=(x.size:Int):=qo
  have z2:(x.size:Int)<(p.size:Int):=qo
  go_enter func172,ntmps172;go_wp2_with fail;go_ret;exact⟨by simp[h],rfl⟩
noncomputable def pfxR(s:ByteArray)(h:s.size<=maxLen):List UInt8×Bool:=Classical.choose (yJl s h)
theorem yYj(s:ByteArray)(h:s.size<=maxLen):yVk s (pfxR s h):=Classical.choose_spec (yJl s h)
noncomputable def pfxB(s:ByteArray):ByteArray:=if h:s.size<=maxLen then⟨(pfxR s h).1.toArray⟩else⟨#[]⟩
theorem zHe (h:p:=by
 go_wp2_with fail;refine bodyPost_ret (v:=(yB4 p n c).v) ?_ rfl ⟨rfl,yAc (yAc HV.2.2.2 (by omega) 0 _) (by omega) 1 _⟩
 have hm:=HM.out.symm;simp[results,results122,go_sem,r0,r1,f0,f1];simp[yB4,lsB,noH,Hn.v, *];try (rw[if_neg (by omega)];simp)):p:=h
theorem yTl(n:Nd)(c:Ent)(w:World)(hs:n.s.size<=maxLen):(xf 122 #[n.v,c.c] w (yB4 (pfxB n.s) n c).v:Prop):=by
 obtain⟨p,hp⟩:=qE (pfxB n.s);obtain⟨q,a7⟩:∃q:Bool,Hid (∀W,(xf 171 #[n.s] W (.agg #[p,q]):Prop)):=⟨(pfxR n.s hs).2,λW=>by
  have h9:=yJb n.s W hs (pfxR n.s hs) (yYj n.s hs)
  rw[show(⟨(pfxR n.s hs).1.toArray⟩:ByteArray)=p from by rw[hp];unfold pfxB;rw[dif_pos hs]]at h9
  exact h9⟩
 rw[<-hp];have ab:∀W:World,(Instr.field 268 (.agg #[p,q]) 0).run prog W=.ok p W:=λW=>qk
 clear hp;obtain⟨W0,a6⟩:∃V:World,V=(xw ((w.alloc (Obj.cells #[xi n.kind,n.s,n.hi,n.t,xu n.lo,xu n.up,xi n.n] 83)).alloc (Obj.cells #[c.row,c.fam,c.qual,xu c.ts,c.val] 70)) #[xi 0,xe] 113):=⟨_,rfl⟩;have H0:Hid (yA W0 w 83 7 w n.seven/\yA W0 w 70 5 (w+1) c.five/\yA W0 w 113 2 (w+2) [xi 0,xe]/\Below w.heap.size w W0):=box3 a6
 have HB:Hid (∀x W,Calls prog 172 #[.string x,.string p] W λe w'=>e=.returned (.bool (yCm x p))/\w'=W):=λx W=>yT4 x p W;go_enter func122,ntmps122;go_upto_region 1 with fail;rw[<-a6];clear a6;have a1:=H0.1.cell (j:=1) rfl;go_wp2_with fail;refine(a7.out W0).mono ?_;clear a7;rintro e v ⟨rfl,a3⟩;have HV:=qH4 (H0.1.below a3) (H0.2.1.below a3) (H0.2.2.1.below a3) (H0.2.2.2.trans (a3.mono H0.2.2.2.size));clear a3 a1 H0;obtain⟨a0,a1⟩:=HV.1.c2;have a4:=HV.1.cell (j:=4) rfl;have b0:=HV.2.1.cell (j:=0) rfl;have b2:=HV.2.1.cell (j:=2) rfl;have b3:=HV.2.1.cell (j:=3) rfl;obtain⟨r0,r1⟩:=HV.2.2.1.c2;obtain⟨f0,f1⟩:=HV.2.2.1.f2;obtain⟨kd,a5⟩:=qE n.kind;rw[<-a5]at a0;have HM:=qH1 a5;clear a5;by_cases k2:kd=2
 .subst k2;exact zHe
 by_cases k4:kd=4
 .subst k4;cases z:Op.bytesLess c.row.toList p.toList
  .go_wp2_with fail;refine(HB.out c.row v).mono ?_;rintro e wx ⟨rfl,a2⟩;rw[a2];clear a2;cases zb:yCm c.row p<;>exact zHe
  .exact zHe
 by_cases k5:kd=5
 .subst k5;exact zHe
 by_cases k6:kd=6
 .subst k6;cases z:Op.bytesLess c.qual.toList p.toList
  .go_wp2_with fail;refine(HB.out c.qual v).mono ?_;rintro e wx ⟨rfl,a2⟩;rw[a2];clear a2;cases zb:yCm c.qual p<;>exact zHe
  .exact zHe
 by_cases k8:kd=8
 .subst k8;cases z:Op.bytesLess c.row.toList n.s.toList<;>exact zHe
 by_cases k9:kd=9
 .subst k9;cases z:Op.bytesLess c.qual.toList n.s.toList<;>exact zHe
 by_cases k10:kd=10
 .subst k10;by_cases z:c.ts<n.lo<;>exact zHe
 by_cases k11:kd=11
 .subst k11;exact zHe
 by_cases k12:kd=12
 .subst k12;exact zHe
 have z2:=qn k2;have z4:=qn k4;have z5:=qn k5;have z6:=qn k6;have z8:=qn k8;have z9:=qn k9;have aa:=qn k10;have a9:=qn k11;have a8:=qn k12;exact zHe
variable {sz:Nat}
theorem yMl{α:Type}{f:α->List Value}(hf:∀x,(f x).length=sz):∀(es:List α)(i:Nat)(e e':α)(j:Nat)(u:Value),es[i]?=some e->j<sz->f e'=(f e).set j u->(es.flatMap f).set (i*sz+j) u=(es.set i e').flatMap f
 | [],i,e,e',j,u,h,_,_=>by simp at h
 |a::es,0,e,e',j,u,h,hj,he=>by
  simp at h;subst h
  rw[flatMap_cons,set_cons_zero,flatMap_cons,he,Nat.zero_mul,Nat.zero_add,set_append_left _ _ (by rw[hf];exact hj)]
 |a::es,i+1,e,e',j,u,h,hj,he=>by
  simp at h
  rw[flatMap_cons,set_cons_succ,flatMap_cons,<-yMl hf es i e e' j u h hj he,set_append_right _ _ (by rw[hf,Nat.add_mul];omega),hf,show(i+1)*sz+j-sz=i*sz+j by rw[Nat.add_mul];omega]
abbrev Ctr.kc(k:Ctr):List Value:= [.string k.row,.string k.fam,.string k.qual,.int .i64 k.count]
theorem yIf(k:Ctr):k.kc.length=4:=rfl
structure CkA(w:World)(base t g cap:Nat)(ks:List Ctr)(i:Nat)(k:Ctr)(most:Int):Prop where
 row:OwnG Ctr.kc 4 240 w base g cap ks
 at_:ks[i]?=some k
 p:(xk w t 0 (.pointer (some ⟨g,i*4,none⟩)):Prop)
 m:(xk w t 1 (xi most):Prop)
 tl:t<w.heap.size
 ne:¬t=g
variable {w:World} {base t cap i:Nat} {ks:List Ctr} {k:Ctr} {most:Int}
theorem CkA.cells{g:Nat}(h:CkA w base t g cap ks i k most):xk w g (i*4) k.row/\xk w g (i*4+1) k.fam/\xk w g (i*4+2) k.qual/\xk w g (i*4+3) (xi k.count):=
 ⟨h.row.cell yIf h.at_ 0 qj,h.row.cell yIf h.at_ 1 qj,h.row.cell yIf h.at_ 2 qj,h.row.cell yIf h.at_ 3 qj⟩
theorem CkA.frozen{g:Nat}(h:CkA w base t g cap ks i k most)(j:Nat):w.frozen? (xd g j)=false:=World.ownsRow.frozenAt h.row j
variable {W:World}
theorem CkA.on{g:Nat}(h:CkA w base t g cap ks i k most)(hb:Below w w W):CkA W base t g cap ks i k most:=
 ⟨h.row.below hb,h.at_,by rw[hb.cell (p:=(xd t 0)) h.tl];exact h.p,by rw[hb.cell (p:=(xd t 1)) h.tl];exact h.m,qv hb.size h.tl,h.ne⟩
theorem CkA.count{g:Nat}(h:CkA w base t g cap ks i k most)(v:Int):CkA (xt w g (i*4+3) (xi v)) base t g cap (ks.set i {k with count:=v}) i {k with count:=v} most:=by
 have hc:Chg (λq=>q=g) w (xt w g (i*4+3) (xi v)):=Chg.of_set _ _ _ _ rfl;have hi:i<ks.length:=qf h.at_;have h1:=(World.ownsRow.stored h.row (i*4+3) (xi v)).1;rw[yMl yIf ks i k {k with count:=v} 3 _ h.at_ (by decide) rfl]at h1;refine⟨by unfold OwnG;rw[length_set];exact h1,by rw[getElem?_set_self hi],?_,?_,qv hc.size h.tl,h.ne⟩
 .rw[hc.cell (p:=(xd t 0)) h.tl h.ne];exact h.p
 .rw[hc.cell (p:=(xd t 1)) h.tl h.ne];exact h.m
def TkP(base t g cap:Nat)(ks:List Ctr)(i:Nat)(k:Ctr)(most:Int)(w:World)(e:Ending)(w':World):Prop:=
 e=.returned (decide (k.count<most))/\CkA w' base t g cap (if k.count<most then ks.set i {k with count:=k.count+1}else ks) i (if k.count<most then {k with count:=k.count+1}else k) most/\Chg (λq=>q=g) w w'
theorem yL4{g:Nat}(h:CkA w base t g cap ks i k most)(hc:0<=k.count/\k.count<=1000000):
  Calls prog 217 #[xp t] w (TkP base t g cap ks i k most w):=by
 have HC:=qH1 h;have p0:=h.p;have p1:=h.m;obtain⟨_,_,_,c3⟩:=h.cells;have f3:=h.frozen (i*4+3);obtain⟨ct,a0⟩:∃ct,k.count=ct:=⟨_,rfl⟩;obtain⟨o,ho⟩:∃o,i*4=o:=⟨_,rfl⟩;have HO:=qH2 ho a0;rw[a0]at c3 hc;rw[ho]at p0 c3 f3;clear h ho a0;by_cases hl:ct<most
 .have z:¬most<=ct:=qo
  have HR:Hid (∀q,TkP base t g cap ks i k most w (.returned true) (xt (w.drewN q) g (o+3) (xi (ct+1)))):=λq=>by have h9:=(HC.on (below_drewN (Below.refl _ _) q)).count (ct+1);rw[HO.1]at h9;unfold TkP;rw[HO.2,if_pos hl,if_pos hl];exact⟨by simp[hl],h9,(Chg.of_below (below_drewN (Below.refl _ _) q)).trans (Chg.of_set (S:=λq=>q=g) _ _ _ _ rfl)⟩
  exact xCn
 .have z:most<=ct:=qo
  have HR:Hid (∀q,TkP base t g cap ks i k most w (.returned false) (w.drewN q)):=λq=>by unfold TkP;rw[HO.2,if_neg hl,if_neg hl];exact⟨by simp[hl],HC.on (below_drewN (Below.refl _ _) q),Chg.of_below (below_drewN (Below.refl _ _) q)⟩
  exact xCn
theorem zHp(h:p:=by go_enter func248,ntmps248;go_wp2;go_ret;exact⟨by simp[h,e1],rfl⟩):p:=h
theorem yP4(x p:ByteArray) w:Calls prog 248 #[x,p] w λe w'=>e=.returned (yCm x p)/\w'=w:=by
 unfold yCm;by_cases h:p.size<=x.size
 .have z:(p.size:Int)<=(x.size:Int):=qo
  have z2:¬(x.size:Int)<(p.size:Int):=qo
  cases e1:((x.extract 0 p.size).toList==p.toList)<;>exact zHp
 .have z:¬(p.size:Int)<=(x.size:Int):=qo
  have z2:(x.size:Int)<(p.size:Int):=qo
  have e1:=h;exact zHp
theorem yTm(x p:ByteArray) w:Calls prog 236 #[x,p] w λe w'=>e=.returned (yCm x p)/\w'=w:=by
 obtain⟨b,hb⟩:=qE (yCm x p);have HL:Hid (Calls prog 248 #[x,p] w λe w'=>e=.returned b/\w'=w):=by rw[hb];exact yP4 x p w
 rw[<-hb];clear hb;go_enter func236,ntmps236;go_wp2_with fail;refine HL.mono ?_;rintro e w1 ⟨rfl,rfl⟩;go_wp2_with fail;go_ret;exact⟨rfl,rfl⟩
structure LfA(w:World)(t:Nat)(n:Nd)(mv:Value)(low:ByteArray):Prop where
 lo:(xk w t 4 (xu n.lo):Prop)
 mt:(xk w t 7 mv:Prop)
 low:(xk w t 8 low:Prop)
 lt:t<w.heap.size
variable {n:Nd}
theorem LfA.on{mv:Value}{low:ByteArray}(h:LfA w t n mv low)(hb:Below w w W):LfA W t n mv low:=
 ⟨by rw[hb.cell (p:=(xd t 4)) h.lt];exact h.lo,by rw[hb.cell (p:=(xd t 7)) h.lt];exact h.mt,by rw[hb.cell (p:=(xd t 8)) h.lt];exact h.low,qv hb.size h.lt⟩
def txtH(low:ByteArray)(m:Bool)(s:ByteArray)(b a p:Int):Hn:=if lsB s low=true then⟨b,low⟩else if(m && yCm s low)=true then⟨a,⟨#[]⟩⟩else⟨p,⟨#[]⟩⟩
def mvB(mv:Value)(m:Bool):Prop:=(mv=.pointer none/\m=false)\/(∃M,mv=(xp M)/\m=true)
theorem zTh(h:p:=by exact bodyPost_ret (v:=H.v) (by simp[results,results220,go_sem,hH]) rfl ⟨rfl,zBl⟩):p:=h
variable {m:Bool}
theorem yGk{mv:Value}{low:ByteArray}(h:LfA w t n mv low)(hm:mvB mv m)(s:ByteArray)(b a p:Int):
  (xf 220 #[xp t,s,xi b,xi a,xi p] w (txtH low m s b a p).v:Prop):=by
 have a2:=h.lt;have c7:=h.mt;have c8:=h.low;have a1:¬t=w.heap.size:=qo
 have HP:Hid (∀wz,Calls prog 236 #[s,low] wz λe w'=>e=.returned (yCm s low)/\w'=wz):=λwz=>yTm s low wz;obtain⟨H,hHd⟩:=qE (txtH low m s b a p);rw[<-hHd];unfold txtH lsB at hHd;clear h;cases e1:Op.bytesLess s.toList low.toList
 .rw[e1]at hHd;simp only[Bool.false_eq_true,if_false]at hHd;obtain⟨bg,a0⟩:∃bg,yCm s low=bg:=⟨_,rfl⟩;rw[a0]at HP hHd;rcases hm with⟨rfl,rfl⟩|⟨M,rfl,rfl⟩
  .simp only[Bool.false_and,Bool.false_eq_true,if_false]at hHd;have hH:=hHd;clear HP a0 hHd;go_enter func220,ntmps220;go_wp2_with fail;exact zTh
  .simp only[Bool.true_and]at hHd;clear a0;cases bg
   .simp only[Bool.false_eq_true,if_false]at hHd;exact xF1
   .simp only[if_true]at hHd;exact xF1
 .rw[e1]at hHd;simp only[if_true]at hHd;have hH:=hHd;clear hHd HP;go_enter func220,ntmps220;go_wp2_with fail;exact zTh
theorem yA.setCs{g:Nat}{L:List Value}(h:yA w base t sz g L)(vs:List Value):yA (Go.Proofs.YtnnagkfoiganfaaGreatDoor.setCs w g 0 vs) base t sz g (setL L 0 vs):=yBu (v:=(xg g 1 1)) rfl ⟨1,rfl⟩ vs 0 w L h
structure MeI(n:Nd)(k:Ctr)(c:Ent)(w wr:World):Prop where
 n:yA wr w 83 7 w n.seven
 k:yA wr w 198 5 (w+1) k.five
 c:yA wr w 70 5 (w+2) c.five
 r:yA wr w 198 5 (w+3) newC.five
 below:Below w w wr
variable {wr:World}
theorem MeI.setK{k':Ctr}{c:Ent}(h:MeI n k c w wr)(hW:W=setCs wr (w+1) 0 k'.five):MeI n k' c w W:=by
 have hc:Chg (λq=>q=w.heap.size+1) wr W:=by rw[hW];exact yAl (S:=λq=>q=w.heap.size+1) _ rfl _ _ _
 refine⟨h.n.chg hc qo,by rw[hW];exact h.k.setCs k'.five,h.c.chg hc qo,h.r.chg hc qo,Chg.below h.below hc h.below.size (λq e=>qo)⟩
theorem MeI.setR{c:Ent}(h:MeI n k c w wr)(hW:W=setCs wr (w+3) 0 k.five):yA W w 198 5 (w+3) k.five/\Below w w W:=by
 have hc:Chg (λq=>q=w.heap.size+3) wr W:=by rw[hW];exact yAl (S:=λq=>q=w.heap.size+3) _ rfl _ _ _
 exact⟨by rw[hW];exact h.r.setCs k.five,Chg.below h.below hc h.below.size (λq e=>qo)⟩
theorem MeI.up{c:Ent}(h:MeI n k c w wr)(v:Int):MeI n {k with count:=v} c w (xt wr (w+1) 4 (xi v)):=by have hc:Chg (λq=>q=w.heap.size+1) wr (xt wr (w+1) 4 (xi v)):=Chg.of_set _ _ _ _ rfl;exact⟨h.n.chg hc qo,h.k.set 4 _,h.c.chg hc (by omega),h.r.chg hc (by omega),Chg.below h.below hc h.below.size (λq e=>by omega)⟩
theorem MeI.on{c:Ent}(h:MeI n k c w wr)(hb:Below wr wr W):MeI n k c w W:=⟨h.n.below hb,h.k.below hb,h.c.below hb,h.r.below hb,h.below.trans (hb.mono h.below.size)⟩
theorem MeI.new(n:Nd)(k:Ctr)(c:Ent)(w W0:World)(hW0:W0=(xw (((w.alloc (Obj.cells #[xi n.kind,n.s,n.hi,n.t,xu n.lo,xu n.up,xi n.n] 83)).alloc (Obj.cells #[k.used,k.row,k.fam,k.qual,xi k.count] 198)).alloc (Obj.cells #[c.row,c.fam,c.qual,xu c.ts,c.val] 70)) #[false,xe,xe,xe,xi 0] 198)):MeI n k c w W0:=by obtain⟨a,b,d,e,f⟩:=box4 hW0;exact⟨a,b,d,e,f⟩
theorem yY6(n:Nd)(k:Ctr)(c:Ent)(w:World)(hk:n.kind=11\/n.kind=12\/n.kind=13)(hc:0<=k.count/\k.count<=1000000):
  (xf 121 #[n.v,k.v,c.c] w (.tuple #[(yCh n k c).1,(yCh n k c).2.v]):Prop):=by
 obtain⟨W0,aa⟩:=qW (xw (((w.alloc (Obj.cells #[xi n.kind,n.s,n.hi,n.t,xu n.lo,xu n.up,xi n.n] 83)).alloc (Obj.cells #[k.used,k.row,k.fam,k.qual,xi k.count] 198)).alloc (Obj.cells #[c.row,c.fam,c.qual,xu c.ts,c.val] 70)) #[false,xe,xe,xe,xi 0] 198);have H0:=qH1 (MeI.new n k c w W0 aa);obtain⟨sm,ab⟩:=qE (yPj n k c);have a4:=qH1 ab;obtain⟨k1,a3⟩:=qE (yC4 n k c);have a1:=qH2 a3 (by rw[a3];rfl:yCh n k c=if k1.count<n.n then(decide (¬n.kind=13),{k1 with count:=k1.count+1})else(decide (n.kind=13),k1));have af:0<=k1.count/\k1.count<=1000000:=by rw[a3];unfold yC4;split<;>simp_all
 obtain⟨M,hM⟩:=qE (yCh n k c);have HM:=qH1 hM;rw[<-hM];clear ab a3 hM;obtain⟨e1,h1⟩:∃b,(k.row.toList==c.row.toList)=b:=⟨_,rfl⟩;obtain⟨e2,h2⟩:∃b,(k.fam.toList==c.fam.toList)=b:=⟨_,rfl⟩;obtain⟨e3,h3⟩:∃b,(k.qual.toList==c.qual.toList)=b:=⟨_,rfl⟩;obtain⟨us,a6⟩:∃us,k.used=us:=⟨_,rfl⟩;obtain⟨kd,a7⟩:∃kd,n.kind=kd:=⟨_,rfl⟩;have a5:Hid (sm=(us && e1 && (!decide (kd=11) || (e2 && e3)))):=by show _=_;rw[a4.out];unfold yPj eqB;rw[h1,h2,h3,a6,a7]
 have HU:=qH2 a6 a7;clear a6 a7;go_enter func121,ntmps121;go_upto_region 1 with fail;rw[<-aa];clear aa;have n0:=H0.n.cell (j:=0) rfl;obtain⟨x0,x1,x2,x3⟩:=H0.k.c4;obtain⟨y0,y1,y2⟩:=H0.c.c3;rw[HU.1]at x0;rw[HU.2]at n0 hk;go_cut[8] (λv wx=>v=(us && e1)/\wx=W0);case first=>
  cases us<;>cases e1
  all_goals
   go_wp2_with fail
   go_meet
   exact⟨rfl,rfl⟩
 case rest=>
  obtain⟨rfl,rfl⟩:=hcut;go_upto_if 21 with fail;go_cut[8] (λv wx=>v=sm/\wx=wc);case first=>
   obtain⟨s1,ac⟩:∃s1,(us && e1)=s1:=⟨_,rfl⟩;rw[ac]at a5|-;by_cases k11:kd=11
   .subst k11;cases s1<;>cases e2<;>cases e3
    all_goals
     go_wp2_with fail
     go_meet
     exact⟨by rw[a5.out];rfl,rfl⟩
   .have kb:=qn k11
    have ag:Hid (sm=s1):=by show _=_;rw[a5.out];simp[k11]
    go_wp2_with fail;go_meet;exact⟨by rw[ag.out],rfl⟩
  case rest=>
   obtain⟨rfl,rfl⟩:=hcut;go_upto_if 38 with fail;go_cut[] (λwx=>Hid (MeI n k1 c w wx));case first=>
    rcases(show sm=true\/sm=false by cases sm<;>simp)with rfl|rfl
    .have a2:k1=k:=by rw[a1.1];unfold yC4;rw[<-a4.out];rfl
     go_wp2_with fail;go_meet;rw[a2];exact H0.out
    .have a2:k1=⟨true,c.row,c.fam,c.qual,0⟩:=by rw[a1.1];unfold yC4;rw[<-a4.out];rfl
     have x4:=H0.k.cell (j:=4) rfl;have f:=H0.k.frozen;obtain⟨W1,a9⟩:=qW (setCs wc (w+1) 0 (⟨true,c.row,c.fam,c.qual,0⟩:Ctr).five);have HR:Hid (MeI n k1 c w W1):=by rw[a2];exact H0.setK a9
     simp only[setCs,Nat.reduceAdd]at a9;clear a2;go_wp2_with fail;rw[<-a9];go_meet;exact HR.out
   case rest=>
    have H1:=qH1 hcut;clear hcut H0 a4 a5 n0 x0 x1 x2 x3 y0 y1 y2;have m0:=H1.n.cell (j:=0) rfl;have m6:=H1.n.cell (j:=6) rfl;have x4:=H1.k.cell (j:=4) rfl;have f4:=H1.k.frozen 4;rw[HU.2]at m0;obtain⟨ct,ae⟩:∃ct,k1.count=ct:=⟨_,rfl⟩;obtain⟨nn,ad⟩:∃nn,n.n=nn:=⟨_,rfl⟩;rw[ae]at x4 af a1;rw[ad]at m6 a1;have fin:∀(k2:Ctr)(b:Bool)(W:World),MeI n k2 c w W->M=(b,k2)->Hid (∀V,V=setCs W (w+3) 0 k2.five->xk V (w+3) 0 k2.used/\xk V (w+3) 1 k2.row/\xk V (w+3) 2 k2.fam/\xk V (w+3) 3 k2.qual/\xk V (w+3) 4 (xi k2.count)/\Below w w V):=λk2 b W h9 hM9 V hV=>by obtain⟨q1,q2⟩:=h9.setR hV;exact⟨q1.cell (j:=0) rfl,q1.cell (j:=1) rfl,q1.cell (j:=2) rfl,q1.cell (j:=3) rfl,q1.cell (j:=4) rfl,q2⟩
    have HF:=qH1 fin;clear fin;by_cases hl:ct<nn
    .obtain⟨k2,a0⟩:=qE ({k1 with count:=ct+1}:Ctr);have HMe:Hid (M=(decide (¬kd=13),k2)):=by show _=_;rw[HM.out,a1.2,if_pos hl,a0,HU.2]
     obtain⟨W2,a8⟩:=qW (xt wc (w+1) 4 (xi (ct+1)));have H2:Hid (MeI n k2 c w W2):=by rw[a0,a8];exact H1.up _
     clear a0;go_upto_region 9 with fail;rw[<-a8];clear a8 m0 m6 x4 f4 H1;have m0:=H2.n.cell (j:=0) rfl;rw[HU.2]at m0;obtain⟨q0,q1,q2,q3,q4⟩:=H2.k.c5;obtain⟨r0,r1,r2,r3,r4⟩:=H2.r.c5;have rf:=H2.r.frozen;obtain⟨V,hV⟩:=qW (setCs W2 (w+1+1+1) 0 k2.five);obtain⟨v0,v1,v2,v3,v4,hbV⟩:=(HF.out k2 _ W2 H2.out HMe.out).out V hV;exact xGk
    .obtain⟨k2,a0⟩:=qE (k1:Ctr);have HMe:Hid (M=(decide (kd=13),k2)):=by show _=_;rw[HM.out,a1.2,if_neg hl,a0,HU.2]
     have H2:Hid (MeI n k2 c w wc):=by rw[a0];exact H1.out
     clear a0;go_upto_region 9 with fail;clear m0 m6 x4 f4 H1;have m0:=H2.n.cell (j:=0) rfl;rw[HU.2]at m0;obtain⟨q0,q1,q2,q3,q4⟩:=H2.k.c5;obtain⟨r0,r1,r2,r3,r4⟩:=H2.r.c5;have rf:=H2.r.frozen;obtain⟨V,hV⟩:=qW (setCs wc (w+1+1+1) 0 k2.five);obtain⟨v0,v1,v2,v3,v4,hbV⟩:=(HF.out k2 _ wc H2.out HMe.out).out V hV;exact xGk
def entC(c:Ent):Ctr:=⟨true,c.row,c.fam,c.qual,0⟩
theorem CkA.put{g:Nat}(h:CkA w base t g cap ks i k most)(k':Ctr)(hW:W=setCs w g (i*4) k'.kc):CkA W base t g cap (ks.set i k') i k' most/\Chg (λq=>q=g) w W:=by
 have hc:Chg (λq=>q=g) w W:=by rw[hW];exact yAl (S:=λq=>q=g) _ rfl _ _ _
 have hi:=qf h.at_;refine⟨⟨by rw[hW];exact h.row.setAll yIf hi,by rw[getElem?_set_self hi],?_,?_,by have:=hc.size;have:=h.tl;omega,h.ne⟩,hc⟩
 .rw[hc.cell (p:=(xd t 0)) h.tl h.ne];exact h.p
 .rw[hc.cell (p:=(xd t 1)) h.tl h.ne];exact h.m
def EnP(base t g cap:Nat)(ks:List Ctr)(i:Nat)(k:Ctr)(most:Int)(c:Ent)(same:Bool)(w:World)(e:Ending)(w':World):Prop:=
 e=.returned (.tuple #[])/\CkA w' base t g cap (if same=true then ks else ks.set i (entC c)) i (if same=true then k else entC c) most/\Chg (λq=>q=g) w w'
structure EnI(base t g cap:Nat)(ks:List Ctr)(i:Nat)(k:Ctr)(most:Int)(c:Ent)(b:Nat)(w wx:World):Prop where
 ck:CkA wx base t g cap ks i k most
 box:yA wx b 70 5 b c.five
 below:Below w w wx
variable {b:Nat} {wx:World}
theorem EnI.on{g:Nat}{c:Ent}{wy:World}(h:EnI base t g cap ks i k most c b w wx)(hb:Below wx wx wy):EnI base t g cap ks i k most c b w wy:=⟨h.ck.on hb,h.box.below hb,h.below.trans (hb.mono h.below.size)⟩
variable {o:Nat}
theorem EnI.S{g:Nat}{c:Ent}(h:EnI base t g cap ks i k most c b w wx)(ho:i*4=o):xk wx t 0 (.pointer (some ⟨g,o,none⟩))/\xk wx b 0 c.row/\xk wx b 1 c.fam/\xk wx b 2 c.qual/\xk wx b 3 (xu c.ts)/\xk wx b 4 c.val:=
 ⟨by rw[<-ho];exact h.ck.p,h.box.cell (j:=0) rfl,h.box.cell (j:=1) rfl,h.box.cell (j:=2) rfl,h.box.cell (j:=3) rfl,h.box.cell (j:=4) rfl⟩
theorem EnI.fin{g:Nat}{c:Ent}{V:World}(h:EnI base t g cap ks i k most c b w wx)(hV:V=setCs wx g (i*4) (entC c).kc):EnP base t g cap ks i k most c false w (.returned (.tuple #[])) V:=by obtain⟨h1,h2⟩:=h.ck.put (entC c) hV;exact⟨rfl,h1,(Chg.of_below h.below).trans h2⟩
theorem enter_core'{g:Nat}(h:CkA w base t g cap ks i k most)(c:Ent)(same:Bool):
  Calls prog 215 #[xp t,c.c,same] w (EnP base t g cap ks i k most c same w):=by
 obtain⟨W1,a1⟩:=qE (xw w #[c.row,c.fam,c.qual,xu c.ts,c.val] 70:World);have a4:=qN a1
 have H1:Hid (CkA W1 base t g cap ks i k most/\Below w w W1/\∀q,yA (W1.drewN q) w 70 5 w c.five):=⟨h.on a4,a4,λq=>by
  have h9:yA W1 w 70 5 w c.five:=by rw[a1];exact yAa w _ qr rfl
  exact h9.below (below_drewN (Below.refl _ _) q)⟩
 obtain⟨b,hb⟩:=qE w.heap.size;obtain⟨o,ho⟩:∃o,i*4=o:=⟨_,rfl⟩;have HO:Hid (i*4=o):=ho;have a5:Hid (EnI base t g cap ks i k most c b w W1.drew):=⟨H1.1.on ((Below.refl _ _).drew),by rw[hb];exact H1.2.2 1,H1.2.1.trans (((Below.refl _ _).drew).mono H1.2.1.size)⟩;have a7:Hid (∀wz,(xf 99 #[c.c] wz (putE c).v:Prop)):=λwz=>yBx c wz;have a6:Hid (∀wz,(xf 216 #[(putE c).v] wz (.agg #[c.row,c.fam,c.qual]):Prop)):=λwz=>yHr (putE c) wz;clear h a4 ho;cases same
 .go_enter func215,ntmps215;go_upto_region 1 with fail;rw[<-a1];clear a1;go_upto_region 2 with fail;rw[<-hb];clear hb;have hS0:SW (λwz:World=>xk wz t 0 (.pointer (some ⟨g,o,none⟩))/\xk wz b 0 c.row/\xk wz b 1 c.fam/\xk wz b 2 c.qual/\xk wz b 3 (xu c.ts)/\xk wz b 4 c.val) W1.drew:=a5.S HO.out;refine wpR 9 hS0 ?_;refine ja 0 hS0 ?_;refine ja 4 hS0 ?_;refine yB2 (i:=1) (j:=5) qk rfl rfl (λK hK=>?_) (λK hK=>?_)
  .skip;obtain⟨z0,z1,z2,z3,z4,z5⟩:=hS0;have hS0:=And.intro z0 (And.intro z1 (And.intro z2 (And.intro z3 (And.intro z4 z5))));go_simp;refine hK.out _ _ (.inr hS0) ?_;clear hK;refine jS ?_;refine ja 2 hS0 ?_;refine jb hS0 ?_;refine qO 5 rfl λK hK=>?_;go_simp;refine(a7.out _).mono ?_;rintro e wa ⟨rfl,a3⟩;have a2:=qH1 (a5.on a3);clear hS0 a3;have hS0:=a2.S HO.out;refine hK.out _ _ (.inr hS0) ?_;clear hK;refine jS ?_;refine qO 6 rfl λK hK=>?_;go_simp;refine(a6.out _).mono ?_;rintro e wb ⟨rfl,a0⟩;have HKwb:=qH1 (a2.on a0);clear hS0 a0;have hS0:=HKwb.S HO.out;refine hK.out _ _ (.inr hS0) ?_;clear hK;refine jS ?_;refine ja 7 hS0 ?_;exact xD7
  .skip;go_simp;refine(a7.out _).mono ?_;rintro e wa ⟨rfl,a3⟩;have a2:=qH1 (a5.on a3);clear hS0 a3;have hS0:=a2.S HO.out;refine hK.out _ _ (.inr hS0) ?_;clear hK;refine jS ?_;refine yB2 (i:=1) (j:=6) qk rfl rfl (λK hK=>?_) (λK hK=>?_)
   .skip;obtain⟨z0,z1,z2,z3,z4,z5⟩:=hS0;have hS0:=And.intro z0 (And.intro z1 (And.intro z2 (And.intro z3 (And.intro z4 z5))));go_simp;refine hK.out _ _ (.inr hS0) ?_;clear hK;refine jS ?_;refine ja 2 hS0 ?_;refine jb hS0 ?_;refine qO 6 rfl λK hK=>?_;go_simp;refine(a6.out _).mono ?_;rintro e wb ⟨rfl,a0⟩;have HKwb:=qH1 (a2.on a0);clear hS0 a0;have hS0:=HKwb.S HO.out;refine hK.out _ _ (.inr hS0) ?_;clear hK;refine jS ?_;refine ja 7 hS0 ?_;exact xD7
   .skip;go_simp;refine(a6.out _).mono ?_;rintro e wb ⟨rfl,a0⟩;have HKwb:=qH1 (a2.on a0);clear hS0 a0;have hS0:=HKwb.S HO.out;refine hK.out _ _ (.inr hS0) ?_;clear hK;refine jS ?_;refine ja 7 hS0 ?_;refine qO 1 rfl λK hK=>?_;obtain⟨z0,z1,z2,z3,z4,z5⟩:=hS0;have hS0:=And.intro z0 (And.intro z1 (And.intro z2 (And.intro z3 (And.intro z4 z5))));go_simp;refine hK.out _ _ (.inr hS0) ?_;clear hK;refine jS ?_;refine ja 2 hS0 ?_;refine jb hS0 ?_;exact xD7
 .have HR:Hid (EnP base t g cap ks i k most c true w (.returned (.tuple #[])) W1):=⟨rfl,H1.1,Chg.of_below H1.2.1⟩;go_enter func215,ntmps215;go_upto_region 1 with fail;rw[<-a1];clear a1;go_wp2_with fail;exact bodyPost_end (results_none rfl _ _ _) rfl HR.out
abbrev Hn.two(h:Hn):List Value:= [.int .i64 h.rank,.string h.txt]
theorem zRq (h:p:=by
 refine(HT.out _ zBl).mono ?_;rintro e w1 ⟨rfl,hb1⟩;rw[<-hW0]at hb1;obtain⟨V,hV⟩:=qW (setCs w1 (w+1) 0 H.two);have hbx:=H0.1.below hb1;obtain⟨x0,x1⟩:=hbx.c2;have fz:=hbx.frozen;have hc:Chg (λq=>q=w.heap.size+1) w1 V:=by rw[hV];exact yAl (S:=λq=>q=w.heap.size+1) _ rfl _ _ _
 have hbV:yA V w 179 2 (w+1) H.two:=by rw[hV];exact yBu (v:=(xg (w+1) 1 1)) rfl ⟨1,rfl⟩ _ 0 w1 _ hbx
 obtain⟨v0,v1⟩:=hbV.c2;have HB:Hid (Below w w V):=by have h1:=H0.2.trans (hb1.mono H0.2.size);exact Chg.below h1 hc h1.size (λq e=>qo)
 simp only[setCs,Nat.reduceAdd]at hV;clear hb1 hbx hbV hc hW0;go_wp2_with fail;rw[<-hV];clear hV;exact bodyPost_ret (v:=H.v) (by simp[results,hr,go_sem,v0,v1]) rfl ⟨rfl,HB.out⟩):p:=h
theorem zRw (h:p:=by
 have z:(w.alloc (Obj.cells #[c.row,c.fam,c.qual,xu c.ts,c.val] 70)).heap.size=w.heap.size+1:=by simp
 refine⟨?_,by rw[hW0];exact(qB).alloc (by simp) _⟩;rw[hW0,<-z];exact yAa _ _ qo rfl):p:=h
theorem yPn{mv:Value}{low:ByteArray}(h:LfA w t n mv low)(hm:mvB mv m)(c:Ent):
  (xf 194 #[xp t,c.c] w (txtH low m c.row 5 4 6).v:Prop):=by
 obtain⟨H,hH⟩:=qE (txtH low m c.row 5 4 6);have HT:Hid (∀W,Below w w W->(xf 220 #[xp t,c.row,xi 5,xi 4,xi 6] W H.v:Prop)):=λW hb=>by rw[hH];exact yGk (h.on hb) hm c.row 5 4 6
 have hr:=results194;obtain⟨W0,hW0⟩:=qW (xw (w.alloc (Obj.cells #[c.row,c.fam,c.qual,xu c.ts,c.val] 70)) #[xi 0,xe] 179);have H0:Hid (yA W0 w 179 2 (w+1) [xi 0,xe]/\Below w w W0):=by exact zRw
 rw[<-hH];clear hH;go_enter func194,ntmps194;go_wp2_with fail;exact zRq
theorem yNq{mv:Value}{low:ByteArray}(h:LfA w t n mv low)(hm:mvB mv m)(c:Ent):
  (xf 195 #[xp t,c.c] w (txtH low m c.qual 2 1 3).v:Prop):=by
 obtain⟨H,hH⟩:=qE (txtH low m c.qual 2 1 3);have HT:Hid (∀W,Below w w W->(xf 220 #[xp t,c.qual,xi 2,xi 1,xi 3] W H.v:Prop)):=λW hb=>by rw[hH];exact yGk (h.on hb) hm c.qual 2 1 3
 have hr:=results195;obtain⟨W0,hW0⟩:=qW (xw (w.alloc (Obj.cells #[c.row,c.fam,c.qual,xu c.ts,c.val] 70)) #[xi 0,xe] 179);have H0:Hid (yA W0 w 179 2 (w+1) [xi 0,xe]/\Below w w W0):=by exact zRw
 rw[<-hH];clear hH;go_enter func195,ntmps195;go_wp2_with fail;exact zRq
theorem zYx(h:p:=by intro wz hSw;obtain⟨z0,z1⟩:=hSw;go_simp;(try with_reducible rfl)):p:=h
theorem zTs (h:p:=by
 go_enter func196,ntmps196;go_upto_region 1 with fail;rw[<-hW0];clear hW0;refine yAf 99 (λwz:World=>xk wz t 4 (xu n.lo)/\xk wz w 3 (xu c.ts)) qk ?_;refine qT 0 ?v0x rfl ?y0x hS0 ?_;case y0x=>exact zYx
 refine jS ?_;refine qT 1 ?v1x rfl ?y1x hS0 ?_;case y1x=>exact zYx
 refine jS ?_;refine qT 2 ?v2x rfl ?y2x hS0 ?_;case y2x=>exact zYx
 refine jS ?_;refine qT 3 ?v3x rfl ?y3x hS0 ?_;case y3x=>exact zYx
 refine jS ?_;refine qT 4 ?v4x rfl ?y4x hS0 ?_;case y4x=>exact zYx
 refine jS ?_;refine qT 5 ?v5x rfl ?y5x hS0 ?_;case y5x=>exact zYx
 refine jS ?_;refine qT 6 ?v6x rfl ?y6x hS0 ?_;case y6x=>exact zYx
 refine jS ?_;refine qT 7 ?v7x rfl ?y7x hS0 ?_;case y7x=>exact zYx
 refine jS ?_;refine qT 8 bv rfl ?y8x hS0 ?_;case y8x=>(intro wz hSw;obtain⟨z0,z1⟩:=hSw;rw[hb2];go_simp;(try simp[e1]))
 try simp only[qA,getElem_toArray,getElem_cons_zero,getElem_cons_succ]
 refine qD ?_;rw[hb2];obtain⟨Y,hY⟩:=qW W0.drew;have hbx:=H0.1.below ((Below.refl W0 W0).drew);have h1:=H0.2.drew;rw[<-hY]at hbx h1|-;clear hY hS0;obtain⟨V,hV⟩:=qW (setCs Y (w+1) 0 H.two);obtain⟨x0,x1⟩:=hbx.c2;have fz:=hbx.frozen;have hc:Chg (λq=>q=w.heap.size+1) Y V:=by rw[hV];exact yAl (S:=λq=>q=w.heap.size+1) _ rfl _ _ _
 have hbV:yA V w 179 2 (w+1) H.two:=by rw[hV];exact yBu (v:=(xg (w+1) 1 1)) rfl ⟨1,rfl⟩ _ 0 Y _ hbx
 obtain⟨v0,v1⟩:=hbV.c2;have HB:Hid (Below w w V):=by exact Chg.below h1 hc h1.size (λq e=>qo)
 rw[hH]at hV;simp only[setCs,Nat.reduceAdd,noH]at hV;clear hbx hbV hc h1;go_wp2_with fail;rw[<-hV];clear hV;exact bodyPost_ret (v:=H.v) (by simp[results,hr,go_sem,v0,v1]) rfl ⟨by first|rfl|rw[hH],HB.out⟩):p:=h
theorem yRu{mv:Value}{low:ByteArray}(h:LfA w t n mv low)(c:Ent):
  (xf 196 #[xp t,c.c] w (if c.ts<n.lo then(⟨1,⟨#[]⟩⟩:Hn)else noH).v:Prop):=by
 have a0:=h.lt;obtain⟨W0,hW0⟩:=qW (xw (w.alloc (Obj.cells #[c.row,c.fam,c.qual,xu c.ts,c.val] 70)) #[xi 0,xe] 179);have H0:Hid (yA W0 w 179 2 (w+1) [xi 0,xe]/\Below w w W0):=by exact zRw
 have hS0:xk W0.drew t 4 (xu n.lo)/\xk W0.drew w 3 (xu c.ts):=by refine⟨(h.on (H0.2.drew)).lo,?_⟩;rw[hW0];simp
 obtain⟨H,hH⟩:=qE (if c.ts<n.lo then(⟨1,⟨#[]⟩⟩:Hn)else noH);have hr:=results196;rw[<-hH];clear h;by_cases e1:c.ts<n.lo
 .rw[if_pos e1]at hH;obtain⟨bv,hb2⟩:=qE (true:Bool);exact zTs
 .rw[if_neg e1]at hH;obtain⟨bv,hb2⟩:=qE (false:Bool);exact zTs
structure StA(w:World)(p o:Nat)(x:Ix)(kf:Nat)(rv:Value)(kh:Nat)(hv:Value):Prop where
 fr:(xk w p (o+3) x.free:Prop)
 kd:(xk w p (o+4) (xi x.leaf.kind):Prop)
 lets:(xk w p (o+11) (.func (Fn.func kf) #[rv] #[]):Prop)
 hnt:(xk w p (o+12) (.func (Fn.func kh) #[hv] #[]):Prop)
 lt:p<w.heap.size
variable {p kf kh:Nat} {x:Ix} {rv hv:Value}
theorem StA.chg{S:Nat->Prop}(h:StA w p o x kf rv kh hv)(hc:Chg S w W)(hn:¬S p):StA W p o x kf rv kh hv:=
 ⟨by rw[hc.cell (p:=(xd p _)) h.lt hn];exact h.fr,by rw[hc.cell (p:=(xd p _)) h.lt hn];exact h.kd,by rw[hc.cell (p:=(xd p _)) h.lt hn];exact h.lets,by rw[hc.cell (p:=(xd p _)) h.lt hn];exact h.hnt,Nat.lt_of_lt_of_le h.lt hc.size⟩
structure LvB(w W:World)(p o:Nat)(x:Ix)(kf:Nat)(rv:Value)(kh:Nat)(hv:Value)(i:It)(c:Ent)(r:List Value):Prop where
 st:StA W p o x kf rv kh hv
 bi:yA W w 181 4 w i.four
 bc:yA W w 70 5 (w+1) c.five
 br:yA W w 181 4 (w+2) r
variable {i:It}
theorem LvB.chg{S:Nat->Prop}{W':World}{c:Ent}{r:List Value}(h:LvB w W p o x kf rv kh hv i c r)(hc:Chg S W W')(hS:∀q,S q->q<w.heap.size/\¬q=p):LvB w W' p o x kf rv kh hv i c r:=
 ⟨h.st.chg hc (λq=>(hS _ q).2 rfl),h.bi.chg hc (λq=>qw ((hS _ q).1)),h.bc.chg hc (λq=>qw ((hS _ q).1)),h.br.chg hc (λq=>qw ((hS _ q).1))⟩
theorem LvB.start(h:StA w p o x kf rv kh hv)(i:It)(c:Ent)(r:Array Value)(hr:r.size=4)
  (hW:W=(xw ((w.alloc (Obj.cells i.four.toArray 181)).alloc (Obj.cells c.five.toArray 70)) r 181)):LvB w W p o x kf rv kh hv i c r.toList/\Below w w W:=by
 obtain⟨b1,b2,b3,k⟩:=box3 hW;rw[hr]at b3;exact⟨⟨h.chg (S:=λ_=>False) (Chg.of_below k) id,b1,b2,b3⟩,k⟩
def EntF(k:Nat):Prop:=∀(a:Array Value)(w:World),(callFunc k a).run prog w=.ok (.enter k a) w
def LfP(w:World)(R:World->World->Prop)(W:World):Prop:=∃W1 W2,Below w w W1/\R W1 W2/\Chg (λq=>w.heap.size<=q) W2 W
theorem yZd{c:Ent}(ha:i.alive=false):
  (xf 156 #[.pointer (some ⟨p,o,none⟩),i.v,c.c] w i.v:Prop):=by
 obtain⟨al,sp,⟨rk,tx⟩⟩:=i;dsimp only at ha;subst ha;go_enter func156,ntmps156;go_wp2;exact bodyPost_ret (v:=.agg #[false,sp,xi rk,tx]) (by simp[results,results156,go_sem]) rfl ⟨rfl,zBl⟩
variable {p:Prop}
theorem zYs(h:p:=by intro wz hSw;obtain⟨z0,z1,z2,z3,z4,z5⟩:=hSw;go_simp;(try with_reducible rfl)):p:=h
theorem zLd (h:p:=by
 obtain⟨v0,v1,v2,v3⟩:=hbV.c4;have hP:LfP w R V:=by obtain⟨W1,W2,a,b,cc⟩:=HP9.out;refine⟨W1,W2,a,b,cc.trans ?_⟩;rw[hV];exact yAl (S:=λq=>w.heap.size<=q) _ (by show _<=_;omega) _ _ _
 simp only[setCs,yBl,Nat.reduceAdd]at hV;rw[<-hV];exact bodyPost_ret (v:=rs.v) (by rw[HSq.out];simp[results,results156,go_sem,v0,v1,v2,v3,yBl,noH]) rfl ⟨rfl,hP⟩):p:=h
theorem zLt (h:p:=by
 obtain⟨U,hU⟩:=qE (xt w2 w 1 true:World);obtain⟨V,hV⟩:=qW (setCs U (w+1+1) 0 [true,true,xi rk,tx]);have hbV:yA V w 181 4 (w+1+1) [true,true,xi rk,tx]:=by rw[hV,hU];exact(br.beside qo 1 _).setCs _
 exact xGs):p:=h
theorem zLu (h:p:=by
 obtain⟨U,hU⟩:=qE (xt w2 w 1 false:World);obtain⟨V,hV⟩:=qW (setCs U (w+1+1) 0 [true,false,xi rk,tx]);have hbV:yA V w 181 4 (w+1+1) [true,false,xi rk,tx]:=by rw[hV,hU];exact(br.beside qo 1 _).setCs _
 exact xGs):p:=h
theorem yP6{p:Nat}{c d:Ent}{b:Bool}{H:Hn}{S:Nat->Prop}{R:World->World->Prop}(ha:i.alive=true)(hkf:Hid (EntF kf))(hkh:Hid (EntF kh))
  (h:StA w p o x kf rv kh hv) (hd:d=yB i c) (hR:∀W W',R W W'->Chg S W W') (hS:∀q,S q->q<w.heap.size/\¬q=p)
  (hl:∀W,Below w w W->Calls prog kf #[rv,d.c] W λe w'=>e=.returned b/\R W w')
  (hh:∀W,LfP w R W->(xf kh #[hv,d.c] W H.v:Prop)):
  Calls prog 156 #[.pointer (some ⟨p,o,none⟩),i.v,c.c] w λe w'=>e=.returned (if b=true then(⟨true,i.strip || decide (x.leaf.kind=3),i.hint⟩:It)else yBl (if x.free=true then H else noH)).v/\LfP w R w':=by
 obtain⟨al,sp,⟨rk,tx⟩⟩:=i;dsimp only at ha;subst ha;obtain⟨i,hi⟩:=qE (⟨true,sp,⟨rk,tx⟩⟩:It);have av:Hid (∀W,(xf 106 #[.agg #[true,sp,xi rk,tx],c.c] W d.c:Prop)):=λW=>by rw[hd];exact yJf ⟨true,sp,⟨rk,tx⟩⟩ c W
 have HL:=qH1 hl;have HH:=qH1 hh;obtain⟨zr,ae⟩:∃zr:List Value,zr= [.bool false,.bool false,.int .i64 0,.string ⟨#[]⟩]:=⟨_,rfl⟩;obtain⟨W0,ai⟩:=qW (xw ((w.alloc (Obj.cells #[true,sp,xi rk,tx] 181)).alloc (Obj.cells #[c.row,c.fam,c.qual,xu c.ts,c.val] 70)) #[false,false,xi 0,xe] 181);have ak:Hid (LvB w W0 p o x kf rv kh hv i c zr/\Below w w W0):=by rw[ae,hi];exact LvB.start h ⟨true,sp,⟨rk,tx⟩⟩ c #[false,false,xi 0,xe] rfl ai
 obtain⟨rs,af⟩:=qE ((if b=true then(⟨true,sp || decide (x.leaf.kind=3),⟨rk,tx⟩⟩:It)else yBl (if x.free=true then H else noH)):It);have aw:=qH1 af;rw[<-af];clear hl hh hd af;go_enter func156,ntmps156;go_wp2_with fail;refine(av.out _).mono ?_;rintro e w1 ⟨rfl,ad⟩;rw[<-ai]at ad;clear ai;have a8:=ak.1.chg (S:=λ_=>False) (Chg.of_below ad) (λq k=>k.elim);obtain⟨V,hV⟩:=qW (setCs w1 (w+1) 0 d.five);have ab:Chg (λq=>q=w.heap.size+1) w1 V:=by rw[hV];exact yAl (S:=λq=>q=w.heap.size+1) _ rfl _ _ _
 have hbV:Below w w V:=by have h1:=ak.2.trans (ad.mono ak.2.size);exact Chg.below h1 ab h1.size (λq e=>qo)
 have hp:=h.lt;have a3:Hid (LvB w V.drew p o x kf rv kh hv i d zr/\Below w w V.drew):=by refine⟨LvB.chg (S:=λ_=>False) ⟨a8.st.chg ab (by show¬p=_;omega),a8.bi.chg ab (by show¬_=_;omega),?_,a8.br.chg ab (by show¬_=_;omega)⟩ (Chg.of_below ((Below.refl _ _).drew)) (λq k=>k.elim),hbV.drew⟩;rw[hV];exact a8.bc.setCs d.five
 obtain⟨x0,x1,x2,x3,x4⟩:=a8.bc.c5;have fz:=a8.bc.frozen;simp only[setCs,Nat.reduceAdd]at hV;clear a8 ab ad hbV;go_upto_region 4 with fail;rw[<-hV];clear hV x0 x1 x2 x3 x4 fz;have a0:SW (λwz:World=>xk wz p (o+11) (.func (Fn.func kf) #[rv] #[])/\xk wz (w+1) 0 d.row/\xk wz (w+1) 1 d.fam/\xk wz (w+1) 2 d.qual/\xk wz (w+1) 3 (xu d.ts)/\xk wz (w+1) 4 d.val) V.drew:=⟨a3.1.st.lets,a3.1.bc.cell (j:=0) rfl,a3.1.bc.cell (j:=1) rfl,a3.1.bc.cell (j:=2) rfl,a3.1.bc.cell (j:=3) rfl,a3.1.bc.cell (j:=4) rfl⟩;refine wpR 5 a0 ?_;refine yAi [1,2,3] 0 ?v0x rfl ?y0x a0 ?_;case y0x=>exact zYs
 refine jS ?_;refine yAi [2,3] 1 ?v1x rfl ?y1x a0 ?_;case y1x=>exact zYs
 refine jS ?_;refine yAi [3] 2 ?v2x rfl ?y2x a0 ?_;case y2x=>exact zYs
 refine jS ?_;refine yAi [] 3 ?v3x rfl ?y3x a0 ?_;case y3x=>exact zYs
 refine jS ?_;refine yAi [] 4 ?v4x rfl ?y4x a0 ?_;case y4x=>exact zYs
 refine jS ?_;refine qO 5 rfl λK hK=>?_;go_simp;rw[hkf.out];go_simp;refine(HL.out _ a3.2).mono ?_;rintro e w2 ⟨rfl,ag⟩;refine hK.out _ _ (.inl rfl) ?_;clear hK;refine jS ?_;refine qD ?_;have a1:=a3.1.chg (hR _ _ ag) hS;have HP2:Hid (LfP w R w2):=⟨_,_,a3.2,ag,Chg.refl _ _⟩;clear a0 ag a3;obtain⟨i0,i1,i2,i3⟩:=a1.bi.c4;have fi:=a1.bi.frozen;have br:=a1.br;rw[ae]at br;obtain⟨r0,r1,r2,r3⟩:=br.c4;have fr:=br.frozen;rw[hi]at i0 i1 i2 i3;dsimp only at i0 i1 i2 i3;have ck:=a1.st.kd;have cf:=a1.st.fr;have ax:=a1.st.lt;have ay:=h.lt;have n0:¬p=w.heap.size:=qo
 have n2:¬p=w.heap.size+1+1:=qo
 have a6:=aw.out;cases b
 .rw[if_neg (by simp)]at a6;have HSt:=qH1 a6;have n3:¬w.heap.size+1+1=w2.heap.size:=qw br.lt.2
  have n4:¬p=w2.heap.size:=qo
  clear a6;obtain⟨W9,a7⟩:=qW (xw w2 #[false,false,xi 0,xe] 181);have a9:=qN a7
  have HP9:Hid (LfP w R W9):=by obtain⟨W1,W2,a,b,cc⟩:=HP2.out;exact⟨W1,W2,a,b,cc.trans (Chg.of_below a9)⟩
  cases hxf:x.free
  .rw[hxf]at cf;have HSq:Hid (rs=yBl noH):=by show _=_;rw[HSt.out,hxf];rfl
   have a2:=br.below a9;have au:=(a1.st.chg (S:=λ_=>False) (Chg.of_below a9) id).fr;rw[hxf]at au;have bm:yA W9 w 181 4 w2 [false,false,xi 0,xe]:=by rw[a7];exact yAa w2 _ (qw br.lt) rfl
   obtain⟨m0,m1,m2,m3⟩:=bm.c4;obtain⟨s0,s1,s2,s3⟩:=a2.c4;have fs:=a2.frozen;obtain⟨V,hV⟩:=qW (setCs W9 (w+1+1) 0 [false,false,xi 0,xe]);have aj:Hid (yA V w 181 4 (w+1+1) [false,false,xi 0,xe]):=by show yA V _ _ _ _ _;rw[hV];exact a2.setCs _
   have HV:=qH1 hV;clear a1 a9 a2 hV bm;go_upto_region 8 with fail;rw[<-a7];clear a7 i0 i1 i2 i3 fi r0 r1 r2 r3 fr br ck cf;go_wp2_with fail;have hbV:=aj.out;have hV:=HV.out;exact zLd
  .rw[hxf]at cf;have HSq:Hid (rs=yBl H):=by show _=_;rw[HSt.out,hxf];rfl
   have am:LfP w R W9.drew:=by obtain⟨W1,W2,a,b,cc⟩:=HP9.out;exact⟨W1,W2,a,b,cc.trans (Chg.of_below ((Below.refl _ _).drew))⟩
   have aq:=(a1.chg (S:=λ_=>False) (Chg.of_below a9) (λq k=>k.elim)).chg (S:=λ_=>False) (Chg.of_below ((Below.refl _ _).drew)) (λq k=>k.elim);have bm:yA W9.drew w 181 4 w2 [false,false,xi 0,xe]:=by refine yA.below (w:=W9) ?_ ((Below.refl _ _).drew);rw[a7];exact yAa w2 _ (qw br.lt) rfl
   have a4:=qH3 aq bm am;clear a1 a9 aq bm am;go_upto_region 9 with fail;rw[<-a7];clear a7 i0 i1 i2 i3 fi r0 r1 r2 r3 fr br ck cf;have a0:SW (λwz:World=>xk wz p (o+12) (.func (Fn.func kh) #[hv] #[])/\xk wz (w+1) 0 d.row/\xk wz (w+1) 1 d.fam/\xk wz (w+1) 2 d.qual/\xk wz (w+1) 3 (xu d.ts)/\xk wz (w+1) 4 d.val) W9.drew:=⟨a4.1.st.hnt,a4.1.bc.cell (j:=0) rfl,a4.1.bc.cell (j:=1) rfl,a4.1.bc.cell (j:=2) rfl,a4.1.bc.cell (j:=3) rfl,a4.1.bc.cell (j:=4) rfl⟩;refine wpR 7 a0 ?_;refine yAi [1,2,3,5] 0 ?vv0d rfl ?yy0d a0 ?_;case yy0d=>exact zYs
   refine jS ?_;refine yAi [2,3,5] 1 ?vv1d rfl ?yy1d a0 ?_;case yy1d=>exact zYs
   refine jS ?_;refine yAi [3,5] 2 ?vv2d rfl ?yy2d a0 ?_;case yy2d=>exact zYs
   refine jS ?_;refine yAi [5] 3 ?vv3d rfl ?yy3d a0 ?_;case yy3d=>exact zYs
   refine jS ?_;refine yAi [5] 4 ?vv4d rfl ?yy4d a0 ?_;case yy4d=>exact zYs
   refine jS ?_;refine qO 5 rfl λK hK=>?_;go_simp;rw[hkh.out];go_simp;refine(HH.out _ a4.2.2).mono ?_;rintro e w3 ⟨rfl,ac⟩;have a5:=a4.1.chg (S:=λ_=>False) (Chg.of_below ac) (λq k=>k.elim);have aa:=a4.2.1.below ac;have ao:LfP w R w3:=by obtain⟨W1,W2,a,b,cc⟩:=a4.2.2;exact⟨W1,W2,a,b,cc.trans (Chg.of_below ac)⟩
   have a0:=SWm a0 w3 <|⟨a5.st.hnt,a5.bc.cell (j:=0) rfl,a5.bc.cell (j:=1) rfl,a5.bc.cell (j:=2) rfl,a5.bc.cell (j:=3) rfl,a5.bc.cell (j:=4) rfl⟩;refine hK.out _ _ (.inr a0) ?_;clear hK;refine jS ?_;refine yAi [] 6 ?vv6d rfl ?yy6d a0 ?_;case yy6d=>exact zYs
   refine jS ?_;obtain⟨c2,c3⟩:=And.intro (aa.cell (j:=2) rfl) (aa.cell (j:=3) rfl);have fm:=aa.frozen;obtain⟨X,hX⟩:=qW (setCs w3 w2 2 H.two);have ah:Chg (λq=>q=w2.heap.size) w3 X:=by rw[hX];exact yAl (S:=λq=>q=w2.heap.size) _ rfl _ _ _
   have ar:yA X w 181 4 w2 (It.four (yBl H)):=by rw[hX];exact yBu (v:=(xg w2 1 1)) rfl ⟨1,rfl⟩ _ 2 w3 _ aa
   have a2:=a5.br.chg ah (by show¬_=_;omega);have HP9:Hid (LfP w R X):=by obtain⟨W1,W2,a,b,cc⟩:=ao;exact⟨W1,W2,a,b,cc.trans (ah.mono (λq e=>by show _<=_;have:=aa.lt;omega))⟩
   simp only[setCs,Nat.reduceAdd]at hX;clear a5 ao ah aa ac;refine qO 7 rfl λK hK=>?_;go_simp;rw[<-hX];clear hX c2 c3 fm a0;refine hK.out _ _ (.inl rfl) ?_;clear hK;refine jS ?_;refine qD ?_;rw[ae]at a2;obtain⟨m0,m1,m2,m3⟩:=ar.c4;obtain⟨r0,r1,r2,r3⟩:=a2.c4;have fr:=a2.frozen;obtain⟨V,hV⟩:=qW (setCs X (w+1+1) 0 (It.four (yBl H)));have hbV:yA V w 181 4 (w+1+1) (It.four (yBl H)):=by rw[hV];exact a2.setCs _
   have aj:=qH1 hbV;have HV:=qH1 hV;clear hV hbV ar a2;dsimp only[yBl]at m0 m1 m2 m3;go_wp2_with fail;have hbV:=aj.out;have hV:=HV.out;exact zLd
 .rw[if_pos rfl]at a6;obtain⟨kd,an⟩:∃kd,x.leaf.kind=kd:=⟨_,rfl⟩;rw[an]at ck a6;have HSt:=qH1 a6;clear an a1 a6;cases sp
  .by_cases hk3:kd=3
   .have hs:(false || decide (kd=3))=true:=by simp[hk3]
    rw[hs]at HSt;clear hs;go_wp2_with fail;exact zLt
   .have az:(kd==3)=false:=by simp[hk3]
    have hs:(false || decide (kd=3))=false:=by simp[hk3]
    rw[hs]at HSt;clear hs;go_wp2_with fail;exact zLu
  .rw[Bool.true_or]at HSt;go_wp2_with fail;exact zLt
variable {k:Nat}
theorem yEi{fn:Func}{c:Code}(hf:prog.funcs[k]?=some fn)(hn:(fn.name== "runtime.NumGoroutine")=false)(hb:fn.body=some c):EntF k:=λa w=>by
 have h1:fn.name≠ "runtime.NumGoroutine" :=by simpa using hn
 simp[callFunc,hf,h1,hb]
theorem yMp:EntF 190:=yEi func190 qk rfl
theorem yOi:EntF 189:=yEi func189 qk rfl
theorem yWz:EntF 191:=yEi func191 qk rfl
theorem yZu:EntF 192:=yEi func192 qk rfl
theorem yWy:EntF 193:=yEi func193 qk rfl
theorem yQz:EntF 194:=yEi func194 qk rfl
theorem yOj:EntF 195:=yEi func195 qk rfl
theorem yTq:EntF 196:=yEi func196 qk rfl
structure CSl(w:World)(b off cap:Nat)(es:List Ent):Prop where
 at_:yA4 w b off es
 lt:b<w.heap.size
 len:es.length<=cap
 cap:cap<=maxLen
variable {w':World} {es:List Ent}
theorem yA4.chg{S:Nat->Prop}{off:Nat}(h:yA4 w b off es)(hc:Chg S w w')(hb:b<w.heap.size)(hn:¬S b):yA4 w' b off es:=by intro i e he;obtain⟨h0,h1,h2,h3,h4⟩:=h i e he;exact⟨by rw[hc.cell (p:=(xd b (off+i*5))) hb hn];exact h0,by rw[hc.cell (p:=(xd b (off+i*5+1))) hb hn];exact h1,by rw[hc.cell (p:=(xd b (off+i*5+2))) hb hn];exact h2,by rw[hc.cell (p:=(xd b (off+i*5+3))) hb hn];exact h3,by rw[hc.cell (p:=(xd b (off+i*5+4))) hb hn];exact h4⟩
theorem CSl.chg{S:Nat->Prop}{off:Nat}(h:CSl w b off cap es)(hc:Chg S w w')(hn:¬S b):CSl w' b off cap es:=⟨h.at_.chg hc h.lt hn,Nat.lt_of_lt_of_le h.lt hc.size,h.len,h.cap⟩
theorem CSl.below{off:Nat}(h:CSl w b off cap es)(hb:Below w w w'):CSl w' b off cap es:=h.chg (S:=λ_=>False) (Chg.of_below hb) (λq=>q)
theorem OwnC.sl{g:Nat}(h:OwnC w base g cap es):CSl w g 0 cap es:=⟨h.at,h.lt.2,h.caps.1,h.caps.2⟩
theorem CSl.drop{off:Nat}(h:CSl w b off cap es)(hk:k<=es.length):CSl w b (off+k*5) (cap-k) (es.drop k):=by refine⟨λi e he=>?_,h.lt,by rw[length_drop];have:=h.len;omega,qw h.cap⟩;rw[getElem?_drop]at he;have:=h.at_ (k+i) e he;rw[show off+(k+i)*5=off+k*5+i*5 by omega]at this;exact this
theorem CSl.take{off:Nat}(h:CSl w b off cap es)(hk:k<=es.length):CSl w b off cap (es.take k):=by
 refine⟨λi e he=>?_,h.lt,by rw[length_take];have:=h.len;omega,h.cap⟩;rw[getElem?_take]at he;split at he
 .exact h.at_ i e he
 .cases he
theorem ySd{n:Nat}{cs:Array Value}{f:Nat->Bool}(hn:n<=1000000)(hk:Hid (EntF k))(mono:∀i j,i<=j->j<n->f i=true->f j=true)
  (hf:∀(i:Nat)(W:World),i<n->Below w w W->(xf k (#[.int .i64 (i:Int)]++cs) W (f i):Prop)):
  Calls prog 158 #[xi n,.func (Fn.func k) #[] cs] w λe w'=>∃r:Nat,r<=n/\e=.returned (xi r)/\(∀i,i<r->f i=false)/\(∀i,r<=i->i<n->f i=true)/\Below w w w':=by
 have HF:=qH1 hf;have HM:=qH1 mono;clear hf mono;go_enter func158,ntmps158;go_wp2_with fail;go_loopw[5,6,7] (λiv jv hv wr=>∃(i j:Nat),i<=j/\j<=n/\iv=(xi i)/\jv=(xi j)/\Hid ((∀t,t<i->f t=false)/\(∀t,j<=t->t<n->f t=true)/\Below w w wr)) (λiv jv _ _=>(intOf jv-intOf iv).toNat);case atStart=>exact⟨0,n,zero_le _,Nat.le_refl _,rfl,rfl,λt ht=>qo,λt h1 h2=>qo,Below.refl _ _⟩
 case round=>
  obtain⟨i,j,hij,a1,rfl,rfl,HJ⟩:=hrel;by_cases hlt:i<j
  .have z:(i:Int)<(j:Int):=qo
   have z1:¬(i:Int)+(j:Int)<0:=qo
   go_wp2_with fail;obtain⟨m,hm,a2,a3⟩:∃m:Nat,((i:Int)+(j:Int))/2=(m:Int)/\i<=m/\m<j:=⟨(i+j)/2,qo,qo,qo⟩;rw[hm,hk.out];clear hm;go_simp;refine(HF.out m wr qo HJ.2.2).mono ?_;rintro e w1 ⟨rfl,a0⟩;have hb2:=HJ.2.2.trans (a0.mono HJ.2.2.size);cases hfm:f m
   .have HR:Hid ((∀t,t<m+1->f t=false)/\(∀t,j<=t->t<n->f t=true)/\Below w w w1):=by
     refine⟨λt ht=>?_,HJ.2.1,hb2⟩;cases ht2:f t
     .rfl
     .have:=HM.out t m qo qo ht2;rw[hfm]at this;exact this.symm
    clear a0 hb2 HJ hfm;go_wp2_with fail;go_roundw;case rel=>exact⟨m+1,j,qo,a1,by go_num,rfl,HR.out⟩
    case measure=>simp[intOf];omega
   .have HR:=qH3 HJ.1 (λt h1 h2=>HM.out m t h1 h2 hfm:(∀t,m<=t->t<n->f t=true)) hb2;clear a0 hb2 HJ hfm;go_wp2_with fail;go_roundw;case rel=>exact⟨i,m,a2,qo,rfl,rfl,HR.out⟩
    case measure=>simp[intOf];omega
  .have z:¬(i:Int)<(j:Int):=qo
   obtain rfl:i=j:=qo
   go_wp2_with fail;go_ret;exact⟨i,a1,rfl,HJ.out⟩
theorem zYr(h:p:=by intro wz hSw;obtain⟨z0,z1,z2,z3,z4,z5,z6,z7,y0,y1,y2,y3,y4⟩:=hSw;go_simp;(try with_reducible rfl)):p:=h
variable {i:Nat} {h:Hn} {x:Ent}
theorem ySh{b1 b2 b3 g off len:Nat}{c:Ent}(hi:i<len)(hlen:len<=1000000)(l1:b1<w.heap.size)(l2:b2<w.heap.size)(l3:b3<w.heap.size)(l4:g<w.heap.size)
  (hS:(λwz:World=>xk wz b1 0 (xi h.rank)/\xk wz b1 1 h.txt/\xk wz b2 0 c.row/\xk wz b2 1 c.fam/\xk wz b2 2 c.qual/\xk wz b2 3 (xu c.ts)/\xk wz b2 4 c.val/\xk wz b3 0 (.slice (some ⟨g,off,none⟩) len cap)/\xk wz g (off+i*5) x.row/\xk wz g (off+i*5+1) x.fam/\xk wz g (off+i*5+2) x.qual/\xk wz g (off+i*5+3) (xu x.ts)/\xk wz g (off+i*5+4) x.val) w):
  (xf 159 #[xi i,xp b1,xp b2,xp b3] w (!yAz h c x):Prop):=by
 obtain⟨sk,a2⟩:=qE (yAz h c x);have HK:Hid (∀W,(xf 160 #[.agg #[xi h.rank,h.txt],.agg #[c.row,c.fam,c.qual,xu c.ts,c.val],.agg #[x.row,x.fam,x.qual,xu x.ts,x.val]] W sk:Prop)):=λW=>by rw[a2];exact ySb h c x W
 rw[<-a2];clear a2;have a0:SW (λwz:World=>xk wz b1 0 (xi h.rank)/\xk wz b1 1 h.txt/\xk wz b2 0 c.row/\xk wz b2 1 c.fam/\xk wz b2 2 c.qual/\xk wz b2 3 (xu c.ts)/\xk wz b2 4 c.val/\xk wz b3 0 (.slice (some ⟨g,off,none⟩) len cap)/\xk wz g (off+i*5) x.row/\xk wz g (off+i*5+1) x.fam/\xk wz g (off+i*5+2) x.qual/\xk wz g (off+i*5+3) (xu x.ts)/\xk wz g (off+i*5+4) x.val) w.drew:=by have hb:Below w w w.drew:=(Below.refl _ _).drew;exact hS
 have z:(i:Int)<(len:Int):=qo
 have z1:¬(i:Int)<0:=qo
 go_enter func159,ntmps159;go_upto_region 1 with fail;refine wpR 99 a0 ?_;refine qT 0 ?v0x rfl ?y0x a0 ?_;case y0x=>exact zYr
 refine jS ?_;refine qT 1 ?v1x rfl ?y1x a0 ?_;case y1x=>exact zYr
 refine jS ?_;refine qT 2 ?v2x rfl ?y2x a0 ?_;case y2x=>exact zYr
 refine jS ?_;refine qT 3 ?v3x rfl ?y3x a0 ?_;case y3x=>exact zYr
 refine jS ?_;refine qT 4 ?v4x rfl ?y4x a0 ?_;case y4x=>exact zYr
 refine jS ?_;refine qT 5 ?v5x rfl ?y5x a0 ?_;case y5x=>exact zYr
 refine jS ?_;refine qO 6 rfl λK hK=>?_;go_simp;refine(HK.out _).mono ?_;rintro e w1 ⟨rfl,a3⟩;have e9:∀q:Addr,q.block<w.heap.size->w1.cell? q=w.drew.cell? q:=λq hq=>a3.cell (by simpa using hq);have HB:=qH1 (((Below.refl w w).drew).trans (a3.mono (by simp)));have a1:=SWm a0 w1 <|by
  show _/\_;rw[e9 (xd b1 0) l1,e9 (xd b1 1) l1,e9 (xd b2 0) l2,e9 (xd b2 1) l2,e9 (xd b2 2) l2,e9 (xd b2 3) l2,e9 (xd b2 4) l2,e9 (xd b3 0) l3,e9 (xd g (off+i*5)) l4,e9 (xd g (off+i*5+1)) l4,e9 (xd g (off+i*5+2)) l4,e9 (xd g (off+i*5+3)) l4,e9 (xd g (off+i*5+4)) l4];exact a0
 clear a0 hS e9 a3;refine hK.out _ _ (.inr a1) ?_;clear hK;refine jS ?_;refine kO 7 a1 ?_;refine kO 8 a1 ?_;refine qD ?_;clear a1;go_wp2;go_ret;exact⟨rfl,HB.out⟩
theorem yXx{p:Ent->Bool}:∀(es:List Ent)(r:Nat),r<=es.length->(∀i e,i<r->es[i]?=some e->p e=true)->(∀e,es[r]?=some e->p e=false)->(es.takeWhile p).length=r
 | [],r,hr,_,_=>by simp at hr;simp[hr]
 |a::es,0,_,_,h0=>by
  have:=h0 a (by simp)
  simp[takeWhile_cons,this]
 |a::es,r+1,hr,h1,h0=>by
  have ha:=h1 0 a qo (by simp)
  rw[takeWhile_cons,if_pos ha,length_cons,yXx es r (by simpa using hr) (λi e hi he=>h1 (i+1) e qo (by simpa using he)) (λe he=>h0 e (by simpa using he))]
def skF(h:Hn)(c:Ent)(es:List Ent)(i:Nat):Bool:=match es[i]? with
 |some e=> !yAz h c e
 |none=>true
theorem yTr:EntF 159:=yEi func159 qk rfl
theorem yV7{g off:Nat}{c:Ent}(hE:yA4 w g off es)(hg:g<w.heap.size)(hlen:es.length<=1000000)
  (hmono:∀(i j:Nat)(ei ej:Ent),i<=j->es[i]?=some ei->es[j]?=some ej->yAz h c ej=true->yAz h c ei=true):
  (xf 105 #[h.v,c.c,.slice (some ⟨g,off,none⟩) es.length cap] w (xi (es.takeWhile (yAz h c)).length):Prop):=by
 obtain⟨n,hn⟩:=qE es.length;obtain⟨W0,a8⟩:=qW (xw ((w.alloc (Obj.cells #[xi h.rank,h.txt] 179)).alloc (Obj.cells #[c.row,c.fam,c.qual,xu c.ts,c.val] 70)) #[.slice (some ⟨g,off,none⟩) es.length cap] 26);have ab:Below w w W0:=by rw[a8];exact up3 w _ _ _
 have zs:W0.heap.size=w.heap.size+3:=by rw[a8];simp
 have ag:=hE.below ab hg;have ae:xk W0 w 0 (xi h.rank)/\xk W0 w 1 h.txt/\xk W0 (w+1) 0 c.row/\xk W0 (w+1) 1 c.fam/\xk W0 (w+1) 2 c.qual/\xk W0 (w+1) 3 (xu c.ts)/\xk W0 (w+1) 4 c.val/\xk W0 (w+2) 0 (.slice (some ⟨g,off,none⟩) es.length cap):=by rw[a8];refine⟨?_,?_,?_,?_,?_,?_,?_,?_⟩<;>go_simp
 have HS:Hid (Calls prog 158 #[xi n,.func (Fn.func 159) #[] #[xp w,xp (w+1),xp (w+1+1)]] W0 λe w'=>∃r:Nat,r<=n/\e=.returned (xi r)/\(∀i,i<r->skF h c es i=false)/\(∀i,r<=i->i<n->skF h c es i=true)/\Below W0 W0 w'):=by
  refine ySd qo yTr ?_ ?_
  .intro i j hij hj a9;obtain⟨ei,ad⟩:∃e,es[i]?=some e:=qg qo;obtain⟨ej,ac⟩:∃e,es[j]?=some e:=qg qo;unfold skF at a9|-;rw[ad]at a9;rw[ac];dsimp only at a9|-;cases hs:yAz h c ej
   .rfl
   .rw[hmono i j ei ej hij ad ac hs]at a9;cases a9
  .intro i W hi aa;obtain⟨x,hx⟩:∃e,es[i]?=some e:=qg qo;have aj:=aa.size;have e9:∀q:Addr,q.block<W0.heap.size->W.cell? q=W0.cell? q:=λq hq=>aa.cell hq;have ah:=(ag.below aa qo) i x hx;obtain⟨a0,a1,a2,a3,a4,a5,a6,a7⟩:=ae
   have hk:=ySh (w:=W) (b1:=w.heap.size) (b2:=w.heap.size+1) (b3:=w.heap.size+1+1) (g:=g) (off:=off) (len:=es.length) (cap:=cap) (i:=i) (h:=h) (c:=c) (x:=x) qo hlen qo qo qo qo
    ⟨by rw[e9 _ (by dsimp only;omega)];exact a0,by rw[e9 _ (by dsimp only;omega)];exact a1,by rw[e9 _ (by dsimp only;omega)];exact a2,by rw[e9 _ (by dsimp only;omega)];exact a3,by rw[e9 _ (by dsimp only;omega)];exact a4,by rw[e9 _ (by dsimp only;omega)];exact a5,by rw[e9 _ (by dsimp only;omega)];exact a6,by rw[e9 _ (by dsimp only;omega)];exact a7,ah⟩
   have hs:skF h c es i= !yAz h c x:=by unfold skF;rw[hx]
   rw[hs];exact hk
 have HB:=qH1 ab;have HT:Hid (∀r,r<=n->(∀i,i<r->skF h c es i=false)->(∀i,r<=i->i<n->skF h c es i=true)->(es.takeWhile (yAz h c)).length=r):=by
  intro r hr h1 h2;refine yXx es r qo (λi e hi he=>?_) (λe he=>?_)
  .have:=h1 i hi;unfold skF at this;rw[he]at this;simpa using this
  .have:=h2 r qr (qw (qf he));unfold skF at this;rw[he]at this;simpa using this
 obtain⟨T,hT⟩:=qE ((es.takeWhile (yAz h c)).length);rw[<-hT]at HT|-;rw[<-hn]at a8|-;clear ae ag zs ab hmono hE hT hn hlen;go_enter func105,ntmps105;go_wp2_with fail;rw[<-a8];refine HS.mono ?_;rintro e w1 ⟨r,hr,rfl,h1,h2,af⟩;have ai:=HT.out r hr h1 h2;subst ai;have hb2:=HB.trans (af.mono HB.size);clear h1 h2 af a8 HT HS;go_wp2;go_ret;exact⟨rfl,hb2⟩
variable {b:ByteArray}
theorem yDx:eqB a b=true↔a=b:=by
 unfold eqB;constructor
 .intro h;have h4:=eq_of_beq h;rw[ByteArray.toList_eq,ByteArray.toList_eq]at h4;cases a;cases b
  congr;exact Array.toList_inj.1 h4
 .rintro rfl;simp
theorem yY9:lsB a b=true↔cB a b= -1:=by
 constructor
 .intro h;exact yOt h
 .intro h;cases h1:lsB a b
  .by_cases h2:(a.toList==b.toList)=true
   .have:a=b:=yDx.1 h2;rw[yCx.2 this]at h;omega
   .have:=yOs h1 (by simpa using h2);omega
  .rfl
def LeB(a b:ByteArray):Prop:=cB a b= -1\/a=b
theorem LeB.trans{c:ByteArray}(h:LeB a b)(k:LeB b c):LeB a c:=by
 rcases h with h|rfl
 .rcases k with k|rfl
  .exact .inl (yOr h k)
  .exact .inl h
 .exact k
theorem LeB.sand{c:ByteArray}(h:LeB a b)(k:LeB b c)(e:c=a):b=a:=by
 subst e;rcases h with h|h
 .rcases k with k|k
  .have:=yZ6 b c;rw[h,k]at this;omega
  .exact k
 .exact h.symm
theorem LeB.less{c t:ByteArray}(h:LeB b c)(k:lsB c t=true):lsB b t=true:=by
 rcases h with h|rfl
 .exact yY9.2 (yOr h (yY9.1 k))
 .exact k
def LeC(a b:Ent):Prop:=LeB a.row b.row/\(a.row=b.row->LeB a.fam b.fam/\(a.fam=b.fam->LeB a.qual b.qual))
theorem LeC.refl a:LeC a a:=⟨.inr rfl,λ_=>⟨.inr rfl,λ_=>.inr rfl⟩⟩
theorem LeC.of_key{a b:Ent}(h:yAo (putE a) (putE b)= -1):LeC a b:=by
 have h:yAp (cB a.row b.row) (yAp (cB a.fam b.fam) (yAp (cB a.qual b.qual) (yAp (yA7 (putE a).kind (putE b).kind) (yE4 a.ts b.ts))))= -1:=h;unfold yAp at h;refine⟨?_,λhr=>⟨?_,λhf=>?_⟩⟩
 .by_cases h0:cB a.row b.row=0
  .exact .inr (yCx.1 h0)
  .rw[if_neg h0]at h;exact .inl h
 .rw[if_pos (yCx.2 hr)]at h;by_cases h0:cB a.fam b.fam=0
  .exact .inr (yCx.1 h0)
  .rw[if_neg h0]at h;exact .inl h
 .rw[if_pos (yCx.2 hr),if_pos (yCx.2 hf)]at h;by_cases h0:cB a.qual b.qual=0
  .exact .inr (yCx.1 h0)
  .rw[if_neg h0]at h;exact .inl h
theorem yOg{c y:Ent}(h:LeC c x)(k:LeC x y)(hs:famB c y=true):famB c x=true/\x.row=y.row/\x.fam=y.fam/\c.row=x.row/\c.fam=x.fam:=by unfold famB at hs|-;rw[Bool.and_eq_true,yDx,yDx]at hs;have hr:=h.1.sand k.1 hs.1;have hf:=(h.2 hr.symm).1.sand (k.2 (hr.trans hs.1.symm)).1 hs.2;refine⟨?_,hr.trans hs.1.symm,hf.trans hs.2.symm,hr.symm,hf.symm⟩;rw[Bool.and_eq_true,yDx,yDx];exact⟨hr,hf⟩
theorem yVz{c y:Ent}(h1:LeC c x)(h2:LeC x y)(hs:yAz h c y=true):yAz h c x=true:=by
 unfold yAz at hs|-;by_cases r1:h.rank=1
 .rw[if_pos r1,Bool.and_eq_true,yDx]at hs;rw[if_pos r1,Bool.and_eq_true,yDx];obtain⟨a,b,d,e,f⟩:=yOg h1 h2 hs.1;exact⟨a,((h1.2 e).2 f).sand ((h2.2 b).2 d) hs.2⟩
 rw[if_neg r1]at hs|-;by_cases r2:h.rank=2
 .rw[if_pos r2,Bool.and_eq_true]at hs;rw[if_pos r2,Bool.and_eq_true];obtain⟨a,b,d,e,f⟩:=yOg h1 h2 hs.1;exact⟨a,((h2.2 b).2 d).less hs.2⟩
 rw[if_neg r2]at hs|-;by_cases r3:h.rank=3
 .rw[if_pos r3]at hs|-;exact(yOg h1 h2 hs).1
 rw[if_neg r3]at hs|-;by_cases r4:h.rank=4
 .rw[if_pos r4,yDx]at hs;rw[if_pos r4,yDx];exact h1.1.sand h2.1 hs
 rw[if_neg r4]at hs|-;by_cases r5:h.rank=5
 .rw[if_pos r5]at hs|-;exact h2.1.less hs
 rw[if_neg r5]at hs|-;exact hs
section
theorem yI{P:Program}{a:Addr}{m:Mode}(f:Fn)(b c:Array Value):(store a (.func f b c) m).run P w=stored P w a (.func f b c) m:=run_store P w a _ m rfl
attribute [local go_sem] yI
theorem zBc (h:p:=by
 have hn:¬p=w.heap.size:=qo
 go_enter func149,ntmps149;go_wp2_with fail;exact bodyPost_end (results_none rfl _ _ _) rfl ⟨rfl,rfl⟩):p:=h
variable {p q:Nat} {m:Int} {u:Value}
theorem yHz{g:Nat}{v:Value}(hp:p<w.heap.size)(kd:(xk w p (o+4) (xi 11):Prop))(nn:(xk w p (o+10) (xi m):Prop))(c1:(xk w p (o+11) u:Prop))(c2:(xk w p (o+12) v:Prop))(fz:∀j,w.frozen? (xd p j)=false):
  Calls prog 149 #[.pointer (some ⟨p,o,none⟩),.pointer (some ⟨g,q,none⟩)] w λe w'=>e=.returned (.tuple #[])/\w'=(xw ((w.setCell (xd p (o+11)) (.func (Fn.func 189) #[xp w] #[])).setCell (xd p (o+12)) (.func (Fn.func 190) #[.agg #[xi 1,xe]] #[])) #[.pointer (some ⟨g,q,none⟩),xi m] 283):=by
 exact zBc
theorem yLz{g:Nat}{v:Value}(hp:p<w.heap.size)(kd:(xk w p (o+4) (xi 12):Prop))(nn:(xk w p (o+10) (xi m):Prop))(c1:(xk w p (o+11) u:Prop))(c2:(xk w p (o+12) v:Prop))(fz:∀j,w.frozen? (xd p j)=false):
  Calls prog 149 #[.pointer (some ⟨p,o,none⟩),.pointer (some ⟨g,q,none⟩)] w λe w'=>e=.returned (.tuple #[])/\w'=(xw ((w.setCell (xd p (o+11)) (.func (Fn.func 191) #[xp w] #[])).setCell (xd p (o+12)) (.func (Fn.func 190) #[.agg #[xi 4,xe]] #[])) #[.pointer (some ⟨g,q,none⟩),xi m] 283):=by
 exact zBc
theorem yOv{g:Nat}{v:Value}(hp:p<w.heap.size)(kd:(xk w p (o+4) (xi 13):Prop))(nn:(xk w p (o+10) (xi m):Prop))(c1:(xk w p (o+11) u:Prop))(c2:(xk w p (o+12) v:Prop))(fz:∀j,w.frozen? (xd p j)=false):
  Calls prog 149 #[.pointer (some ⟨p,o,none⟩),.pointer (some ⟨g,q,none⟩)] w λe w'=>e=.returned (.tuple #[])/\w'=(xw ((w.setCell (xd p (o+11)) (.func (Fn.func 192) #[xp w] #[])).setCell (xd p (o+12)) (.func (Fn.func 190) #[.agg #[xi 0,xe]] #[])) #[.pointer (some ⟨g,q,none⟩),xi m] 283):=by
 exact zBc
end
section
attribute [local go_sem] yI
abbrev ctvV(n:Nd)(mv:Value):Value:=.agg #[xi n.kind,n.s,n.hi,n.t,xu n.lo,xu n.up,xi n.n,mv]
structure CtvA(w:World)(t:Nat)(n:Nd)(mv:Value):Prop where
 t0:(xk w t 0 (xi n.kind):Prop)
 t1:(xk w t 1 n.s:Prop)
 t2:(xk w t 2 n.hi:Prop)
 t3:(xk w t 3 n.t:Prop)
 t4:(xk w t 4 (xu n.lo):Prop)
 t5:(xk w t 5 (xu n.up):Prop)
 t6:(xk w t 6 (xi n.n):Prop)
 t7:(xk w t 7 mv:Prop)
theorem zBt(h:p:=by obtain⟨t0,t1,t2,t3,t4,t5,t6,t7⟩:=ht;go_enter func150,ntmps150;go_wp2_with fail;exact bodyPost_end (results_none rfl _ _ _) rfl ⟨rfl,rfl⟩):p:=h
abbrev btW(w:World)(p o:Nat)(n:Nd)(mv:Value):World:=(xt (w.setCell (xd p (o+11)) (.func (Fn.func 193) #[ctvV n mv] #[])) p (o+12) (.func (Fn.func 190) #[.agg #[xi 0,xe]] #[]))
variable {p:Nat} {u:Value}
theorem yLy{mv v:Value}(ht:CtvA w t n mv)(hne:¬p=t)(kd:(xk w p (o+4) (xi 1):Prop))(c1:(xk w p (o+11) u:Prop))(c2:(xk w p (o+12) v:Prop))(fz:∀j,w.frozen? (xd p j)=false):
  Calls prog 150 #[.pointer (some ⟨p,o,none⟩),xp t] w λe w'=>e=.returned (.tuple #[])/\w'=btW w p o n mv:=by
 exact zBt
theorem yLx{mv v:Value}(ht:CtvA w t n mv)(hne:¬p=t)(kd:(xk w p (o+4) (xi 2):Prop))(c1:(xk w p (o+11) u:Prop))(c2:(xk w p (o+12) v:Prop))(fz:∀j,w.frozen? (xd p j)=false):
  Calls prog 150 #[.pointer (some ⟨p,o,none⟩),xp t] w λe w'=>e=.returned (.tuple #[])/\w'=(xt (btW w p o n mv) p (o+12) (.func (Fn.func 190) #[.agg #[xi 6,xe]] #[])):=by
 exact zBt
theorem yLw{mv v:Value}(ht:CtvA w t n mv)(hne:¬p=t)(kd:(xk w p (o+4) (xi 3):Prop))(c1:(xk w p (o+11) u:Prop))(c2:(xk w p (o+12) v:Prop))(fz:∀j,w.frozen? (xd p j)=false):
  Calls prog 150 #[.pointer (some ⟨p,o,none⟩),xp t] w λe w'=>e=.returned (.tuple #[])/\w'=btW w p o n mv:=by
 exact zBt
theorem yLv{mv v:Value}(ht:CtvA w t n mv)(hne:¬p=t)(kd:(xk w p (o+4) (xi 4):Prop))(c1:(xk w p (o+11) u:Prop))(c2:(xk w p (o+12) v:Prop))(fz:∀j,w.frozen? (xd p j)=false):
  Calls prog 150 #[.pointer (some ⟨p,o,none⟩),xp t] w λe w'=>e=.returned (.tuple #[])/\w'=(xt (btW w p o n mv) p (o+12) (.func (Fn.func 194) #[xp t] #[])):=by
 exact zBt
theorem yLu{mv v:Value}(ht:CtvA w t n mv)(hne:¬p=t)(kd:(xk w p (o+4) (xi 5):Prop))(c1:(xk w p (o+11) u:Prop))(c2:(xk w p (o+12) v:Prop))(fz:∀j,w.frozen? (xd p j)=false):
  Calls prog 150 #[.pointer (some ⟨p,o,none⟩),xp t] w λe w'=>e=.returned (.tuple #[])/\w'=(xt (btW w p o n mv) p (o+12) (.func (Fn.func 190) #[.agg #[xi 3,xe]] #[])):=by
 exact zBt
theorem yLt{mv v:Value}(ht:CtvA w t n mv)(hne:¬p=t)(kd:(xk w p (o+4) (xi 6):Prop))(c1:(xk w p (o+11) u:Prop))(c2:(xk w p (o+12) v:Prop))(fz:∀j,w.frozen? (xd p j)=false):
  Calls prog 150 #[.pointer (some ⟨p,o,none⟩),xp t] w λe w'=>e=.returned (.tuple #[])/\w'=(xt (btW w p o n mv) p (o+12) (.func (Fn.func 195) #[xp t] #[])):=by
 exact zBt
theorem yLs{mv v:Value}(ht:CtvA w t n mv)(hne:¬p=t)(kd:(xk w p (o+4) (xi 7):Prop))(c1:(xk w p (o+11) u:Prop))(c2:(xk w p (o+12) v:Prop))(fz:∀j,w.frozen? (xd p j)=false):
  Calls prog 150 #[.pointer (some ⟨p,o,none⟩),xp t] w λe w'=>e=.returned (.tuple #[])/\w'=btW w p o n mv:=by
 exact zBt
theorem yLr{mv v:Value}(ht:CtvA w t n mv)(hne:¬p=t)(kd:(xk w p (o+4) (xi 8):Prop))(c1:(xk w p (o+11) u:Prop))(c2:(xk w p (o+12) v:Prop))(fz:∀j,w.frozen? (xd p j)=false):
  Calls prog 150 #[.pointer (some ⟨p,o,none⟩),xp t] w λe w'=>e=.returned (.tuple #[])/\w'=(xt (btW w p o n mv) p (o+12) (.func (Fn.func 194) #[xp t] #[])):=by
 exact zBt
theorem yLq{mv v:Value}(ht:CtvA w t n mv)(hne:¬p=t)(kd:(xk w p (o+4) (xi 9):Prop))(c1:(xk w p (o+11) u:Prop))(c2:(xk w p (o+12) v:Prop))(fz:∀j,w.frozen? (xd p j)=false):
  Calls prog 150 #[.pointer (some ⟨p,o,none⟩),xp t] w λe w'=>e=.returned (.tuple #[])/\w'=(xt (btW w p o n mv) p (o+12) (.func (Fn.func 195) #[xp t] #[])):=by
 exact zBt
theorem yKs{mv v:Value}(ht:CtvA w t n mv)(hne:¬p=t)(kd:(xk w p (o+4) (xi 10):Prop))(c1:(xk w p (o+11) u:Prop))(c2:(xk w p (o+12) v:Prop))(fz:∀j,w.frozen? (xd p j)=false):
  Calls prog 150 #[.pointer (some ⟨p,o,none⟩),xp t] w λe w'=>e=.returned (.tuple #[])/\w'=(xt (btW w p o n mv) p (o+12) (.func (Fn.func 196) #[xp t] #[])):=by
 exact zBt
end
variable {k:Ctr} {b:Nat}
theorem EnI.SV{g:Nat}{c:Ent}(h:EnI base t g cap ks i k most c b w wx)(ho:i*4=o):(λwz:World=>xk wz t 0 (.pointer (some ⟨g,o,none⟩))/\xk wz b 0 c.row/\xk wz b 1 c.fam/\xk wz b 2 c.qual/\xk wz b 3 (xu c.ts)/\xk wz b 4 c.val/\xk wz g o k.row/\xk wz g (o+1) k.fam/\xk wz g (o+2) k.qual) wx:=by obtain⟨h0,h1,h2,h3,h4,h5⟩:=h.S ho;obtain⟨c0,c1,c2,_⟩:=h.ck.cells;rw[ho]at c0 c1 c2;exact⟨h0,h1,h2,h3,h4,h5,c0,c1,c2⟩
def yFy(same:Bool)(k:Ctr)(c:Ent):Ctr:=if same=true then k else entC c
def yOk(same:Bool)(k:Ctr)(c:Ent)(most:Int):Ctr:=if(yFy same k c).count<most then {yFy same k c with count:=(yFy same k c).count+1}else yFy same k c
def CnP(base t g cap:Nat)(ks:List Ctr)(i:Nat)(k:Ctr)(most:Int)(c:Ent)(same:Bool)(w:World)(e:Ending)(w':World):Prop:=
 e=.returned (decide ((yFy same k c).count<most))/\CkA w' base t g cap (ks.set i (yOk same k c most)) i (yOk same k c most) most/\Chg (λq=>q=g) w w'
theorem yX7(h:ks[i]?=some k):ks.set i k=ks:=by obtain⟨hi,rfl⟩:=List.getElem?_eq_some_iff.1 h;exact set_getElem_self hi
theorem xI{g:Nat}{c:Ent}{same:Bool}{w1 w2:World}{e:Ending}{ks1:List Ctr}{k1:Ctr}(hk:ks[i]?=some k)(h1:ks1=if same=true then ks else ks.set i (entC c))(h2:k1=if same=true then k else entC c)(hc:Chg (λq=>q=g) w w1)(ht:TkP base t g cap ks1 i k1 most w1 e w2):CnP base t g cap ks i k most c same w e w2:=by
 obtain⟨t1,t2,t3⟩:=ht;have a0:k1=yFy same k c:=h2;have hs:∀x,ks1.set i x=ks.set i x:=λx=>by
  rw[h1];cases same
  .simp
  .simp
 refine⟨by rw[t1,a0],?_,hc.trans t3⟩;unfold yOk;rw[<-a0];by_cases hl:k1.count<most
 .rw[if_pos hl,if_pos hl]at t2;rw[if_pos hl,<-hs];exact t2
 .rw[if_neg hl,if_neg hl]at t2;rw[if_neg hl,<-hs,yX7 t2.at_];exact t2
theorem EnI.start{g:Nat}(h:CkA w base t g cap ks i k most)(c:Ent){W1:World}(hb:b=w.heap.size)(hW1:W1=(xw w #[c.row,c.fam,c.qual,xu c.ts,c.val] 70)):EnI base t g cap ks i k most c b w W1:=by
 have a0:=qN hW1
 exact⟨h.on a0,by rw[hb,hW1];exact yAa w _ qr rfl,a0⟩
theorem yKp{g:Nat}(h:CkA w base t g cap ks i k most)(c:Ent)(hc:0<=k.count/\k.count<=1000000):
  Calls prog 191 #[xp t,c.c] w (CnP base t g cap ks i k most c (k.row.toList==c.row.toList) w):=by
 obtain⟨W1,a2⟩:=qW (xw w #[c.row,.string c.fam,.string c.qual,.int .u64 c.ts,.string c.val] 70);obtain⟨b,hb⟩:=qE w.heap.size;obtain⟨o,ho⟩:∃o,i*4=o:=⟨_,rfl⟩;have HO:=qH1 ho;have ac:=qH1 h.at_;obtain⟨sm,a1⟩:=qE ((k.row.toList==c.row.toList));rw[<-a1];have a9:Hid (sm=(k.row.toList==c.row.toList)):=a1;have a3:Hid (EnI base t g cap ks i k most c b w W1.drew):=(EnI.start h c hb a2).on ((Below.refl _ _).drew);have ad:Hid (∀wz,(xf 99 #[c.c] wz (putE c).v:Prop)):=λwz=>yBx c wz;have ae:Hid (∀wz,(xf 216 #[(putE c).v] wz (.agg #[c.row,c.fam,c.qual]):Prop)):=λwz=>yHr (putE c) wz;have ab:Hid (∀wz,EnI base t g cap ks i k most c b w wz->Calls prog 215 #[xp t,c.c,sm] wz (EnP base t g cap ks i k most c sm wz)):=λwz hz=>enter_core' hz.ck c sm;have a8:Hid (∀(wz wy:World),EnI base t g cap ks i k most c b w wz->∀e,EnP base t g cap ks i k most c sm wz e wy->Calls prog 217 #[xp t] wy (CnP base t g cap ks i k most c sm w)):=λwz wy hz e hy=>(yL4 hy.2.1 (by cases sm<;>simp[entC];omega)).mono λe' w' ht=>xI ac.out rfl rfl ((Chg.of_below hz.below).trans hy.2.2) ht;clear h ho a1;go_enter func191,ntmps191;go_upto_region 1 with fail;rw[<-a2,<-hb];clear a2 hb;have a0:SW (λwz:World=>xk wz t 0 (.pointer (some ⟨g,o,none⟩))/\xk wz b 0 c.row/\xk wz b 1 c.fam/\xk wz b 2 c.qual/\xk wz b 3 (xu c.ts)/\xk wz b 4 c.val/\xk wz g o k.row/\xk wz g (o+1) k.fam/\xk wz g (o+2) k.qual) W1.drew:=a3.SV HO.out;refine wpR 13 a0 ?_;refine yAi [] 0 ?vc0 rfl ?yc0 a0 ?_;case yc0=>exact zzR0
 refine jS ?_;refine yAi [] 1 ?vc1 rfl ?yc1 a0 ?_;case yc1=>exact zzR0
 refine jS ?_;refine yAi [3,4,5,6,7,8,9,12] 2 ?vc2 rfl ?yc2 a0 ?_;case yc2=>exact zzR0
 refine jS ?_;refine yAi [4,5,6,7,8,9,12] 3 ?vc3 rfl ?yc3 a0 ?_;case yc3=>exact zzR0
 refine jS ?_;refine yAi [5,6,7,8,9,12] 4 ?vc4 rfl ?yc4 a0 ?_;case yc4=>exact zzR0
 refine jS ?_;refine yAi [6,7,8,9,12] 5 ?vc5 rfl ?yc5 a0 ?_;case yc5=>exact zzR0
 refine jS ?_;refine yAi [7,8,9,12] 6 ?vc6 rfl ?yc6 a0 ?_;case yc6=>exact zzR0
 refine jS ?_;refine yAi [8,9,12] 7 ?vc7 rfl ?yc7 a0 ?_;case yc7=>exact zzR0
 refine jS ?_;refine yAi [9,12] 8 ?vc8 rfl ?yc8 a0 ?_;case yc8=>exact zzR0
 refine jS ?_;refine yAi [12] 9 ?vc9 rfl ?yc9 a0 ?_;case yc9=>exact zzR0
 refine jS ?_;refine yAi [11,12] 10 ?vc10 rfl ?yc10 a0 ?_;case yc10=>exact zzR0
 refine jS ?_;refine yAi [12] 11 ?vc11 rfl ?yc11 a0 ?_;case yc11=>exact zzR0
 refine jS ?_;refine yAi [] 12 sm rfl ?yc12 a0 ?_;case yc12=>(intro wz hSw;obtain⟨z0,z1,z2,z3,z4,z5,z6,z7,z8⟩:=hSw;go_simp;rw[a9.out])
 refine jS ?_;refine qO 13 rfl λK hK=>?_;go_simp;refine(ab.out _ a3.out).mono ?_;rintro e wy hy;have HY:=a8.out _ _ a3.out e hy;obtain⟨rfl,_,_⟩:=hy;refine hK.out _ _ (.inl rfl) ?_;clear hK a0;refine jS ?_;refine qD ?_;have a7:Hid (Calls prog 217 #[xp t] wy (CnP base t g cap ks i k most c sm w)):=HY;clear HY;go_wp2_with fail;refine a7.mono ?_;rintro e w9 h9;obtain⟨a6,a5,a4⟩:=h9;subst a6;have aa:Hid (CnP base t g cap ks i k most c sm w (.returned (decide ((yFy sm k c).count<most))) w9):=⟨rfl,a5,a4⟩;clear a5 a4;go_wp2;go_ret;exact aa.out
theorem yV1{g:Nat}(h:CkA w base t g cap ks i k most)(c:Ent)(hc:0<=k.count/\k.count<=1000000):
  Calls prog 192 #[xp t,c.c] w λe w'=>e=.returned (!decide ((yFy (k.row.toList==c.row.toList) k c).count<most))/\CkA w' base t g cap (ks.set i (yOk (k.row.toList==c.row.toList) k c most)) i (yOk (k.row.toList==c.row.toList) k c most) most/\Chg (λq=>q=g) w w':=by
 obtain⟨W1,a1⟩:=qW (xw w #[c.row,c.fam,c.qual,xu c.ts,c.val] 70);have H1:=qH1 (EnI.start h c rfl a1);have HC:=qH1 (yKp H1.ck c hc);obtain⟨y0,y1,y2,y3,y4⟩:=H1.box.c5;obtain⟨bb,a0⟩:=qE (decide ((yFy (k.row.toList==c.row.toList) k c).count<most));have a2:=qH1 a0;rw[<-a0];clear h a0;go_enter func192,ntmps192;go_upto_region 1 with fail;rw[<-a1];clear a1;go_wp2_with fail;refine HC.mono ?_;rintro e w2 ⟨h1,h2,h3⟩;rw[<-a2.out]at h1;subst h1;have H2:=qH2 h2 ((Chg.of_below H1.below).trans h3);clear h2 h3;go_wp2;go_ret;exact⟨rfl,H2.out⟩
theorem yY0{ds ds':List Int}{j:Nat}{d:Int}(h:note ds j d=some ds')(hd:¬d=0):ds'[j]?=some d/\∀(i:Nat)(e:Int),ds[i]?=some e->¬e=0->ds'[i]?=some e:=by
 unfold note at h;cases hj:ds[j]? with
 |none=>rw[hj]at h;cases h
 |some e0=>
  rw[hj]at h;simp only at h;split at h
  .rename_i hc;obtain rfl:=Option.some.inj h;have hl:=qf hj;refine⟨by rw[getElem?_set_self hl],λi e hi he=>?_⟩;by_cases q:j=i
   .subst q;rw[hj]at hi;obtain rfl:=Option.some.inj hi;rw[getElem?_set_self hl];rcases hc with z|z
    .exact absurd z he
    .rw[z]
   .rw[getElem?_set_ne q];exact hi
  .cases h
theorem yMa{d:Int}(hd:¬d=0):∀(js:List Nat){ds ds':List Int},yB1 d js ds=some ds'->(∀j∈js,ds'[j]?=some d)/\∀(i:Nat)(e:Int),ds[i]?=some e->¬e=0->ds'[i]?=some e
 | [],_,_,h=>by obtain rfl:=Option.some.inj h;exact⟨λj hj=>by simp at hj,λi e hi _=>hi⟩
 |j::js,ds,ds',h=>by
  simp only[yB1,Option.bind_eq_some_iff]at h
  obtain⟨d1,h1,h2⟩:=h
  obtain⟨a1,a2⟩:=yY0 h1 hd
  obtain⟨b1,b2⟩:=yMa hd js h2
  refine⟨λi hi=>?_,λi e hi he=>b2 i e (a2 i e hi he) he⟩
  rcases mem_cons.1 hi with rfl|q
  .exact b2 _ _ a1 hd
  .exact b1 i q
variable {x:Ix}
theorem yPc{ds ds':List Int}{k:Nat}(h:yC2 ds k x=some ds'):∃e,ds[k]?=some e/\least x.op<=e/\e+more x.op<=250/\(∀j∈ways k x,ds'[j]?=some (e+more x.op))/\∀(i:Nat)(e:Int),ds[i]?=some e->¬e=0->ds'[i]?=some e:=by
 unfold yC2 at h;cases hj:ds[k]? with
 |none=>rw[hj]at h;cases h
 |some e=>
  rw[hj]at h;simp only at h;split at h
  .cases h
  .rename_i hc;have hm:¬e+more x.op=0:=by unfold least more at hc;unfold more;split at hc<;>split at hc<;>simp_all<;>omega
   obtain⟨a,b⟩:=yMa hm _ h;exact⟨e,rfl,qo,qo,a,b⟩
theorem yQu{xs:List Ix}{k:Nat}:∀(m:Nat){ds ds':List Int},yC6 xs k=some ds->yC6 xs (k+m)=some ds'->∀(i:Nat)(e:Int),ds[i]?=some e->¬e=0->ds'[i]?=some e
 |0,ds,ds',h,h',i,e,hi,he=>by rw[Nat.add_zero,h]at h';obtain rfl:=Option.some.inj h';exact hi
 |m+1,ds,ds',h,h',i,e,hi,he=>by
  have h9:=h'
  simp only[yC6,Option.bind_eq_some_iff]at h9
  obtain⟨d1,h1,x,hx,h2⟩:=h9
  obtain⟨_,_,_,_,_,b⟩:=yPc h2
  exact b i e (yQu m h h1 i e hi he) he
theorem yIz{l:List Ix}{cnt:Int}{conds:Nat}(h:yBe l cnt conds):∃d,yUc l d:=by
 obtain⟨ds,hf,hl⟩:=h.2.2.2.2.2;have a2:∀(k:Nat) a0,k<=l.length->yC6 l k=some a0->∀(i:Nat)(e:Int),a0[i]?=some e->¬e=0->ds[i]?=some e:=λk a0 hk h1=>
  yQu (l.length-k) h1 (by rw[Nat.add_sub_cancel' hk];exact hf)
 refine⟨λk=>((ds[k]?).getD 0).toNat,?_,?_,λk x hx h1=>?_⟩
 .have:=a2 0 _ (zero_le _) rfl 0 1 rfl qo;simp[this]
 .simp[hl]
 .have hk:=qf hx;obtain⟨a0,a4⟩:∃a0,yC6 l k=some a0:=Option.ne_none_iff_exists'.1 (yHm h qo);obtain⟨a1,a3⟩:∃a1,yC6 l (k+1)=some a1:=Option.ne_none_iff_exists'.1 (yHm h qo);rw[yD3 a4 hx]at a3;obtain⟨e,he,h2,h3,h4,_⟩:=yPc a3;have a7:yC6 l (k+1)=some a1:=by rw[yD3 a4 hx];exact a3
  have e1:1<=e:=by unfold least at h2;split at h2<;>omega
  have a5:=a2 k a0 qo a4 k e he qo;have ev:(((ds[k]?).getD 0).toNat:Int)=e:=by rw[a5];simp;omega
  rw[ev];refine⟨h2,h3,λj hj=>?_⟩;have hm:1<=e+more x.op:=by unfold least at h2;unfold more;split at h2<;>split<;>(try split)<;>omega
  have a6:=a2 (k+1) a1 qo a7 j _ (h4 j hj) qo;refine⟨by rw[a6];simp;omega,?_⟩;have hg:=yC3 h hx;unfold ways at hj;rcases hg with⟨ho,_,_,_⟩|⟨ho,_,_,_,q1,q2⟩|⟨ho,_,_,q1,q2⟩|⟨ho,_,_,_⟩
  .rw[if_neg qo,if_neg qo]at hj;simp at hj;omega
  .rw[if_pos ho]at hj;simp at hj;rcases hj with q|q<;>omega
  .rw[if_neg qo,if_pos ho]at hj;simp at hj;omega
  .rw[if_neg qo,if_neg qo]at hj;simp at hj;omega
structure LkG where
 w:World
 l:List Ix
 bI:Nat
 oI:Nat
 cI:Nat
 cnt:Int
 c:Ent
 conds:List Bool
 d:Nat->Nat
 cs0:List Ctr
 b0:Nat
 gc:Nat
 cpc:Nat
 ca:Option Addr
 N:Nat
 nk:Nat
 nC:Nat
structure LkM(G:LkG)(m:List It)(g cp:Nat)(cs:List Ctr)(wr:World):Prop where
 blk:yA wr G.w 32 2 G.w [.slice (some ⟨G.bI,G.oI,none⟩) G.N G.cI,xi G.cnt]
 cel:yA wr G.w 70 5 (G.w+1) G.c.five
 res:yA wr G.w 115 4 (G.w+1+1) (yBl noH).four
 stk:xId wr G.w g cp m
 gne:G.w.heap.size+1+1<g
 ctr:yF0 wr G.b0 G.gc G.cpc cs
 gcl:G.gc<G.w.heap.size
 bIl:G.bI<G.w.heap.size/\¬G.bI=G.gc
 ins:yB5 wr G.bI G.oI G.l
 cnd:∀(i:Nat)(b:Bool),G.conds[i]?=some b->∃bc oc,G.ca=some ⟨bc,oc,none⟩/\xk wr bc (oc+i) b/\bc<G.w.heap.size/\¬bc=G.gc
 chg:Chg (λk=>k=G.gc) G.w wr
 len:cs.length=G.nk
 cb:∀k∈cs,0<=k.count/\k.count<=1000
def LkL(G:LkG)(at_:Nat)(m:List It)(cs:List Ctr):Prop:=
 m.length=G.d at_/\at_<=G.N/\∀r,LkR pfxB G.l G.c G.conds ⟨at_,m.reverse,cs⟩ r->LkR pfxB G.l G.c G.conds ⟨0,[newI],G.cs0⟩ r
variable {G:LkG} {m m':List It} {cs:List Ctr}
theorem LkL.next{at_ j:Nat}{cs':List Ctr}(h:LkL G at_ m cs)(hD:yUc G.l G.d)(hN:G.N=G.l.length)(h1:1<=m.length)(hx:G.l[at_]?=some x)
  (hst:stepL pfxB G.c G.conds x ⟨at_,m.reverse,cs⟩=⟨j,m'.reverse,cs'⟩) (hj:j∈ways at_ x) (hl:(m'.length:Int)=m.length+more x.op):
  LkL G j m' cs'/\at_<j/\j<=G.N/\1<=m'.length/\m'.length<=250:=by
 obtain⟨a,b,c⟩:=hD.step at_ x hx (by rw[<-h.1];exact h1);obtain⟨e1,e2,e3⟩:=c j hj;have hm:1<=(m.length:Int)+more x.op:=by rw[h.1];unfold least at a;unfold more;split at a<;>split<;>(try split)<;>omega
 refine⟨⟨qw h.1,qo,λr hr=>h.2.2 r (.step hx (by rw[hst];exact hr))⟩,e2,qo,qo,qw h.1⟩
theorem LkL.least{at_:Nat}(h:LkL G at_ m cs)(hD:yUc G.l G.d)(h1:1<=m.length)(hx:G.l[at_]?=some x):least x.op<=(m.length:Int):=by obtain⟨a,_,_⟩:=hD.step at_ x hx (by rw[<-h.1];exact h1);rw[h.1];exact a
def LkP(G:LkG)(e:Ending)(w':World):Prop:=
 ∃(i:It)(cs:List Ctr),LkR pfxB G.l G.c G.conds ⟨0,[newI],G.cs0⟩ (i,cs)/\e=.returned (.tuple #[i.v,xg G.gc G.nk G.cpc])/\cs.length=G.nk/\yF0 w' G.b0 G.gc G.cpc cs/\(∀k∈cs,0<=k.count/\k.count<=1000)/\Chg (λk=>k=G.gc) G.w w'
variable {cp:Nat}
theorem LkM.on{g:Nat}(h:LkM G m g cp cs wr)(hb:Below wr wr W):LkM G m g cp cs W:=by
 have hs:=h.chg.size
 exact {h with
  blk:=h.blk.below hb,cel:=h.cel.below hb,res:=h.res.below hb,stk:=h.stk.below hb,ctr:=h.ctr.below hb
  ins:=h.ins.below hb (qw h.bIl)
  cnd:=λi b hi=>by
   obtain⟨bc,oc,h1,h2,h3,h4⟩:=h.cnd i b hi
   exact⟨bc,oc,h1,((Chg.of_below hb (S:=λ_=>False)).cell (p:=(xd bc (oc+i))) (show bc<_ by omega) (λq=>q)).trans h2,h3,h4⟩
  chg:=h.chg.trans (Chg.of_below hb)}
theorem LkM.grow{g g' cp':Nat}(h:LkM G m g cp cs W)(hO:xId w' G.w g' cp' m')(hg:G.w.heap.size+1+1<g')(hc:Chg (λk=>k=g) W w'):LkM G m' g' cp' cs w':=by
 have hs:=h.chg.size;have h0:=h.gne;have h1:=h.gcl;have h2:=h.bIl
 exact {h with
  blk:=h.blk.chg hc qo,cel:=h.cel.chg hc qo,res:=h.res.chg hc qo,stk:=hO,gne:=hg,ctr:=h.ctr.chg hc (by omega)
  ins:=h.ins.chg hc (by omega) (by omega)
  cnd:=λi b hi=>by
   obtain⟨bc,oc,h1,h2,h3,h4⟩:=h.cnd i b hi
   exact⟨bc,oc,h1,(hc.cell (p:=(xd bc (oc+i))) (show bc<_ by omega) (by show¬bc=g;omega)).trans h2,h3,h4⟩
  chg:=h.chg.absorb hc (λj q=>.inr (by omega))}
theorem LkM.side{g B:Nat}(h:LkM G m g cp cs W)(hB:G.w.heap.size+1+1<B/\¬B=g)(hc:Chg (λk=>k=B) W w'):LkM G m g cp cs w':=by
 have hs:=h.chg.size;have h1:=h.gcl;have h2:=h.bIl
 exact {h with
  blk:=h.blk.chg hc qo,cel:=h.cel.chg hc qo,res:=h.res.chg hc qo,stk:=h.stk.chg hc (λq=>hB.2 q.symm),ctr:=h.ctr.chg hc (by omega)
  ins:=h.ins.chg hc (by omega) (by omega)
  cnd:=λi b hi=>by
   obtain⟨bc,oc,h1,h2,h3,h4⟩:=h.cnd i b hi
   exact⟨bc,oc,h1,(hc.cell (p:=(xd bc (oc+i))) (show bc<_ by omega) (by show¬bc=B;omega)).trans h2,h3,h4⟩
  chg:=h.chg.absorb hc (λj q=>.inr (by omega))}
variable {i:It}
theorem yEo{ty B:Nat}{i':It}(h:yA W base ty 4 B i.four){W':World}(hW:W'=setCs W B 0 i'.four):yA W' base ty 4 B i'.four/\Chg (λk=>k=B) W W':=by refine⟨?_,by rw[hW];exact yAl (S:=λk=>k=B) B rfl _ _ _⟩;have:=h.setCs i'.four;rw[hW];exact this
theorem yX2(i:It)(c:Ent):(yB i c).five= [.string c.row,.string c.fam,.string c.qual,.int .u64 c.ts,.string (yB i c).val]:=by unfold yB;split<;>rfl
theorem LkM.ctrs{g:Nat}{cs':List Ctr}(h:LkM G m g cp cs W)(hO:yF0 w' G.b0 G.gc G.cpc cs')(hl:cs'.length=G.nk)(hcb:∀k∈cs',0<=k.count/\k.count<=1000)(hc:Chg (λk=>k=G.gc) W w'):LkM G m g cp cs' w':=by
 have hs:=h.chg.size;have h0:=h.gne;have h1:=h.gcl;have h2:=h.bIl
 exact {h with
  blk:=h.blk.chg hc qo,cel:=h.cel.chg hc qo,res:=h.res.chg hc (by omega),stk:=h.stk.chg hc (by omega),ctr:=hO
  ins:=h.ins.chg hc (by omega) h2.2
  cnd:=λi b hi=>by
   obtain⟨bc,oc,h1,h2,h3,h4⟩:=h.cnd i b hi
   exact⟨bc,oc,h1,(hc.cell (p:=(xd bc (oc+i))) (show bc<_ by omega) h4).trans h2,h3,h4⟩
  chg:=h.chg.trans hc
  len:=hl
  cb:=hcb}
theorem xF{c:Ent}(hk:0<=k.count/\k.count<=1000)(hn:n.n<=1000):0<=(yCh n k c).2.count/\(yCh n k c).2.count<=1000:=by
 have he:0<=(yC4 n k c).count/\(yC4 n k c).count<=1000:=by
  unfold yC4;split
  .exact hk
  .simp
 unfold yCh;split
 .simp only;omega
 .exact he
variable {n:Nat}
theorem yDr(h:n+1=m.length)(hi:m[n]?=some i):m.reverse=i::(m.take n).reverse:=by
 have:m=m.take n++ [i]:=by
  conv=>lhs;rw[<-take_append_drop n m]
  congr 1;rw[drop_eq_getElem_cons qo,drop_eq_nil_of_le qo];rw[getElem?_eq_getElem qo]at hi;rw[Option.some.inj hi]
 conv=>lhs;rw[this]
 rw[reverse_append];rfl
variable {j:It}
theorem yUf(h:n+1+1=m.length)(hi:m[n+1]?=some i)(hj:m[n]?=some j):m=m.take n++ [j,i]:=by
 conv=>lhs;rw[<-take_append_drop n m]
 congr 1;rw[getElem?_eq_getElem qo]at hi hj;rw[drop_eq_getElem_cons qo,drop_eq_getElem_cons qo,drop_eq_nil_of_le qo,Option.some.inj hi,Option.some.inj hj]
theorem yNm(h:n+1+1=m.length)(hi:m[n+1]?=some i)(hj:m[n]?=some j):m.reverse=i::j::(m.take n).reverse:=by have:=congrArg List.reverse (yUf h hi hj);rw[reverse_append]at this;exact this
theorem yPb(h:n+1+1=m.length)(hi:m[n+1]?=some i)(hj:m[n]?=some j):(m.set (n+1) j).set n i=m.take n++ [i,j]:=by
 have hm:=yUf h hi hj;have ht:(m.take n).length=n:=by rw[length_take];omega
 conv=>lhs;rw[hm]
 rw[set_append_right _ _ qo,ht,set_append_right _ _ qo,ht];simp
theorem yFm{c:Ent}{conds:List Bool}{at_:Nat}{st r:List It}(ho:x.op=1)(hr:st=i::r):stepL pfxB c conds x ⟨at_,st,cs⟩=⟨at_+1,(leafI pfxB x c i cs).1::r,(leafI pfxB x c i cs).2⟩:=by unfold stepL;rw[if_pos ho,hr]
theorem yVa{c:Ent}(ha:i.alive=true)(hck:¬cntK x.leaf.kind):
  leafI pfxB x c i cs=(if tstB x.leaf (yB i c)=true then⟨true,i.strip || (x.leaf.kind==3),i.hint⟩else yBl (if x.free=true then yB4 (pfxB x.leaf.s) x.leaf c else noH),cs):=by
 unfold leafI;rw[if_pos ha];simp only;rw[if_neg (show¬(x.leaf.kind=11\/x.leaf.kind=12\/x.leaf.kind=13)from hck)];rfl
theorem yP7{c:Ent}(ha:i.alive=true)(hck:cntK x.leaf.kind)(hk:cs[x.a.toNat]?=some k):
  leafI pfxB x c i cs=(if(yCh x.leaf k c).1=true then⟨true,i.strip || (x.leaf.kind==3),i.hint⟩else yBl (if x.free=true then yB4 (pfxB x.leaf.s) x.leaf c else noH),cs.set x.a.toNat (yCh x.leaf k c).2):=by
 unfold leafI;rw[if_pos ha];simp only;rw[if_pos (show(x.leaf.kind=11\/x.leaf.kind=12\/x.leaf.kind=13)from hck),hk];rfl
theorem yNe(h:n+1=m.length) iz:(m.set n iz).reverse=iz::(m.take n).reverse:=by rw[yDr (i:=iz) (by rw[length_set];exact h) (by rw[getElem?_set_self qo])];congr 2;rw[List.take_set];exact set_eq_of_length_le (by rw[length_take];omega)
theorem zJa{q:Prop}(k:q)(h:q->p:=by intro zz;have hS1:=hS0;obtain⟨z0,z1,z2,z3,z4,z5,z6,z7,z8⟩:=hS1;go_simp;refine hK.out _ _ (.inr hS0) ?_;refine jS ?_;refine yAi [5,6,7,8,12] 4 _ rfl (by exact zzR0) hS0 ?_;refine jS ?_;refine yAi [6,7,8,12] 5 _ rfl (by exact zzR0) hS0 ?_;refine jS ?_;exact zz):p:=h k
theorem zJb{q:Prop}(k:q)(h:q->p:=by intro zz;have hS1:=hS0;obtain⟨z0,z1,z2,z3,z4,z5,z6,z7,z8⟩:=hS1;go_simp;refine hK.out _ _ (.inr hS0) ?_;refine jS ?_;refine yAi [8,12] 7 _ rfl (by exact zzR0) hS0 ?_;refine jS ?_;refine yAi [12] 8 _ rfl (by exact zzR0) hS0 ?_;refine jS ?_;exact zz):p:=h k
theorem zJ22(h:p:=by refine yAi [] 12 (.bool sm) rfl (by exact zzR3) hS0 ?_;exact zzQ8):p:=h
theorem zJ21(h:p:=by refine qO 11 rfl λK hK=>?_;go_simp;refine(HCol.out _).mono ?_;rintro e wb ⟨rfl,hb⟩;have HKwb:=qH1 (HKwa.on hb);clear hS0 hb;have hS0:=HKwb.SV HO.out;refine hK.out _ _ (.inr hS0) ?_;clear hK;refine jS ?_;exact zJ22):p:=h
theorem zJ20(h:p:=by refine qO 10 rfl λK hK=>?_;go_simp;refine(HPut.out _).mono ?_;rintro e wa ⟨rfl,hb⟩;have HKwa:=qH1 (HKd.on hb);clear hS0 hb;have hS0:=HKwa.SV HO.out;refine hK.out _ _ (.inr hS0) ?_;clear hK;refine jS ?_;exact zJ21):p:=h
theorem zJ12(h:p:=by refine qO 6 rfl λK hK=>?_;refine zJb ?_;exact zJ22):p:=h
theorem zJ02(h:p:=by refine qO 3 rfl λK hK=>?_;refine zJa ?_;exact zJ12):p:=h
theorem zJ11 (h:p:=by 
 refine yB2 (i:=6) (j:=11) (by kernel_rfl) rfl rfl (λK hK=>?_) (λK hK=>?_)
 .refine zJb ?_;exact zJ21
 .go_simp;refine(HCol.out _).mono ?_;rintro e wb ⟨rfl,hb⟩;have HKwb:=qH1 (HKwa.on hb);clear hS0 hb;have hS0:=HKwb.SV HO.out;refine hK.out _ _ (.inr hS0) ?_;clear hK;refine jS ?_;exact zJ12):p:=h
theorem zJ10 (h:p:=by 
 refine yB2 (i:=6) (j:=10) (by kernel_rfl) rfl rfl (λK hK=>?_) (λK hK=>?_)
 .refine zJb ?_;exact zJ20
 .go_simp;refine(HPut.out _).mono ?_;rintro e wa ⟨rfl,hb⟩;have HKwa:=qH1 (HKd.on hb);clear hS0 hb;have hS0:=HKwa.SV HO.out;refine hK.out _ _ (.inr hS0) ?_;clear hK;refine jS ?_;exact zJ11):p:=h
theorem zJ01 (h:p:=by 
 refine yB2 (i:=3) (j:=11) (by kernel_rfl) rfl rfl (λK hK=>?_) (λK hK=>?_)
 .refine zJa ?_;exact zJ11
 .go_simp;refine(HCol.out _).mono ?_;rintro e wb ⟨rfl,hb⟩;have HKwb:=qH1 (HKwa.on hb);clear hS0 hb;have hS0:=HKwb.SV HO.out;refine hK.out _ _ (.inr hS0) ?_;clear hK;refine jS ?_;exact zJ02):p:=h
variable {i:Nat}
theorem yVq{g:Nat}(h:CkA w base t g cap ks i k most)(c:Ent)(hc:0<=k.count/\k.count<=1000000):
  Calls prog 189 #[xp t,c.c] w (CnP base t g cap ks i k most c (k.row.toList==c.row.toList && (k.fam.toList==c.fam.toList && k.qual.toList==c.qual.toList)) w):=by
 obtain⟨W1,a1⟩:=qE (xw w #[c.row,c.fam,c.qual,xu c.ts,c.val] 70:World);obtain⟨b,hb⟩:=qE w.heap.size;obtain⟨o,ho⟩:∃o,i*4=o:=⟨_,rfl⟩;have HO:=qH1 ho;have a2:=qH1 h.at_;obtain⟨sm,a0⟩:=qE ((k.row.toList==c.row.toList && (k.fam.toList==c.fam.toList && k.qual.toList==c.qual.toList)));rw[<-a0];have HSM:Hid (sm=(k.row.toList==c.row.toList && (k.fam.toList==c.fam.toList && k.qual.toList==c.qual.toList))):=a0;have HKd:Hid (EnI base t g cap ks i k most c b w W1.drew):=(EnI.start h c hb a1).on ((Below.refl _ _).drew);have HPut:Hid (∀wz,(xf 99 #[c.c] wz (putE c).v:Prop)):=λwz=>yBx c wz;have HCol:Hid (∀wz,(xf 216 #[(putE c).v] wz (.agg #[c.row,c.fam,c.qual]):Prop)):=λwz=>yHr (putE c) wz;have HEn:Hid (∀wz,EnI base t g cap ks i k most c b w wz->Calls prog 215 #[xp t,c.c,sm] wz (EnP base t g cap ks i k most c sm wz)):=λwz hz=>enter_core' hz.ck c sm;have HTk:Hid (∀(wz wy:World),EnI base t g cap ks i k most c b w wz->∀e,EnP base t g cap ks i k most c sm wz e wy->Calls prog 217 #[xp t] wy (CnP base t g cap ks i k most c sm w)):=λwz wy hz e hy=>(yL4 hy.2.1 (by cases sm<;>simp[entC];omega)).mono λe' w' ht=>xI a2.out rfl rfl ((Chg.of_below hz.below).trans hy.2.2) ht;clear h ho a0;go_enter func189,ntmps189;go_upto_region 1 with fail;rw[<-a1,<-hb];clear a1 hb;have hS0:SW (λwz:World=>xk wz t 0 (.pointer (some ⟨g,o,none⟩))/\xk wz b 0 c.row/\xk wz b 1 c.fam/\xk wz b 2 c.qual/\xk wz b 3 (xu c.ts)/\xk wz b 4 c.val/\xk wz g o k.row/\xk wz g (o+1) k.fam/\xk wz g (o+2) k.qual) W1.drew:=HKd.SV HO.out;refine wpR 13 hS0 ?_;refine yAi [] 0 _ rfl (by exact zzR0) hS0 ?_;refine jS ?_;refine yAi [] 1 _ rfl (by exact zzR0) hS0 ?_;refine jS ?_;refine yAi [3,4,5,6,7,8,12] 2 _ rfl (by exact zzR0) hS0 ?_;refine jS ?_;refine yAi [10,11,12] 9 _ rfl (by exact zzR0) hS0 ?_;refine jS ?_;refine yB2 (i:=3) (j:=10) (by kernel_rfl) rfl rfl (λK hK=>?_) (λK hK=>?_)
 .refine zJa ?_;exact zJ10
 .go_simp;refine(HPut.out _).mono ?_;rintro e wa ⟨rfl,hb⟩;have HKwa:=qH1 (HKd.on hb);clear hS0 hb;have hS0:=HKwa.SV HO.out;refine hK.out _ _ (.inr hS0) ?_;clear hK;refine jS ?_;exact zJ01
theorem yTg(l r:It)(w:World):(xf 157 #[l.v,r.v] w (yTh l r).v:Prop):=by
 obtain⟨la,ls,⟨lr,lt⟩⟩:=l;obtain⟨ra,rs,⟨rr,rt⟩⟩:=r;cases la
 .cases ra
  .obtain⟨H,hH⟩:=qE (yN7 ⟨lr,lt⟩ ⟨rr,rt⟩);have HL:Hid (∀wz,(xf 201 #[.agg #[xi lr,lt],.agg #[xi rr,rt]] wz (.agg #[xi H.rank,H.txt]):Prop)):=λwz=>by rw[hH];exact yP5 ⟨lr,lt⟩ ⟨rr,rt⟩ wz
   have HJ:Hid (yTh ⟨false,ls,⟨lr,lt⟩⟩ ⟨false,rs,⟨rr,rt⟩⟩=⟨false,false,H⟩):=by show _=_;rw[hH];rfl
   obtain⟨W0,a2⟩:=qE (xw ((w.alloc (Obj.cells #[false,ls,xi lr,lt] 181)).alloc (Obj.cells #[false,rs,xi rr,rt] 181)) #[false,false,xi 0,xe] 181:World);have H0:Hid (yA W0 w 181 4 (w+2) [false,false,xi 0,xe]/\Below w w W0):=by
    have z:((w.alloc (Obj.cells #[false,ls,xi lr,lt] 181)).alloc (Obj.cells #[false,rs,xi rr,rt] 181)).heap.size=w.heap.size+2:=by simp
    refine⟨?_,by rw[a2];exact up3 w _ _ _⟩;rw[a2,<-z];exact yAa _ _ qo rfl
   rw[HJ.out];clear hH;go_enter func157,ntmps157;go_wp2_with fail;refine(HL.out _).mono ?_;rintro e w1 ⟨rfl,a1⟩;rw[<-a2]at a1;obtain⟨V,hV⟩:=qE (setCs w1 (w+1+1) 0 (It.four ⟨false,false,H⟩):World);have a0:=H0.1.below a1;obtain⟨x0,x1,x2,x3⟩:=a0.c4;have fz:=a0.frozen;have hc:Chg (λq=>q=w.heap.size+2) w1 V:=by rw[hV];exact yAl (S:=λq=>q=w.heap.size+2) _ rfl _ _ _
   have a3:yA V w 181 4 (w+2) (It.four ⟨false,false,H⟩):=by rw[hV];exact yBu (v:=(xg (w+2) 1 1)) rfl ⟨1,rfl⟩ _ 0 w1 _ a0
   obtain⟨v0,v1,v2,v3⟩:=a3.c4;have HB:Hid (Below w w V):=by have h1:=H0.2.trans (a1.mono H0.2.size);exact Chg.below h1 hc h1.size (λq e=>qo)
   simp only[setCs,Nat.reduceAdd]at hV;clear a1 a0 a3 hc a2;go_wp2_with fail;rw[<-hV];clear hV;exact bodyPost_ret (v:=.agg #[false,false,xi H.rank,H.txt]) (by simp[results,results157,go_sem,v0,v1,v2,v3]) rfl ⟨rfl,HB.out⟩
  .go_enter func157,ntmps157;go_wp2_with fail;exact bodyPost_ret (v:=.agg #[true,rs,xi rr,rt]) (by simp[results,results157,go_sem]) rfl ⟨rfl,zBl⟩
 .go_enter func157,ntmps157;go_wp2_with fail;exact bodyPost_ret (v:=.agg #[true,ls,xi lr,lt]) (by simp[results,results157,go_sem]) rfl ⟨rfl,zBl⟩
structure CtK(k:Ctr):Prop where
 lo:0<=k.count
 up:k.count<=1000
 new:k.used=false->k.row=⟨#[]⟩
theorem yZz:CtK newC:=⟨Int.le_refl _,qj,λ_=>rfl⟩
theorem xA8(h:¬a=⟨#[]⟩):((⟨#[]⟩:ByteArray).toList==a.toList)=false:=by
 cases q:((⟨#[]⟩:ByteArray).toList==a.toList)
 .rfl
 .exact absurd (yDx.1 q).symm h
variable {n:Nd}
theorem yZ2{c:Ent}(hk:CtK k)(hr:¬c.row=⟨#[]⟩)(same:Bool)(hs:same=(k.row.toList==c.row.toList && (!decide (n.kind=11) || (k.fam.toList==c.fam.toList && k.qual.toList==c.qual.toList)))):yFy same k c=yC4 n k c:=by
 have h1:yPj n k c=same:=by
  unfold yPj eqB;cases hu:k.used
  .rw[hs,hk.new hu,xA8 hr];rfl
  .rw[hs];rfl
 unfold yFy yC4;rw[h1];rfl
theorem xDk{c:Ent}{same:Bool}(h:yFy same k c=yC4 n k c)(h13:¬n.kind=13):decide ((yFy same k c).count<n.n)=(yCh n k c).1/\yOk same k c n.n=(yCh n k c).2:=by
 unfold yOk yCh;rw[h];split
 .rename_i q;simp[q,h13]
 .rename_i q;simp[q,h13]
theorem xB8{c:Ent}{same:Bool}(h:yFy same k c=yC4 n k c)(h13:n.kind=13):(!decide ((yFy same k c).count<n.n))=(yCh n k c).1/\yOk same k c n.n=(yCh n k c).2:=by
 unfold yOk yCh;rw[h];split
 .rename_i q;simp[q,h13]
 .rename_i q;simp[q,h13]
theorem xE9{c:Ent}(hk:CtK k)(hn:n.n<=1000):CtK (yCh n k c).2:=by
 have he:CtK (yC4 n k c):=by
  unfold yC4;split
  .exact hk
  .exact⟨Int.le_refl _,by simp,λq=>by simp at q⟩
 unfold yCh;split
 .refine⟨?_,?_,λq=>he.new q⟩
  .have:=he.lo;simp only;omega
  .simp only;omega
 .exact he
theorem yY5 n k i c:yCh n k (yB i c)=yCh n k c:=by unfold yB;split<;>rfl
theorem yZn(p:ByteArray) n i c:yB4 p n (yB i c)=yB4 p n c:=by unfold yB;split<;>rfl
section
theorem yIn{α:Type}{f:α->List Value}{ty:Nat}{ops:Array Oper}{rest:List Oper}{o:Oper}{a:Act}{Q:Exit->Act->World->Prop}(hf:∀x,(f x).length=sz)(w:World)(hgd:o.guard=none) s x (sty:Nat)
  (ho:o.op=.call {callee:=.builtin .append,args:=#[s,x],argTypes:=#[sty,sty]}) (hst:prog.underlying sty=some (.slice ty)) {z:Value} {bytes:Nat} (hin:(prog.info? ty).map (λi=>(i.zero,i.size,i.bytes))=some (some z,sz,bytes)) (hz:z.cells.size=sz) (hsz:0<sz) (hby:bytes<=1000)
  (h1:∀x,∀u∈f x,u.oneCell'=true)
  (base:Nat) (v:Value) (b cx:Nat) (fs:List α) (e:α) (hs:a.eval s=v) (hx:a.eval x=(xg b 1 cx)) (hO:w.ownsRow base ty sz v fs.length (fs.flatMap f))
  (hc:∀j u,(f e)[j]?=some u->(xk w b j u:Prop)) (hlen:fs.length<=1000000) (hbase:base<=w.heap.size)
  (h:∀g' cp' w',OwnG f sz ty w' base g' cp' (fs++ [e])->w.grownBy w' v.ownBlock->(v.ownBlock=some g'\/g'=w.heap.size)->wpList prog ops Q rest (a.put o.dst (xg g' (fs.length+1) cp')) w'):wpList prog ops Q (o::rest) a w:=by
 obtain⟨i,hi,a2,a1,a0⟩:=info_parts hin;refine wpList_append_own_at w hgd s x sty ho base ty i _ sz bytes hst hi a2 a1 a0 hz hsz v fs.length (fs.flatMap f) hs hO (xd b 0) 1 cx (f e) hx (by rw[hf];omega) (λj u hu=>by rw[Addr.add_mid,Nat.zero_add];exact hc j u hu) (h1 e) ?_ ?_ hbase ?_
 .unfold maxLen;omega
 .have:=Nat.mul_le_mul (show fs.length+1<=1000001 by omega) hby;omega
 .intro v' w' hO' a4 a3 a5;rcases hO'.2 with⟨h0,_⟩|⟨g',a6,cur,hv,_,_,hn,a7,_,_⟩
  .have:=(a3.1 h0).2;cases this
  .subst hv;refine h g' a6 w' ?_ a4 ?_
   .exact xAm
   .rcases a5 with q|q
    .exact .inl q.symm
    .simp[Value.ownBlock]at q;exact .inr q
structure MchG where
 w0:World
 T:Nat->Prop
 S:Nat->Prop
 TI:World->Prop
 p:Nat
 base:Nat
 g:Nat
 cap:Nat
 nk:Nat
 mb:Nat
theorem Tryz.infoIti:(prog.info? 181).map (λi=>(i.zero,i.size,i.bytes))=some (some (yBl noH).v,4,32):=qk
abbrev xCd(w:World)(base g cap:Nat)(es:List It):Prop:=OwnG It.four 4 181 w base g cap es
abbrev yFj(w:World)(base g cap:Nat)(es:List Ctr):Prop:=OwnG Ctr.kc 4 240 w base g cap es
def RowS(w:World)(base:Nat)(v:Value)(m:List It):Prop:=w.ownsRow base 181 4 v m.length (m.flatMap It.four)
theorem RowS.cases{v:Value}(h:RowS w base v m):(v=xh/\m= [])\/∃g cp,v=(xg g m.length cp)/\xCd w base g cp m:=by
 rcases h.2 with⟨h0,h1⟩|⟨g',a0,cur,hv,rest⟩
 .refine .inl ⟨h0,?_⟩;have:m.length=0:=h1;exact length_eq_zero_iff.1 this
 .subst hv;exact .inr ⟨g',a0,rfl,h⟩
def LfQ(G:MchG)(x:Ix)(c:Ent)(i:It)(ks:List Ctr)(W:World)(e:Ending)(w':World):Prop:=
 e=.returned (leafI pfxB x c i ks).1.v/\Hid (yFj w' G.base G.g G.cap (leafI pfxB x c i ks).2/\(∀k∈(leafI pfxB x c i ks).2,CtK k)/\G.TI w'/\Chg (λq=>q=G.g\/G.T q) W w')
def xIf(G:MchG)(l:List Ix):Prop:=∀(at_:Nat)(x:Ix)(i:It)(c:Ent)(ks:List Ctr)(W:World),l[at_]?=some x->x.op=1->Chg G.S G.w0 W->G.TI W->yFj W G.base G.g G.cap ks->ks.length=G.nk->(∀k∈ks,CtK k)->¬c.row=⟨#[]⟩->
 Calls prog 156 #[.pointer (some ⟨G.p,at_*13,none⟩),i.v,c.c] W (LfQ G x c i ks W)
structure MaOk(G:MchG)(l:List Ix):Prop where
 stp:∀(at_:Nat)(x:Ix),l[at_]?=some x->xk G.w0 G.p (at_*13) (xi x.op)/\xk G.w0 G.p (at_*13+1) (xi x.a)/\xk G.w0 G.p (at_*13+2) (xi x.b)
 pl:G.p<G.w0.heap.size
 pS:¬G.S G.p
 ti:∀(S':Nat->Prop)(W W':World),G.TI W->Chg S' W W'->(∀q,S' q->q=G.g\/q=G.mb\/G.w0.heap.size<=q)->G.TI W'
 leaf:xIf G l
 gS:G.S G.g
 mS:G.S G.mb
 tS:∀q,G.T q->G.S q
 gl:G.g<G.w0.heap.size
 ml:G.mb<G.w0.heap.size
 tl:∀q,G.T q->q<G.w0.heap.size
 gm:¬G.g=G.mb
 tg:¬G.T G.g
 tm:¬G.T G.mb
structure McI(G:MchG)(N:Nat)(ks:List Ctr)(v:Value)(W:World):Prop where
 chg:Chg G.S G.w0 W
 ti:G.TI W
 ctr:yFj W G.base G.g G.cap ks
 len:ks.length=G.nk
 cb:∀k∈ks,CtK k
 box:yA W G.base 230 3 G.mb [xg G.p N N,xg G.g G.nk G.cap,v]
 stk:∃m,RowS W G.w0 v m
structure MkM(G:MchG)(L:LkG)(v0:Value)(m:List It)(gs cp:Nat)(ks:List Ctr)(wr:World):Prop where
 cel:yA wr L.w 70 5 L.w L.c.five
 res:yA wr L.w 181 4 (L.w+1) (yBl noH).four
 stk:xCd wr G.w0 gs cp m
 gsn:L.w.heap.size+1<gs\/(v0.ownBlock=some gs/\gs<L.w.heap.size)
 ti:G.TI wr
 ctr:yFj wr G.base G.g G.cap ks
 len:ks.length=G.nk
 cb:∀k∈ks,CtK k
 box:yA wr G.base 230 3 G.mb [xg G.p L.N L.N,xg G.g G.nk G.cap,v0]
 cnd:∀(i:Nat)(b:Bool),L.conds[i]?=some b->∃bc oc,L.ca=some ⟨bc,oc,none⟩/\xk wr bc (oc+i) b/\bc<L.w.heap.size/\¬bc=G.g/\¬G.T bc/\¬v0.ownBlock=some bc
 chg:Chg (λk=>k=G.g\/G.T k\/v0.ownBlock=some k) L.w wr
structure MaS(G:MchG)(L:LkG)(v0:Value):Prop where
 ok:MaOk G L.l
 chg:Chg G.S G.w0 L.w
 v0:∀k,v0.ownBlock=some k->G.w0.heap.size<=k/\k<L.w.heap.size
section
variable {G:MchG} {L:LkG} {v0:Value} {m:List It} {gs cp:Nat} {ks:List Ctr} {wr:World}
theorem MkM.all(h:MkM G L v0 m gs cp ks wr)(hS:MaS G L v0):Chg G.S G.w0 wr:=
 hS.chg.absorb h.chg (λj q=>by
  rcases q with q|q|q
  .subst q;exact .inl hS.ok.gS
  .exact .inl (hS.ok.tS _ q)
  .exact .inr (hS.v0 _ q).1)
theorem MkM.step(h:MkM G L v0 m gs cp ks wr)(hS:MaS G L v0){at_:Nat}(hx:L.l[at_]?=some x):xk wr G.p (at_*13) (xi x.op)/\xk wr G.p (at_*13+1) (xi x.a)/\xk wr G.p (at_*13+2) (xi x.b):=by obtain⟨a,b,c⟩:=hS.ok.stp at_ x hx;have hc:=h.all hS;exact⟨by rw[hc.cell (p:=(xd G.p _)) hS.ok.pl hS.ok.pS];exact a,by rw[hc.cell (p:=(xd G.p _)) hS.ok.pl hS.ok.pS];exact b,by rw[hc.cell (p:=(xd G.p _)) hS.ok.pl hS.ok.pS];exact c⟩
theorem MkM.on(h:MkM G L v0 m gs cp ks wr)(hS:MaS G L v0)(hb:Below wr wr W):MkM G L v0 m gs cp ks W:=by
 have hs:=h.chg.size
 exact {h with
  cel:=h.cel.below hb,res:=h.res.below hb,stk:=h.stk.below hb,ctr:=h.ctr.below hb,box:=h.box.below hb
  ti:=hS.ok.ti (λ_=>False) wr W h.ti (Chg.of_below hb) (λq z=>z.elim)
  cnd:=λi b hi=>by
   obtain⟨bc,oc,h1,h2,h3,h4⟩:=h.cnd i b hi
   exact⟨bc,oc,h1,((Chg.of_below hb (S:=λ_=>False)).cell (p:=(xd bc (oc+i))) (show bc<_ by omega) (λq=>q)).trans h2,h3,h4⟩
  chg:=h.chg.trans (Chg.of_below hb)}
theorem MkM.grow{gs' cp':Nat}(h:MkM G L v0 m gs cp ks wr)(hS:MaS G L v0)(hO:xCd w' G.w0 gs' cp' m')(hg:gs'=gs\/L.w.heap.size+1<gs')(hc:Chg (λk=>k=gs) wr w'):MkM G L v0 m' gs' cp' ks w':=by
 have hs:=h.chg.size;have hw:=hS.chg.size;have a0:=h.stk.lt;have h0:=h.gsn;have ok:=hS.ok;have h9:=ok.gl;have h8:=ok.ml
 exact {h with
  cel:=h.cel.chg hc qo,res:=h.res.chg hc qo,stk:=hO,ctr:=h.ctr.chg hc (by omega),box:=h.box.chg hc (by omega)
  gsn:=by
   rcases hg with rfl|q
   .exact h0
   .exact .inl q
  ti:=ok.ti (λk=>k=gs) wr w' h.ti hc (λq z=>.inr (.inr (by omega)))
  cnd:=λi b hi=>by
   obtain⟨bc,oc,h1,h2,h3,h4,h5,h6⟩:=h.cnd i b hi
   refine⟨bc,oc,h1,(hc.cell (p:=(xd bc (oc+i))) (show bc<_ by omega) ?_).trans h2,h3,h4,h5,h6⟩
   show¬bc=gs
   intro q
   subst q
   rcases h0 with q|⟨q,_⟩
   .omega
   .exact h6 q
  chg:=h.chg.absorb hc (λj q=>by
   subst q
   rcases h0 with q|⟨q,_⟩
   .exact .inr (by omega)
   .exact .inl (.inr (.inr q)))}
theorem MkM.leaf{ks':List Ctr}(h:MkM G L v0 m gs cp ks wr)(hS:MaS G L v0)(hO:yFj w' G.base G.g G.cap ks')(hl:ks'.length=ks.length)(hk:∀k∈ks',CtK k)(ht:G.TI w')(hc:Chg (λq=>q=G.g\/G.T q) wr w'):MkM G L v0 m gs cp ks' w':=by
 have hs:=h.chg.size;have hw:=hS.chg.size;have a1:=h.stk.lt;have ok:=hS.ok;have h9:=ok.gl;have h8:=ok.ml;have a0:∀k,G.w0.heap.size<=k->¬(k=G.g\/G.T k):=λk hk q=>by
  rcases q with q|q
  .omega
  .have:=ok.tl _ q;omega
 exact {h with
  cel:=h.cel.chg hc (a0 _ (by omega)),res:=h.res.chg hc (a0 _ (by omega)),stk:=h.stk.chg hc (a0 _ a1.1),ctr:=hO
  box:=h.box.chg hc (λq=>by
   rcases q with q|q
   .exact ok.gm q.symm
   .exact ok.tm q)
  len:=hl.trans h.len
  cb:=hk
  ti:=ht
  cnd:=λi b hi=>by
   obtain⟨bc,oc,h1,h2,h3,h4,h5,h6⟩:=h.cnd i b hi
   refine⟨bc,oc,h1,(hc.cell (p:=(xd bc (oc+i))) (show bc<_ by omega) ?_).trans h2,h3,h4,h5,h6⟩
   intro q
   rcases q with q|q
   .exact h4 q
   .exact h5 q
  chg:=h.chg.trans (hc.mono (λk q=>by
   rcases q with q|q
   .exact .inl q
   .exact .inr (.inl q)))}
end
def LooP(G:MchG)(L:LkG)(v0:Value)(e:Ending)(w':World):Prop:=
 ∃(i:It)(ks:List Ctr)(v:Value),LkR pfxB L.l L.c L.conds ⟨0,[newI],L.cs0⟩ (i,ks)/\e=.returned i.v/\McI G L.N ks v w'/\Chg (λq=>q=G.g\/q=G.mb\/G.T q\/v0.ownBlock=some q) L.w w'/\(v.ownBlock=v0.ownBlock\/∃k,v.ownBlock=some k/\L.w.heap.size<=k)
end
def yE0(es:List Ent)(i k:Nat):Bool:=(es[k]?.map λx=>x.row.toList)==(es[i]?.map λx=>x.row.toList)
def yLe(es:List Ent)(i:Nat):Nat->Nat->Nat
 |0,j=>j
 |f+1,j=>if j<es.length then(if yE0 es i j then yLe es i f (j+1)else j)else j
def rEnd(es:List Ent)(i:Nat):Nat:=yLe es i (es.length-i) i
structure yIt(es:List Ent)(i j:Nat):Prop where
 lt:i<j
 le:j<=es.length
 same:∀k,i<=k->k<j->yE0 es i k=true
 other:j<es.length->yE0 es i j=false
variable {j:Nat}
theorem yUw(h:yIt es i j):∀(f k:Nat),i<=k->k<=j->j-k<=f->yLe es i f k=j
 |0,k,_,hk,hf=>by unfold yLe;omega
 |f+1,k,h1,hk,hf=>by
  unfold yLe
  by_cases hkj:k=j
  .subst hkj
   by_cases hl:k<es.length
   .rw[if_pos hl,h.other hl];rfl
   .rw[if_neg hl]
  .have hlt:k<j:=qo
   rw[if_pos (qw h.le),h.same k h1 hlt,if_pos rfl]
   exact yUw h f (k+1) qo qo qo
theorem xEq(h:yIt es i j):rEnd es i=j:=yUw h _ i qr (Nat.le_of_lt h.lt) (qw h.le)
def yFx(es:List Ent):Nat->Nat->List (Nat×Nat)
 |0,_=> []
 |f+1,i=>if i<es.length then(i,rEnd es i)::yFx es f (rEnd es i)else []
def allC(es:List Ent)(i:Nat):List (Nat×Nat):=yFx es (es.length-i) i
theorem yMq(hE:∀i,i<es.length->i<rEnd es i):∀(f g i:Nat),es.length-i<=f->es.length-i<=g->yFx es f i=yFx es g i
 |0,0,i,_,_=>rfl
 |0,g+1,i,h1,_=>by unfold yFx;rw[if_neg qo]
 |f+1,0,i,_,h2=>by unfold yFx;rw[if_neg qo]
 |f+1,g+1,i,h1,h2=>by
  unfold yFx
  by_cases hi:i<es.length
  .rw[if_pos hi,if_pos hi]
   have:=hE i hi
   rw[yMq hE f g (rEnd es i) qo qo]
  .rw[if_neg hi,if_neg hi]
theorem yUv es (i:Nat):∀(f k:Nat),k<=yLe es i f k
 |0,k=>Nat.le_refl _
 |f+1,k=>by
  unfold yLe
  split
  .split
   .exact Nat.le_trans (le_succ k) (yUv es i f (k+1))
   .exact Nat.le_refl _
  .exact Nat.le_refl _
theorem ySj(hi:i<es.length):i<rEnd es i:=by unfold rEnd;obtain⟨f,hf⟩:∃f,es.length-i=f+1:=⟨es.length-i-1,qo⟩;rw[hf];unfold yLe;rw[if_pos hi,show yE0 es i i=true by simp[yE0],if_pos rfl];exact yUv es i f (i+1)
theorem yKx(h:yIt es i j):allC es i=(i,j)::allC es j:=by
 have hi:i<es.length:=qv h.lt h.le
 unfold allC;obtain⟨f,hf⟩:∃f,es.length-i=f+1:=⟨es.length-i-1,qo⟩;rw[hf];conv=>lhs;unfold yFx
 rw[if_pos hi,xEq h];rw[yMq (λi hi=>ySj hi) f (es.length-j) j (qw h.lt) qr]
theorem yRh(h:es.length<=i):allC es i= []:=by unfold allC;rw[show es.length-i=0 by omega];rfl
def segE(es:List Ent)(p:Nat×Nat):List Ent:=(es.take p.2).drop p.1
theorem CSl.seg{off:Nat}(h:CSl w b off cap es)(hij:i<=j)(hj:j<=es.length):CSl w b (off+i*5) (cap-i) (segE es (i,j)):=(h.take hj).drop (by rw[length_take];omega)
theorem yC9(hj:j<=es.length):(segE es (i,j)).length=j-i:=by unfold segE;rw[length_drop,length_take];simp only;omega
def segV(b off cap:Nat)(p:Nat×Nat):Value:=.slice (some ⟨b,off+p.1*5,none⟩) (p.2-p.1) (cap-p.1)
def yDk(w:World)(base g cp:Nat)(us:List Value):Prop:=w.ownsRow base 26 1 (xg g us.length cp) us.length us
variable {us:List Value}
theorem yDk.lt{g:Nat}(h:yDk w base g cp us):base<=g/\g<w.heap.size:=World.ownsRow.lt h g rfl
theorem yDk.below{g:Nat}(h:yDk w base g cp us)(hb:Below w w w'):yDk w' base g cp us:=yAh h (Chg.of_below hb) (S:=λ_=>False) (λk q z=>z)
theorem yDk.cell{g:Nat}(h:yDk w base g cp us){v:Value}(hv:us[j]?=some v):(xk w g j v:Prop):=by have:=World.ownsRow.cellAt h j (by have:=qf hv;omega);rw[this,hv]
theorem yYp(w:World)(hb:base<=w.heap.size):yDk (xw w #[] 26) base w 0 []:=
 World.ownsRow_made w #[] 0 hb (zero_le _) (by simp)
theorem Tryz.infoCs:(prog.info? 26).map (λi=>(i.zero,i.size,i.bytes))=some (some (.slice none 0 0),1,24):=qk
theorem yEt{ops:Array Oper}{rest:List Oper}{oo:Oper}{a:Act}{Q:Exit->Act->World->Prop}(w:World)(hgd:oo.guard=none) s x
  (ho:oo.op=.call {callee:=.builtin .append,args:=#[s,x],argTypes:=#[185,185]})
  (base gq cp n b:Nat) (us:List Value) (y:Value) (hs:a.eval s=(xg gq n cp)) (hx:a.eval x=.slice (some ⟨b,0,none⟩) 1 1) (hn:n=us.length) (hO:yDk w base gq cp us)
  (hc:w.cell? (xd b 0)=some y) (hy:y.oneCell'=true) (hlen:us.length<=1048576) (hbase:base<=w.heap.size)
  (h:∀g' cp' w',yDk w' base g' cp' (us++ [y])->w.grownBy w' (some gq)->(g'=gq\/g'=w.heap.size)->wpList prog ops Q rest (a.put oo.dst (.slice (some ⟨g',0,none⟩) (n+1) cp')) w'):wpList prog ops Q (oo::rest) a w:=by
 subst hn;obtain⟨i,hi,a4,a3,a2⟩:=info_parts Tryz.infoCs;refine wpList_append_own_at w hgd s x 185 ho base 26 i _ 1 24 underlying185 hi a4 a3 a2 rfl qj (xg gq us.length cp) us.length us hs hO (xd b 0) 1 1 [y] hx rfl ?_ ?_ ?_ ?_ hbase ?_
 .exact xAp
 .intro u hu;simp at hu;subst hu;exact hy
 .unfold maxLen;omega
 .omega
 .intro v' w' a1 a6 a5 a0;rcases a1.2 with⟨h0,_⟩|⟨g',a7,cur,hv,_,_,hn,a8,_,_⟩
  .have:=(a5.1 h0).1;cases this
  .subst hv;refine h g' a7 w' ?_ a6 ?_
   .unfold yDk;rw[length_append];exact a1
   .simp[Value.ownBlock]at a0;exact a0
theorem yS8{off:Nat}(h:CSl w b off cap es)(hl:es.length<=1048576):Calls prog 107 #[.slice (some ⟨b,off,none⟩) es.length cap] w λe w'=>∃g cp,e=.returned (xg g (allC es 0).length cp)/\yDk w' w g cp ((allC es 0).map (segV b off cap))/\Below w w w':=by
 obtain⟨N,hN⟩:=qE es.length;have HL:=qH2 h hN;have am:N<=cap:=by rw[hN];exact h.len
 have al:cap<=9223372036854775807:=by have:=h.cap;unfold maxLen at this;omega
 obtain⟨A,hA⟩:=qE (allC es 0);have HA:=qH1 hA;rw[<-hN,<-hA];rw[<-hN]at hl;have a9:Hid (yDk (xw w #[] 26) w w 0 []/\Below w w (xw w #[] 26)):=⟨yYp w qr,qB⟩;clear h hN hA;go_enter func107,ntmps107;go_wp2;go_loopw[3,4] (λo iv wr=>∃(i g cp m:Nat),i<=N/\iv=(xi i)/\o=(xg g m cp)/\m<=i/\Hid (∃P,A=P++allC es i/\m=P.length/\yDk wr w g cp (P.map (segV b off cap))/\Below w w wr)) (λ_ iv _=>N-(intOf iv).toNat);case atStart=>exact⟨0,w,0,0,zero_le _,rfl,rfl,Nat.le_refl _,[],HA.out,rfl,a9.1,a9.2⟩
 case round=>
  obtain⟨i,g,cp,m,ak,rfl,rfl,ai,HJ⟩:=hrel;by_cases hlt:i<N
  .have zi:(i:Int)<(N:Int):=qo
   obtain⟨c,hc⟩:∃c,es[i]?=some c:=qg (qw HL.2);have aa:=qH1 hc;obtain⟨P,hP⟩:=HJ.out;have HP:=qH1 hP;clear hP HJ hc;obtain⟨wo,ac⟩:=qW wr;subst ac;go_wp2;go_loopw[5] (λjv wx=>∃j:Nat,i<=j/\j<=N/\jv=(xi j)/\Hid ((∀k,i<=k->k<j->yE0 es i k=true)/\Below wo wo wx)) (λjv _=>N-(intOf jv).toNat);case atStart=>exact⟨i,Nat.le_refl _,qo,rfl,λk h1 h2=>qo,Below.refl _ _⟩
   case round=>
    obtain⟨j,hij,aj,rfl,HQ⟩:=hrel;have ab:=qH1 (HP.2.2.2.trans (HQ.2.mono HP.2.2.2.size));by_cases hjl:j<N
    .have zj:(j:Int)<(N:Int):=qo
     obtain⟨x,hx⟩:∃x,es[j]?=some x:=qg (qw HL.2);have f0:=((HL.1.below ab.out).at_ j x hx).1;have f1:=((HL.1.below ab.out).at_ i c aa.out).1;have a1:(λw':World=>xk w' b (off+j*5) x.row/\xk w' b (off+i*5) c.row) wr.drew:=⟨f0,f1⟩;have a0:=qH1 (HQ.2.trans (((Below.refl _ _).drew).mono HQ.2.size));have a8:Hid (yE0 es i j=(x.row.toList==c.row.toList)):=by show yE0 es i j=_;unfold yE0;rw[hx,aa.out];rfl
     clear f0 f1 hx;cases hr:(x.row.toList==c.row.toList)
     .have HE:Hid (yIt es i j):=by
       have h0:=a8.out;rw[hr]at h0;have ah:¬i=j:=λq=>by subst q;rw[show yE0 es i i=true by simp[yE0]]at h0;cases h0
       exact⟨qo,by rw[<-HL.2];omega,HQ.1,λ_=>h0⟩
      go_upto_region 5 with fail;refine yAf 99 (λw':World=>xk w' b (off+j*5) x.row/\xk w' b (off+i*5) c.row) qk ?_;refine ja 0 a1 ?_;iterate 16 refine jb a1 ?_
      refine qD ?_;have HX:Hid (A=(P++ [(i,j)])++allC es j):=by show _=_;rw[HP.1,yKx HE.out];simp
      have ae:=hij;have a7:Hid (m=(P.map (segV b off cap)).length):=by rw[length_map];exact HP.2.1
      have a3:=HP.2.2.2.size;have ad:=HP.2.2.1.lt;have af:=a0.size;go_wp2_with (at_builtin;refine yEt _ rfl _ _ rfl w g cp _ _ (P.map (segV b off cap)) (segV b off cap (i,j)) rfl rfl a7.out ?hO ?hc ?hy ?hl ?hb ?_);case hO=>exact(HP.2.2.1.below a0.out).below (qB)
      case hc=>simp[go_sem,segV]
      case hy=>rfl
      case hl=>(have h9:=HP.2.1;simp;omega)
      case hb=>exact le_succ_of_le (HP.2.2.2.trans (a0.mono a3)).size
      intro g' a5 w' a4 a2 a6;have HN:Hid (∃P',A=P'++allC es j/\m+1=P'.length/\yDk w' w g' a5 (P'.map (segV b off cap))/\Below w w w'):=by refine⟨P++ [(i,j)],HX.out,by rw[length_append,<-HP.2.1];rfl,by rw[map_append];exact a4,?_⟩;have k1:=HP.2.2.2.trans (a0.mono a3);have k2:=k1.alloc k1.size (Obj.cells #[segV b off cap (i,j)] 26);exact k2.grown a2 k2.size (λq hq=>by cases hq;omega)
      clear a4 a2 a6;go_wp2;go_roundw;case rel=>exact⟨j,g',a5,m+1,by omega,rfl,rfl,qw HE.lt,HN.out⟩
      case measure=>go_light;simp[intOf];have:=HE.lt;omega
     .have ag:Hid (∀k,i<=k->k<j+1->yE0 es i k=true):=λk h1 h2=>by
       by_cases hk:k=j
       .rw[hk,a8.out];exact hr
       .exact HQ.1 k h1 (by omega)
      go_upto_region 5 with fail;refine yAf 99 (λw':World=>xk w' b (off+j*5) x.row/\xk w' b (off+i*5) c.row) (by kernel_rfl) ?_;refine ja 0 a1 ?_;iterate 16 refine jb a1 ?_
      refine qD ?_;go_wp2;go_roundw;case rel=>exact⟨j+1,by omega,by omega,by go_num,ag.out,a0.out⟩
      case measure=>go_light;simp[intOf];omega
    .obtain rfl:j=N:=by omega
     have zj:¬(j:Int)<(j:Int):=by omega
     have a0:Hid (Below wo wo wr.drew):=HQ.2.trans (((Below.refl _ _).drew).mono HQ.2.size);have HE:Hid (yIt es i j):=⟨hlt,by rw[<-HL.2];omega,HQ.1,λq=>by rw[<-HL.2]at q;omega⟩;have a1:(λ_:World=>True) wr.drew:=trivial;go_upto_region 5 with fail;refine yAf 99 (λ_:World=>True) (by kernel_rfl) ?_;refine ja 0 a1 ?_;iterate 16 refine jb a1 ?_
     refine qD ?_;have HX:Hid (A=(P++ [(i,j)])++allC es j):=by show _=_;rw[HP.1,yKx HE.out];simp
     have ae:i<=j:=hij;have a7:Hid (m=(P.map (segV b off cap)).length):=by rw[length_map];exact HP.2.1
     have a3:=HP.2.2.2.size;have ad:=HP.2.2.1.lt;have af:=a0.size;go_wp2_with (at_builtin;refine yEt _ rfl _ _ rfl w g cp _ _ (P.map (segV b off cap)) (segV b off cap (i,j)) rfl rfl a7.out ?hO ?hc ?hy ?hl ?hb ?_);case hO=>exact(HP.2.2.1.below a0.out).below (qB)
     case hc=>simp[go_sem,segV]
     case hy=>rfl
     case hl=>(have h9:=HP.2.1;simp;omega)
     case hb=>exact le_succ_of_le (HP.2.2.2.trans (a0.mono a3)).size
     intro g' a5 w' a4 a2 a6;have HN:Hid (∃P',A=P'++allC es j/\m+1=P'.length/\yDk w' w g' a5 (P'.map (segV b off cap))/\Below w w w'):=by refine⟨P++ [(i,j)],HX.out,by rw[length_append,<-HP.2.1];rfl,by rw[map_append];exact a4,?_⟩;have k1:=HP.2.2.2.trans (a0.mono a3);have k2:=k1.alloc k1.size (Obj.cells #[segV b off cap (i,j)] 26);exact k2.grown a2 k2.size (λq hq=>by cases hq;omega)
     clear a4 a2 a6;go_wp2;go_roundw;case rel=>exact⟨j,g',a5,m+1,by omega,rfl,rfl,qw HE.lt,HN.out⟩
     case measure=>go_light;simp[intOf];have:=HE.lt;omega
  .obtain rfl:i=N:=by omega
   have zi:¬(i:Int)<(i:Int):=by omega
   obtain⟨P,hP⟩:=HJ.out;have HE:Hid (A=P/\m=P.length/\yDk wr w g cp (P.map (segV b off cap))/\Below w w wr):=⟨by rw[hP.1,yRh (by rw[<-HL.2];omega),append_nil],hP.2⟩;clear hP HJ;go_wp2;go_ret;refine⟨g,cp,?_,?_,HE.2.2.2⟩
   .rw[HE.1,<-HE.2.1];rfl
   .rw[HE.1];exact HE.2.2.1
structure LfJ(w:World)(n:Nd)(b off cap:Nat)(es:List Ent)(g cp:Nat)(L:List Ent)(wr:World):Prop where
 own:OwnC wr w g cp L
 box:yA wr w 83 7 w n.seven
 row:CSl wr b off cap es
 low:b<w.heap.size
 below:Below w w wr
theorem LfJ.set{off:Nat}{g:Nat}{L:List Ent}{X:World}(h:LfJ w n b off cap es g cp L X){k:Nat}(hk:w.heap.size<k)(hg:¬g=k)(j:Nat)(u:Value):LfJ w n b off cap es g cp L (xt X k j u):=by have hc:Chg (λq=>q=k) X (xt X k j u):=Chg.of_set _ _ _ _ rfl;have a0:=h.low;have hs:=h.below.size;exact⟨yAh h.own hc (λq z=>by simp[Value.ownBlock]at z;subst z;exact hg),h.box.chg hc qo,h.row.chg hc (by omega),a0,Chg.below h.below hc hs (λq z=>by omega)⟩
end Go.Proofs.YtnnagkfoiganfaaGreatDoor
