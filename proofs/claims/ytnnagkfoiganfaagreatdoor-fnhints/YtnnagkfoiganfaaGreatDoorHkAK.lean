import Derived.Test.YtnnagkfoiganfaaGreatDoorHkAH
import Derived.Test.YtnnagkfoiganfaaGreatDoorHkAI
namespace Go.Proofs.YtnnagkfoiganfaaGreatDoor
open Go.ChangeShapes Go.WideShapes Go.ChangeAt Go.RowKit Go.Deep XD XI XU XG XP XK XW XT XF XE XH _root_.List _root_.Nat XY Go.Maps Go.Proofs.Tryz
open _root_.And renaming intro->AE
open _root_.Bool renaming and_eq_true->AI,false_eq_true->AL,false_and->AQ,true_and->AS,true_or->AU,not_false->AW,not_true->AY,false_or->AZ
open _root_.Go renaming bodyPost_ret->AC,Ending->AK,below_drewN->AM
open _root_.Go.Fn renaming func->AD
open _root_.Go.Obj renaming cells->AF
open _root_.Go.Op renaming bytesLess->AB
open _root_.Go.World.ownsRow renaming stored->AA,frozenAt->Ab
open _root_.List renaming getElem?_set_self->AJ,drop_eq_getElem_cons->AN,length_take->AV,getElem?_eq_getElem->AX,drop_eq_nil_of_le->Aa,take_append_drop->Ac,set_append_right->Ad,takeWhile_cons->Ae,mem_cons->Af,reverse_append->Ag
open _root_.Nat renaming lt_of_lt_of_le->AH,le_refl->AO,reduceAdd->AT
open _root_.Option renaming ne_none_iff_exists'->AP,bind_eq_some_iff->AR
open _root_.Option.some renaming inj->AG
set_option linter.unusedVariables false
set_option linter.unusedSimpArgs false
set_option maxRecDepth 100000
set_option maxHeartbeats 64000000
variable {s a low:Ba} {conds:List Bool} {c y:Ent} {l:List Ix} {g sz off cp M at_ ty gs' cp':Nat} {mv H' u:Vv} {wy V w1 w2 W1:Ww} {L r vs:List Vv} {R:Ww->Ww->Prop} {fn:Func} {f:Nat->Bool} {en:PS} {E:Nat->PS} {mp:Option Addr} {tmps:Array Vv} {P:Program} {n':Nd} {same:Bool} {d cnt:Int} {ds ds':List Int} {q:Prop}
def MatB(p s:Ba)(b:Bool):Prop:=(¬(yA0 (sb p)).1=0/\b=false)\/((yA0 (sb p)).1=0/\∃n os,AltG (yAn n) os (sb p)/\(b=true↔s.size<=200/\LgA os (sb s)))
theorem MatB.one{p:Ba}{b c:Bool}(h:MatB p s b)(k:MatB p s c):b=c:=by
 rcases h with⟨h1,rfl⟩|⟨h1,n,os,h2,h3⟩
 .rcases k with⟨_,rfl⟩|⟨k1,_⟩
  .rfl
  .exact absurd k1 h1
 .rcases k with⟨k1,_⟩|⟨_,m,us,k2,k3⟩
  .exact absurd h1 k1
  .obtain rfl:=xDv h2 k2;rw[Bool.eq_iff_iff,h3,k3]
def SpeB(p s:Ba)(w:Ww)(e:AK)(w':Ww):Prop:=∃b:Bool,e=.returned b/\Hid (Below w w w'/\MatB p s b)
theorem yKu(p s:Ba) w (hpm:p.size<=maxLen):Calls prog 169 #[p,s] w (SpeB p s w):=by
 by_cases hc0:(yA0 (sb p)).1=0
 .have⟨os,ho⟩:=yQy p hc0;have⟨n,hg⟩:=ho.gr;have a0:cut (sb p) 0 p.size=sb p:=by unfold cut;rw[drop_zero,Nat.sub_zero,<-yAe,take_length]
  rw[a0]at hg;by_cases hs:s.size<=200
  .apply (yOa p s hpm hc0 hs n os hg w).mono;rintro e w' ⟨b,rfl,H,hb⟩;exact⟨b,rfl,hb,.inr ⟨hc0,n,os,hg,H.trans ⟨λq=>⟨hs,q⟩,λq=>q.2⟩⟩⟩
  .apply (yKt p s hpm qo w).mono;rintro e w' ⟨rfl,hb⟩;exact⟨false,rfl,hb,.inr ⟨hc0,n,os,hg,⟨λq=>(by cases q),λq=>absurd q.1 hs⟩⟩⟩
 .apply (yGz p s hpm hc0 w).mono;rintro e w' ⟨rfl,hb⟩;exact⟨false,rfl,hb,.inl ⟨hc0,rfl⟩⟩
open Classical in
noncomputable def mtB(p s:Ba):Bool:=decide (MatB p s true)
theorem yXj{p:Ba}{b:Bool}(h:MatB p s b):b=mtB p s:=by
 unfold mtB;cases b with
 |true=>exact(@decide_eq_true _ (Classical.propDecidable _) h).symm
 |false=>
  refine(@decide_eq_false _ (Classical.propDecidable _) λq=>?_).symm;have:=MatB.one h q;cases this
def lsB(a b:Ba):Bool:=AB a.toList b.toList
def inS(x:Ba)(n:Nd):Bool:= !(lsB x n.s) && (!n.hi || lsB x n.t)
noncomputable def tstB(n:Nd)(c:Ent):Bool:=
 if n.f=1\/n.f=3 then true else if n.f=4 then mtB n.s c.j else if n.f=5 then mtB n.s c.E else if n.f=6 then mtB n.s c.C else if n.f=7 then mtB n.s c.val
 else if n.f=8 then inS c.j n else if n.f=9 then inS c.C n else if n.f=10 then decide (n.lo<=c.ts) && (!n.hi || decide (c.ts<n.up))else false
structure Hn where
 rank:Int
 txt:Ba
structure It where
 H:Bool
 strip:Bool
 G:Hn
structure Ctr where
 used:Bool
 j:Ba
 E:Ba
 C:Ba
 count:Int
def noH:Hn:=⟨0,⟨#[]⟩⟩
def newI:It:=⟨true,false,noH⟩
def yBg(h:Hn):It:=⟨false,false,h⟩
def newC:Ctr:=⟨false,⟨#[]⟩,⟨#[]⟩,⟨#[]⟩,0⟩
def eqB(a b:Ba):Bool:=a.toList==b.toList
def famB(c x:Ent):Bool:=eqB x.j c.j && eqB x.E c.E
def yAz(h:Hn)(c x:Ent):Bool:=
 if h.rank=1 then famB c x && eqB x.C c.C else if h.rank=2 then famB c x && lsB x.C h.txt else if h.rank=3 then famB c x
 else if h.rank=4 then eqB x.j c.j else if h.rank=5 then lsB x.j h.txt else decide (h.rank=6)
def yN(a b:Hn):Hn:=if b.rank<a.rank\/(b.rank=a.rank/\lsB b.txt a.txt=true)then b else a
def yCl(x p:Ba):Bool:=decide (p.size<=x.size) && ((x.extract 0 p.size).toList==p.toList)
def yCa(p:Ba)(n:Nd)(c:Ent):Hn:=
 if n.f=2 then⟨6,⟨#[]⟩⟩
 else if n.f=4 then(if lsB c.j p=true then⟨5,p⟩else if yCl c.j p=true then⟨4,⟨#[]⟩⟩else⟨6,⟨#[]⟩⟩)
 else if n.f=5 then⟨3,⟨#[]⟩⟩
 else if n.f=6 then(if lsB c.C p=true then⟨2,p⟩else if yCl c.C p=true then⟨1,⟨#[]⟩⟩else⟨3,⟨#[]⟩⟩)
 else if n.f=8 then(if lsB c.j n.s=true then⟨5,n.s⟩else⟨6,⟨#[]⟩⟩)
 else if n.f=9 then(if lsB c.C n.s=true then⟨2,n.s⟩else⟨3,⟨#[]⟩⟩)
 else if n.f=10 then(if c.ts<n.lo then⟨1,⟨#[]⟩⟩else noH)
 else if n.f=11 then⟨1,⟨#[]⟩⟩
 else if n.f=12 then⟨4,⟨#[]⟩⟩
 else noH
def yOf(n:Nd)(k:Ctr)(c:Ent):Bool:=k.used && eqB k.j c.j && (!decide (n.f=11) || (eqB k.E c.E && eqB k.C c.C))
def yC2(n:Nd)(k:Ctr)(c:Ent):Ctr:=if yOf n k c=true then k else⟨true,c.j,c.E,c.C,0⟩
def yCm(n:Nd)(k:Ctr)(c:Ent):Bool×Ctr:=
 if(yC2 n k c).count<n.n then(decide (¬n.f=13),{yC2 n k c with count:=(yC2 n k c).count+1})else(decide (n.f=13),yC2 n k c)
def yBl(i:It)(c:Ent):Ent:=if i.strip=true then {c with val:=⟨#[]⟩}else c
noncomputable def leafI(P:Ba->Ba)(x:Ix)(c:Ent)(i:It)(cs:List Ctr):It×List Ctr:=
 if i.H=true then
  (let s:It:=⟨true,i.strip || decide (x.leaf.f=3),i.G⟩
   let d:It:=yBg (if x.free=true then yCa (P x.leaf.s) x.leaf c else noH)
   match (if x.leaf.f=11\/x.leaf.f=12\/x.leaf.f=13 then cs[x.a.toNat]? else none)with
   |some k=>(if(yCm x.leaf k c).1=true then s else d,cs.set x.a.toNat (yCm x.leaf k c).2)
   |none=>(if tstB x.leaf (yBl i c)=true then s else d,cs))
 else(i,cs)
def yRp(l r:It):It:=if l.H=true then l else if r.H=true then r else yBg (yN l.G r.G)
structure Lk where
 U:Nat
 st:List It
 cs:List Ctr
noncomputable def stepL(P:Ba->Ba)(c:Ent)(conds:List Bool)(x:Ix)(s:Lk):Lk:=
 if x.op=1 then(match s.st with
  |i::r=>⟨s.U+1,(leafI P x c i s.cs).1::r,(leafI P x c i s.cs).2⟩
  | []=>⟨s.U+1,[],s.cs⟩)
 else if x.op=2 then(match s.st with
  |i::r=>⟨s.U+1,i::i::r,s.cs⟩
  | []=>⟨s.U+1,[],s.cs⟩)
 else if x.op=3 then(match s.st with
  |i::j::r=>⟨s.U+1,j::i::r,s.cs⟩
  |r=>⟨s.U+1,r,s.cs⟩)
 else if x.op=4 then(match s.st with
  |i::j::r=>⟨s.U+1,yRp j i::r,s.cs⟩
  |r=>⟨s.U+1,r,s.cs⟩)
 else if x.op=5 then(if conds[x.a.toNat]?=some false then⟨x.b.toNat,s.st,s.cs⟩else⟨s.U+1,s.st,s.cs⟩)
 else if x.op=6 then⟨x.b.toNat,s.st,s.cs⟩
 else⟨s.U+1,s.st,s.cs⟩
inductive LkR(P:Ba->Ba)(l:List Ix)(c:Ent)(conds:List Bool):Lk->It×List Ctr->Prop
 |fin {s:Lk} {i:It} (h:¬s.U<l.length) (hs:s.st= [i]):LkR P l c conds s (i,s.cs)
 |step {s:Lk} {x:Ix} {r:It×List Ctr} (hx:l[s.U]?=some x) (h:LkR P l c conds (stepL P c conds x s) r):LkR P l c conds s r
variable {r':It×List Ctr}
theorem LkR.one{P:Ba->Ba}{s:Lk}{r:It×List Ctr}(h:LkR P l c conds s r)(k:LkR P l c conds s r'):r=r':=by
 induction h with
 |fin h hs=>cases k with
  |fin _ ks=>rw[hs]at ks;cases ks;rfl
  |step hx _=>exact absurd (qf hx) h
 |step hx _ ih=>cases k with
  |fin h _=>exact absurd (qf hx) h
  |step hx' k=>rw[hx]at hx';cases hx';exact ih k
structure yVy(l:List Ix)(d:Nat->Nat):Prop where
 start:d 0=1
 last:d l.length=1
 step:∀(k:Nat)(x:Ix),l[k]?=some x->1<=d k->(least x.op:Int)<=d k/\(d k:Int)+more x.op<=250/\∀j∈ways k x,((d j:Nat):Int)=d k+more x.op/\k<j/\j<=l.length
theorem yXv(P:Ba->Ba) x c i (cs:List Ctr):(leafI P x c i cs).2.length=cs.length:=by
 unfold leafI;split
 .dsimp only;split<;>simp
 .rfl
theorem yU8(x:Ba)(n:Nd)(w:Ww):(xf 170 #[x,n.v] w (inS x n):Prop):=by
 have⟨k,s,hi,t,lo,up,nn⟩:=n;unfold inS lsB;cases h1:AB x.toList s.toList<;>cases hi<;>cases h3:AB x.toList t.toList
 all_goals go_enter func170,ntmps170
 all_goals go_wp2
 all_goals go_ret
 all_goals exact⟨rfl,qB⟩
theorem yQm(p s:Ba)(w:Ww)(hp:p.size<=maxLen):(xf 169 #[p,s] w (mtB p s):Prop):=by apply (yKu p s w hp).mono;rintro e w' ⟨b,rfl,H⟩;rw[yXj H.2];exact⟨rfl,H.1⟩
theorem yRg(n:Nd)(c:Ent)(w:Ww)(hs:n.s.size<=maxLen):(xf 119 #[n.v,c.c] w (tstB n c):Prop):=by
 have⟨k,s,hi,t,lo,up,nn⟩:=n;have HM:Hid (∀(x:Ba)(w:Ww),(xf 169 #[s,x] w (mtB s x):Prop)):=λx w=>yQm s x w hs;have HS:Hid (∀(x:Ba)(w:Ww),(xf 170 #[x,.agg #[xi k,s,hi,t,xu lo,xu up,xi nn]] w (inS x ⟨k,s,hi,t,lo,up,nn⟩):Prop)):=λx w=>yU8 x _ w;have HB:Hid (∀wx:Ww,Below w w wx->Below w w wx):=λ_ h=>h;have⟨res,a1⟩:=qE (tstB ⟨k,s,hi,t,lo,up,nn⟩ c);have HR:=qH1 a1;rw[<-a1];have⟨W2,a0⟩:=qW (xw (w.alloc (.cells #[xi k,s,hi,t,xu lo,xu up,xi nn] 83)) #[c.j,c.E,c.C,xu c.ts,c.val] 70);have HW2:Hid (Below w w W2):=a0▸((qB).alloc (by simp) _)
 clear a1 hs;by_cases h1:k=1
 .subst h1;have hv:res=true:=HR.trans (by simp[tstB]);exact xC1
 have b1:=qn h1
 by_cases h3:k=3
 .subst h3;have hv:res=true:=HR.trans (by simp[tstB]);exact xC1
 have b3:=qn h3
 by_cases h4:k=4
 .subst h4;have hv:res=mtB s c.j:=HR.trans (by simp[tstB]);go_enter func119,ntmps119;go_wp2_with fail;rw[<-a0];clear a0;refine(HM.out c.j W2).mono ?_;exact yT7
 have b4:=qn h4
 by_cases h5:k=5
 .subst h5;have hv:res=mtB s c.E:=HR.trans (by simp[tstB]);go_enter func119,ntmps119;go_wp2_with fail;rw[<-a0];clear a0;refine(HM.out c.E W2).mono ?_;exact yT7
 have b5:=qn h5
 by_cases h6:k=6
 .subst h6;have hv:res=mtB s c.C:=HR.trans (by simp[tstB]);go_enter func119,ntmps119;go_wp2_with fail;rw[<-a0];clear a0;refine(HM.out c.C W2).mono ?_;exact yT7
 have b6:=qn h6
 by_cases h7:k=7
 .subst h7;have hv:res=mtB s c.val:=HR.trans (by simp[tstB]);go_enter func119,ntmps119;go_wp2_with fail;rw[<-a0];clear a0;refine(HM.out c.val W2).mono ?_;exact yT7
 have b7:=qn h7
 by_cases h8:k=8
 .subst h8;have hv:res=inS c.j ⟨8,s,hi,t,lo,up,nn⟩:=HR.trans (by simp[tstB]);go_enter func119,ntmps119;go_wp2_with fail;rw[<-a0];clear a0;refine(HS.out c.j W2).mono ?_;exact yT7
 have b8:=qn h8
 by_cases h9:k=9
 .subst h9;have hv:res=inS c.C ⟨9,s,hi,t,lo,up,nn⟩:=HR.trans (by simp[tstB]);go_enter func119,ntmps119;go_wp2_with fail;rw[<-a0];clear a0;refine(HS.out c.C W2).mono ?_;exact yT7
 have b9:=qn h9
 by_cases h10:k=10
 .subst h10;have hv:res=(decide (lo<=c.ts) && (!hi || decide (c.ts<up))):=HR.trans (by simp[tstB]);subst hv;by_cases g1:lo<=c.ts<;>cases hi<;>by_cases g2:c.ts<up
  all_goals simp only[g1,g2,decide_true,decide_false,AY,AW,AS,AQ,AU,AZ]
  all_goals go_enter func119,ntmps119
  all_goals go_wp2_with fail
  all_goals go_ret
  all_goals exact⟨rfl,(qB).alloc (by simp) _⟩
 have a2:=qn h10
 have hv:res=false:=HR.trans (by simp[tstB,h1,h3,h4,h5,h6,h7,h8,h9,h10]);exact xC1
abbrev Hn.v(h:Hn):Vv:=.agg #[xi h.rank,h.txt]
theorem up2(w:Ww)(a b:Obj):Below w w ((w.alloc a).alloc b):=(qB).alloc (by simp) _
theorem up3(w:Ww)(a b c:Obj):Below w w (((w.alloc a).alloc b).alloc c):=(up2 w a b).alloc (by simp;omega) _
abbrev It.four(i:It):List Vv:= [.bool i.H,.bool i.strip,.int .i64 i.G.rank,.string i.G.txt]
abbrev It.v(i:It):Vv:=.agg #[i.H,i.strip,xi i.G.rank,i.G.txt]
theorem yAd(i:It):i.four.length=4:=rfl
theorem yHc(i:It):∀u∈i.four,u.oneCell'=true:=λu hu=>by simp at hu;rcases hu with rfl|rfl|rfl|rfl<;>rfl
variable {p:Prop}
theorem zSk(h:p:=by go_enter func160,ntmps160;go_wp2;go_ret;exact⟨by simp,up3 w _ _ _⟩):p:=h
theorem zBl(h:p:=by repeat (first|exact Below.refl _ _|refine Below.alloc ?_ (by first|(simp;done)|(simp;omega)) _|refine yAc ?_ (by first|(simp;done)|(simp;omega)) _ _)):p:=h
theorem yQp(h:Hn)(c x:Ent)(w:Ww):(xf 160 #[h.v,c.c,x.c] w (yAz h c x):Prop):=by
 have⟨rk,tx⟩:=h;unfold yAz famB eqB lsB;obtain⟨e1,h1⟩:∃b,(x.j.toList==c.j.toList)=b:=⟨_,rfl⟩;obtain⟨e2,h2⟩:∃b,(x.E.toList==c.E.toList)=b:=⟨_,rfl⟩;obtain⟨e3,h3⟩:∃b,(x.C.toList==c.C.toList)=b:=⟨_,rfl⟩;obtain⟨e4,h4⟩:∃b,AB x.C.toList tx.toList=b:=⟨_,rfl⟩;obtain⟨e5,h5⟩:∃b,AB x.j.toList tx.toList=b:=⟨_,rfl⟩;rw[h1,h2,h3,h4,h5];by_cases k1:rk=1
 .subst k1;cases e1<;>cases e2<;>cases e3<;>exact zSk
 by_cases k2:rk=2
 .subst k2;cases e1<;>cases e2<;>cases e4<;>exact zSk
 by_cases k3:rk=3
 .subst k3;cases e1<;>cases e2<;>exact zSk
 by_cases k4:rk=4
 .subst k4;cases e1<;>cases e2<;>exact zSk
 by_cases k5:rk=5
 .subst k5;cases e1<;>cases e2<;>cases e5<;>exact zSk
 by_cases k6:rk=6
 .subst k6;cases e1<;>cases e2<;>exact zSk
 have z1:=qn k1
 have z2:=qn k2
 have z3:=qn k3
 have z4:=qn k4
 have z5:=qn k5
 have z6:=qn k6
 simp only[k1,k2,k3,k4,k5,k6,if_false,decide_false];cases e1<;>cases e2<;>exact zSk
theorem yXs{b:Ba}(h1:AB a.toList b.toList=false)(h2:AB b.toList a.toList=false):a=b:=by
 by_cases h3:(a.toList==b.toList)=true
 .have h4:=eq_of_beq h3;exact xFi
 .have h5:=yNs h1 (by simpa using h3);have h6:=yNs (a:=b) (b:=a) h2 (by
   have:¬(b.toList==a.toList)=true:=λq=>h3 (by rw[beq_iff_eq]at q|-;exact q.symm)
   simpa using this)
  have h7:=yY9 a b;omega
theorem yXr(a b:Hn):(if a.rank<b.rank\/(a.rank=b.rank/\lsB a.txt b.txt=true)then a else b)=yN a b:=by
 have⟨ar,at_⟩:=a;have⟨br,bt⟩:=b;unfold yN lsB;simp only;by_cases h1:ar<br
 .rw[iB (.inl h1),iA qo]
 .by_cases h2:br<ar
  .rw[iA (λq=>q.elim (λz=>qo) (λz=>qo)),iB (.inl h2)]
  .obtain rfl:ar=br:=qo
   cases h3:AB at_.toList bt.toList
   .rw[iA (by simp)];cases h4:AB bt.toList at_.toList
    .rw[iA (by simp),yXs h3 h4]
    .rw[iB (.inr ⟨rfl,rfl⟩)]
   .rw[iB (.inr ⟨rfl,rfl⟩),iA];rintro(q|⟨_,q⟩)
    .omega
    .have h5:=yNt h3;have h6:=yNt q;have h7:=yY9 at_ bt;omega
theorem yO1(a b:Hn)(w:Ww):(xf 201 #[a.v,b.v] w (yN a b).v:Prop):=by
 rw[<-yXr];have⟨ar,at_⟩:=a;have⟨br,bt⟩:=b;unfold lsB;simp only;by_cases h1:ar<br
 .rw[iB (.inl h1)];exact xF2
 .by_cases h2:ar=br
  .subst h2;cases h3:AB at_.toList bt.toList
   .rw[iA (by simp)];go_enter func201,ntmps201;go_wp2;exact AC (v:=.agg #[xi ar,bt]) (by simp[results,results201,go_sem]) rfl ⟨rfl,zBl⟩
   .rw[iB (.inr ⟨rfl,rfl⟩)];exact xF2
  .have z2:(ar==br)=false:=by rw[iC];exact h2
   rw[iA (λq=>q.elim h1 (λz=>h2 z.1))];go_enter func201,ntmps201;go_wp2;exact AC (v:=.agg #[xi br,bt]) (by simp[results,results201,go_sem]) rfl ⟨rfl,zBl⟩
theorem yLk(h:Hn)(c:Ent)(w:Ww):(xf 190 #[h.v,c.c] w h.v:Prop):=by go_enter func190,ntmps190;go_wp2;exact AC (v:=h.v) (by simp[results,results190,go_sem]) rfl ⟨rfl,zBl⟩
theorem yJj(i:It)(c:Ent)(w:Ww):(xf 106 #[i.v,c.c] w (yBl i c).c:Prop):=by
 unfold yBl;cases h:i.strip
 .rw[iA (by simp)];go_enter func106,ntmps106;go_wp2;exact AC (v:=c.c) (by simp[results,results106,go_sem]) rfl ⟨rfl,zBl⟩
 .rw[iB rfl];go_enter func106,ntmps106;go_wp2;exact AC (v:=.agg #[c.j,c.E,c.C,xu c.ts,xe]) (by simp[results,results106,go_sem]) rfl ⟨rfl,zBl⟩
noncomputable def pfxR(s:Ba):List U8×Bool:=Classical.choose (yJo s)
theorem yWy(s:Ba):yT4 s (pfxR s):=Classical.choose_spec (yJo s)
noncomputable def pfxB(s:Ba):Ba:=⟨(pfxR s).1.toArray⟩
abbrev Ctr.kc(k:Ctr):List Vv:= [.string k.j,.string k.E,.string k.C,.int .i64 k.count]
theorem yIg(k:Ctr):k.kc.length=4:=rfl
structure CkA(w:Ww)(O t g cap:Nat)(ks:List Ctr)(i:Nat)(k:Ctr)(most:Int):Prop where
 j:OwnG Ctr.kc 4 240 w O g cap ks
 U:ks[i]?=some k
 p:(xk w t 0 (.pointer (some ⟨g,i*4,none⟩)):Prop)
 m:(xk w t 1 (xi most):Prop)
 tl:t<w.heap.size
 ne:¬t=g
variable {ks:List Ctr}
variable {w:Ww} {O t cap:Nat} {most:Int}
theorem CkA.cells{i:Nat}{k:Ctr}(h:CkA w O t g cap ks i k most):xk w g (i*4) k.j/\xk w g (i*4+1) k.E/\xk w g (i*4+2) k.C/\xk w g (i*4+3) (xi k.count):=
 ⟨h.j.z yIg h.U 0 qj,h.j.z yIg h.U 1 qj,h.j.z yIg h.U 2 qj,h.j.z yIg h.U 3 qj⟩
theorem CkA.frozen{i:Nat}{k:Ctr}(h:CkA w O t g cap ks i k most)(j:Nat):w.frozen? (xd g j)=false:=Ab h.j j
variable {W:Ww}
theorem CkA.on{i:Nat}{k:Ctr}(h:CkA w O t g cap ks i k most)(hb:Below w w W):CkA W O t g cap ks i k most:=
 ⟨h.j.k hb,h.U,by rw[hb.cell (p:=(xd t 0)) h.tl];exact h.p,by rw[hb.cell (p:=(xd t 1)) h.tl];exact h.m,qv hb.size h.tl,h.ne⟩
theorem CkA.count{i:Nat}{k:Ctr}(h:CkA w O t g cap ks i k most)(v:Int):CkA (xt w g (i*4+3) (xi v)) O t g cap (ks.set i {k with count:=v}) i {k with count:=v} most:=by
 have hc:Chg (λq=>q=g) w (xt w g (i*4+3) (xi v)):=Chg.D _ _ _ _ rfl;have hi:i<ks.length:=qf h.U;have h1:=(AA h.j (i*4+3) (xi v)).1;rw[yHv yIg ks i k {k with count:=v} 3 _ h.U (by decide) rfl]at h1;refine⟨by unfold OwnG;rw[length_set];exact h1,by rw[AJ hi],?_,?_,qv hc.size h.tl,h.ne⟩
 .rw[hc.z (p:=(xd t 0)) h.tl h.ne];exact h.p
 .rw[hc.z (p:=(xd t 1)) h.tl h.ne];exact h.m
def TkP(O t g cap:Nat)(ks:List Ctr)(i:Nat)(k:Ctr)(most:Int)(w:Ww)(e:AK)(w':Ww):Prop:=
 e=.returned (decide (k.count<most))/\CkA w' O t g cap (if k.count<most then ks.set i {k with count:=k.count+1}else ks) i (if k.count<most then {k with count:=k.count+1}else k) most/\Chg (λq=>q=g) w w'
theorem yLh{i:Nat}{k:Ctr}(h:CkA w O t g cap ks i k most)(hc:0<=k.count/\k.count<=1000000):
  Calls prog 217 #[xp t] w (TkP O t g cap ks i k most w):=by
 have HC:=qH1 h;have p0:=h.p;have p1:=h.m;have⟨_,_,_,c3⟩:=h.cells;have f3:=h.frozen (i*4+3);obtain⟨ct,a0⟩:∃ct,k.count=ct:=⟨_,rfl⟩;obtain⟨o,ho⟩:∃o,i*4=o:=⟨_,rfl⟩;have HO:=qH2 ho a0;rw[a0]at c3 hc;rw[ho]at p0 c3 f3;by_cases hl:ct<most
 .have z:¬most<=ct:=qo
  have HR:Hid (∀q,TkP O t g cap ks i k most w (.returned true) (xt (w.drewN q) g (o+3) (xi (ct+1)))):=λq=>by have h9:=(HC.on (AM (Below.refl _ _) q)).count (ct+1);rw[HO.1]at h9;unfold TkP;rw[HO.2,iB hl,iB hl];exact⟨by simp[hl],h9,(Chg.h (AM (Below.refl _ _) q)).trans (Chg.D (S:=λq=>q=g) _ _ _ _ rfl)⟩
  exact xBp
 .have z:most<=ct:=qo
  have HR:Hid (∀q,TkP O t g cap ks i k most w (.returned false) (w.drewN q)):=λq=>by unfold TkP;rw[HO.2,iA hl,iA hl];exact⟨by simp[hl],HC.on (AM (Below.refl _ _) q),Chg.h (AM (Below.refl _ _) q)⟩
  exact xBp
theorem zHp(h:p:=by go_enter func248,ntmps248;go_wp2;go_ret;exact⟨by simp[h,e1],rfl⟩):p:=h
theorem yO0(x p:Ba) w:Calls prog 248 #[x,p] w λe w'=>e=.returned (yCl x p)/\w'=w:=by
 unfold yCl;by_cases h:p.size<=x.size
 .have z:(p.size:Int)<=(x.size:Int):=qo
  have z2:¬(x.size:Int)<(p.size:Int):=qo
  cases e1:((x.extract 0 p.size).toList==p.toList)<;>exact zHp
 .have z:¬(p.size:Int)<=(x.size:Int):=qo
  have z2:(x.size:Int)<(p.size:Int):=qo
  have e1:=h;exact zHp
theorem yRs(x p:Ba) w:Calls prog 236 #[x,p] w λe w'=>e=.returned (yCl x p)/\w'=w:=by
 have⟨b,hb⟩:=qE (yCl x p);have HL:Hid (Calls prog 248 #[x,p] w λe w'=>e=.returned b/\w'=w):=hb▸(yO0 x p w)
 rw[<-hb];clear hb;go_enter func236,ntmps236;go_wp2_with fail;apply HL.mono;rintro e w1 ⟨rfl,rfl⟩;go_wp2;go_ret;exact⟨rfl,rfl⟩
structure LfA(w:Ww)(t:Nat)(n:Nd)(mv:Vv)(low:Ba):Prop where
 lo:(xk w t 4 (xu n.lo):Prop)
 mt:(xk w t 7 mv:Prop)
 low:(xk w t 8 low:Prop)
 lt:t<w.heap.size
variable {n:Nd}
theorem LfA.on(h:LfA w t n mv low)(hb:Below w w W):LfA W t n mv low:=
 ⟨by rw[hb.cell (p:=(xd t 4)) h.lt];exact h.lo,by rw[hb.cell (p:=(xd t 7)) h.lt];exact h.mt,by rw[hb.cell (p:=(xd t 8)) h.lt];exact h.low,qv hb.size h.lt⟩
def txtH(low:Ba)(m:Bool)(s:Ba)(b a p:Int):Hn:=if lsB s low=true then⟨b,low⟩else if(m && yCl s low)=true then⟨a,⟨#[]⟩⟩else⟨p,⟨#[]⟩⟩
def mvB(mv:Vv)(m:Bool):Prop:=(mv=.pointer none/\m=false)\/(∃M,mv=(xp M)/\m=true)
theorem zTh(h:p:=by exact bodyPost_ret (v:=H.v) (by simp[results,results220,go_sem,hH]) rfl ⟨rfl,zBl⟩):p:=h
variable {m:Bool}
theorem yGu(h:LfA w t n mv low)(hm:mvB mv m)(s:Ba)(b a p:Int):
  (xf 220 #[xp t,s,xi b,xi a,xi p] w (txtH low m s b a p).v:Prop):=by
 have a2:=h.lt;have c7:=h.mt;have c8:=h.low;have a1:¬t=w.heap.size:=qo
 have HP:Hid (∀wz,Calls prog 236 #[s,low] wz λe w'=>e=.returned (yCl s low)/\w'=wz):=λwz=>yRs s low wz;have⟨H,hHd⟩:=qE (txtH low m s b a p);rw[<-hHd];unfold txtH lsB at hHd;cases e1:AB s.toList low.toList
 .rw[e1]at hHd;simp only[AL,if_false]at hHd;obtain⟨bg,a0⟩:∃bg,yCl s low=bg:=⟨_,rfl⟩;rw[a0]at HP hHd;rcases hm with⟨rfl,rfl⟩|⟨M,rfl,rfl⟩
  .simp only[AQ,AL,if_false]at hHd;have hH:=hHd;go_enter func220,ntmps220;go_wp2;exact zTh
  .simp only[AS]at hHd;cases bg
   .simp only[AL,if_false]at hHd;exact xFw
   .simp only[if_true]at hHd;exact xFw
 .rw[e1]at hHd;simp only[if_true]at hHd;have hH:=hHd;go_enter func220,ntmps220;go_wp2;exact zTh
def entC(c:Ent):Ctr:=⟨true,c.j,c.E,c.C,0⟩
theorem CkA.put{i:Nat}{k:Ctr}(h:CkA w O t g cap ks i k most)(k':Ctr)(hW:W=setCs w g (i*4) k'.kc):CkA W O t g cap (ks.set i k') i k' most/\Chg (λq=>q=g) w W:=by
 have hc:Chg (λq=>q=g) w W:=hW▸(yAo (S:=λq=>q=g) _ rfl _ _ _)
 have hi:=qf h.U;refine⟨⟨by rw[hW];exact h.j.setAll yIg hi,by rw[AJ hi],?_,?_,by have:=hc.size;have:=h.tl;omega,h.ne⟩,hc⟩
 .rw[hc.z (p:=(xd t 0)) h.tl h.ne];exact h.p
 .rw[hc.z (p:=(xd t 1)) h.tl h.ne];exact h.m
def EnP(O t g cap:Nat)(ks:List Ctr)(i:Nat)(k:Ctr)(most:Int)(c:Ent)(same:Bool)(w:Ww)(e:AK)(w':Ww):Prop:=
 e=.returned (.tuple #[])/\CkA w' O t g cap (if same=true then ks else ks.set i (entC c)) i (if same=true then k else entC c) most/\Chg (λq=>q=g) w w'
structure EnI(O t g cap:Nat)(ks:List Ctr)(i:Nat)(k:Ctr)(most:Int)(c:Ent)(b:Nat)(w wx:Ww):Prop where
 ck:CkA wx O t g cap ks i k most
 A:yA wx b 70 5 b c.five
 k:Below w w wx
variable {b:Nat} {wx:Ww}
theorem EnI.on{i:Nat}{k:Ctr}(h:EnI O t g cap ks i k most c b w wx)(hb:Below wx wx wy):EnI O t g cap ks i k most c b w wy:=⟨h.ck.on hb,h.A.k hb,h.k.trans (hb.mono h.k.size)⟩
variable {o:Nat}
theorem EnI.S{i:Nat}{k:Ctr}(h:EnI O t g cap ks i k most c b w wx)(ho:i*4=o):xk wx t 0 (.pointer (some ⟨g,o,none⟩))/\xk wx b 0 c.j/\xk wx b 1 c.E/\xk wx b 2 c.C/\xk wx b 3 (xu c.ts)/\xk wx b 4 c.val:=
 ⟨by rw[<-ho];exact h.ck.p,h.A.z (j:=0) rfl,h.A.z (j:=1) rfl,h.A.z (j:=2) rfl,h.A.z (j:=3) rfl,h.A.z (j:=4) rfl⟩
theorem EnI.fin{i:Nat}{k:Ctr}(h:EnI O t g cap ks i k most c b w wx)(hV:V=setCs wx g (i*4) (entC c).kc):EnP O t g cap ks i k most c false w (.returned (.tuple #[])) V:=by have⟨h1,h2⟩:=h.ck.put (entC c) hV;exact⟨rfl,h1,(Chg.h h.k).trans h2⟩
theorem enter_core'{i:Nat}{k:Ctr}(h:CkA w O t g cap ks i k most)(c:Ent)(same:Bool):
  Calls prog 215 #[xp t,c.c,same] w (EnP O t g cap ks i k most c same w):=by
 have⟨W1,a1⟩:=qE (xw w #[c.j,c.E,c.C,xu c.ts,c.val] 70:Ww);have a4:=qN a1
 have H1:Hid (CkA W1 O t g cap ks i k most/\Below w w W1/\∀q,yA (W1.drewN q) w 70 5 w c.five):=⟨h.on a4,a4,λq=>by
  have h9:yA W1 w 70 5 w c.five:=a1▸(yAa w _ qr rfl)
  exact h9.k (AM (Below.refl _ _) q)⟩
 have⟨b,hb⟩:=qE w.heap.size;obtain⟨o,ho⟩:∃o,i*4=o:=⟨_,rfl⟩;have HO:Hid (i*4=o):=ho;have a5:Hid (EnI O t g cap ks i k most c b w W1.drew):=⟨H1.1.on ((Below.refl _ _).drew),by rw[hb];exact H1.2.2 1,H1.2.1.trans (((Below.refl _ _).drew).mono H1.2.1.size)⟩;have a7:Hid (∀wz,(xf 99 #[c.c] wz (putE c).v:Prop)):=λwz=>yCv c wz;have a6:Hid (∀wz,(xf 216 #[(putE c).v] wz (.agg #[c.j,c.E,c.C]):Prop)):=λwz=>yH0 (putE c) wz;cases same
 .go_enter func215,ntmps215;go_upto_region 1 with fail;rw[<-a1];clear a1;go_upto_region 2 with fail;rw[<-hb];clear hb;have hS0:SW (λwz:Ww=>xk wz t 0 (.pointer (some ⟨g,o,none⟩))/\xk wz b 0 c.j/\xk wz b 1 c.E/\xk wz b 2 c.C/\xk wz b 3 (xu c.ts)/\xk wz b 4 c.val) W1.drew:=a5.S HO.out;refine wpR 9 hS0 ?_;refine ja 0 hS0 ?_;refine ja 4 hS0 ?_;refine yB0 (i:=1) (j:=5) qk rfl rfl (λK hK=>?_) (λK hK=>?_)
  .skip;obtain⟨z0,z1,z2,z3,z4,z5⟩:=hS0;have hS0:=AE z0 (AE z1 (AE z2 (AE z3 (AE z4 z5))));go_simp;refine hK.out _ _ (.inr hS0) (jS ?_);clear hK;refine ja 2 hS0 ?_;refine jb hS0 ?_;refine qO 5 rfl λK hK=>?_;go_simp;refine(a7.out _).mono ?_;rintro e wa ⟨rfl,a3⟩;have a2:=qH1 (a5.on a3);clear hS0 a3;have hS0:=a2.S HO.out;refine hK.out _ _ (.inr hS0) (jS ?_);clear hK;exact zzU6
  .skip;go_simp;refine(a7.out _).mono ?_;rintro e wa ⟨rfl,a3⟩;have a2:=qH1 (a5.on a3);clear hS0 a3;have hS0:=a2.S HO.out;refine hK.out _ _ (.inr hS0) (jS ?_);clear hK;refine yB0 (i:=1) (j:=6) qk rfl rfl (λK hK=>?_) (λK hK=>?_)
   .skip;obtain⟨z0,z1,z2,z3,z4,z5⟩:=hS0;have hS0:=AE z0 (AE z1 (AE z2 (AE z3 (AE z4 z5))));go_simp;refine hK.out _ _ (.inr hS0) (jS ?_);clear hK;refine ja 2 hS0 ?_;refine jb hS0 ?_;exact zzU6
   .skip;go_simp;refine(a6.out _).mono ?_;rintro e wb ⟨rfl,a0⟩;have HKwb:=qH1 (a2.on a0);clear hS0 a0;have hS0:=HKwb.S HO.out;refine hK.out _ _ (.inr hS0) (jS ?_);clear hK;refine ja 7 hS0 ?_;refine qO 1 rfl λK hK=>?_;obtain⟨z0,z1,z2,z3,z4,z5⟩:=hS0;have hS0:=AE z0 (AE z1 (AE z2 (AE z3 (AE z4 z5))));go_simp;refine hK.out _ _ (.inr hS0) (jS ?_);clear hK;refine ja 2 hS0 ?_;refine jb hS0 ?_;exact xGo
 .have HR:Hid (EnP O t g cap ks i k most c true w (.returned (.tuple #[])) W1):=⟨rfl,H1.1,Chg.h H1.2.1⟩;go_enter func215,ntmps215;go_upto_region 1 with fail;rw[<-a1];clear a1;go_wp2_with fail;exact bodyPost_end (results_none rfl _ _ _) rfl HR.out
abbrev Hn.two(h:Hn):List Vv:= [.int .i64 h.rank,.string h.txt]
theorem zRq (h:p:=by
 apply (HT.out _ zBl).mono;rintro e w1 ⟨rfl,hb1⟩;rw[<-hW0]at hb1;have⟨V,hV⟩:=qW (setCs w1 (w+1) 0 H.two);have hbx:=H0.1.k hb1;have⟨x0,x1⟩:=hbx.c2;have fz:=hbx.frozen;have hc:Chg (λq=>q=w.heap.size+1) w1 V:=hV▸(yAo (S:=λq=>q=w.heap.size+1) _ rfl _ _ _)
 have hbV:yA V w 179 2 (w+1) H.two:=hV▸(yB4 (v:=(xg (w+1) 1 1)) rfl ⟨1,rfl⟩ _ 0 w1 _ hbx)
 obtain⟨v0,v1⟩:=hbV.c2;have HB:Hid (Below w w V):=by have h1:=H0.2.trans (hb1.mono H0.2.size);exact Chg.k h1 hc h1.size (λq e=>qo)
 simp only[setCs,Nat.reduceAdd]at hV;go_wp2;rw[<-hV];exact bodyPost_ret (v:=H.v) (by simp[results,hr,go_sem,v0,v1]) rfl ⟨rfl,HB.out⟩):p:=h
theorem zRw (h:p:=by
 have z:(w.alloc (Obj.cells #[c.j,c.E,c.C,xu c.ts,c.val] 70)).heap.size=w.heap.size+1:=by simp
 refine⟨?_,by rw[hW0];exact(qB).alloc (by simp) _⟩;rw[hW0,<-z];exact yAa _ _ qo rfl):p:=h
theorem yOl(h:LfA w t n mv low)(hm:mvB mv m)(c:Ent):
  (xf 194 #[xp t,c.c] w (txtH low m c.j 5 4 6).v:Prop):=by
 have⟨H,hH⟩:=qE (txtH low m c.j 5 4 6);have HT:Hid (∀W,Below w w W->(xf 220 #[xp t,c.j,xi 5,xi 4,xi 6] W H.v:Prop)):=λW hb=>hH▸(yGu (h.on hb) hm c.j 5 4 6)
 have hr:=results194;have⟨W0,hW0⟩:=qW (xw (w.alloc (AF #[c.j,c.E,c.C,xu c.ts,c.val] 70)) #[xi 0,xe] 179);have H0:Hid (yA W0 w 179 2 (w+1) [xi 0,xe]/\Below w w W0):=by exact zRw
 rw[<-hH];clear hH;go_enter func194,ntmps194;go_wp2_with fail;exact zRq
theorem yMu(h:LfA w t n mv low)(hm:mvB mv m)(c:Ent):
  (xf 195 #[xp t,c.c] w (txtH low m c.C 2 1 3).v:Prop):=by
 have⟨H,hH⟩:=qE (txtH low m c.C 2 1 3);have HT:Hid (∀W,Below w w W->(xf 220 #[xp t,c.C,xi 2,xi 1,xi 3] W H.v:Prop)):=λW hb=>hH▸(yGu (h.on hb) hm c.C 2 1 3)
 have hr:=results195;have⟨W0,hW0⟩:=qW (xw (w.alloc (AF #[c.j,c.E,c.C,xu c.ts,c.val] 70)) #[xi 0,xe] 179);have H0:Hid (yA W0 w 179 2 (w+1) [xi 0,xe]/\Below w w W0):=by exact zRw
 rw[<-hH];clear hH;go_enter func195,ntmps195;go_wp2_with fail;exact zRq
theorem zYx(h:p:=by intro wz hSw;obtain⟨z0,z1⟩:=hSw;go_simp;(try with_reducible rfl)):p:=h
theorem zTs (h:p:=by
 go_enter func196,ntmps196;go_upto_region 1 with fail;rw[<-hW0];refine yAf 99 (λwz:Ww=>xk wz t 4 (xu n.lo)/\xk wz w 3 (xu c.ts)) qk ?_;refine qT 0 ?v0x rfl ?y0x hS0 ?_;case y0x=>exact zYx
 refine jS ?_;refine qT 1 ?v1x rfl ?y1x hS0 ?_;case y1x=>exact zYx
 refine jS ?_;refine qT 2 ?v2x rfl ?y2x hS0 ?_;case y2x=>exact zYx
 refine jS ?_;refine qT 3 ?v3x rfl ?y3x hS0 ?_;case y3x=>exact zYx
 refine jS ?_;refine qT 4 ?v4x rfl ?y4x hS0 ?_;case y4x=>exact zYx
 refine jS ?_;refine qT 5 ?v5x rfl ?y5x hS0 ?_;case y5x=>exact zYx
 refine jS ?_;refine qT 6 ?v6x rfl ?y6x hS0 ?_;case y6x=>exact zYx
 refine jS ?_;refine qT 7 ?v7x rfl ?y7x hS0 ?_;case y7x=>exact zYx
 refine jS ?_;refine qT 8 bv rfl ?y8x hS0 ?_;case y8x=>(intro wz hSw;obtain⟨z0,z1⟩:=hSw;rw[hb2];go_simp;(try simp[e1]))
 try simp only[qA,getElem_toArray,getElem_cons_zero,getElem_cons_succ]
 refine qD ?_;rw[hb2];obtain⟨Y,hY⟩:=qW W0.drew;have hbx:=H0.1.k ((Below.refl W0 W0).drew);have h1:=H0.2.drew;rw[<-hY]at hbx h1|-;clear hY hS0;obtain⟨V,hV⟩:=qW (setCs Y (w+1) 0 H.two);obtain⟨x0,x1⟩:=hbx.c2;have fz:=hbx.frozen;have hc:Chg (λq=>q=w.heap.size+1) Y V:=by rw[hV];exact yAo (S:=λq=>q=w.heap.size+1) _ rfl _ _ _
 have hbV:yA V w 179 2 (w+1) H.two:=by rw[hV];exact yB4 (v:=(xg (w+1) 1 1)) rfl ⟨1,rfl⟩ _ 0 Y _ hbx
 obtain⟨v0,v1⟩:=hbV.c2;have HB:Hid (Below w w V):=by exact Chg.k h1 hc h1.size (λq e=>qo)
 rw[hH]at hV;simp only[setCs,Nat.reduceAdd,noH]at hV;clear hbx hbV hc h1;go_wp2_with fail;rw[<-hV];clear hV;exact bodyPost_ret (v:=H.v) (by simp[results,hr,go_sem,v0,v1]) rfl ⟨by first|rfl|rw[hH],HB.out⟩):p:=h
theorem yQg(h:LfA w t n mv low)(c:Ent):
  (xf 196 #[xp t,c.c] w (if c.ts<n.lo then(⟨1,⟨#[]⟩⟩:Hn)else noH).v:Prop):=by
 have a0:=h.lt;obtain⟨W0,hW0⟩:=qW (xw (w.alloc (AF #[c.j,c.E,c.C,xu c.ts,c.val] 70)) #[xi 0,xe] 179);have H0:Hid (yA W0 w 179 2 (w+1) [xi 0,xe]/\Below w w W0):=by exact zRw
 have hS0:xk W0.drew t 4 (xu n.lo)/\xk W0.drew w 3 (xu c.ts):=by refine⟨(h.on (H0.2.drew)).lo,?_⟩;rw[hW0];simp
 obtain⟨H,hH⟩:=qE (if c.ts<n.lo then(⟨1,⟨#[]⟩⟩:Hn)else noH);have hr:=results196;rw[<-hH];by_cases e1:c.ts<n.lo
 .rw[iB e1]at hH;obtain⟨bv,hb2⟩:=qE (true:Bool);exact zTs
 .rw[iA e1]at hH;obtain⟨bv,hb2⟩:=qE (false:Bool);exact zTs
theorem yA.setCs(h:yA w O t sz g L)(vs:List Vv):yA (Go.Proofs.YtnnagkfoiganfaaGreatDoor.setCs w g 0 vs) O t sz g (setL L 0 vs):=yB4 (v:=(xg g 1 1)) rfl ⟨1,rfl⟩ vs 0 w L h
structure StA(w:Ww)(p o:Nat)(x:Ix)(kf:Nat)(rv:Vv)(kh:Nat)(hv:Vv):Prop where
 fr:(xk w p (o+3) x.free:Prop)
 kd:(xk w p (o+4) (xi x.leaf.f):Prop)
 lets:(xk w p (o+11) (.func (AD kf) #[rv] #[]):Prop)
 hnt:(xk w p (o+12) (.func (AD kh) #[hv] #[]):Prop)
 lt:p<w
variable {p kf kh:Nat} {x:Ix} {rv hv:Vv}
theorem StA.i{S:Nat->Prop}(h:StA w p o x kf rv kh hv)(hc:Chg S w W)(hn:¬S p):StA W p o x kf rv kh hv:=
 ⟨by rw[hc.z (p:=(xd p _)) h.lt hn];exact h.fr,by rw[hc.z (p:=(xd p _)) h.lt hn];exact h.kd,by rw[hc.z (p:=(xd p _)) h.lt hn];exact h.lets,by rw[hc.z (p:=(xd p _)) h.lt hn];exact h.hnt,AH h.lt hc.size⟩
structure LvB(w W:Ww)(p o:Nat)(x:Ix)(kf:Nat)(rv:Vv)(kh:Nat)(hv:Vv)(i:It)(c:Ent)(r:List Vv):Prop where
 st:StA W p o x kf rv kh hv
 bi:yA W w 181 4 w i.four
 bc:yA W w 70 5 (w+1) c.five
 br:yA W w 181 4 (w+2) r
variable {W':Ww}
theorem LvB.i{S:Nat->Prop}{i:It}(h:LvB w W p o x kf rv kh hv i c r)(hc:Chg S W W')(hS:∀q,S q->q<w/\¬q=p):LvB w W' p o x kf rv kh hv i c r:=
 ⟨h.st.i hc (λq=>(hS _ q).2 rfl),h.bi.i hc (λq=>qw ((hS _ q).1)),h.bc.i hc (λq=>qw ((hS _ q).1)),h.br.i hc (λq=>qw ((hS _ q).1))⟩
theorem LvB.start(h:StA w p o x kf rv kh hv)(i:It)(c:Ent)(r:Array Vv)(hr:r.size=4)
  (hW:W=(xw ((w.alloc (AF i.four.toArray 181)).alloc (AF c.five.toArray 70)) r 181)):LvB w W p o x kf rv kh hv i c r.toList/\Below w w W:=by
 have⟨b1,b2,b3,k⟩:=box3 hW;rw[hr]at b3;exact⟨⟨h.i (S:=λ_=>False) (Chg.h k) id,b1,b2,b3⟩,k⟩
def EntF(k:Nat):Prop:=∀(a:Array Vv)(w:Ww),(callFunc k a).run prog w=.ok (.enter k a) w
def LfP(w:Ww)(R:Ww->Ww->Prop)(W:Ww):Prop:=∃W1 W2,Below w w W1/\R W1 W2/\Chg (λq=>w<=q) W2 W
theorem yXu{i:It}(ha:i.H=false):
  (xf 156 #[.pointer (some ⟨p,o,none⟩),i.v,c.c] w i.v:Prop):=by
 have⟨al,sp,⟨rk,tx⟩⟩:=i;dsimp only at ha;subst ha;go_enter func156,ntmps156;go_wp2;exact AC (v:=.agg #[false,sp,xi rk,tx]) (by simp[results,results156,go_sem]) rfl ⟨rfl,zBl⟩
variable {p:Prop}
theorem zYs(h:p:=by intro wz hSw;obtain⟨z0,z1,z2,z3,z4,z5⟩:=hSw;go_simp;(try with_reducible rfl)):p:=h
theorem zLd (h:p:=by
 obtain⟨v0,v1,v2,v3⟩:=hbV.c4;have hP:LfP w R V:=by obtain⟨W1,W2,a,b,cc⟩:=HP9.out;refine⟨W1,W2,a,b,cc.trans ?_⟩;rw[hV];exact yAo (S:=λq=>w.heap.size<=q) _ (by show _<=_;omega) _ _ _
 simp only[setCs,yBg,Nat.reduceAdd]at hV;rw[<-hV];exact bodyPost_ret (v:=rs.v) (by rw[HSq.out];simp[results,results156,go_sem,v0,v1,v2,v3,yBg,noH]) rfl ⟨rfl,hP⟩):p:=h
theorem zLt (h:p:=by
 obtain⟨U,hU⟩:=qE (xt w2 w 1 true:Ww);obtain⟨V,hV⟩:=qW (setCs U (w+1+1) 0 [true,true,xi rk,tx]);have hbV:yA V w 181 4 (w+1+1) [true,true,xi rk,tx]:=by rw[hV,hU];exact(br.Q qo 1 _).setCs _
 exact xGe):p:=h
theorem zLu (h:p:=by
 obtain⟨U,hU⟩:=qE (xt w2 w 1 false:Ww);obtain⟨V,hV⟩:=qW (setCs U (w+1+1) 0 [true,false,xi rk,tx]);have hbV:yA V w 181 4 (w+1+1) [true,false,xi rk,tx]:=by rw[hV,hU];exact(br.Q qo 1 _).setCs _
 exact xGe):p:=h
theorem yO2{p:Nat}{i:It}{d:Ent}{b:Bool}{H:Hn}{S:Nat->Prop}(ha:i.H=true)(hkf:Hid (EntF kf))(hkh:Hid (EntF kh))
  (h:StA w p o x kf rv kh hv) (hd:d=yBl i c) (hR:∀W W',R W W'->Chg S W W') (hS:∀q,S q->q<w.heap.size/\¬q=p)
  (hl:∀W,Below w w W->Calls prog kf #[rv,d.c] W λe w'=>e=.returned b/\R W w')
  (hh:∀W,LfP w R W->(xf kh #[hv,d.c] W H.v:Prop)):
  Calls prog 156 #[.pointer (some ⟨p,o,none⟩),i.v,c.c] w λe w'=>e=.returned (if b=true then(⟨true,i.strip || decide (x.leaf.f=3),i.G⟩:It)else yBg (if x.free=true then H else noH)).v/\LfP w R w':=by
 have⟨al,sp,⟨rk,tx⟩⟩:=i;dsimp only at ha;subst ha;have⟨i,hi⟩:=qE (⟨true,sp,⟨rk,tx⟩⟩:It);have av:Hid (∀W,(xf 106 #[.agg #[true,sp,xi rk,tx],c.c] W d.c:Prop)):=λW=>hd▸(yJj ⟨true,sp,⟨rk,tx⟩⟩ c W)
 have HL:=qH1 hl;have HH:=qH1 hh;obtain⟨zr,ae⟩:∃zr:List Vv,zr= [.bool false,.bool false,.int .i64 0,.string ⟨#[]⟩]:=⟨_,rfl⟩;have⟨W0,ai⟩:=qW (xw ((w.alloc (AF #[true,sp,xi rk,tx] 181)).alloc (AF #[c.j,c.E,c.C,xu c.ts,c.val] 70)) #[false,false,xi 0,xe] 181);have ak:Hid (LvB w W0 p o x kf rv kh hv i c zr/\Below w w W0):=by rw[ae,hi];exact LvB.start h ⟨true,sp,⟨rk,tx⟩⟩ c #[false,false,xi 0,xe] rfl ai
 have⟨rs,af⟩:=qE ((if b=true then(⟨true,sp || decide (x.leaf.f=3),⟨rk,tx⟩⟩:It)else yBg (if x.free=true then H else noH)):It);have aw:=qH1 af;rw[<-af];clear hl hh hd af;go_enter func156,ntmps156;go_wp2_with fail;refine(av.out _).mono ?_;rintro e w1 ⟨rfl,ad⟩;rw[<-ai]at ad;clear ai;have a8:=ak.1.i (S:=λ_=>False) (Chg.h ad) (λq k=>k.elim);obtain⟨V,hV⟩:=qW (setCs w1 (w+1) 0 d.five);have ab:Chg (λq=>q=w.heap.size+1) w1 V:=by rw[hV];exact yAo (S:=λq=>q=w.heap.size+1) _ rfl _ _ _
 have hbV:Below w w V:=by have h1:=ak.2.trans (ad.mono ak.2.size);exact Chg.k h1 ab h1.size (λq e=>qo)
 have hp:=h.lt;have a3:Hid (LvB w V.drew p o x kf rv kh hv i d zr/\Below w w V.drew):=by refine⟨LvB.i (S:=λ_=>False) ⟨a8.st.i ab (by show¬p=_;omega),a8.bi.i ab (by show¬_=_;omega),?_,a8.br.i ab (by show¬_=_;omega)⟩ (Chg.h ((Below.refl _ _).drew)) (λq k=>k.elim),hbV.drew⟩;rw[hV];exact a8.bc.setCs d.five
 obtain⟨x0,x1,x2,x3,x4⟩:=a8.bc.c5;have fz:=a8.bc.frozen;simp only[setCs,AT]at hV;clear a8 ab ad hbV;go_upto_region 4 with fail;rw[<-hV];clear hV x0 x1 x2 x3 x4 fz;have a0:SW (λwz:Ww=>xk wz p (o+11) (.func (AD kf) #[rv] #[])/\xk wz (w+1) 0 d.j/\xk wz (w+1) 1 d.E/\xk wz (w+1) 2 d.C/\xk wz (w+1) 3 (xu d.ts)/\xk wz (w+1) 4 d.val) V.drew:=⟨a3.1.st.lets,a3.1.bc.z (j:=0) rfl,a3.1.bc.z (j:=1) rfl,a3.1.bc.z (j:=2) rfl,a3.1.bc.z (j:=3) rfl,a3.1.bc.z (j:=4) rfl⟩;refine wpR 5 a0 ?_;refine yAi [1,2,3] 0 ?v0x rfl ?y0x a0 ?_;case y0x=>exact zYs
 refine jS ?_;refine yAi [2,3] 1 ?v1x rfl ?y1x a0 ?_;case y1x=>exact zYs
 refine jS ?_;refine yAi [3] 2 ?v2x rfl ?y2x a0 ?_;case y2x=>exact zYs
 refine jS ?_;refine yAi [] 3 ?v3x rfl ?y3x a0 ?_;case y3x=>exact zYs
 refine jS ?_;refine yAi [] 4 ?v4x rfl ?y4x a0 ?_;case y4x=>exact zYs
 refine jS ?_;refine qO 5 rfl λK hK=>?_;go_simp;rw[hkf.out];go_simp;refine(HL.out _ a3.2).mono ?_;rintro e w2 ⟨rfl,ag⟩;refine hK.out _ _ (.inl rfl) (jS ?_);clear hK;refine qD ?_;have a1:=a3.1.i (hR _ _ ag) hS;have HP2:Hid (LfP w R w2):=⟨_,_,a3.2,ag,Chg.refl _ _⟩;clear a0 ag a3;obtain⟨i0,i1,i2,i3⟩:=a1.bi.c4;have fi:=a1.bi.frozen;have br:=a1.br;rw[ae]at br;obtain⟨r0,r1,r2,r3⟩:=br.c4;have fr:=br.frozen;rw[hi]at i0 i1 i2 i3;dsimp only at i0 i1 i2 i3;have ck:=a1.st.kd;have cf:=a1.st.fr;have ax:=a1.st.lt;have ay:=h.lt;have n0:¬p=w.heap.size:=qo
 have n2:¬p=w.heap.size+1+1:=qo
 have a6:=aw.out;cases b
 .rw[iA (by simp)]at a6;have HSt:=qH1 a6;have n3:¬w.heap.size+1+1=w2.heap.size:=qw br.lt.2
  have n4:¬p=w2.heap.size:=qo
  clear a6;obtain⟨W9,a7⟩:=qW (xw w2 #[false,false,xi 0,xe] 181);have a9:=qN a7
  have HP9:Hid (LfP w R W9):=by obtain⟨W1,W2,a,b,cc⟩:=HP2.out;exact⟨W1,W2,a,b,cc.trans (Chg.h a9)⟩
  cases hxf:x.free
  .rw[hxf]at cf;have HSq:Hid (rs=yBg noH):=by show _=_;rw[HSt.out,hxf];rfl
   have a2:=br.k a9;have au:=(a1.st.i (S:=λ_=>False) (Chg.h a9) id).fr;rw[hxf]at au;have bm:yA W9 w 181 4 w2 [false,false,xi 0,xe]:=by rw[a7];exact yAa w2 _ (qw br.lt) rfl
   obtain⟨m0,m1,m2,m3⟩:=bm.c4;obtain⟨s0,s1,s2,s3⟩:=a2.c4;have fs:=a2.frozen;obtain⟨V,hV⟩:=qW (setCs W9 (w+1+1) 0 [false,false,xi 0,xe]);have aj:Hid (yA V w 181 4 (w+1+1) [false,false,xi 0,xe]):=by show yA V _ _ _ _ _;rw[hV];exact a2.setCs _
   have HV:=qH1 hV;clear a1 a9 a2 hV bm;go_upto_region 8 with fail;rw[<-a7];clear a7 i0 i1 i2 i3 fi r0 r1 r2 r3 fr br ck cf;go_wp2_with fail;have hbV:=aj.out;have hV:=HV.out;exact zLd
  .rw[hxf]at cf;have HSq:Hid (rs=yBg H):=by show _=_;rw[HSt.out,hxf];rfl
   have am:LfP w R W9.drew:=by obtain⟨W1,W2,a,b,cc⟩:=HP9.out;exact⟨W1,W2,a,b,cc.trans (Chg.h ((Below.refl _ _).drew))⟩
   have aq:=(a1.i (S:=λ_=>False) (Chg.h a9) (λq k=>k.elim)).i (S:=λ_=>False) (Chg.h ((Below.refl _ _).drew)) (λq k=>k.elim);have bm:yA W9.drew w 181 4 w2 [false,false,xi 0,xe]:=by refine yA.k (w:=W9) ?_ ((Below.refl _ _).drew);rw[a7];exact yAa w2 _ (qw br.lt) rfl
   have a4:=qH3 aq bm am;clear a1 a9 aq bm am;go_upto_region 9 with fail;rw[<-a7];clear a7 i0 i1 i2 i3 fi r0 r1 r2 r3 fr br ck cf;have a0:SW (λwz:Ww=>xk wz p (o+12) (.func (AD kh) #[hv] #[])/\xk wz (w+1) 0 d.j/\xk wz (w+1) 1 d.E/\xk wz (w+1) 2 d.C/\xk wz (w+1) 3 (xu d.ts)/\xk wz (w+1) 4 d.val) W9.drew:=⟨a4.1.st.hnt,a4.1.bc.z (j:=0) rfl,a4.1.bc.z (j:=1) rfl,a4.1.bc.z (j:=2) rfl,a4.1.bc.z (j:=3) rfl,a4.1.bc.z (j:=4) rfl⟩;refine wpR 7 a0 ?_;refine yAi [1,2,3,5] 0 ?vv0d rfl ?yy0d a0 ?_;case yy0d=>exact zYs
   refine jS ?_;refine yAi [2,3,5] 1 ?vv1d rfl ?yy1d a0 ?_;case yy1d=>exact zYs
   refine jS ?_;refine yAi [3,5] 2 ?vv2d rfl ?yy2d a0 ?_;case yy2d=>exact zYs
   refine jS ?_;refine yAi [5] 3 ?vv3d rfl ?yy3d a0 ?_;case yy3d=>exact zYs
   refine jS ?_;refine yAi [5] 4 ?vv4d rfl ?yy4d a0 ?_;case yy4d=>exact zYs
   refine jS ?_;refine qO 5 rfl λK hK=>?_;go_simp;rw[hkh.out];go_simp;refine(HH.out _ a4.2.2).mono ?_;rintro e w3 ⟨rfl,ac⟩;have a5:=a4.1.i (S:=λ_=>False) (Chg.h ac) (λq k=>k.elim);have aa:=a4.2.1.k ac;have ao:LfP w R w3:=by obtain⟨W1,W2,a,b,cc⟩:=a4.2.2;exact⟨W1,W2,a,b,cc.trans (Chg.h ac)⟩
   have a0:=SWm a0 w3 <|⟨a5.st.hnt,a5.bc.z (j:=0) rfl,a5.bc.z (j:=1) rfl,a5.bc.z (j:=2) rfl,a5.bc.z (j:=3) rfl,a5.bc.z (j:=4) rfl⟩;refine hK.out _ _ (.inr a0) (jS ?_);clear hK;refine yAi [] 6 ?vv6d rfl ?yy6d a0 ?_;case yy6d=>exact zYs
   refine jS ?_;obtain⟨c2,c3⟩:=AE (aa.z (j:=2) rfl) (aa.z (j:=3) rfl);have fm:=aa.frozen;obtain⟨X,hX⟩:=qW (setCs w3 w2 2 H.two);have ah:Chg (λq=>q=w2.heap.size) w3 X:=by rw[hX];exact yAo (S:=λq=>q=w2.heap.size) _ rfl _ _ _
   have ar:yA X w 181 4 w2 (It.four (yBg H)):=by rw[hX];exact yB4 (v:=(xg w2 1 1)) rfl ⟨1,rfl⟩ _ 2 w3 _ aa
   have a2:=a5.br.i ah (by show¬_=_;omega);have HP9:Hid (LfP w R X):=by obtain⟨W1,W2,a,b,cc⟩:=ao;exact⟨W1,W2,a,b,cc.trans (ah.mono (λq e=>by show _<=_;have:=aa.lt;omega))⟩
   simp only[setCs,AT]at hX;clear a5 ao ah aa ac;refine qO 7 rfl λK hK=>?_;go_simp;rw[<-hX];clear hX c2 c3 fm a0;refine hK.out _ _ (.inl rfl) (jS ?_);clear hK;refine qD ?_;rw[ae]at a2;obtain⟨m0,m1,m2,m3⟩:=ar.c4;obtain⟨r0,r1,r2,r3⟩:=a2.c4;have fr:=a2.frozen;obtain⟨V,hV⟩:=qW (setCs X (w+1+1) 0 (It.four (yBg H)));have hbV:yA V w 181 4 (w+1+1) (It.four (yBg H)):=by rw[hV];exact a2.setCs _
   have aj:=qH1 hbV;have HV:=qH1 hV;clear hV hbV ar a2;dsimp only[yBg]at m0 m1 m2 m3;go_wp2_with fail;have hbV:=aj.out;have hV:=HV.out;exact zLd
 .rw[iB rfl]at a6;obtain⟨kd,an⟩:∃kd,x.leaf.f=kd:=⟨_,rfl⟩;rw[an]at ck a6;have HSt:=qH1 a6;clear an a1 a6;cases sp
  .by_cases hk3:kd=3
   .have hs:(false || decide (kd=3))=true:=by simp[hk3]
    rw[hs]at HSt;clear hs;go_wp2_with fail;exact zLt
   .have az:(kd==3)=false:=by simp[hk3]
    have hs:(false || decide (kd=3))=false:=by simp[hk3]
    rw[hs]at HSt;clear hs;go_wp2_with fail;exact zLu
  .rw[AU]at HSt;go_wp2_with fail;exact zLt
theorem yDl{k:Nat}{c:Code}(hf:prog.funcs[k]?=some fn)(hn:(fn.name== "runtime.NumGoroutine")=false)(hb:fn.body=some c):EntF k:=λa w=>by
 have h1:fn.name≠ "runtime.NumGoroutine" :=by simpa using hn
 simp[callFunc,hf,h1,hb]
theorem yLx:EntF 190:=yDl func190 qk rfl
theorem yNk:EntF 189:=yDl func189 qk rfl
theorem yVf:EntF 191:=yDl func191 qk rfl
theorem yYi:EntF 192:=yDl func192 qk rfl
theorem yVe:EntF 193:=yDl func193 qk rfl
theorem yPo:EntF 194:=yDl func194 qk rfl
theorem yNl:EntF 195:=yDl func195 qk rfl
theorem yRx:EntF 196:=yDl func196 qk rfl
theorem yQq{n:Nat}{k:Nat}{cs:Array Vv}(hn:n<=1000000)(hk:Hid (EntF k))(mono:∀i j,i<=j->j<n->f i=true->f j=true)
  (hf:∀(i:Nat)(W:Ww),i<n->Below w w W->(xf k (#[.int .i64 (i:Int)]++cs) W (f i):Prop)):
  Calls prog 158 #[xi n,.func (AD k) #[] cs] w λe w'=>∃r:Nat,r<=n/\e=.returned (xi r)/\(∀i,i<r->f i=false)/\(∀i,r<=i->i<n->f i=true)/\Below w w w':=by
 have HF:=qH1 hf;have HM:=qH1 mono;go_enter func158,ntmps158;go_wp2;go_loopw[5,6,7] (λiv jv hv wr=>∃(i j:Nat),i<=j/\j<=n/\iv=(xi i)/\jv=(xi j)/\Hid ((∀t,t<i->f t=false)/\(∀t,j<=t->t<n->f t=true)/\Below w w wr)) (λiv jv _ _=>(intOf jv-intOf iv).toNat);case atStart=>exact⟨0,n,zero_le _,AO _,rfl,rfl,λt ht=>qo,λt h1 h2=>qo,Below.refl _ _⟩
 case round=>
  obtain⟨i,j,hij,a1,rfl,rfl,HJ⟩:=hrel;by_cases hlt:i<j
  .have z:(i:Int)<(j:Int):=qo
   have z1:¬(i:Int)+(j:Int)<0:=qo
   go_wp2;obtain⟨m,hm,a2,a3⟩:∃m:Nat,((i:Int)+(j:Int))/2=(m:Int)/\i<=m/\m<j:=⟨(i+j)/2,qo,qo,qo⟩;rw[hm,hk.out];go_simp;apply (HF.out m wr qo HJ.2.2).mono;rintro e w1 ⟨rfl,a0⟩;have hb2:=HJ.2.2.trans (a0.mono HJ.2.2.size);cases hfm:f m
   .have HR:Hid ((∀t,t<m+1->f t=false)/\(∀t,j<=t->t<n->f t=true)/\Below w w w1):=by
     refine⟨λt ht=>?_,HJ.2.1,hb2⟩;cases ht2:f t
     .rfl
     .have:=HM.out t m qo qo ht2;rw[hfm]at this;exact this.symm
    refine zX ?_;exact⟨m+1,j,qo,a1,by go_num,rfl,HR.out⟩
   .have HR:=qH3 HJ.1 (λt h1 h2=>HM.out m t h1 h2 hfm:(∀t,m<=t->t<n->f t=true)) hb2;refine zX ?_;exact⟨i,m,a2,qo,rfl,rfl,HR.out⟩
  .have z:¬(i:Int)<(j:Int):=qo
   obtain rfl:i=j:=qo
   go_wp2;go_ret;exact⟨i,a1,rfl,HJ.out⟩
structure CSl(w:Ww)(b off cap:Nat)(es:List Ent):Prop where
 U:yA6 w b off es
 lt:b<w.heap.size
 X:es.length<=cap
 cap:cap<=maxLen
variable {w':Ww} {es:List Ent}
theorem yA6.i{S:Nat->Prop}(h:yA6 w b off es)(hc:Chg S w w')(hb:b<w.heap.size)(hn:¬S b):yA6 w' b off es:=by have c:=λo=>hc.z (p:=(xd b o)) hb hn;intro i e he;simpa only[c]using h i e he
theorem CSl.i{S:Nat->Prop}(h:CSl w b off cap es)(hc:Chg S w w')(hn:¬S b):CSl w' b off cap es:=⟨h.U.i hc h.lt hn,AH h.lt hc.size,h.X,h.cap⟩
theorem CSl.k(h:CSl w b off cap es)(hb:Below w w w'):CSl w' b off cap es:=h.i (S:=λ_=>False) (Chg.h hb) (λq=>q)
theorem OwnC.sl(h:OwnC w O g cap es):CSl w g 0 cap es:=⟨h.at,h.lt.2,h.caps.1,h.caps.2⟩
theorem CSl.drop(h:CSl w b off cap es){k:Nat}(hk:k<=es.length):CSl w b (off+k*5) (cap-k) (es.drop k):=by refine⟨λi e he=>?_,h.lt,by rw[length_drop];have:=h.X;omega,qw h.cap⟩;rw[getElem?_drop]at he;have:=h.U (k+i) e he;rw[show off+(k+i)*5=off+k*5+i*5 by omega]at this;exact this
theorem CSl.take(h:CSl w b off cap es){k:Nat}(hk:k<=es.length):CSl w b off cap (es.take k):=by
 refine⟨λi e he=>?_,h.lt,by rw[AV];have:=h.X;omega,h.cap⟩;rw[getElem?_take]at he;split at he
 .exact h.U i e he
 .cases he
theorem zYr(h:p:=by intro wz hSw;obtain⟨z0,z1,z2,z3,z4,z5,z6,z7,y0,y1,y2,y3,y4⟩:=hSw;go_simp;(try with_reducible rfl)):p:=h
variable {x:Ent}
variable {h:Hn}
theorem yQu{b1 b2 b3 len i:Nat}(hi:i<len)(hlen:len<=1000000)(l1:b1<w.heap.size)(l2:b2<w.heap.size)(l3:b3<w.heap.size)(l4:g<w.heap.size)
  (hS:(λwz:Ww=>xk wz b1 0 (xi h.rank)/\xk wz b1 1 h.txt/\xk wz b2 0 c.j/\xk wz b2 1 c.E/\xk wz b2 2 c.C/\xk wz b2 3 (xu c.ts)/\xk wz b2 4 c.val/\xk wz b3 0 (xy g off len cap)/\xk wz g (off+i*5) x.j/\xk wz g (off+i*5+1) x.E/\xk wz g (off+i*5+2) x.C/\xk wz g (off+i*5+3) (xu x.ts)/\xk wz g (off+i*5+4) x.val) w):
  (xf 159 #[xi i,xp b1,xp b2,xp b3] w (!yAz h c x):Prop):=by
 have⟨sk,a2⟩:=qE (yAz h c x);have HK:Hid (∀W,(xf 160 #[.agg #[xi h.rank,h.txt],.agg #[c.j,c.E,c.C,xu c.ts,c.val],.agg #[x.j,x.E,x.C,xu x.ts,x.val]] W sk:Prop)):=λW=>a2▸(yQp h c x W)
 rw[<-a2];have a0:SW (λwz:Ww=>xk wz b1 0 (xi h.rank)/\xk wz b1 1 h.txt/\xk wz b2 0 c.j/\xk wz b2 1 c.E/\xk wz b2 2 c.C/\xk wz b2 3 (xu c.ts)/\xk wz b2 4 c.val/\xk wz b3 0 (xy g off len cap)/\xk wz g (off+i*5) x.j/\xk wz g (off+i*5+1) x.E/\xk wz g (off+i*5+2) x.C/\xk wz g (off+i*5+3) (xu x.ts)/\xk wz g (off+i*5+4) x.val) w.drew:=by have hb:Below w w w.drew:=(Below.refl _ _).drew;exact hS
 have z:(i:Int)<(len:Int):=qo
 have z1:¬(i:Int)<0:=qo
 go_enter func159,ntmps159;go_upto_region 1 with fail;apply wpR 99 a0;refine qT 0 ?v0x rfl ?y0x a0 ?_;case y0x=>exact zYr
 refine jS ?_;refine qT 1 ?v1x rfl ?y1x a0 ?_;case y1x=>exact zYr
 refine jS ?_;refine qT 2 ?v2x rfl ?y2x a0 ?_;case y2x=>exact zYr
 refine jS ?_;refine qT 3 ?v3x rfl ?y3x a0 ?_;case y3x=>exact zYr
 refine jS ?_;refine qT 4 ?v4x rfl ?y4x a0 ?_;case y4x=>exact zYr
 refine jS ?_;refine qT 5 ?v5x rfl ?y5x a0 ?_;case y5x=>exact zYr
 refine jS ?_;refine qO 6 rfl λK hK=>?_;go_simp;refine(HK.out _).mono ?_;rintro e w1 ⟨rfl,a3⟩;have e9:∀q:Addr,q.block<w.heap.size->w1.cell? q=w.drew.cell? q:=λq hq=>a3.cell (by simpa using hq);have HB:=qH1 (((Below.refl w w).drew).trans (a3.mono (by simp)));have a1:=SWm a0 w1 <|by
  show _/\_;rw[e9 (xd b1 0) l1,e9 (xd b1 1) l1,e9 (xd b2 0) l2,e9 (xd b2 1) l2,e9 (xd b2 2) l2,e9 (xd b2 3) l2,e9 (xd b2 4) l2,e9 (xd b3 0) l3,e9 (xd g (off+i*5)) l4,e9 (xd g (off+i*5+1)) l4,e9 (xd g (off+i*5+2)) l4,e9 (xd g (off+i*5+3)) l4,e9 (xd g (off+i*5+4)) l4];exact a0
 clear a0 hS e9 a3;refine hK.out _ _ (.inr a1) (jS ?_);clear hK;refine kO 7 a1 ?_;refine kO 8 a1 ?_;refine qD ?_;clear a1;go_wp2;go_ret;exact⟨rfl,HB.out⟩
abbrev InB(lo hi k:Nat):Prop:=lo<=k/\k<hi
structure MchJ(w:Ww)(lo hi M:Nat)(p:Ba)(T:Nat->PS)(G cp a:Nat)(E:Nat->PS)(en:PS)(mp:Nat)(os:List (List Pat))(n:Nat):Prop where
 gr:AltG (yAn n) os (sb p)
 chk:(yA0 (sb p)).1=0
 mtr:MtrI w lo M T G cp a E en mp
 map:StU w mp E en
 tk:∀b p,T b p=true->p<a
 pos:0<a
 le:a<=256
 low:lo<=mp
 hM:M<hi
 hG:G<hi
 hm:mp<hi
 acc:∀s:List U8,acc en (runS E T (sOne 0) s)=true↔LgA os s
def yLf(w:Ww)(lo hi M:Nat)(p:Ba):Prop:=∃T G cp a E en mp os n,MchJ w lo hi M p T G cp a E en mp os n
theorem MtrI.chg2{S:Nat->Prop}{T:Nat->PS}{G a:Nat}{mp:Nat}(h:MtrI w O M T G cp a E en mp)(hc:Chg S w w')(hM:¬S M)(hG:¬S G)(h0:¬S 1):MtrI w' O M T G cp a E en mp:=
 ⟨h.A.i hc hM,yAg h.j hc (λk q=>by simp[Value.ownBlock]at q;subst q;exact hG),h.new,h.tab.i hc h0,h.low⟩
theorem yQs{base' n:Nat}{v:Vv}(h:w.ownsRow O t sz v n vs)(hb:base'<=O):w.ownsRow base' t sz v n vs:=by exact xBr
variable {lo hi:Nat} {p:Ba}
theorem yLf.i{S:Nat->Prop}(h:yLf w lo hi M p)(hc:Chg S w w')(hS:∀k,S k->¬InB lo hi k)(ht:1<lo->¬S 1):yLf w' lo hi M p:=by have⟨T,G,cp,a,E,en,mp,os,n,h⟩:=h;exact⟨T,G,cp,a,E,en,mp,os,n,h.gr,h.chk,h.mtr.chg2 hc (λq=>hS _ q ⟨h.mtr.ltM.1,h.hM⟩) (λq=>hS _ q ⟨h.mtr.ltG.1,h.hG⟩) (ht h.mtr.low),h.map.i hc (λq=>hS _ q ⟨h.low,h.hm⟩),h.tk,h.pos,h.le,h.low,h.hM,h.hG,h.hm,h.acc⟩
def MtP(w:Ww)(lo hi M:Nat)(p s:Ba)(e:AK)(w':Ww):Prop:=e=.returned (mtB p s)/\Hid (yLf w' lo hi M p/\Chg (InB lo hi) w w')
theorem yQ4(h:yLf w lo hi M p)(s:Ba):Calls prog 218 #[xp M,s] w (MtP w lo hi M p s):=by
 have⟨T,G,cp,a,E,en,mp,os,n,h⟩:=h;by_cases hs:s.size<=200
 .apply (yQ5 s hs w h.mtr h.map h.tk h.pos h.le h.low).mono;rintro e w' ⟨b,rfl,H⟩;have hb:MatB p s b:=.inr ⟨h.chk,n,os,h.gr,by rw[H.1,h.acc];exact⟨λq=>⟨hs,q⟩,λq=>q.2⟩⟩;rw[yXj hb];exact⟨rfl,⟨T,G,cp,a,E,en,mp,os,n,h.gr,h.chk,H.2.1,H.2.2.1,h.tk,h.pos,h.le,h.low,h.hM,h.hG,h.hm,h.acc⟩,H.2.2.2.mono (λk q=>by subst q;exact⟨h.low,h.hm⟩)⟩
 .apply (yOx M s qo w).mono;rintro e w' ⟨rfl,rfl⟩;have hb:MatB p s false:=.inr ⟨h.chk,n,os,h.gr,⟨λq=>(by cases q),λq=>absurd q.1 hs⟩⟩;exact⟨by rw[<-yXj hb],⟨T,G,cp,a,E,en,mp,os,n,h⟩,Chg.refl _ _⟩
def PatK(k:Int):Prop:=k=4\/k=5\/k=6\/k=7
def yDq(w:Ww)(lo hi:Nat)(n:Nd)(mv:Vv):Prop:=(¬PatK n.f/\mv=.pointer none)\/(PatK n.f/\∃M,mv=(xp M)/\yLf w lo hi M n.s)
theorem yLf.wide{lo' hi':Nat}(h:yLf w lo hi M p)(hl:lo'<=lo)(hh:hi<=hi')(ht:1<lo'):yLf w lo' hi' M p:=by have⟨T,G,cp,a,E,en,mp,os,n,h⟩:=h;exact⟨T,G,cp,a,E,en,mp,os,n,h.gr,h.chk,⟨yQs h.mtr.A hl,yQs h.mtr.j hl,h.mtr.new,h.mtr.tab,ht⟩,h.map,h.tk,h.pos,h.le,Nat.le_trans hl h.low,AH h.hM hh,AH h.hG hh,AH h.hm hh,h.acc⟩
theorem yDq.i{S:Nat->Prop}(h:yDq w lo hi n mv)(hc:Chg S w w')(hS:∀k,S k->¬InB lo hi k)(ht:1<lo->¬S 1):yDq w' lo hi n mv:=by
 rcases h with h|⟨h1,M,h2,h3⟩
 .exact .inl h
 .exact .inr ⟨h1,M,h2,h3.i hc hS ht⟩
theorem yDq.k(h:yDq w lo hi n mv)(hb:Below w w w'):yDq w' lo hi n mv:=h.i (S:=λ_=>False) (Chg.h hb) (λk q=>q.elim) (λ_ q=>q)
def HoP(w:Ww)(lo hi:Nat)(n:Nd)(c:Ent)(mv:Vv)(e:AK)(w':Ww):Prop:=e=.returned (tstB n c)/\Hid (yDq w' lo hi n mv/\Chg (InB lo hi) w w')
theorem xHr(x:Ba)(n:Nd):inS x n=inR n.s n.hi n.t x:=rfl
theorem yWq(s t:Ba)(h:Bool)(w:Ww):(Instr.build 341 #[(0,s),(1,h),(2,t)]).run prog w=.ok (.agg #[s,h,t]) w:=qk
theorem yMe(n:Nd)(mp:Option Addr)(x:Ba)(w:Ww):(xf 219 #[.agg #[xi n.f,n.s,n.hi,n.t,xu n.lo,xu n.up,xi n.n,.pointer mp],x] w (inS x n):Prop):=by
 have HI:Hid (∀w,(xf 235 #[.agg #[n.s,n.hi,n.t],x] w (inS x n):Prop)):=λw=>by rw[xHr];exact yIt n.s n.t x n.hi w
 have a2:=yWq n.s n.t n.hi;have⟨W1,a0⟩:=qW (xw w #[xi n.f,n.s,n.hi,n.t,xu n.lo,xu n.up,xi n.n,.pointer mp] 286);have a1:Hid (Below w w W1):=a0▸qB
 go_enter func219,ntmps219;go_wp2_with fail;rw[<-a0];apply (HI W1).mono;rintro e w2 ⟨rfl,hb2⟩;have HE:=qH1 (a1.trans (hb2.mono a1.size));go_wp2;go_ret;exact⟨rfl,HE⟩
theorem yV(n:Nd)(c:Ent)(mv:Vv)(w:Ww)(bl bh:Nat)(hT:yDq w bl bh n mv)(hb:bh<=w):∃mp:Option Addr,mv=.pointer mp/\Calls prog 193 #[.agg #[xi n.f,n.s,n.hi,n.t,xu n.lo,xu n.up,xi n.n,.pointer mp],c.c] w (HoP w bl bh n c mv):=by
 obtain⟨mp,a5⟩:∃mp:Option Addr,mv=.pointer mp:=by
  rcases hT with⟨_,h⟩|⟨_,M,h,_⟩
  .exact⟨_,h⟩
  .exact⟨_,h⟩
 subst a5;refine⟨mp,rfl,?_⟩;have HT:=qH1 hT;have⟨k,s,hi,t,lo,up,nn⟩:=n;have HS:Hid (∀(x:Ba)(w:Ww),(xf 219 #[.agg #[xi k,s,hi,t,xu lo,xu up,xi nn,.pointer mp],x] w (inS x ⟨k,s,hi,t,lo,up,nn⟩):Prop)):=λx w=>yMe ⟨k,s,hi,t,lo,up,nn⟩ mp x w;have⟨res,a4⟩:=qE (tstB ⟨k,s,hi,t,lo,up,nn⟩ c);have HR:=qH1 a4;have⟨W2,hW2⟩:=qW (xw (w.alloc (.cells #[xi k,s,hi,t,xu lo,xu up,xi nn,.pointer mp] 286)) #[c.j,c.E,c.C,xu c.ts,c.val] 70);have HW2:Hid (Below w w W2):=hW2▸((qB).alloc (by simp) _)
 have HFin:Hid (∀wx,Below w w wx->HoP w bl bh ⟨k,s,hi,t,lo,up,nn⟩ c (.pointer mp) (.returned res) wx):=λwx hx=>⟨by rw[HR],HT.k hx,Chg.h hx⟩;have a3:Hid (∀wx,yDq wx bl bh ⟨k,s,hi,t,lo,up,nn⟩ (.pointer mp)->Chg (InB bl bh) w wx->HoP w bl bh ⟨k,s,hi,t,lo,up,nn⟩ c (.pointer mp) (.returned res) wx):=λwx h1 h2=>⟨by rw[HR],h1,h2⟩;have a2:Hid (PatK k->∀x:Ba,Calls prog 218 #[.pointer mp,x] W2 λe w'=>e=.returned (mtB s x)/\yDq w' bl bh ⟨k,s,hi,t,lo,up,nn⟩ (.pointer mp)/\Chg (InB bl bh) w w'):=λhp x=>by
  rcases HT.k HW2 with⟨q,_⟩|⟨_,M,q,hM⟩
  .exact absurd hp q
  .cases q
   apply (yQ4 hM x).mono;rintro e w' ⟨rfl,H⟩;exact⟨rfl,.inr ⟨hp,M,rfl,H.1⟩,(Chg.h HW2).trans H.2⟩
 by_cases h1:k=1
 .subst h1;have hv:res=true:=HR.trans (by simp[tstB]);exact xC0
 have b1:=qn h1
 by_cases h3:k=3
 .subst h3;have hv:res=true:=HR.trans (by simp[tstB]);exact xC0
 have b3:=qn h3
 by_cases h4:k=4
 .subst h4;have hv:res=mtB s c.j:=HR.trans (by simp[tstB]);have a0:=qH1 (a2 (by unfold PatK;omega) c.j);go_enter func193,ntmps193;go_wp2_with fail;rw[<-hW2];exact xFl
 have b4:=qn h4
 by_cases h5:k=5
 .subst h5;have hv:res=mtB s c.E:=HR.trans (by simp[tstB]);have a0:=qH1 (a2 (by unfold PatK;omega) c.E);go_enter func193,ntmps193;go_wp2_with fail;rw[<-hW2];clear hW2;exact xFl
 have b5:=qn h5
 by_cases h6:k=6
 .subst h6;have hv:res=mtB s c.C:=HR.trans (by simp[tstB]);have a0:Hid (Calls prog 218 #[.pointer mp,c.C] W2 λe w'=>e=.returned (mtB s c.C)/\yDq w' bl bh ⟨6,s,hi,t,lo,up,nn⟩ (.pointer mp)/\Chg (InB bl bh) w w'):=a2 (by unfold PatK;omega) c.C;go_enter func193,ntmps193;go_wp2_with fail;rw[<-hW2];clear hW2;apply a0.mono;rintro e w1 ⟨rfl,h1,h2⟩;have HE:Hid (HoP w bl bh ⟨6,s,hi,t,lo,up,nn⟩ c (.pointer mp) (.returned res) w1):=a3 w1 h1 h2;clear h1 h2;go_wp2;go_ret;exact hv▸HE
 have b6:=qn h6
 by_cases h7:k=7
 .subst h7;have hv:res=mtB s c.val:=HR.trans (by simp[tstB]);have a0:Hid (Calls prog 218 #[.pointer mp,c.val] W2 λe w'=>e=.returned (mtB s c.val)/\yDq w' bl bh ⟨7,s,hi,t,lo,up,nn⟩ (.pointer mp)/\Chg (InB bl bh) w w'):=a2 (by unfold PatK;omega) c.val;go_enter func193,ntmps193;go_wp2_with fail;rw[<-hW2];clear hW2;apply a0.mono;rintro e w1 ⟨rfl,h1,h2⟩;have HE:Hid (HoP w bl bh ⟨7,s,hi,t,lo,up,nn⟩ c (.pointer mp) (.returned res) w1):=a3 w1 h1 h2;clear h1 h2;go_wp2;go_ret;exact hv▸HE
 have b7:=qn h7
 by_cases h8:k=8
 .subst h8;have hv:res=inS c.j ⟨8,s,hi,t,lo,up,nn⟩:=HR.trans (by simp[tstB]);go_enter func193,ntmps193;go_wp2_with fail;rw[<-hW2];clear hW2;apply (HS.out c.j W2).mono;rintro e w1 ⟨rfl,a1⟩;have HE:Hid (HoP w bl bh ⟨8,s,hi,t,lo,up,nn⟩ c (.pointer mp) (.returned res) w1):=HFin w1 (HW2.trans (a1.mono HW2.size));clear a1;go_wp2;go_ret;exact hv▸HE
 have b8:=qn h8
 by_cases h9:k=9
 .subst h9;have hv:res=inS c.C ⟨9,s,hi,t,lo,up,nn⟩:=HR.trans (by simp[tstB]);go_enter func193,ntmps193;go_wp2_with fail;rw[<-hW2];clear hW2;apply (HS.out c.C W2).mono;rintro e w1 ⟨rfl,a1⟩;have HE:Hid (HoP w bl bh ⟨9,s,hi,t,lo,up,nn⟩ c (.pointer mp) (.returned res) w1):=HFin w1 (HW2.trans (a1.mono HW2.size));clear a1;go_wp2;go_ret;exact hv▸HE
 have b9:=qn h9
 by_cases h10:k=10
 .subst h10;have hv:res=(decide (lo<=c.ts) && (!hi || decide (c.ts<up))):=HR.trans (by simp[tstB]);have HE:Hid (HoP w bl bh ⟨10,s,hi,t,lo,up,nn⟩ c (.pointer mp) (.returned (decide (lo<=c.ts) && (!hi || decide (c.ts<up)))) W2):=by rw[<-hv];exact HFin W2 HW2
  clear hv;by_cases g1:lo<=c.ts<;>cases hi<;>by_cases g2:c.ts<up
  all_goals simp only[g1,g2,decide_true,decide_false,AY,AW,AS,AQ,AU,AZ]at HE
  all_goals go_enter func193,ntmps193
  all_goals go_wp2_with fail
  all_goals rw[<-hW2]
  all_goals go_ret
  all_goals exact HE
 have a6:=qn h10
 have hv:res=false:=HR.trans (by simp[tstB,h1,h3,h4,h5,h6,h7,h8,h9,h10]);exact xC0
theorem yWa{p:Ent->Bool}:∀(es:List Ent)(r:Nat),r<=es.length->(∀i e,i<r->es[i]?=some e->p e=true)->(∀e,es[r]?=some e->p e=false)->(es.takeWhile p).length=r
 | [],r,hr,_,_=>by simp at hr;simp[hr]
 |a::es,0,_,_,h0=>by
  have:=h0 a (by simp)
  simp[Ae,this]
 |a::es,r+1,hr,h1,h0=>by
  have ha:=h1 0 a qo (by simp)
  rw[Ae,iB ha,length_cons,yWa es r (by simpa using hr) (λi e hi he=>h1 (i+1) e qo (by simpa using he)) (λe he=>h0 e (by simpa using he))]
def skF(h:Hn)(c:Ent)(es:List Ent)(i:Nat):Bool:=match es[i]? with
 |some e=> !yAz h c e
 |none=>true
theorem yRy:EntF 159:=yDl func159 qk rfl
theorem yUj(hE:yA6 w g off es)(hg:g<w.heap.size)(hlen:es.length<=1000000)
  (hmono:∀(i j:Nat)(ei ej:Ent),i<=j->es[i]?=some ei->es[j]?=some ej->yAz h c ej=true->yAz h c ei=true):
  (xf 105 #[h.v,c.c,(xy g off es.length cap)] w (xi (es.takeWhile (yAz h c)).length):Prop):=by
 have⟨n,hn⟩:=qE es.length;have⟨W0,a8⟩:=qW (xw ((w.alloc (AF #[xi h.rank,h.txt] 179)).alloc (AF #[c.j,c.E,c.C,xu c.ts,c.val] 70)) #[(xy g off es.length cap)] 26);have ab:Below w w W0:=a8▸(up3 w _ _ _)
 have zs:W0.heap.size=w.heap.size+3:=by rw[a8];simp
 have ag:=hE.k ab hg;have ae:xk W0 w 0 (xi h.rank)/\xk W0 w 1 h.txt/\xk W0 (w+1) 0 c.j/\xk W0 (w+1) 1 c.E/\xk W0 (w+1) 2 c.C/\xk W0 (w+1) 3 (xu c.ts)/\xk W0 (w+1) 4 c.val/\xk W0 (w+2) 0 (xy g off es.length cap):=by rw[a8];refine⟨?_,?_,?_,?_,?_,?_,?_,?_⟩<;>go_simp
 have HS:Hid (Calls prog 158 #[xi n,.func (AD 159) #[] #[xp w,xp (w+1),xp (w+1+1)]] W0 λe w'=>∃r:Nat,r<=n/\e=.returned (xi r)/\(∀i,i<r->skF h c es i=false)/\(∀i,r<=i->i<n->skF h c es i=true)/\Below W0 W0 w'):=by
  refine yQq qo yRy ?_ ?_
  .intro i j hij hj a9;obtain⟨ei,ad⟩:∃e,es[i]?=some e:=qg qo;obtain⟨ej,ac⟩:∃e,es[j]?=some e:=qg qo;unfold skF at a9|-;rw[ad]at a9;rw[ac];dsimp only at a9|-;cases hs:yAz h c ej
   .rfl
   .rw[hmono i j ei ej hij ad ac hs]at a9;cases a9
  .intro i W hi aa;obtain⟨x,hx⟩:∃e,es[i]?=some e:=qg qo;have aj:=aa.size;have e9:∀q:Addr,q.block<W0.heap.size->W.cell? q=W0.cell? q:=λq hq=>aa.cell hq;have ah:=(ag.k aa qo) i x hx;have⟨a0,a1,a2,a3,a4,a5,a6,a7⟩:=ae
   have hk:=yQu (w:=W) (b1:=w.heap.size) (b2:=w.heap.size+1) (b3:=w.heap.size+1+1) (g:=g) (off:=off) (len:=es.length) (cap:=cap) (i:=i) (h:=h) (c:=c) (x:=x) qo hlen qo qo qo qo
    ⟨by rw[e9 _ (by dsimp only;omega)];exact a0,by rw[e9 _ (by dsimp only;omega)];exact a1,by rw[e9 _ (by dsimp only;omega)];exact a2,by rw[e9 _ (by dsimp only;omega)];exact a3,by rw[e9 _ (by dsimp only;omega)];exact a4,by rw[e9 _ (by dsimp only;omega)];exact a5,by rw[e9 _ (by dsimp only;omega)];exact a6,by rw[e9 _ (by dsimp only;omega)];exact a7,ah⟩
   have hs:skF h c es i= !yAz h c x:=by unfold skF;rw[hx]
   rw[hs];exact hk
 have HB:=qH1 ab;have HT:Hid (∀r,r<=n->(∀i,i<r->skF h c es i=false)->(∀i,r<=i->i<n->skF h c es i=true)->(es.takeWhile (yAz h c)).length=r):=by
  intro r hr h1 h2;refine yWa es r qo (λi e hi he=>?_) (λe he=>?_)
  .have:=h1 i hi;unfold skF at this;rw[he]at this;simpa using this
  .have:=h2 r qr (qw (qf he));unfold skF at this;rw[he]at this;simpa using this
 have⟨T,hT⟩:=qE ((es.takeWhile (yAz h c)).length);rw[<-hT]at HT|-;rw[<-hn]at a8|-;clear ae ag zs ab hmono hE hT hn hlen;go_enter func105,ntmps105;go_wp2_with fail;rw[<-a8];apply HS.mono;rintro e w1 ⟨r,hr,rfl,h1,h2,af⟩;have ai:=HT.out r hr h1 h2;subst ai;have hb2:=HB.trans (af.mono HB.size);go_wp2;go_ret;exact⟨rfl,hb2⟩
variable {b:Ba}
theorem yDz:eqB a b=true↔a=b:=by
 unfold eqB;constructor
 .intro h;have h4:=eq_of_beq h;exact xFi
 .rintro rfl;simp
theorem yXq:lsB a b=true↔cB a b= -1:=by
 constructor
 .intro h;exact yNt h
 .intro h;cases h1:lsB a b
  .by_cases h2:(a.toList==b.toList)=true
   .have:a=b:=yDz.1 h2;rw[yD0.2 this]at h;omega
   .have:=yNs h1 (by simpa using h2);omega
  .rfl
def LeB(a b:Ba):Prop:=cB a b= -1\/a=b
theorem LeB.sand{c:Ba}(h:LeB a b)(k:LeB b c)(e:c=a):b=a:=by
 subst e;rcases h with h|h
 .rcases k with k|k
  .have:=yY9 b c;rw[h,k]at this;omega
  .exact k
 .exact h.symm
theorem LeB.less{c t:Ba}(h:LeB b c)(k:lsB c t=true):lsB b t=true:=by
 rcases h with h|rfl
 .exact yXq.2 (yTz h (yXq.1 k))
 .exact k
def LeC(a b:Ent):Prop:=LeB a.j b.j/\(a.j=b.j->LeB a.E b.E/\(a.E=b.E->LeB a.C b.C))
theorem LeC.refl a:LeC a a:=⟨.inr rfl,λ_=>⟨.inr rfl,λ_=>.inr rfl⟩⟩
theorem LeC.of_key{a b:Ent}(h:yAr (putE a) (putE b)= -1):LeC a b:=by
 have h:yAs (cB a.j b.j) (yAs (cB a.E b.E) (yAs (cB a.C b.C) (yAs (yBo (putE a).f (putE b).f) (yGg a.ts b.ts))))= -1:=h;unfold yAs at h;exact zzU3
theorem yNj(h:LeC c x)(k:LeC x y)(hs:famB c y=true):famB c x=true/\x.j=y.j/\x.E=y.E/\c.j=x.j/\c.E=x.E:=by unfold famB at hs|-;rw[AI,yDz,yDz]at hs;have hr:=h.1.sand k.1 hs.1;have hf:=(h.2 hr.symm).1.sand (k.2 (hr.trans hs.1.symm)).1 hs.2;refine⟨?_,hr.trans hs.1.symm,hf.trans hs.2.symm,hr.symm,hf.symm⟩;rw[AI,yDz,yDz];exact⟨hr,hf⟩
theorem yUa(h1:LeC c x)(h2:LeC x y)(hs:yAz h c y=true):yAz h c x=true:=by
 unfold yAz at hs|-;by_cases r1:h.rank=1
 .rw[iB r1,AI,yDz]at hs;rw[iB r1,AI,yDz];have⟨a,b,d,e,f⟩:=yNj h1 h2 hs.1;exact⟨a,((h1.2 e).2 f).sand ((h2.2 b).2 d) hs.2⟩
 rw[iA r1]at hs|-;by_cases r2:h.rank=2
 .rw[iB r2,AI]at hs;rw[iB r2,AI];have⟨a,b,d,e,f⟩:=yNj h1 h2 hs.1;exact⟨a,((h2.2 b).2 d).less hs.2⟩
 rw[iA r2]at hs|-;by_cases r3:h.rank=3
 .rw[iB r3]at hs|-;exact(yNj h1 h2 hs).1
 rw[iA r3]at hs|-;by_cases r4:h.rank=4
 .rw[iB r4,yDz]at hs;rw[iB r4,yDz];exact h1.1.sand h2.1 hs
 rw[iA r4]at hs|-;by_cases r5:h.rank=5
 .rw[iB r5]at hs|-;exact h2.1.less hs
 rw[iA r5]at hs|-;exact hs
theorem yN5(k:Int)(s:Ba)(h:Bool)(t:Ba)(l u n:Int)(w:Ww):(Instr.build 286 #[(0,.agg #[xi k,s,h,t,xu l,xu u,xi n])]).run prog w=.ok (.agg #[xi k,s,h,t,xu l,xu u,xi n,.pointer none]) w:=qk
def yJ6(n:Nd)(mp:Option Addr):List Vv:= [.int .i64 n.f,.string n.s,.bool n.hi,.string n.t,.int .u64 n.lo,.int .u64 n.up,.int .i64 n.n,.pointer mp]
theorem xCh(ht:tmps[2]?.getD undef=(xp g))(h:yA w O 286 8 g (yJ6 n mp)):(results Tryz.f197 tmps).run prog w=.ok (.agg #[xi n.f,n.s,n.hi,n.t,xu n.lo,xu n.up,xi n.n,.pointer mp]) w:=by have⟨p0,p1,p2,p3,p4,p5,p6,p7⟩:=h.c8;simp[results,results197,ht,go_sem,p0,p1,p2,p3,p4,p5,p6,p7]
def set8(w:Ww)(g:Nat)(n:Nd)(mp:Option Addr):Ww:=(xt (((((((w.setCell (xd g 0) (xi n.f)).setCell (xd g 1) n.s).setCell (xd g 2) n.hi).setCell (xd g 3) n.t).setCell (xd g 4) (xu n.lo)).setCell (xd g 5) (xu n.up)).setCell (xd g 6) (xi n.n)) g 7 (.pointer mp))
theorem yA.set8(h:yA w O t 8 g vs) n (mp:Option Addr):yA (Go.Proofs.YtnnagkfoiganfaaGreatDoor.set8 w g n mp) O t 8 g (yJ6 n mp):=by
 have hl:=h.X;match vs,hl with
 | [a0,a1,a2,a3,a4,a5,a6,a7],_=>exact(((((((h.set 0 _).set 1 _).set 2 _).set 3 _).set 4 _).set 5 _).set 6 _).set 7 _
variable {B:Nat}
theorem yVq{a:Ww}(h:Below B a w){k:Nat}(hk:B<=k) n (mp:Option Addr):Below B a (set8 w k n mp):=yAc (yAc (yAc (yAc (yAc (yAc (yAc (yAc h hk 0 _) hk 1 _) hk 2 _) hk 3 _) hk 4 _) hk 5 _) hk 6 _) hk 7 _
theorem xBe(w:Ww)(g:Nat) n (mp:Option Addr):Chg (λk=>k=g) w (set8 w g n mp):=by unfold set8;refine Chg.trans ?_ (Chg.D _ g 7 _ rfl);refine Chg.trans ?_ (Chg.D _ g 6 _ rfl);refine Chg.trans ?_ (Chg.D _ g 5 _ rfl);refine Chg.trans ?_ (Chg.D _ g 4 _ rfl);refine Chg.trans ?_ (Chg.D _ g 3 _ rfl);refine Chg.trans ?_ (Chg.D _ g 2 _ rfl);refine Chg.trans ?_ (Chg.D _ g 1 _ rfl);refine Chg.trans ?_ (Chg.D _ g 0 _ rfl);exact Chg.refl _ _
def CteP(n:Nd)(w:Ww)(e:AK)(w':Ww):Prop:=∃mp:Option Addr,e=.returned (.agg #[xi n.f,n.s,n.hi,n.t,xu n.lo,xu n.up,xi n.n,.pointer mp])/\Hid (yDq w' w w' n (.pointer mp)/\Below w w w')
theorem yTr(n:Nd)(w W2:Ww)(hW2:W2=(xw ((w.alloc (.cells n.seven.toArray 83)).alloc (.cells #[xi 0,xe,false,xe,xu 0,xu 0,xi 0,.pointer none] 286)) #[xi n.f,n.s,n.hi,n.t,xu n.lo,xu n.up,xi n.n,.pointer none] 286)):yA W2 w 83 7 w n.seven/\yA W2 w 286 8 (w+1) (#[.int .i64 0,.string ⟨#[]⟩,.bool false,.string ⟨#[]⟩,.int .u64 0,.int .u64 0,.int .i64 0,.pointer none]).toList/\yA W2 w 286 8 (w+1+1) (yJ6 n none)/\Below w w W2:=box3 hW2
theorem xCi(n:Nd)(w:Ww)(hT:TabD w):∀(X:Ww)(mp:Option Addr),yA X w 286 8 (w+1) (#[.int .i64 0,.string ⟨#[]⟩,.bool false,.string ⟨#[]⟩,.int .u64 0,.int .u64 0,.int .i64 0,.pointer none]).toList->Below w w X->w.heap.size+1<X.heap.size->yDq X (w+1+1+1) X n (.pointer mp)->CteP n w (.returned (.agg #[xi n.f,n.s,n.hi,n.t,xu n.lo,xu n.up,xi n.n,.pointer mp])) (set8 X (w+1) n mp)/\yA (set8 X (w+1) n mp) w 286 8 (w+1) (yJ6 n mp):=λX mp hB hX hz hTs=>by
 have hc:=xBe X (w+1) n mp
 have hsz:(set8 X (w+1) n mp).heap.size=X.heap.size:=by unfold set8;simp
 refine⟨⟨mp,rfl,?_,yVq hX qo n mp⟩,hB.set8 n mp⟩
 rw[hsz]
 have hV:=hT.lt
 have h9:=hTs.i hc (λk q z=>by have:=z.1;omega) (λ_ q=>qo)
 rcases h9 with q|⟨q,M,q1,hM⟩
 .exact .inl q
 .exact .inr ⟨q,M,q1,hM.wide qo qr hV⟩
theorem yXp(n:Nd) w (hT:TabD w) (hs:n.s.size<=maxLen) (hP:¬PatK n.f):Calls prog 197 #[n.v] w (CteP n w):=by
 have⟨W2,a4⟩:=qE (xw ((w.alloc (.cells n.seven.toArray 83)).alloc (.cells #[.int .i64 0,.string ⟨#[]⟩,.bool false,.string ⟨#[]⟩,.int .u64 0,.int .u64 0,.int .i64 0,.pointer none] 286)) #[.int .i64 n.f,n.s,n.hi,n.t,xu n.lo,xu n.up,xi n.n,.pointer none] 286:Ww);have a0:=qH1 (yTr n w W2 a4);have HT:=qH2 hT hs;have a6:=yN5 n.f n.s n.hi n.t n.lo n.up n.n;have HF:=qH1 (xCi n w hT);go_enter func197,ntmps197;go_upto_region 2 with fail;have a3:=a4;simp only[Nd.seven]at a3;rw[<-a3];clear a4 a3 a6;have⟨n0,n1⟩:=a0.1.c2;have a7:=a0.2.2.1.lt.2;have hk:¬n.f=4/\¬n.f=5/\¬n.f=6/\¬n.f=7:=by unfold PatK at hP;omega
 have b4:(n.f==4)=false:=by rw[iC];exact hk.1
 have b5:(n.f==5)=false:=by rw[iC];exact hk.2.1
 have b6:(n.f==6)=false:=by rw[iC];exact hk.2.2.1
 have b7:(n.f==7)=false:=by rw[iC];exact hk.2.2.2
 clear hk;have a1:=qH4 a0.2.1 a0.2.2.2 (by omega:w.heap.size+1<W2.heap.size) (.inl ⟨hP,rfl⟩:yDq W2 (w+1+1+1) W2 n (.pointer none));have HE:=HF.out W2 none a1.1 a1.2.1 a1.2.2.1 a1.2.2.2;have a5:=qH1 HE;clear HE;obtain⟨W9,a2⟩:=qE (set8 W2 (w+1) n none);rw[<-a2]at a5;simp only[set8]at a2;obtain⟨m0,m1,m2,m3,m4,m5,m6,m7⟩:=a0.2.2.1.c8;obtain⟨r0,r1,r2,r3,r4,r5,r6,r7⟩:=a0.2.1.c8;obtain⟨f0,f1,f2,f3,f4,f5,f6,f7⟩:=a0.2.1.f8;go_wp2_with fail;rw[<-a2];exact AC (xCh (O:=w.heap.size) (g:=w.heap.size+1) rfl a5.2) rfl a5.1
section
theorem yIa{a:Addr}{m:Mode}(f:Fn)(b c:Array Vv):(store a (.func f b c) m).run P w=stored P w a (.func f b c) m:=run_store P w a _ m rfl
attribute [local go_sem] yIa
theorem zBc {p:Prop} (h:p:=by
 have hn:¬p=w.heap.size:=qo
 go_enter func149,ntmps149;go_wp2;exact bodyPost_end (results_none rfl _ _ _) rfl ⟨rfl,rfl⟩):p:=h
variable {p q:Nat} {m:Int}
theorem yH6{v:Vv}(hp:p<w.heap.size)(kd:(xk w p (o+4) (xi 11):Prop))(nn:(xk w p (o+10) (xi m):Prop))(c1:(xk w p (o+11) u:Prop))(c2:(xk w p (o+12) v:Prop))(fz:∀j,w.frozen? (xd p j)=false):
  Calls prog 149 #[.pointer (some ⟨p,o,none⟩),.pointer (some ⟨g,q,none⟩)] w λe w'=>e=.returned (.tuple #[])/\w'=(xw ((w.setCell (xd p (o+11)) (.func (AD 189) #[xp w] #[])).setCell (xd p (o+12)) (.func (AD 190) #[.agg #[xi 1,xe]] #[])) #[.pointer (some ⟨g,q,none⟩),xi m] 283):=by
 exact zBc
theorem yLc{v:Vv}(hp:p<w.heap.size)(kd:(xk w p (o+4) (xi 12):Prop))(nn:(xk w p (o+10) (xi m):Prop))(c1:(xk w p (o+11) u:Prop))(c2:(xk w p (o+12) v:Prop))(fz:∀j,w.frozen? (xd p j)=false):
  Calls prog 149 #[.pointer (some ⟨p,o,none⟩),.pointer (some ⟨g,q,none⟩)] w λe w'=>e=.returned (.tuple #[])/\w'=(xw ((w.setCell (xd p (o+11)) (.func (AD 191) #[xp w] #[])).setCell (xd p (o+12)) (.func (AD 190) #[.agg #[xi 4,xe]] #[])) #[.pointer (some ⟨g,q,none⟩),xi m] 283):=by
 exact zBc
theorem yNw{v:Vv}(hp:p<w.heap.size)(kd:(xk w p (o+4) (xi 13):Prop))(nn:(xk w p (o+10) (xi m):Prop))(c1:(xk w p (o+11) u:Prop))(c2:(xk w p (o+12) v:Prop))(fz:∀j,w.frozen? (xd p j)=false):
  Calls prog 149 #[.pointer (some ⟨p,o,none⟩),.pointer (some ⟨g,q,none⟩)] w λe w'=>e=.returned (.tuple #[])/\w'=(xw ((w.setCell (xd p (o+11)) (.func (AD 192) #[xp w] #[])).setCell (xd p (o+12)) (.func (AD 190) #[.agg #[xi 0,xe]] #[])) #[.pointer (some ⟨g,q,none⟩),xi m] 283):=by
 exact zBc
end
section
attribute [local go_sem] yIa
abbrev ctvV(n:Nd)(mv:Vv):Vv:=.agg #[xi n.f,n.s,n.hi,n.t,xu n.lo,xu n.up,xi n.n,mv]
structure CtvA(w:Ww)(t:Nat)(n:Nd)(mv:Vv):Prop where
 t0:(xk w t 0 (xi n.f):Prop)
 t1:(xk w t 1 n.s:Prop)
 t2:(xk w t 2 n.hi:Prop)
 t3:(xk w t 3 n.t:Prop)
 t4:(xk w t 4 (xu n.lo):Prop)
 t5:(xk w t 5 (xu n.up):Prop)
 t6:(xk w t 6 (xi n.n):Prop)
 t7:(xk w t 7 mv:Prop)
theorem zBt{p:Prop}(h:p:=by have⟨t0,t1,t2,t3,t4,t5,t6,t7⟩:=ht;go_enter func150,ntmps150;go_wp2;exact bodyPost_end (results_none rfl _ _ _) rfl ⟨rfl,rfl⟩):p:=h
abbrev btW(w:Ww)(p o:Nat)(n:Nd)(mv:Vv):Ww:=(xt (w.setCell (xd p (o+11)) (.func (AD 193) #[ctvV n mv] #[])) p (o+12) (.func (AD 190) #[.agg #[xi 0,xe]] #[]))
variable {p:Nat}
theorem yLb{v:Vv}(ht:CtvA w t n mv)(hne:¬p=t)(kd:(xk w p (o+4) (xi 1):Prop))(c1:(xk w p (o+11) u:Prop))(c2:(xk w p (o+12) v:Prop))(fz:∀j,w.frozen? (xd p j)=false):
  Calls prog 150 #[.pointer (some ⟨p,o,none⟩),xp t] w λe w'=>e=.returned (.tuple #[])/\w'=btW w p o n mv:=by
 exact zBt
theorem yLa{v:Vv}(ht:CtvA w t n mv)(hne:¬p=t)(kd:(xk w p (o+4) (xi 2):Prop))(c1:(xk w p (o+11) u:Prop))(c2:(xk w p (o+12) v:Prop))(fz:∀j,w.frozen? (xd p j)=false):
  Calls prog 150 #[.pointer (some ⟨p,o,none⟩),xp t] w λe w'=>e=.returned (.tuple #[])/\w'=(xt (btW w p o n mv) p (o+12) (.func (AD 190) #[.agg #[xi 6,xe]] #[])):=by
 exact zBt
theorem yL{v:Vv}(ht:CtvA w t n mv)(hne:¬p=t)(kd:(xk w p (o+4) (xi 3):Prop))(c1:(xk w p (o+11) u:Prop))(c2:(xk w p (o+12) v:Prop))(fz:∀j,w.frozen? (xd p j)=false):
  Calls prog 150 #[.pointer (some ⟨p,o,none⟩),xp t] w λe w'=>e=.returned (.tuple #[])/\w'=btW w p o n mv:=by
 exact zBt
theorem yK9{v:Vv}(ht:CtvA w t n mv)(hne:¬p=t)(kd:(xk w p (o+4) (xi 4):Prop))(c1:(xk w p (o+11) u:Prop))(c2:(xk w p (o+12) v:Prop))(fz:∀j,w.frozen? (xd p j)=false):
  Calls prog 150 #[.pointer (some ⟨p,o,none⟩),xp t] w λe w'=>e=.returned (.tuple #[])/\w'=(xt (btW w p o n mv) p (o+12) (.func (AD 194) #[xp t] #[])):=by
 exact zBt
theorem yK8{v:Vv}(ht:CtvA w t n mv)(hne:¬p=t)(kd:(xk w p (o+4) (xi 5):Prop))(c1:(xk w p (o+11) u:Prop))(c2:(xk w p (o+12) v:Prop))(fz:∀j,w.frozen? (xd p j)=false):
  Calls prog 150 #[.pointer (some ⟨p,o,none⟩),xp t] w λe w'=>e=.returned (.tuple #[])/\w'=(xt (btW w p o n mv) p (o+12) (.func (AD 190) #[.agg #[xi 3,xe]] #[])):=by
 exact zBt
theorem yK7{v:Vv}(ht:CtvA w t n mv)(hne:¬p=t)(kd:(xk w p (o+4) (xi 6):Prop))(c1:(xk w p (o+11) u:Prop))(c2:(xk w p (o+12) v:Prop))(fz:∀j,w.frozen? (xd p j)=false):
  Calls prog 150 #[.pointer (some ⟨p,o,none⟩),xp t] w λe w'=>e=.returned (.tuple #[])/\w'=(xt (btW w p o n mv) p (o+12) (.func (AD 195) #[xp t] #[])):=by
 exact zBt
theorem yK6{v:Vv}(ht:CtvA w t n mv)(hne:¬p=t)(kd:(xk w p (o+4) (xi 7):Prop))(c1:(xk w p (o+11) u:Prop))(c2:(xk w p (o+12) v:Prop))(fz:∀j,w.frozen? (xd p j)=false):
  Calls prog 150 #[.pointer (some ⟨p,o,none⟩),xp t] w λe w'=>e=.returned (.tuple #[])/\w'=btW w p o n mv:=by
 exact zBt
theorem yK5{v:Vv}(ht:CtvA w t n mv)(hne:¬p=t)(kd:(xk w p (o+4) (xi 8):Prop))(c1:(xk w p (o+11) u:Prop))(c2:(xk w p (o+12) v:Prop))(fz:∀j,w.frozen? (xd p j)=false):
  Calls prog 150 #[.pointer (some ⟨p,o,none⟩),xp t] w λe w'=>e=.returned (.tuple #[])/\w'=(xt (btW w p o n mv) p (o+12) (.func (AD 194) #[xp t] #[])):=by
 exact zBt
theorem yK4{v:Vv}(ht:CtvA w t n mv)(hne:¬p=t)(kd:(xk w p (o+4) (xi 9):Prop))(c1:(xk w p (o+11) u:Prop))(c2:(xk w p (o+12) v:Prop))(fz:∀j,w.frozen? (xd p j)=false):
  Calls prog 150 #[.pointer (some ⟨p,o,none⟩),xp t] w λe w'=>e=.returned (.tuple #[])/\w'=(xt (btW w p o n mv) p (o+12) (.func (AD 195) #[xp t] #[])):=by
 exact zBt
theorem yKf{v:Vv}(ht:CtvA w t n mv)(hne:¬p=t)(kd:(xk w p (o+4) (xi 10):Prop))(c1:(xk w p (o+11) u:Prop))(c2:(xk w p (o+12) v:Prop))(fz:∀j,w.frozen? (xd p j)=false):
  Calls prog 150 #[.pointer (some ⟨p,o,none⟩),xp t] w λe w'=>e=.returned (.tuple #[])/\w'=(xt (btW w p o n mv) p (o+12) (.func (AD 196) #[xp t] #[])):=by
 exact zBt
end
variable {p:Prop}
theorem zMc (h:p:=by
 have hP:PatK n.f:=by unfold PatK;omega
 have a5:=qH1 hk;have a3:=qH1 hP;clear hk hP;have⟨W2,a2⟩:=qW (xw ((w.alloc (.cells n.seven.toArray 83)).alloc (.cells #[xi 0,xe,false,xe,xu 0,xu 0,xi 0,.pointer none] 286)) #[xi n.f,n.s,n.hi,n.t,xu n.lo,xu n.up,xi n.n,.pointer none] 286);have HW2:=qH1 (yTr n w W2 a2);have HT:=qH2 hT hs;have a4:=yN5 n.f n.s n.hi n.t n.lo n.up n.n;have HF:=qH1 (xCi n w hT);have HG:Hid (PatK n.f->(yA0 (sb n.s)).1=0):=λ_=>hg;go_enter func197,ntmps197;go_upto_region 2 with fail;have a1:=a2;simp only[Nd.seven]at a1;rw[<-a1];clear a2 a1 a4;obtain⟨n0,n1⟩:=HW2.1.c2;have a6:=HW2.2.2.1.lt.2;have a7:n.s.size<=200:=by apply Classical.byContradiction;intro h6;have q0:=HG.out a3.out;unfold yA0 at q0;rw[iB (by rw[yAe];omega)]at q0;exact absurd q0 qj
 have HRp:=qH1 (yC n.s W2 hg);have hP0:=qH1 a3.out;have hP:=a3.out;have hk:=a5.out;(first|have b4:(n.f==4)=true:=by rw[hk];rfl|have b4:(n.f==4)=false:=by rw[hk];rfl);(first|have b5:(n.f==5)=true:=by rw[hk];rfl|have b5:(n.f==5)=false:=by rw[hk];rfl);(first|have b6:(n.f==6)=true:=by rw[hk];rfl|have b6:(n.f==6)=false:=by rw[hk];rfl);(first|have b7:(n.f==7)=true:=by rw[hk];rfl|have b7:(n.f==7)=false:=by rw[hk];rfl);have a8:=qH1 hk;clear hk hP;exact zzQ0):p:=h
theorem mct(n:Nd) w (hT:TabD w) (hs:n.s.size<=maxLen) (hg:(yA0 (sb n.s)).1=0) (h:PatK n.f):Calls prog 197 #[n.v] w (CteP n w):=by rcases h with hk|hk|hk|hk<;>exact zMc
theorem yHs(n:Nd) w (hT:TabD w) (hs:n.s.size<=maxLen) (hg:PatK n.f->(yA0 (sb n.s)).1=0):Calls prog 197 #[n.v] w (CteP n w):=by
 by_cases hP:PatK n.f
 .exact mct n w hT hs (hg hP) hP
 .exact yXp n w hT hs hP
theorem xHb:(83:TypeId)<prog.types.size:=of_decide_eq_true qk
theorem xGz:(match prog.underlying 83 with|some (.array _ _)|some (.struct _)=>true|_=>false)=true:=qk
theorem yXx:Keyed prog 83:=Keyed.of_law (deep_law_laid xEa (m:=2) qo xHb qk xGz)
def ndL(n:Nd):Lit:=.string (keyBytes [.int .i64 n.f,.string n.s.data.toList,.bool n.hi,.string n.t.data.toList,.int .u64 n.lo,.int .u64 n.up,.int .i64 n.n])
theorem yU6(h:n.ok):keyOf prog 83 n.v=some (ndL n):=by
 have h1:prog.keyType 83=true:=qk
 have h2:prog.cellsOf 83=7:=qk
 have h3:prog.cellsOf 2=1:=qk
 have h4:prog.cellsOf 68=1:=qk
 have h5:prog.cellsOf 4=1:=qk
 have h6:prog.cellsOf 9=1:=qk
 obtain⟨m,hm⟩:∃m,prog.types.size=m+1:=⟨prog.types.size-1,by have h:(83:Nat)<prog.types.size:=xHb;omega⟩;unfold keyOf;rw[underlying83];simp only[h1,Value.formed,underlying83,h2,hm];simp[Program.keyLits,underlying83,underlying9,underlying2,underlying68,underlying4,h2,h3,h4,h5,h6,Value.cells,h.s,h.t,h.f,h.lo,h.up,h.n,ndL]
theorem xHi(h:n.ok)(h':n'.ok)(e:ndL n=ndL n'):n=n':=by
 have h1:=yU6 h;have h2:=yU6 h';rw[<-e]at h2;have:=yXx.inj h1 h2;cases n
 cases n'
 simp at this;simp[this]
structure Tt where
 n:Nd
 t:Nat
 lo:Nat
 hi:Nat
 mp:Option Addr
def MpA(w:Ww)(B N:Nat)(Ts:List Tt):Prop:=
 ∃D,w.ownsMap prog 83 Rh B N D/\∀n:Nd,n.ok->((∀T∈Ts,¬T.n=n)/\Maps.has D (ndL n)=false)\/∃T∈Ts,T.n=n/\Maps.has D (ndL n)=true/\∀z,D.atKey (ndL n) z=.held (xp T.t)
variable {N:Nat} {Ts:List Tt}
theorem MpA.lt(h:MpA w B N Ts):B<w.heap.size:=by have⟨D,h,_⟩:=h;exact h.lt
theorem MpA.i{S:Nat->Prop}(h:MpA w B N Ts)(hc:Chg S w w')(hn:¬S B):MpA w' B N Ts:=by have⟨D,hD,k⟩:=h;have a0:=hD.lt;have⟨es,a2,hb,F,hs,a1⟩:=hD;exact⟨D,⟨es,a2,(hc.block B a0 hn).trans hb,F,hs,a1⟩,k⟩
theorem xGr(w:Ww):(zeroValue 242).run prog w=.ok (.pointer none) w:=qk
theorem MpA.look(h:MpA w B N Ts)(hn:n.ok):
  ((∀T∈Ts,¬T.n=n)/\(Instr.lookup 172 (.map (some B)) n.v true).run prog w=.ok (.tuple #[.pointer none,false]) w)\/∃T∈Ts,T.n=n/\(Instr.lookup 172 (.map (some B)) n.v true).run prog w=.ok (.tuple #[xp T.t,true]) w:=by
 have⟨D,hD,hv⟩:=h;have⟨v,ps,a1,hR⟩:=hD.look_ok yXx underlying172 (xGr w) (zd:=.held (.pointer none)) (zp:= []) rfl (yU6 hn);have a0:=(xIy hR).1;rcases hv n hn with⟨h1,h2⟩|⟨T,hT,h1,h2,h3⟩
 .rw[Maps.atKey_of_not_has h2]at a0;simp only[DataW.held.injEq]at a0;rw[<-a0,h2]at a1;exact .inl ⟨h1,a1⟩
 .rw[h3]at a0;simp only[DataW.held.injEq]at a0;rw[<-a0,h2]at a1;exact .inr ⟨T,hT,h1,a1⟩
theorem MpA.put(h:MpA w B N Ts)(hN:N<maxLen)(T:Tt)(hn:T.n.ok)(hnew:∀T'∈Ts,¬T'.n=T.n):
  ∃w',(Instr.mapUpdate 172 (.map (some B)) T.n.v (xp T.t)).run prog w=.ok () w'/\MpA w' B (N+1) (T::Ts)/\w.grownBy w' (some B):=by
 have⟨D,hD,hv⟩:=h;have⟨w',a1,ho,hg⟩:=hD.update yXx underlying172 hN (yU6 hn) (val:=(xp T.t)) (d:=.held (xp T.t)) (ps:= []) rfl;refine⟨w',a1,⟨_,ho,λn hno=>?_⟩,hg⟩;by_cases he:n=T.n
 .subst he;exact .inr ⟨T,mem_cons_self,rfl,Maps.has_put_same hD.isMap (yXx.key (yU6 hn)) _,λz=>Maps.atKey_put_same hD.isMap (yXx.key (yU6 hn)) _ z⟩
 .have a0:ndL n≠ndL T.n:=λq=>he (xHi hno hn q);rcases hv n hno with⟨h1,h2⟩|⟨T',a2,h1,h2,h3⟩
  .exact .inl ⟨λX hX=>by
    rcases Af.1 hX with rfl|hX
    .exact λq=>he q.symm
    .exact h1 X hX,by rw[Maps.has_put_other a0];exact h2⟩
  .exact .inr ⟨T',mem_cons_of_mem _ a2,h1,by rw[Maps.has_put_other a0];exact h2,λz=>by rw[Maps.atKey_put_other a0];exact h3 z⟩
theorem xAv(w:Ww):MpA (w.alloc (.map #[] 0)) w 0 []:=
 ⟨.map [],World.ownsMap_made w prog 83 Rh,λn _=>.inl ⟨λT hT=>by simp at hT,rfl⟩⟩
noncomputable def lowB(n:Nd):Ba:=if n.f=4\/n.f=5\/n.f=6\/n.f=7 then pfxB n.s else n.s
structure TtA(T:Tt)(W:Ww):Prop where
 ctv:CtvA W T.t T.n (.pointer T.mp)
 low:(xk W T.t 8 (lowB T.n):Prop)
 lt:T.t<W.heap.size
 tst:yDq W T.lo T.hi T.n (.pointer T.mp)
 r1:T.lo<=T.hi
 r2:T.hi<=T.t
 tab:1<T.lo
variable {T:Tt}
theorem TtA.i{S:Nat->Prop}(h:TtA T W)(hc:Chg S W W')(hS:∀q,S q->¬(T.lo<=q/\q<=T.t))(hv:¬S 1):TtA T W':=by have a1:=h.lt;have r1:=h.r1;have r2:=h.r2;have hnt:¬S T.t:=λq=>hS _ q ⟨qo,AO _⟩;have⟨t0,t1,t2,t3,t4,t5,t6,t7⟩:=h.ctv;have a0:∀j,W'.cell? (xd T.t j)=W.cell? (xd T.t j):=λj=>hc.z (p:=(xd T.t j)) a1 hnt;exact⟨⟨(a0 0).trans t0,(a0 1).trans t1,(a0 2).trans t2,(a0 3).trans t3,(a0 4).trans t4,(a0 5).trans t5,(a0 6).trans t6,(a0 7).trans t7⟩,(a0 8).trans h.low,AH a1 hc.size,h.tst.i hc (λk hk z=>hS k hk ⟨z.1,by have:=z.2;omega⟩) (λ_=>hv),r1,r2,h.tab⟩
structure TsA(O:Nat)(Ts:List Tt)(W:Ww):Prop where
 U:∀T∈Ts,TtA T W/\O<=T.lo
 apart:Ts.Pairwise λT T'=>T'.t<T.lo
 tab:TabD W
 tabl:1<O
theorem TsA.i{S:Nat->Prop}(h:TsA O Ts W)(hc:Chg S W W')(hS:∀q,S q->q<O\/W.heap.size<=q)(hv:¬S 1):TsA O Ts W':=
 ⟨λT hT=>⟨(h.U T hT).1.i hc (λq hq z=>by have:=(h.U T hT).1.lt;have:=(h.U T hT).2;rcases hS q hq with k|k<;>omega) hv,(h.U T hT).2⟩,h.apart,h.tab.i hc hv,h.tabl⟩
theorem EnI.SV{i:Nat}{k:Ctr}{b:Nat}(h:EnI O t g cap ks i k most c b w wx)(ho:i*4=o):(λwz:Ww=>xk wz t 0 (.pointer (some ⟨g,o,none⟩))/\xk wz b 0 c.j/\xk wz b 1 c.E/\xk wz b 2 c.C/\xk wz b 3 (xu c.ts)/\xk wz b 4 c.val/\xk wz g o k.j/\xk wz g (o+1) k.E/\xk wz g (o+2) k.C) wx:=by have⟨h0,h1,h2,h3,h4,h5⟩:=h.S ho;have⟨c0,c1,c2,_⟩:=h.ck.cells;rw[ho]at c0 c1 c2;exact⟨h0,h1,h2,h3,h4,h5,c0,c1,c2⟩
def yF5(same:Bool)(k:Ctr)(c:Ent):Ctr:=if same=true then k else entC c
def yPw(same:Bool)(k:Ctr)(c:Ent)(most:Int):Ctr:=if(yF5 same k c).count<most then {yF5 same k c with count:=(yF5 same k c).count+1}else yF5 same k c
def CnP(O t g cap:Nat)(ks:List Ctr)(i:Nat)(k:Ctr)(most:Int)(c:Ent)(same:Bool)(w:Ww)(e:AK)(w':Ww):Prop:=
 e=.returned (decide ((yF5 same k c).count<most))/\CkA w' O t g cap (ks.set i (yPw same k c most)) i (yPw same k c most) most/\Chg (λq=>q=g) w w'
theorem yWj{i:Nat}{k:Ctr}(h:ks[i]?=some k):ks.set i k=ks:=by obtain⟨hi,rfl⟩:=List.getElem?_eq_some_iff.1 h;exact set_getElem_self hi
variable {e:Ending}
variable {k1:Ctr} {ks1:List Ctr}
theorem xH0{i:Nat}{k:Ctr}(hk:ks[i]?=some k)(h1:ks1=if same=true then ks else ks.set i (entC c))(h2:k1=if same=true then k else entC c)(hc:Chg (λq=>q=g) w w1)(ht:TkP O t g cap ks1 i k1 most w1 e w2):CnP O t g cap ks i k most c same w e w2:=by
 have⟨t1,t2,t3⟩:=ht;have a0:k1=yF5 same k c:=h2;have hs:∀x,ks1.set i x=ks.set i x:=λx=>by
  rw[h1];cases same
  .simp
  .simp
 refine⟨by rw[t1,a0],?_,hc.trans t3⟩;unfold yPw;rw[<-a0];by_cases hl:k1.count<most
 .rw[iB hl,iB hl]at t2;rw[iB hl,<-hs];exact t2
 .rw[iA hl,iA hl]at t2;rw[iA hl,<-hs,yWj t2.U];exact t2
theorem EnI.start{i:Nat}{k:Ctr}(h:CkA w O t g cap ks i k most)(c:Ent){b:Nat}(hb:b=w.heap.size)(hW1:W1=(xw w #[c.j,c.E,c.C,xu c.ts,c.val] 70)):EnI O t g cap ks i k most c b w W1:=by
 have a0:=qN hW1
 exact⟨h.on a0,by rw[hb,hW1];exact yAa w _ qr rfl,a0⟩
theorem yKb{i:Nat}{k:Ctr}(h:CkA w O t g cap ks i k most)(c:Ent)(hc:0<=k.count/\k.count<=1000000):
  Calls prog 191 #[xp t,c.c] w (CnP O t g cap ks i k most c (k.j.toList==c.j.toList) w):=by
 have⟨W1,a2⟩:=qW (xw w #[c.j,.string c.E,.string c.C,.int .u64 c.ts,.string c.val] 70);have⟨b,hb⟩:=qE w.heap.size;obtain⟨o,ho⟩:∃o,i*4=o:=⟨_,rfl⟩;have HO:=qH1 ho;have ac:=qH1 h.U;have⟨sm,a1⟩:=qE ((k.j.toList==c.j.toList));rw[<-a1];have a9:Hid (sm=(k.j.toList==c.j.toList)):=a1;have a3:Hid (EnI O t g cap ks i k most c b w W1.drew):=(EnI.start h c hb a2).on ((Below.refl _ _).drew);have ad:Hid (∀wz,(xf 99 #[c.c] wz (putE c).v:Prop)):=λwz=>yCv c wz;have ae:Hid (∀wz,(xf 216 #[(putE c).v] wz (.agg #[c.j,c.E,c.C]):Prop)):=λwz=>yH0 (putE c) wz;have ab:Hid (∀wz,EnI O t g cap ks i k most c b w wz->Calls prog 215 #[xp t,c.c,sm] wz (EnP O t g cap ks i k most c sm wz)):=λwz hz=>enter_core' hz.ck c sm;have a8:Hid (∀(wz wy:Ww),EnI O t g cap ks i k most c b w wz->∀e,EnP O t g cap ks i k most c sm wz e wy->Calls prog 217 #[xp t] wy (CnP O t g cap ks i k most c sm w)):=λwz wy hz e hy=>(yLh hy.2.1 (by cases sm<;>simp[entC];omega)).mono λe' w' ht=>xH0 ac.out rfl rfl ((Chg.h hz.k).trans hy.2.2) ht;clear h ho a1;go_enter func191,ntmps191;go_upto_region 1 with fail;rw[<-a2,<-hb];clear a2 hb;have a0:SW (λwz:Ww=>xk wz t 0 (.pointer (some ⟨g,o,none⟩))/\xk wz b 0 c.j/\xk wz b 1 c.E/\xk wz b 2 c.C/\xk wz b 3 (xu c.ts)/\xk wz b 4 c.val/\xk wz g o k.j/\xk wz g (o+1) k.E/\xk wz g (o+2) k.C) W1.drew:=a3.SV HO.out;refine wpR 13 a0 ?_;refine yAi [] 0 ?vc0 rfl ?yc0 a0 ?_;case yc0=>exact zzR0
 refine jS ?_;refine yAi [] 1 ?vc1 rfl ?yc1 a0 ?_;case yc1=>exact zzR0
 refine jS ?_;refine yAi [3,4,5,6,7,8,9,12] 2 ?vc2 rfl ?yc2 a0 ?_;case yc2=>exact zzR0
 refine jS ?_;refine yAi [4,5,6,7,8,9,12] 3 ?vc3 rfl ?yc3 a0 ?_;case yc3=>exact zzR0
 refine jS ?_;refine yAi [5,6,7,8,9,12] 4 ?vc4 rfl ?yc4 a0 ?_;case yc4=>exact zzR0
 refine jS ?_;refine yAi [6,7,8,9,12] 5 ?vc5 rfl ?yc5 a0 ?_;case yc5=>exact zzR0
 refine jS ?_;refine yAi [7,8,9,12] 6 ?vc6 rfl ?yc6 a0 ?_;case yc6=>exact zzR0
 refine jS ?_;refine yAi [8,9,12] 7 ?vc7 rfl ?yc7 a0 ?_;case yc7=>exact zzR0
 refine jS ?_;refine yAi [9,12] 8 ?vc8 rfl ?yc8 a0 ?_;case yc8=>exact zzR0
 refine jS ?_;refine yAi [12] 9 ?vc9 rfl ?yc9 a0 ?_;case yc9=>exact zzR0
 refine jS ?_;refine yAi [11,12] 10 ?vc10 rfl ?yc10 a0 ?_;case yc10=>exact zzR0
 refine jS ?_;refine yAi [12] 11 ?vc11 rfl ?yc11 a0 ?_;case yc11=>exact zzR0
 refine jS ?_;refine yAi [] 12 sm rfl ?yc12 a0 ?_;case yc12=>(intro wz hSw;obtain⟨z0,z1,z2,z3,z4,z5,z6,z7,z8⟩:=hSw;go_simp;rw[a9.out])
 refine jS ?_;refine qO 13 rfl λK hK=>?_;go_simp;refine(ab.out _ a3.out).mono ?_;rintro e wy hy;have HY:=a8.out _ _ a3.out e hy;obtain⟨rfl,_,_⟩:=hy;refine hK.out _ _ (.inl rfl) (jS ?_);clear hK a0;refine qD ?_;have a7:Hid (Calls prog 217 #[xp t] wy (CnP O t g cap ks i k most c sm w)):=HY;clear HY;go_wp2_with fail;refine a7.mono ?_;rintro e w9 h9;obtain⟨a6,a5,a4⟩:=h9;subst a6;have aa:Hid (CnP O t g cap ks i k most c sm w (.returned (decide ((yF5 sm k c).count<most))) w9):=⟨rfl,a5,a4⟩;clear a5 a4;go_wp2;go_ret;exact aa.out
theorem yUc{i:Nat}{k:Ctr}(h:CkA w O t g cap ks i k most)(c:Ent)(hc:0<=k.count/\k.count<=1000000):
  Calls prog 192 #[xp t,c.c] w λe w'=>e=.returned (!decide ((yF5 (k.j.toList==c.j.toList) k c).count<most))/\CkA w' O t g cap (ks.set i (yPw (k.j.toList==c.j.toList) k c most)) i (yPw (k.j.toList==c.j.toList) k c most) most/\Chg (λq=>q=g) w w':=by
 have⟨W1,a1⟩:=qW (xw w #[c.j,c.E,c.C,xu c.ts,c.val] 70);have H1:=qH1 (EnI.start h c rfl a1);have HC:=qH1 (yKb H1.ck c hc);have⟨y0,y1,y2,y3,y4⟩:=H1.A.c5;have⟨bb,a0⟩:=qE (decide ((yF5 (k.j.toList==c.j.toList) k c).count<most));have a2:=qH1 a0;rw[<-a0];clear h a0;go_enter func192,ntmps192;go_upto_region 1 with fail;rw[<-a1];clear a1;go_wp2_with fail;refine HC.mono ?_;rintro e w2 ⟨h1,h2,h3⟩;rw[<-a2.out]at h1;subst h1;have H2:=qH2 h2 ((Chg.h H1.k).trans h3);clear h2 h3;go_wp2;go_ret;exact⟨rfl,H2.out⟩
theorem yLr(h:yCz n)(hk:PatK n.f):(yA0 (sb n.s)).1=0:=by
 unfold PatK at hk;rcases h.2.2.2 with q|q|q|q|q
 .exact q.2.2
 .have:=q.1;omega
 .have:=q.1;omega
 .have:=q.1;omega
 .have:=q.1;omega
theorem yPe(n:Nd)(hs:(yA0 (sb n.s)).1=0):∃q:Bool,∀W,Calls prog 198 #[.string n.s] W λe w'=>e=.returned (.agg #[.string (pfxB n.s),.bool q])/\Below W W w':=
 ⟨_,λW=>yJy n.s W hs _ (yWy n.s)⟩
theorem ySp(h:TsA O Ts W)(hT:TtA T W)(hb:O<=T.lo)(ho:∀X∈Ts,X.t<T.lo):TsA O (T::Ts) W:=
 ⟨λX hX=>by
  rcases Af.1 hX with rfl|hX
  .exact⟨hT,hb⟩
  .exact h.U X hX,List.pairwise_cons.2 ⟨ho,h.apart⟩,h.tab,h.tabl⟩
theorem TsA.turn(h:TsA O Ts W)(hc:Chg (λq=>q=B) W W')(hB:∀X∈Ts,X.t<B)(hv:¬1=B):TsA O Ts W':=
 ⟨λT hT=>⟨(h.U T hT).1.i hc (λq hq z=>qw (hB T hT)) hv,(h.U T hT).2⟩,h.apart,h.tab.i hc hv,h.tabl⟩
theorem xCb(h:¬PatK n.f):lowB n=n.s:=by unfold PatK at h;unfold lowB;rw[iA h]
theorem yQ7(h:PatK n.f):lowB n=pfxB n.s:=by unfold PatK at h;unfold lowB;rw[iB h]
def TeP(O B N:Nat)(Ts:List Tt)(n:Nd)(w:Ww)(e:AK)(w':Ww):Prop:=
 ∃T:Tt,e=.returned (xp T.t)/\Hid (∃N' Ts',T∈Ts'/\T.n=n/\(∀X∈Ts,X∈Ts')/\(∀X∈Ts',X∈Ts\/w<=X.lo)/\MpA w' B N' Ts'/\N'<=N+1/\TsA O Ts' w'/\Chg (λq=>q=B) w w')
theorem zTeB (h:p:=by
 obtain⟨w9,hput,hM9,hg9⟩:=HBx.2.2.1.put (by unfold maxLen;omega) T (by rw[HTn.out];exact HnO.out) (by rw[HTn.out];exact hnew.out);have HE:Hid (∃N' Ts',T∈Ts'/\T.n=n/\(∀X∈Ts,X∈Ts')/\(∀X∈Ts',X∈Ts\/w.heap.size<=X.lo)/\MpA w9 B N' Ts'/\N'<=N+1/\TsA O Ts' w9/\Chg (λq=>q=B) w w9):=by
  have hc9:Chg (λq=>q=B) wx w9:=Chg.M hg9 (λq hq=>by cases hq;rfl);refine⟨N+1,T::Ts,mem_cons_self,HTn.out,λX hX=>mem_cons_of_mem _ hX,λX hX=>?_,hM9,Nat.le_refl _,?_,HBx.2.2.2.2.1.trans hc9⟩
  .rcases mem_cons.1 hX with rfl|hX
   .exact .inr HBx.2.2.2.2.2
   .exact .inl hX
  .exact HBx.2.2.2.1.i hc9 (λq hq=>.inl (qw HBb.out)) (qw HBb.out)
 rw[HTn.out,HTt.out]at hput;have⟨x0,x1,x2,x3,x4,x5,x6⟩:=HBx.2.1.c7;have y0:=HBx.1.z (j:=0) rfl;clear hM9 hg9;go_wp2;go_ret;exact⟨T,by rw[HTt.out];rfl,HE⟩):p:=h
theorem yWd(hM:MpA w B N Ts)(hT:TsA O Ts w)(hB:B<O)(hbw:O<=w.heap.size)(hN:N<10000000)(hVB:¬1=B)(hn:n.ok)(hg:yCz n):
  Calls prog 151 #[.agg #[.map (some B)],n.v] w (TeP O B N Ts n w):=by
 have⟨W0,a7⟩:=qW (xw (w.alloc (AF #[.map (some B)] 174)) #[xi n.f,n.s,n.hi,n.t,xu n.lo,xu n.up,xi n.n] 83);have H0:Hid (yA W0 w 174 1 w [.map (some B)]/\yA W0 w 83 7 (w+1) n.seven/\Below w w W0):=by
  have⟨X,hX⟩:=qW (xw w #[.map (some B)] 174);rw[<-hX]at a7;have zx:=qS hX
  have k1:=qN hX
  have k2:=qN a7
  have b1:yA X w 174 1 w [.map (some B)]:=hX▸(yAa w _ qr rfl)
  have b2:yA W0 w 83 7 (w+1) n.seven:=by rw[a7,<-zx];exact yAa X _ (by omega) rfl
  exact⟨b1.k k2,b2,k1.trans (k2.mono (by omega))⟩
 have HM:Hid (MpA W0 B N Ts/\TsA O Ts W0):=by have hc:Chg (λ_=>False) w W0:=Chg.h H0.2.2;exact⟨hM.i hc (λq=>q),hT.i hc (λq hq=>hq.elim) (λq=>q)⟩
 have HnO:Hid n.ok:=hn;have az:Hid (yCz n):=hg;have HBb:Hid (B<O/\O<=w.heap.size/\¬1=B):=⟨hB,hbw,hVB⟩;have c0:=H0.1.z (j:=0) rfl;have⟨x0,x1,x2,x3,x4,x5,x6⟩:=H0.2.1.c7;have hlk:=HM.1.look hn;rcases hlk with⟨an,al⟩|⟨T,aq,ao,al⟩
 .have hnew:Hid (∀T∈Ts,¬T.n=n):=an;go_enter func151,ntmps151;go_upto_region 1 with fail;rw[<-a7];clear a7;go_upto_region 4 with fail;have ai:Hid (∀X:Ww,yA X w 83 7 (w+1) n.seven->(λw':Ww=>xk w' (w+1) 0 (xi n.f)/\xk w' (w+1) 1 n.s/\xk w' (w+1) 2 n.hi/\xk w' (w+1) 3 n.t/\xk w' (w+1) 4 (xu n.lo)/\xk w' (w+1) 5 (xu n.up)/\xk w' (w+1) 6 (xi n.n)/\xk w' (w+1) 0 (xi n.f)) X):=λX h=>⟨h.z (j:=0) rfl,h.z (j:=1) rfl,h.z (j:=2) rfl,h.z (j:=3) rfl,h.z (j:=4) rfl,h.z (j:=5) rfl,h.z (j:=6) rfl,h.z (j:=0) rfl⟩;have a8:Below W0 W0 W0.drew:=(Below.refl _ _).drew
  have HD:Hid (yA W0.drew w 174 1 w [.map (some B)]/\yA W0.drew w 83 7 (w+1) n.seven/\Below w w W0.drew/\MpA W0.drew B N Ts/\TsA O Ts W0.drew):=
   ⟨H0.1.k a8,H0.2.1.k a8,H0.2.2.trans (a8.mono H0.2.2.size),HM.1.i (S:=λ_=>False) (Chg.h a8) (λq=>q),HM.2.i (S:=λ_=>False) (Chg.h a8) (λq hq=>hq.elim) (λq=>q)⟩
  have a9:=ai.out _ HD.2.1;refine yAf 99 (λw':Ww=>xk w' (w+1) 0 (xi n.f)/\xk w' (w+1) 1 n.s/\xk w' (w+1) 2 n.hi/\w'.cell? (xd (w.heap.size+1) 3)=some (.string n.t)/\w'.cell? (xd (w.heap.size+1) 4)=some (.int .u64 n.lo)/\w'.cell? (xd (w.heap.size+1) 5)=some (.int .u64 n.up)/\w'.cell? (xd (w.heap.size+1) 6)=some (.int .i64 n.n)/\w'.cell? (xd (w.heap.size+1) 0)=some (.int .i64 n.f)) (by kernel_rfl) ?_;generalize W0.drew=WD at HD a9|-;have ak:Hid (∀X∈Ts,X.t<WD.heap.size):=λX hX=>(HD.2.2.2.2.U X hX).1.lt;have au:Hid (Calls prog 197 #[.agg #[.int .i64 n.f,.string n.s,.bool n.hi,.string n.t,.int .u64 n.lo,.int .u64 n.up,.int .i64 n.n]] WD (CteP n WD)):=yHs n WD HD.2.2.2.2.tab HnO.s (yLr az.out);refine ja 0 a9 ?_;refine ja 2 a9 ?_;refine jb a9 ?_;refine qO 1 rfl λK hK=>?_;go_simp;refine au.mono ?_;rintro e w3 ⟨mp,rfl,H3⟩;have a6:=H3.2
  have a5:Hid (yA w3 w.heap.size 174 1 w.heap.size [.map (some B)]/\yA w3 w.heap.size 83 7 (w.heap.size+1) n.seven/\Below w.heap.size w w3/\MpA w3 B N Ts/\TsA O Ts w3/\yDq w3 WD.heap.size w3.heap.size n (.pointer mp)/\WD.heap.size<=w3.heap.size/\w.heap.size<=WD.heap.size):=
   ⟨HD.1.k a6,HD.2.1.k a6,HD.2.2.1.trans (a6.mono HD.2.2.1.size),HD.2.2.2.1.i (S:=λ_=>False) (Chg.h a6) (λq=>q),HD.2.2.2.2.i (S:=λ_=>False) (Chg.h a6) (λq hq=>hq.elim) (λq=>q),H3.1,a6.size,HD.2.2.1.size⟩
  have ah:=ai.out _ a5.2.1;clear a6 H3 HD a9 au;refine hK.out _ _ (.inr ah) (jS ?_);clear hK;refine ja 4 ah ?_;obtain⟨W4,ab⟩:=qW (w3.alloc (AF #[.int .i64 n.f,.string n.s,.bool n.hi,.string n.t,.int .u64 n.lo,.int .u64 n.up,.int .i64 n.n,.pointer mp,.string n.s] 288));have a2:Hid (yA W4 w.heap.size 174 1 w.heap.size [.map (some B)]/\yA W4 w.heap.size 83 7 (w.heap.size+1) n.seven/\Below w.heap.size w W4/\MpA W4 B N Ts/\TsA O Ts W4/\yDq W4 WD.heap.size w3.heap.size n (.pointer mp)/\yA W4 w.heap.size 288 9 w3.heap.size [.int .i64 n.f,.string n.s,.bool n.hi,.string n.t,.int .u64 n.lo,.int .u64 n.up,.int .i64 n.n,.pointer mp,.string n.s]):=by
   have k4:Below w3 w3 W4:=by rw[ab];exact qB
   obtain⟨h1,h2,h3,h4,h5,h6,h7,h8⟩:=a5.out;exact⟨h1.k k4,h2.k k4,h3.trans (k4.mono h3.size),h4.i (S:=λ_=>False) (Chg.h k4) (λq=>q),h5.i (S:=λ_=>False) (Chg.h k4) (λq hq=>hq.elim) (λq=>q),h6.k k4,by rw[ab];exact yAa w3 _ h3.size rfl⟩
  have ag:=ai.out _ a2.2.1;have a3:=a5.2.2.2.2.2.2;refine qO 5 rfl λK hK=>?_;go_simp;rw[<-ab];refine hK.out _ _ (.inr ag) (jS ?_);clear hK ab ah;refine qO 6 rfl λK hK=>?_;go_simp;refine hK.out _ _ (.inr ag) (jS ?_);clear hK ag;refine qD ?_;have t7:=a2.2.2.2.2.2.2.z (j:=7) rfl;obtain⟨T,a0⟩:=qE (⟨n,w3.heap.size,WD.heap.size,w3.heap.size,mp⟩:Tt);have HTn:Hid (T.n=n):=by show _=_;rw[a0]
  have HTt:Hid (T.t=w3.heap.size):=by show _=_;rw[a0]
  have ac:=a2.2.2.2.2.2.1;rcases ac with⟨hP,ae⟩|⟨hP,M,ae,ac⟩
  .cases ae
   obtain⟨wx,a4⟩:=qW W4;have HBx:Hid (yA wx w.heap.size 174 1 w.heap.size [.map (some B)]/\yA wx w.heap.size 83 7 (w.heap.size+1) n.seven/\MpA wx B N Ts/\TsA O (T::Ts) wx/\Chg (λq=>q=B) w wx/\w.heap.size<=T.lo):=by
    obtain⟨h1,h2,h3,h4,h5,h6,h7⟩:=a2.out;rw[a4];refine⟨h1,h2,h4,?_,Chg.h h3,by rw[a0];exact a3.2⟩;refine ySp h5 ?_ (by rw[a0];show O<=WD.heap.size;have:=HBb.2.1;omega) (λX hX=>?_)
    .rw[a0];exact⟨⟨h7.z (j:=0) rfl,h7.z (j:=1) rfl,h7.z (j:=2) rfl,h7.z (j:=3) rfl,h7.z (j:=4) rfl,h7.z (j:=5) rfl,h7.z (j:=6) rfl,h7.z (j:=7) rfl⟩,by rw[xCb hP];exact h7.z (j:=8) rfl,h7.lt.2,h6,a3.1,AO _,by show _<WD.heap.size;have:=h5.tabl;have:=HBb.2.1;omega⟩
    .rw[a0];show X.t<WD.heap.size;exact ak.out X hX
   rw[<-a4]at t7|-;clear a4 hP a2 a5 a3 a0;exact zTeB
  .cases ae
   obtain⟨qb,am⟩:=yPe n (yLr az.out hP);have ar:Hid (∀W,(xf 198 #[n.s] W (.agg #[(pfxB n.s),qb]):Prop)):=am;obtain⟨pb,ad⟩:=qE (pfxB n.s);rw[<-ad]at ar;have aA:∀W:Ww,(Instr.field 268 (.agg #[pb,qb]) 0).run prog W=.ok pb W:=λW=>by kernel_rfl
   have x1:=a2.2.1.z (j:=1) rfl;have aj:Hid (pb=pfxB n.s/\PatK n.f):=⟨ad,hP⟩;clear am ad hP;go_wp2_with fail;refine(ar.out _).mono ?_;rintro e w5 ⟨rfl,af⟩;obtain⟨wx,a4⟩:=qW (xt w5 w3 8 pb);have aa:=a2.2.2.2.2.2.2.k af;have u8:=aa.z (j:=8) rfl;have f8:=aa.frozen 8;have HBx:Hid (yA wx w 174 1 w [.map (some B)]/\yA wx w 83 7 (w+1) n.seven/\MpA wx B N Ts/\TsA O (T::Ts) wx/\Chg (λq=>q=B) w wx/\w.heap.size<=T.lo):=by
    obtain⟨h1,h2,h3,h4,h5,h6,h7⟩:=a2.out;have ax:Chg (λq=>q=w3.heap.size) w5 wx:=by rw[a4];exact Chg.D _ _ _ _ rfl
    have k3:Chg (λq=>q=w3.heap.size) W4 wx:=(Chg.h af).trans ax;have a1:yA wx w 288 9 w3 [xi n.f,n.s,n.hi,n.t,xu n.lo,xu n.up,xi n.n,xp M,pb]:=by have:=aa.set 8 pb;rw[a4];exact this
    have l1:=h1.lt;have l2:=h2.lt;have l7:=h7.lt;have lB:=HBb.out;have aw:¬w3.heap.size=w.heap.size+1:=qv a3 a5.2.1.lt
    have av:¬w3.heap.size=w.heap.size:=qw a5.1.lt
    refine⟨h1.i k3 (λq=>av q.symm),h2.i k3 (λq=>aw q.symm),h4.i k3 (by omega),?_,?_,by rw[a0];exact a3.2⟩
    .have ay:TsA O Ts wx:=h5.turn k3 (λX hX=>qv (ak.out X hX) a3) (qw h5.tabl);refine ySp ay ?_ (by rw[a0];show O<=WD.heap.size;omega) (λX hX=>?_)
     .rw[a0];exact⟨⟨a1.z (j:=0) rfl,a1.z (j:=1) rfl,a1.z (j:=2) rfl,a1.z (j:=3) rfl,a1.z (j:=4) rfl,a1.z (j:=5) rfl,a1.z (j:=6) rfl,a1.z (j:=7) rfl⟩,by rw[yQ7 aj.2,<-aj.1];exact a1.z (j:=8) rfl,a1.lt.2,h6.i k3 (λq hq z=>qw z.2) (λ_=>qw h5.tabl),a3.1,AO _,by show _<WD.heap.size;have:=h5.tabl;omega⟩
     .rw[a0];show X.t<WD.heap.size;exact ak.out X hX
    .exact(Chg.h h3).absorb k3 (λq hq=>.inr (qw a5.1.lt))
   clear aa af;go_upto_region 7 with fail;rw[<-a4];clear a4 u8 f8 a2 a5 a3 a0 aj t7 x1 ac;exact zTeB
 .have HE:Hid (∃N' Ts',T∈Ts'/\T.n=n/\(∀X∈Ts,X∈Ts')/\(∀X∈Ts',X∈Ts\/w.heap.size<=X.lo)/\MpA W0 B N' Ts'/\N'<=N+1/\TsA O Ts' W0/\Chg (λq=>q=B) w W0):=⟨N,Ts,aq,ao,λX hX=>hX,λX hX=>.inl hX,HM.1,le_succ _,HM.2,Chg.h H0.2.2⟩;clear aq ao;go_enter func151,ntmps151;go_upto_region 1 with fail;rw[<-a7];clear a7;go_wp2;go_ret;exact⟨T,rfl,HE⟩
theorem yXf{j:Nat}(h:note ds j d=some ds')(hd:¬d=0):ds'[j]?=some d/\∀(i:Nat)(e:Int),ds[i]?=some e->¬e=0->ds'[i]?=some e:=by
 unfold note at h;cases hj:ds[j]? with
 |none=>rw[hj]at h;cases h
 |some e0=>
  rw[hj]at h;simp only at h;split at h
  .rename_i hc;obtain rfl:=AG h;have hl:=qf hj;refine⟨by rw[AJ hl],λi e hi he=>?_⟩;by_cases q:j=i
   .subst q;rw[hj]at hi;obtain rfl:=AG hi;rw[AJ hl];rcases hc with z|z
    .exact absurd z he
    .rw[z]
   .rw[getElem?_set_ne q];exact hi
  .cases h
theorem yLl{d:Int}(hd:¬d=0):∀(js:List Nat){ds ds':List Int},yCi d js ds=some ds'->(∀j∈js,ds'[j]?=some d)/\∀(i:Nat)(e:Int),ds[i]?=some e->¬e=0->ds'[i]?=some e
 | [],_,_,h=>by obtain rfl:=AG h;exact⟨λj hj=>by simp at hj,λi e hi _=>hi⟩
 |j::js,ds,ds',h=>by
  simp only[yCi,AR]at h
  have⟨d1,h1,h2⟩:=h
  have⟨a1,a2⟩:=yXf h1 hd
  have⟨b1,b2⟩:=yLl hd js h2
  refine⟨λi hi=>?_,λi e hi he=>b2 i e (a2 i e hi he) he⟩
  rcases Af.1 hi with rfl|q
  .exact b2 _ _ a1 hd
  .exact b1 i q
variable {x:Ix}
theorem yN8{k:Nat}(h:yKs ds k x=some ds'):∃e,ds[k]?=some e/\least x.op<=e/\e+more x.op<=250/\(∀j∈ways k x,ds'[j]?=some (e+more x.op))/\∀(i:Nat)(e:Int),ds[i]?=some e->¬e=0->ds'[i]?=some e:=by
 unfold yKs at h;cases hj:ds[k]? with
 |none=>rw[hj]at h;cases h
 |some e=>
  rw[hj]at h;simp only at h;split at h
  .cases h
  .rename_i hc;have hm:¬e+more x.op=0:=by unfold least more at hc;unfold more;split at hc<;>split at hc<;>simp_all<;>omega
   have⟨a,b⟩:=yLl hm _ h;exact⟨e,rfl,qo,qo,a,b⟩
theorem yPm{xs:List Ix}{k:Nat}:∀(m:Nat){ds ds':List Int},yCo xs k=some ds->yCo xs (k+m)=some ds'->∀(i:Nat)(e:Int),ds[i]?=some e->¬e=0->ds'[i]?=some e
 |0,ds,ds',h,h',i,e,hi,he=>by rw[Nat.add_zero,h]at h';obtain rfl:=AG h';exact hi
 |m+1,ds,ds',h,h',i,e,hi,he=>by
  have h9:=h'
  simp only[yCo,AR]at h9
  have⟨d1,h1,x,hx,h2⟩:=h9
  have⟨_,_,_,_,_,b⟩:=yN8 h2
  exact b i e (yPm m h h1 i e hi he) he
theorem yNo{conds:Nat}(h:yB1 l cnt conds):∃d,yVy l d:=by
 have⟨ds,hf,hl⟩:=h.2.2.2.2.2;have a2:∀(k:Nat) a0,k<=l.length->yCo l k=some a0->∀(i:Nat)(e:Int),a0[i]?=some e->¬e=0->ds[i]?=some e:=λk a0 hk h1=>
  yPm (l.length-k) h1 (by rw[Nat.add_sub_cancel' hk];exact hf)
 refine⟨λk=>((ds[k]?).getD 0).toNat,?_,?_,λk x hx h1=>?_⟩
 .have:=a2 0 _ (zero_le _) rfl 0 1 rfl qo;simp[this]
 .simp[hl]
 .have hk:=qf hx;obtain⟨a0,a4⟩:∃a0,yCo l k=some a0:=AP.1 (yHu h qo);obtain⟨a1,a3⟩:∃a1,yCo l (k+1)=some a1:=AP.1 (yHu h qo);rw[yEa a4 hx]at a3;have⟨e,he,h2,h3,h4,_⟩:=yN8 a3;have a7:yCo l (k+1)=some a1:=by rw[yEa a4 hx];exact a3
  have e1:1<=e:=by unfold least at h2;split at h2<;>omega
  have a5:=a2 k a0 qo a4 k e he qo;have ev:(((ds[k]?).getD 0).toNat:Int)=e:=by rw[a5];simp;omega
  rw[ev];refine⟨h2,h3,λj hj=>?_⟩;have hm:1<=e+more x.op:=by unfold least at h2;unfold more;split at h2<;>split<;>(try split)<;>omega
  have a6:=a2 (k+1) a1 qo a7 j _ (h4 j hj) qo;refine⟨by rw[a6];simp;omega,?_⟩;have hg:=yB5 h hx;unfold ways at hj;rcases hg with⟨ho,_,_,_⟩|⟨ho,_,_,_,q1,q2⟩|⟨ho,_,_,q1,q2⟩|⟨ho,_,_,_⟩
  .rw[iA qo,iA qo]at hj;simp at hj;omega
  .rw[iB ho]at hj;simp at hj;rcases hj with q|q<;>omega
  .rw[iA qo,iB ho]at hj;simp at hj;omega
  .rw[iA qo,iA qo]at hj;simp at hj;omega
theorem zJa(k:q)(h:q->p:=by intro zz;have hS1:=hS0;obtain⟨z0,z1,z2,z3,z4,z5,z6,z7,z8⟩:=hS1;go_simp;apply hK.out _ _ (.inr hS0);refine jS ?_;refine yAi [5,6,7,8,12] 4 _ rfl (by exact zzR0) hS0 ?_;refine jS ?_;refine yAi [6,7,8,12] 5 _ rfl (by exact zzR0) hS0 ?_;refine jS ?_;exact zz):p:=h k
theorem zJb(k:q)(h:q->p:=by intro zz;have hS1:=hS0;obtain⟨z0,z1,z2,z3,z4,z5,z6,z7,z8⟩:=hS1;go_simp;apply hK.out _ _ (.inr hS0);refine jS ?_;refine yAi [8,12] 7 _ rfl (by exact zzR0) hS0 ?_;refine jS ?_;refine yAi [12] 8 _ rfl (by exact zzR0) hS0 ?_;refine jS ?_;exact zz):p:=h k
theorem zJ22(h:p:=by refine yAi [] 12 (.bool sm) rfl (by exact zzR3) hS0 ?_;exact zzQ8):p:=h
theorem zJ21(h:p:=by refine qO 11 rfl λK hK=>?_;go_simp;refine(HCol.out _).mono ?_;rintro e wb ⟨rfl,hb⟩;have HKwb:=qH1 (HKwa.on hb);have hS0:=HKwb.SV HO.out;refine hK.out _ _ (.inr hS0) (jS ?_);clear hK;exact zJ22):p:=h
theorem zJ20(h:p:=by refine qO 10 rfl λK hK=>?_;go_simp;refine(HPut.out _).mono ?_;rintro e wa ⟨rfl,hb⟩;have HKwa:=qH1 (HKd.on hb);have hS0:=HKwa.SV HO.out;refine hK.out _ _ (.inr hS0) (jS ?_);clear hK;exact zJ21):p:=h
theorem zJ12(h:p:=by refine qO 6 rfl λK hK=>?_;refine zJb ?_;exact zJ22):p:=h
theorem zJ02(h:p:=by refine qO 3 rfl λK hK=>?_;refine zJa ?_;exact zJ12):p:=h
theorem zJ11 (h:p:=by 
 refine yB0 (i:=6) (j:=11) (by kernel_rfl) rfl rfl (λK hK=>?_) (λK hK=>?_)
 .refine zJb ?_;exact zJ21
 .go_simp;apply (HCol.out _).mono;rintro e wb ⟨rfl,hb⟩;have HKwb:=qH1 (HKwa.on hb);clear hS0 hb;have hS0:=HKwb.SV HO.out;refine hK.out _ _ (.inr hS0) (jS ?_);clear hK;exact zJ12):p:=h
theorem zJ10 (h:p:=by 
 refine yB0 (i:=6) (j:=10) (by kernel_rfl) rfl rfl (λK hK=>?_) (λK hK=>?_)
 .refine zJb ?_;exact zJ20
 .go_simp;apply (HPut.out _).mono;rintro e wa ⟨rfl,hb⟩;have HKwa:=qH1 (HKd.on hb);clear hS0 hb;have hS0:=HKwa.SV HO.out;refine hK.out _ _ (.inr hS0) (jS ?_);clear hK;exact zJ11):p:=h
theorem zJ01 (h:p:=by 
 refine yB0 (i:=3) (j:=11) (by kernel_rfl) rfl rfl (λK hK=>?_) (λK hK=>?_)
 .refine zJa ?_;exact zJ11
 .go_simp;apply (HCol.out _).mono;rintro e wb ⟨rfl,hb⟩;have HKwb:=qH1 (HKwa.on hb);clear hS0 hb;have hS0:=HKwb.SV HO.out;refine hK.out _ _ (.inr hS0) (jS ?_);clear hK;exact zJ02):p:=h
theorem yT9{i:Nat}{k:Ctr}(h:CkA w O t g cap ks i k most)(c:Ent)(hc:0<=k.count/\k.count<=1000000):
  Calls prog 189 #[xp t,c.c] w (CnP O t g cap ks i k most c (k.j.toList==c.j.toList && (k.E.toList==c.E.toList && k.C.toList==c.C.toList)) w):=by
 have⟨W1,a1⟩:=qE (xw w #[c.j,c.E,c.C,xu c.ts,c.val] 70:Ww);have⟨b,hb⟩:=qE w.heap.size;obtain⟨o,ho⟩:∃o,i*4=o:=⟨_,rfl⟩;have HO:=qH1 ho;have a2:=qH1 h.U;obtain⟨sm,a0⟩:=qE ((k.j.toList==c.j.toList && (k.E.toList==c.E.toList && k.C.toList==c.C.toList)));rw[<-a0];have HSM:Hid (sm=(k.j.toList==c.j.toList && (k.E.toList==c.E.toList && k.C.toList==c.C.toList))):=a0;have HKd:Hid (EnI O t g cap ks i k most c b w W1.drew):=(EnI.start h c hb a1).on ((Below.refl _ _).drew);have HPut:Hid (∀wz,(xf 99 #[c.c] wz (putE c).v:Prop)):=λwz=>yCv c wz;have HCol:Hid (∀wz,(xf 216 #[(putE c).v] wz (.agg #[c.j,c.E,c.C]):Prop)):=λwz=>yH0 (putE c) wz;have HEn:Hid (∀wz,EnI O t g cap ks i k most c b w wz->Calls prog 215 #[xp t,c.c,sm] wz (EnP O t g cap ks i k most c sm wz)):=λwz hz=>enter_core' hz.ck c sm;have HTk:Hid (∀(wz wy:Ww),EnI O t g cap ks i k most c b w wz->∀e,EnP O t g cap ks i k most c sm wz e wy->Calls prog 217 #[xp t] wy (CnP O t g cap ks i k most c sm w)):=λwz wy hz e hy=>(yLh hy.2.1 (by cases sm<;>simp[entC];omega)).mono λe' w' ht=>xH0 a2.out rfl rfl ((Chg.h hz.k).trans hy.2.2) ht;clear h ho a0;go_enter func189,ntmps189;go_upto_region 1 with fail;rw[<-a1,<-hb];clear a1 hb;have hS0:SW (λwz:Ww=>xk wz t 0 (.pointer (some ⟨g,o,none⟩))/\xk wz b 0 c.j/\xk wz b 1 c.E/\xk wz b 2 c.C/\xk wz b 3 (xu c.ts)/\xk wz b 4 c.val/\xk wz g o k.j/\xk wz g (o+1) k.E/\xk wz g (o+2) k.C) W1.drew:=HKd.SV HO.out;refine wpR 13 hS0 ?_;refine yAi [] 0 _ rfl (by exact zzR0) hS0 ?_;refine jS ?_;refine yAi [] 1 _ rfl (by exact zzR0) hS0 ?_;refine jS ?_;refine yAi [3,4,5,6,7,8,12] 2 _ rfl (by exact zzR0) hS0 ?_;refine jS ?_;refine yAi [10,11,12] 9 _ rfl (by exact zzR0) hS0 ?_;refine jS ?_;refine yB0 (i:=3) (j:=10) (by kernel_rfl) rfl rfl (λK hK=>?_) (λK hK=>?_)
 .refine zJa ?_;exact zJ10
 .go_simp;refine(HPut.out _).mono ?_;rintro e wa ⟨rfl,hb⟩;have HKwa:=qH1 (HKd.on hb);clear hS0 hb;have hS0:=HKwa.SV HO.out;refine hK.out _ _ (.inr hS0) (jS ?_);clear hK;exact zJ01
structure LkG where
 w:Ww
 l:List Ix
 bI:Nat
 oI:Nat
 cI:Nat
 cnt:Int
 c:Ent
 V:List Bool
 d:Nat->Nat
 cs0:List Ctr
 b0:Nat
 gc:Nat
 cpc:Nat
 ca:Option Addr
 N:Nat
 nk:Nat
 nC:Nat
def LkL(G:LkG)(at_:Nat)(m:List It)(cs:List Ctr):Prop:=
 m.length=G.d at_/\at_<=G.N/\∀r,LkR pfxB G.l G.c G.V ⟨at_,m.reverse,cs⟩ r->LkR pfxB G.l G.c G.V ⟨0,[newI],G.cs0⟩ r
variable {m:List It}
variable {cs cs':List Ctr} {m':List It} {G:LkG}
theorem LkL.next{j:Nat}(h:LkL G at_ m cs)(hD:yVy G.l G.d)(hN:G.N=G.l.length)(h1:1<=m.length)(hx:G.l[at_]?=some x)
  (hst:stepL pfxB G.c G.V x ⟨at_,m.reverse,cs⟩=⟨j,m'.reverse,cs'⟩) (hj:j∈ways at_ x) (hl:(m'.length:Int)=m.length+more x.op):
  LkL G j m' cs'/\at_<j/\j<=G.N/\1<=m'.length/\m'.length<=250:=by
 have⟨a,b,c⟩:=hD.step at_ x hx (by rw[<-h.1];exact h1);have⟨e1,e2,e3⟩:=c j hj;have hm:1<=(m.length:Int)+more x.op:=by rw[h.1];unfold least at a;unfold more;split at a<;>split<;>(try split)<;>omega
 refine⟨⟨qw h.1,qo,λr hr=>h.2.2 r (.step hx (hst▸hr))⟩,e2,qo,qo,qw h.1⟩
theorem LkL.least(h:LkL G at_ m cs)(hD:yVy G.l G.d)(h1:1<=m.length)(hx:G.l[at_]?=some x):least x.op<=(m.length:Int):=by have⟨a,_,_⟩:=hD.step at_ x hx (by rw[<-h.1];exact h1);rw[h.1];exact a
theorem yEx{i i':It}(h:yA W O ty 4 B i.four)(hW:W'=setCs W B 0 i'.four):yA W' O ty 4 B i'.four/\Chg (λk=>k=B) W W':=by refine⟨?_,by rw[hW];exact yAo (S:=λk=>k=B) B rfl _ _ _⟩;have:=h.setCs i'.four;rw[hW];exact this
variable {n:Nat}
theorem yDt{i:It}(h:n+1=m.length)(hi:m[n]?=some i):m.reverse=i::(m.take n).reverse:=by
 have:m=m.take n++ [i]:=by
  conv=>lhs;rw[<-Ac n m]
  congr 1;rw[AN qo,Aa qo];rw[AX qo]at hi;rw[AG hi]
 conv=>lhs;rw[this]
 rw[Ag];rfl
variable {j:It}
theorem ySo{i:It}(h:n+1+1=m.length)(hi:m[n+1]?=some i)(hj:m[n]?=some j):m=m.take n++ [j,i]:=by
 conv=>lhs;rw[<-Ac n m]
 congr 1;rw[AX qo]at hi hj;rw[AN qo,AN qo,Aa qo,AG hi,AG hj]
theorem yMs{i:It}(h:n+1+1=m.length)(hi:m[n+1]?=some i)(hj:m[n]?=some j):m.reverse=i::j::(m.take n).reverse:=by have:=congrArg List.reverse (ySo h hi hj);rw[Ag]at this;exact this
theorem yN7{i:It}(h:n+1+1=m.length)(hi:m[n+1]?=some i)(hj:m[n]?=some j):(m.set (n+1) j).set n i=m.take n++ [i,j]:=by
 have hm:=ySo h hi hj;have ht:(m.take n).length=n:=by rw[AV];omega
 conv=>lhs;rw[hm]
 rw[Ad _ _ qo,ht,Ad _ _ qo,ht];simp
variable {st:List It}
theorem yFt{r:List It}{i:It}(ho:x.op=1)(hr:st=i::r):stepL pfxB c conds x ⟨at_,st,cs⟩=⟨at_+1,(leafI pfxB x c i cs).1::r,(leafI pfxB x c i cs).2⟩:=by unfold stepL;rw[iB ho,hr]
theorem yTm{i:It}(ha:i.H=true)(hck:¬cntK x.leaf.f):
  leafI pfxB x c i cs=(if tstB x.leaf (yBl i c)=true then⟨true,i.strip || (x.leaf.f==3),i.G⟩else yBg (if x.free=true then yCa (pfxB x.leaf.s) x.leaf c else noH),cs):=by
 unfold leafI;rw[iB ha];simp only;rw[iA (show¬(x.leaf.f=11\/x.leaf.f=12\/x.leaf.f=13)from hck)];rfl
theorem yO3{i:It}{k:Ctr}(ha:i.H=true)(hck:cntK x.leaf.f)(hk:cs[x.a.toNat]?=some k):
  leafI pfxB x c i cs=(if(yCm x.leaf k c).1=true then⟨true,i.strip || (x.leaf.f==3),i.G⟩else yBg (if x.free=true then yCa (pfxB x.leaf.s) x.leaf c else noH),cs.set x.a.toNat (yCm x.leaf k c).2):=by
 unfold leafI;rw[iB ha];simp only;rw[iB (show(x.leaf.f=11\/x.leaf.f=12\/x.leaf.f=13)from hck),hk];rfl
theorem yMi(h:n+1=m.length) iz:(m.set n iz).reverse=iz::(m.take n).reverse:=by rw[yDt (i:=iz) (length_set▸h) (by rw[AJ qo])];congr 2;rw[List.take_set];exact set_eq_of_length_le (by rw[AV];omega)
theorem yRo(l r:It)(w:Ww):(xf 157 #[l.v,r.v] w (yRp l r).v:Prop):=by
 have⟨la,ls,⟨lr,lt⟩⟩:=l;have⟨ra,rs,⟨rr,rt⟩⟩:=r;cases la
 .cases ra
  .have⟨H,hH⟩:=qE (yN ⟨lr,lt⟩ ⟨rr,rt⟩);have HL:Hid (∀wz,(xf 201 #[.agg #[xi lr,lt],.agg #[xi rr,rt]] wz (.agg #[xi H.rank,H.txt]):Prop)):=λwz=>hH▸(yO1 ⟨lr,lt⟩ ⟨rr,rt⟩ wz)
   have HJ:Hid (yRp ⟨false,ls,⟨lr,lt⟩⟩ ⟨false,rs,⟨rr,rt⟩⟩=⟨false,false,H⟩):=by show _=_;rw[hH];rfl
   have⟨W0,a2⟩:=qE (xw ((w.alloc (AF #[false,ls,xi lr,lt] 181)).alloc (AF #[false,rs,xi rr,rt] 181)) #[false,false,xi 0,xe] 181:Ww);have H0:Hid (yA W0 w 181 4 (w+2) [false,false,xi 0,xe]/\Below w w W0):=by
    have z:((w.alloc (AF #[false,ls,xi lr,lt] 181)).alloc (AF #[false,rs,xi rr,rt] 181)).heap.size=w.heap.size+2:=by simp
    refine⟨?_,by rw[a2];exact up3 w _ _ _⟩;rw[a2,<-z];exact yAa _ _ qo rfl
   rw[HJ.out];clear hH;go_enter func157,ntmps157;go_wp2_with fail;apply (HL.out _).mono;rintro e w1 ⟨rfl,a1⟩;rw[<-a2]at a1;have⟨V,hV⟩:=qE (setCs w1 (w+1+1) 0 (It.four ⟨false,false,H⟩):Ww);have a0:=H0.1.k a1;have⟨x0,x1,x2,x3⟩:=a0.c4;have fz:=a0.frozen;have hc:Chg (λq=>q=w.heap.size+2) w1 V:=hV▸(yAo (S:=λq=>q=w.heap.size+2) _ rfl _ _ _)
   have a3:yA V w 181 4 (w+2) (It.four ⟨false,false,H⟩):=hV▸(yB4 (v:=(xg (w+2) 1 1)) rfl ⟨1,rfl⟩ _ 0 w1 _ a0)
   have⟨v0,v1,v2,v3⟩:=a3.c4;have HB:Hid (Below w w V):=by have h1:=H0.2.trans (a1.mono H0.2.size);exact Chg.k h1 hc h1.size (λq e=>qo)
   simp only[setCs,AT]at hV;go_wp2;rw[<-hV];exact AC (v:=.agg #[false,false,xi H.rank,H.txt]) (by simp[results,results157,go_sem,v0,v1,v2,v3]) rfl ⟨rfl,HB.out⟩
  .go_enter func157,ntmps157;go_wp2;exact AC (v:=.agg #[true,rs,xi rr,rt]) (by simp[results,results157,go_sem]) rfl ⟨rfl,zBl⟩
 .go_enter func157,ntmps157;go_wp2;exact AC (v:=.agg #[true,ls,xi lr,lt]) (by simp[results,results157,go_sem]) rfl ⟨rfl,zBl⟩
structure CtK(k:Ctr):Prop where
 lo:0<=k.count
 up:k.count<=1000
 new:k.used=false->k.j=⟨#[]⟩
theorem yYq:CtK newC:=⟨Int.le_refl _,qj,λ_=>rfl⟩
theorem xAb(h:¬a=⟨#[]⟩):((⟨#[]⟩:Ba).toList==a.toList)=false:=by
 cases q:((⟨#[]⟩:Ba).toList==a.toList)
 .rfl
 .exact absurd (yDz.1 q).symm h
variable {n:Nd}
theorem yYy{k:Ctr}(hk:CtK k)(hr:¬c.j=⟨#[]⟩)(same:Bool)(hs:same=(k.j.toList==c.j.toList && (!decide (n.f=11) || (k.E.toList==c.E.toList && k.C.toList==c.C.toList)))):yF5 same k c=yC2 n k c:=by
 have h1:yOf n k c=same:=by
  unfold yOf eqB;cases hu:k.used
  .rw[hs,hk.new hu,xAb hr];rfl
  .rw[hs];rfl
 unfold yF5 yC2;rw[h1];rfl
theorem xCj{k:Ctr}(h:yF5 same k c=yC2 n k c)(h13:¬n.f=13):decide ((yF5 same k c).count<n.n)=(yCm n k c).1/\yPw same k c n.n=(yCm n k c).2:=by
 exact xFb
theorem xBc{k:Ctr}(h:yF5 same k c=yC2 n k c)(h13:n.f=13):(!decide ((yF5 same k c).count<n.n))=(yCm n k c).1/\yPw same k c n.n=(yCm n k c).2:=by
 exact xFb
theorem xD8{k:Ctr}(hk:CtK k)(hn:n.n<=1000):CtK (yCm n k c).2:=by
 have he:CtK (yC2 n k c):=by
  unfold yC2;split
  .exact hk
  .exact⟨Int.le_refl _,by simp,λq=>by simp at q⟩
 unfold yCm;split
 .refine⟨?_,?_,λq=>he.new q⟩
  .have:=he.lo;simp only;omega
  .simp only;omega
 .exact he
theorem yXl n k i c:yCm n k (yBl i c)=yCm n k c:=by unfold yBl;split<;>rfl
theorem yX9(p:Ba) n i c:yCa p n (yBl i c)=yCa p n c:=by unfold yBl;split<;>rfl
variable {ks':List Ctr}
section
structure MchG where
 w0:Ww
 T:Nat->Prop
 S:Nat->Prop
 TI:Ww->Prop
 p:Nat
 O:Nat
 g:Nat
 cap:Nat
 nk:Nat
 mb:Nat
theorem Tryz.infoIti:(prog.info? 181).map (λi=>(i.zero,i.size,i.bytes))=some (some (yBg noH).v,4,32):=qk
abbrev xBi(w:Ww)(O g cap:Nat)(es:List It):Prop:=OwnG It.four 4 181 w O g cap es
abbrev yFr(w:Ww)(O g cap:Nat)(es:List Ctr):Prop:=OwnG Ctr.kc 4 240 w O g cap es
def RowS(w:Ww)(O:Nat)(v:Vv)(m:List It):Prop:=w.ownsRow O 181 4 v m.length (m.flatMap It.four)
theorem RowS.cases{v:Vv}(h:RowS w O v m):(v=xh/\m= [])\/∃g cp,v=(xg g m.length cp)/\xBi w O g cp m:=by
 rcases h.2 with⟨h0,h1⟩|⟨g',a0,cur,hv,rest⟩
 .refine .inl ⟨h0,?_⟩;have:m.length=0:=h1;exact length_eq_zero_iff.1 this
 .subst hv;exact .inr ⟨g',a0,rfl,h⟩
def LfQ(G:MchG)(x:Ix)(c:Ent)(i:It)(ks:List Ctr)(W:Ww)(e:AK)(w':Ww):Prop:=
 e=.returned (leafI pfxB x c i ks).1.v/\Hid (yFr w' G.O G.g G.cap (leafI pfxB x c i ks).2/\(∀k∈(leafI pfxB x c i ks).2,CtK k)/\G.TI w'/\Chg (λq=>q=G.g\/G.T q) W w')
def xH9(G:MchG)(l:List Ix):Prop:=∀(at_:Nat)(x:Ix)(i:It)(c:Ent)(ks:List Ctr)(W:Ww),l[at_]?=some x->x.op=1->Chg G.S G.w0 W->G.TI W->yFr W G.O G.g G.cap ks->ks.length=G.nk->(∀k∈ks,CtK k)->¬c.j=⟨#[]⟩->
 Calls prog 156 #[.pointer (some ⟨G.p,at_*13,none⟩),i.v,c.c] W (LfQ G x c i ks W)
structure MaOk(G:MchG)(l:List Ix):Prop where
 stp:∀(at_:Nat)(x:Ix),l[at_]?=some x->xk G.w0 G.p (at_*13) (xi x.op)/\xk G.w0 G.p (at_*13+1) (xi x.a)/\xk G.w0 G.p (at_*13+2) (xi x.b)
 pl:G.p<G.w0.heap.size
 pS:¬G.S G.p
 ti:∀(S':Nat->Prop)(W W':Ww),G.TI W->Chg S' W W'->(∀q,S' q->q=G.g\/q=G.mb\/G.w0.heap.size<=q)->G.TI W'
 leaf:xH9 G l
 gS:G.S G.g
 mS:G.S G.mb
 tS:∀q,G.T q->G.S q
 gl:G.g<G.w0.heap.size
 ml:G.mb<G.w0.heap.size
 tl:∀q,G.T q->q<G.w0.heap.size
 gm:¬G.g=G.mb
 tg:¬G.T G.g
 tm:¬G.T G.mb
structure McI(G:MchG)(N:Nat)(ks:List Ctr)(v:Vv)(W:Ww):Prop where
 i:Chg G.S G.w0 W
 ti:G.TI W
 ctr:yFr W G.O G.g G.cap ks
 X:ks.length=G.nk
 cb:∀k∈ks,CtK k
 A:yA W G.O 230 3 G.mb [xg G.p N N,xg G.g G.nk G.cap,v]
 stk:∃m,RowS W G.w0 v m
structure MkM(G:MchG)(L:LkG)(v0:Vv)(m:List It)(gs cp:Nat)(ks:List Ctr)(wr:Ww):Prop where
 cel:yA wr L.w 70 5 L.w L.c.five
 res:yA wr L.w 181 4 (L.w+1) (yBg noH).four
 stk:xBi wr G.w0 gs cp m
 gsn:L.w.heap.size+1<gs\/(v0.ownBlock=some gs/\gs<L.w.heap.size)
 ti:G.TI wr
 ctr:yFr wr G.O G.g G.cap ks
 X:ks.length=G.nk
 cb:∀k∈ks,CtK k
 A:yA wr G.O 230 3 G.mb [xg G.p L.N L.N,xg G.g G.nk G.cap,v0]
 cnd:∀(i:Nat)(b:Bool),L.V[i]?=some b->∃bc oc,L.ca=some ⟨bc,oc,none⟩/\xk wr bc (oc+i) b/\bc<L.w.heap.size/\¬bc=G.g/\¬G.T bc/\¬v0.ownBlock=some bc
 i:Chg (λk=>k=G.g\/G.T k\/v0.ownBlock=some k) L.w wr
structure MaS(G:MchG)(L:LkG)(v0:Vv):Prop where
 ok:MaOk G L.l
 i:Chg G.S G.w0 L.w
 v0:∀k,v0.ownBlock=some k->G.w0.heap.size<=k/\k<L.w.heap.size
section
variable {G:MchG} {L:LkG} {v0:Vv} {m:List It} {gs:Nat} {wr:Ww}
theorem MkM.all(h:MkM G L v0 m gs cp ks wr)(hS:MaS G L v0):Chg G.S G.w0 wr:=
 hS.i.absorb h.i (λj q=>by
  rcases q with q|q|q
  .subst q;exact .inl hS.ok.gS
  .exact .inl (hS.ok.tS _ q)
  .exact .inr (hS.v0 _ q).1)
theorem MkM.step(h:MkM G L v0 m gs cp ks wr)(hS:MaS G L v0){at_:Nat}(hx:L.l[at_]?=some x):xk wr G.p (at_*13) (xi x.op)/\xk wr G.p (at_*13+1) (xi x.a)/\xk wr G.p (at_*13+2) (xi x.b):=by have⟨a,b,c⟩:=hS.ok.stp at_ x hx;have hc:=h.all hS;exact⟨by rw[hc.z (p:=(xd G.p _)) hS.ok.pl hS.ok.pS];exact a,by rw[hc.z (p:=(xd G.p _)) hS.ok.pl hS.ok.pS];exact b,by rw[hc.z (p:=(xd G.p _)) hS.ok.pl hS.ok.pS];exact c⟩
theorem MkM.on(h:MkM G L v0 m gs cp ks wr)(hS:MaS G L v0)(hb:Below wr wr W):MkM G L v0 m gs cp ks W:=by
 have hs:=h.i.size
 exact {h with
  cel:=h.cel.k hb,res:=h.res.k hb,stk:=h.stk.k hb,ctr:=h.ctr.k hb,A:=h.A.k hb
  ti:=hS.ok.ti (λ_=>False) wr W h.ti (Chg.h hb) (λq z=>z.elim)
  cnd:=λi b hi=>by
   have⟨bc,oc,h1,h2,h3,h4⟩:=h.cnd i b hi
   exact⟨bc,oc,h1,((Chg.h hb (S:=λ_=>False)).z (p:=(xd bc (oc+i))) (show bc<_ by omega) (λq=>q)).trans h2,h3,h4⟩
  i:=h.i.trans (Chg.h hb)}
theorem MkM.grow(h:MkM G L v0 m gs cp ks wr)(hS:MaS G L v0)(hO:xBi w' G.w0 gs' cp' m')(hg:gs'=gs\/L.w.heap.size+1<gs')(hc:Chg (λk=>k=gs) wr w'):MkM G L v0 m' gs' cp' ks w':=by
 have hs:=h.i.size;have hw:=hS.i.size;have a0:=h.stk.lt;have h0:=h.gsn;have ok:=hS.ok;have h9:=ok.gl;have h8:=ok.ml
 exact {h with
  cel:=h.cel.i hc qo,res:=h.res.i hc qo,stk:=hO,ctr:=h.ctr.i hc (by omega),A:=h.A.i hc (by omega)
  gsn:=by
   rcases hg with rfl|q
   .exact h0
   .exact .inl q
  ti:=ok.ti (λk=>k=gs) wr w' h.ti hc (λq z=>.inr (.inr (by omega)))
  cnd:=λi b hi=>by
   have⟨bc,oc,h1,h2,h3,h4,h5,h6⟩:=h.cnd i b hi
   refine⟨bc,oc,h1,(hc.z (p:=(xd bc (oc+i))) (show bc<_ by omega) ?_).trans h2,h3,h4,h5,h6⟩
   show¬bc=gs
   intro q
   subst q
   rcases h0 with q|⟨q,_⟩
   .omega
   .exact h6 q
  i:=h.i.absorb hc (λj q=>by
   subst q
   rcases h0 with q|⟨q,_⟩
   .exact .inr (by omega)
   .exact .inl (.inr (.inr q)))}
theorem MkM.leaf(h:MkM G L v0 m gs cp ks wr)(hS:MaS G L v0)(hO:yFr w' G.O G.g G.cap ks')(hl:ks'.length=ks.length)(hk:∀k∈ks',CtK k)(ht:G.TI w')(hc:Chg (λq=>q=G.g\/G.T q) wr w'):MkM G L v0 m gs cp ks' w':=by
 have hs:=h.i.size;have hw:=hS.i.size;have a1:=h.stk.lt;have ok:=hS.ok;have h9:=ok.gl;have h8:=ok.ml;have a0:∀k,G.w0.heap.size<=k->¬(k=G.g\/G.T k):=λk hk q=>by
  rcases q with q|q
  .omega
  .have:=ok.tl _ q;omega
 exact {h with
  cel:=h.cel.i hc (a0 _ (by omega)),res:=h.res.i hc (a0 _ (by omega)),stk:=h.stk.i hc (a0 _ a1.1),ctr:=hO
  A:=h.A.i hc (λq=>by
   rcases q with q|q
   .exact ok.gm q.symm
   .exact ok.tm q)
  X:=hl.trans h.X
  cb:=hk
  ti:=ht
  cnd:=λi b hi=>by
   have⟨bc,oc,h1,h2,h3,h4,h5,h6⟩:=h.cnd i b hi
   refine⟨bc,oc,h1,(hc.z (p:=(xd bc (oc+i))) (show bc<_ by omega) ?_).trans h2,h3,h4,h5,h6⟩
   intro q
   rcases q with q|q
   .exact h4 q
   .exact h5 q
  i:=h.i.trans (hc.mono (λk q=>by
   rcases q with q|q
   .exact .inl q
   .exact .inr (.inl q)))}
end
def LooP(G:MchG)(L:LkG)(v0:Vv)(e:AK)(w':Ww):Prop:=
 ∃(i:It)(ks:List Ctr)(v:Vv),LkR pfxB L.l L.c L.V ⟨0,[newI],L.cs0⟩ (i,ks)/\e=.returned i.v/\McI G L.N ks v w'/\Chg (λq=>q=G.g\/q=G.mb\/G.T q\/v0.ownBlock=some q) L.w w'/\(v.ownBlock=v0.ownBlock\/∃k,v.ownBlock=some k/\L.w.heap.size<=k)
end
theorem yQ8(a b:Hn)(w:Ww):(xf 123 #[a.v,b.v] w (yN a b).v:Prop):=by
 obtain⟨ar,at_⟩:=a;obtain⟨br,bt⟩:=b;unfold yN lsB;by_cases h1:br<ar
 .rw[iB (.inl h1)];exact xGa
 .by_cases h2:br=ar
  .subst h2;cases h3:AB bt.toList at_.toList
   .rw[iA (by simp)];go_enter func123,ntmps123;go_wp2;refine AC (v:=.agg #[xi br,at_]) (by simp[results,results123,go_sem]) rfl ⟨rfl,?_⟩;repeat (first|exact Below.refl _ _|refine Below.alloc ?_ (by first|(simp;done)|(simp;omega)) _|refine yAc ?_ (by first|(simp;done)|(simp;omega)) _ _)
   .rw[iB (.inr ⟨rfl,rfl⟩)];exact xGa
  .have z2:(br==ar)=false:=by rw[iC];exact h2
   rw[iA (λq=>q.elim h1 (λz=>h2 z.1))];go_enter func123,ntmps123;go_wp2;refine AC (v:=.agg #[xi ar,at_]) (by simp[results,results123,go_sem]) rfl ⟨rfl,?_⟩;repeat (first|exact Below.refl _ _|refine Below.alloc ?_ (by first|(simp;done)|(simp;omega)) _|refine yAc ?_ (by first|(simp;done)|(simp;omega)) _ _)
theorem yUb(h:Hn)(c x:Ent)(w:Ww):(xf 60 #[h.v,c.c,x.c] w (yAz h c x):Prop):=by
 obtain⟨rk,tx⟩:=h;unfold yAz famB eqB lsB;obtain⟨e1,h1⟩:∃b,(x.j.toList==c.j.toList)=b:=⟨_,rfl⟩;obtain⟨e2,h2⟩:∃b,(x.E.toList==c.E.toList)=b:=⟨_,rfl⟩;obtain⟨e3,h3⟩:∃b,(x.C.toList==c.C.toList)=b:=⟨_,rfl⟩;obtain⟨e4,h4⟩:∃b,AB x.C.toList tx.toList=b:=⟨_,rfl⟩;obtain⟨e5,h5⟩:∃b,AB x.j.toList tx.toList=b:=⟨_,rfl⟩;rw[h1,h2,h3,h4,h5];by_cases k1:rk=1
 .subst k1;cases e1<;>cases e2<;>cases e3
  all_goals
   go_enter func60,ntmps60
   go_wp2_with fail
   go_ret
   exact⟨by simp,up3 w _ _ _⟩
 by_cases k2:rk=2
 .subst k2;cases e1<;>cases e2<;>cases e4
  all_goals
   go_enter func60,ntmps60
   go_wp2_with fail
   go_ret
   exact⟨by simp,up3 w _ _ _⟩
 by_cases k3:rk=3
 .subst k3;exact yZs
 by_cases k4:rk=4
 .subst k4;exact yZs
 by_cases k5:rk=5
 .subst k5;cases e1<;>cases e2<;>cases e5
  all_goals
   go_enter func60,ntmps60
   go_wp2_with fail
   go_ret
   exact⟨by simp,up3 w _ _ _⟩
 by_cases k6:rk=6
 .subst k6;exact yZs
 have z1:=qn k1
 have z2:=qn k2
 have z3:=qn k3
 have z4:=qn k4
 have z5:=qn k5
 have z6:=qn k6
 simp only[k1,k2,k3,k4,k5,k6,if_false,decide_false];exact yZs
theorem yN6(i:It)(c:Ent)(w:Ww):(xf 59 #[.agg #[i.H,i.strip,xi i.G.rank,i.G.txt],c.c] w (yBl i c).c:Prop):=by
 unfold yBl;cases h:i.strip
 .rw[iA (by simp)];go_enter func59,ntmps59;go_wp2;refine AC (v:=c.c) (by simp[results,results59,go_sem]) rfl ⟨rfl,?_⟩;repeat (first|exact Below.refl _ _|refine Below.alloc ?_ (by first|(simp;done)|(simp;omega)) _|refine yAc ?_ (by first|(simp;done)|(simp;omega)) _ _)
 .rw[iB rfl];go_enter func59,ntmps59;go_wp2;refine AC (v:=.agg #[c.j,c.E,c.C,xu c.ts,xe]) (by simp[results,results59,go_sem]) rfl ⟨rfl,?_⟩;repeat (first|exact Below.refl _ _|refine Below.alloc ?_ (by first|(simp;done)|(simp;omega)) _|refine yAc ?_ (by first|(simp;done)|(simp;omega)) _ _)
abbrev xAz(n:Nd)(mp:Option Addr):Vv:=.func (AD 193) #[ctvV n (.pointer mp)] #[]
abbrev anyV(r:Int):Vv:=.func (AD 190) #[.agg #[xi r,xe]] #[]
abbrev ofT(k t:Nat):Vv:=.func (AD k) #[xp t] #[]
def hntV(k:Int)(t:Nat):Vv:=
 if k=2 then anyV 6 else if k=4\/k=8 then ofT 194 t else if k=5 then anyV 3 else if k=6\/k=9 then ofT 195 t else if k=10 then ofT 196 t else anyV 0
def cntF(k:Int):Nat:=if k=11 then 189 else if k=12 then 191 else 192
def cntR(k:Int):Int:=if k=11 then 1 else if k=12 then 4 else 0
def tstK(k:Int):Prop:=k=1\/k=2\/k=3\/k=4\/k=5\/k=6\/k=7\/k=8\/k=9\/k=10
abbrev yFq(w:Ww)(O p N:Nat)(L:List Vv):Prop:=w.ownsRow O 234 13 (xg p N N) N L
def BdT(w:Ww)(p o:Nat)(A H:Vv)(e:AK)(w':Ww):Prop:=e=.returned (.tuple #[])/\Hid ((∀O N L,yFq w O p N L->yFq w' O p N ((L.set (o+11) A).set (o+12) H))/\Chg (λq=>q=p) w w')
variable {p:Nat} {A H:Vv}
theorem yZb(he:e=.returned (.tuple #[]))(hw:w'=(xt (w.setCell (xd p (o+11)) A) p (o+12) H)):BdT w p o A H e w':=
 ⟨he,λO N L h=>by rw[hw];exact(AA (AA h (o+11) A).1 (o+12) H).1,by rw[hw];exact(Chg.D (S:=λq=>q=p) _ _ _ _ rfl).trans (Chg.D (S:=λq=>q=p) _ _ _ _ rfl)⟩
theorem yEz(he:e=.returned (.tuple #[]))(hw:w'=(xt ((w.setCell (xd p (o+11)) A).setCell (xd p (o+12)) H') p (o+12) H)):BdT w p o A H e w':=
 ⟨he,λO N L h=>by
  rw[hw]
  have h3:=(AA (AA (AA h (o+11) A).1 (o+12) H').1 (o+12) H).1
  rw[set_set]at h3
  exact h3,by rw[hw];exact((Chg.D (S:=λq=>q=p) _ _ _ _ rfl).trans (Chg.D (S:=λq=>q=p) _ _ _ _ rfl)).trans (Chg.D (S:=λq=>q=p) _ _ _ _ rfl)⟩
theorem yP3{v:Vv}(ht:CtvA w t n (.pointer mp))(hne:¬p=t)(hk:tstK n.f)(kd:(xk w p (o+4) (xi n.f):Prop))(c1:(xk w p (o+11) u:Prop))(c2:(xk w p (o+12) v:Prop))(fz:∀j,w.frozen? (xd p j)=false):
  Calls prog 150 #[.pointer (some ⟨p,o,none⟩),xp t] w (BdT w p o (xAz n mp) (hntV n.f t)):=by
 rcases hk with h|h|h|h|h|h|h|h|h|h
 .rw[h]at kd;rw[h];exact(yLb ht hne kd c1 c2 fz).mono (λe w' q=>yZb q.1 q.2)
 .rw[h]at kd;rw[h];exact(yLa ht hne kd c1 c2 fz).mono (λe w' q=>yEz q.1 q.2)
 .rw[h]at kd;rw[h];exact(yL ht hne kd c1 c2 fz).mono (λe w' q=>yZb q.1 q.2)
 .rw[h]at kd;rw[h];exact(yK9 ht hne kd c1 c2 fz).mono (λe w' q=>yEz q.1 q.2)
 .rw[h]at kd;rw[h];exact(yK8 ht hne kd c1 c2 fz).mono (λe w' q=>yEz q.1 q.2)
 .rw[h]at kd;rw[h];exact(yK7 ht hne kd c1 c2 fz).mono (λe w' q=>yEz q.1 q.2)
 .rw[h]at kd;rw[h];exact(yK6 ht hne kd c1 c2 fz).mono (λe w' q=>yZb q.1 q.2)
 .rw[h]at kd;rw[h];exact(yK5 ht hne kd c1 c2 fz).mono (λe w' q=>yEz q.1 q.2)
 .rw[h]at kd;rw[h];exact(yK4 ht hne kd c1 c2 fz).mono (λe w' q=>yEz q.1 q.2)
 .rw[h]at kd;rw[h];exact(yKf ht hne kd c1 c2 fz).mono (λe w' q=>yEz q.1 q.2)
def BdC(w:Ww)(p o g q:Nat)(m:Int)(A H:Vv)(e:AK)(w':Ww):Prop:=e=.returned (.tuple #[])/\Hid ((∀O N L,yFq w O p N L->yFq w' O p N ((L.set (o+11) A).set (o+12) H))/\Chg (λk=>k=p) w w'/\yA w' w 283 2 w [.pointer (some ⟨g,q,none⟩),xi m])
theorem yZc{q:Nat}{m:Int}(he:e=.returned (.tuple #[]))(hw:w'=(xw ((w.setCell (xd p (o+11)) A).setCell (xd p (o+12)) H) #[.pointer (some ⟨g,q,none⟩),xi m] 283)):BdC w p o g q m A H e w':=by
 have⟨X,hX⟩:=qW (xt (w.setCell (xd p (o+11)) A) p (o+12) H);have hz:X.heap.size=w.heap.size:=by rw[hX];simp
 rw[<-hX]at hw;have kb:=qN hw
 refine⟨he,λO N L h=>?_,?_,?_⟩
 .have h3:=(AA (AA h (o+11) A).1 (o+12) H).1;rw[<-hX]at h3;exact yAg h3 (S:=λ_=>False) (Chg.h kb) (λ_ _ z=>z)
 .have h4:Chg (λk=>k=p) w X:=hX▸((Chg.D (S:=λq=>q=p) _ _ _ _ rfl).trans (Chg.D (S:=λq=>q=p) _ _ _ _ rfl))
  exact h4.trans (Chg.h kb)
 .have:=yAa X (O:=w.heap.size) (t:=283) (sz:=2) #[.pointer (some ⟨g,q,none⟩),xi m] qo rfl;rw[<-hw,hz]at this;exact this
theorem yKg{q:Nat}{m k:Int}{v:Vv}(hp:p<w.heap.size)(hk:cntK k)(kd:(xk w p (o+4) (xi k):Prop))(nn:(xk w p (o+10) (xi m):Prop))(c1:(xk w p (o+11) u:Prop))(c2:(xk w p (o+12) v:Prop))(fz:∀j,w.frozen? (xd p j)=false):
  Calls prog 149 #[.pointer (some ⟨p,o,none⟩),.pointer (some ⟨g,q,none⟩)] w (BdC w p o g q m (ofT (cntF k) w) (anyV (cntR k))):=by
 rcases hk with h|h|h
 .rw[h]at kd;rw[h];exact(yH6 hp kd nn c1 c2 fz).mono (λe w' q=>yZc q.1 q.2)
 .rw[h]at kd;rw[h];exact(yLc hp kd nn c1 c2 fz).mono (λe w' q=>yZc q.1 q.2)
 .rw[h]at kd;rw[h];exact(yNw hp kd nn c1 c2 fz).mono (λe w' q=>yZc q.1 q.2)
theorem yXt(h:yB9 [n]):cntK n.f\/tstK n.f:=by
 have hg:=yDk h n (by simp);have⟨_,s,hs,_⟩:=h;have ha:yAl n.f=0:=by
  generalize hxs: [n]=xs at hs;generalize [s]=ss at hs;cases hs with
  |nil=>cases hxs
  | @snoc ss os xs m ho hh=>
    have h1:xs= []/\n=m:=by
     cases xs with
     |nil=>simp at hxs;exact⟨rfl,hxs⟩
     |cons a r=>simp at hxs
    obtain⟨rfl,rfl⟩:=h1;have h2:ss++os= []:=by
     generalize hz:ss++os=zs at hh;generalize hy:([]:List Nd)=ys at hh;cases hh with
     |nil=>rfl
     |snoc m ho hh=>simp at hy
    have h3:=(List.append_eq_nil_iff.1 h2).2;rw[<-ho,h3];rfl
 unfold yAl at ha;unfold cntK tstK;rcases hg.2.2.2 with q|q|q|q|q
 .omega
 .omega
 .omega
 .omega
 .have q1:=q.1;rcases q1 with q1|q1|q1|q1|q1|q1<;>simp[q1]at ha|-
end Go.Proofs.YtnnagkfoiganfaaGreatDoor
