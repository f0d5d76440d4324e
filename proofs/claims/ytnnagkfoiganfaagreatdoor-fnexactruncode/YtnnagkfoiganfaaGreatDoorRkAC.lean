import Derived.Test.YtnnagkfoiganfaaGreatDoorRkAA
namespace Go.Proofs.YtnnagkfoiganfaaGreatDoor
open XD XI XU XG XP XK XW XT XF XE XH _root_.List _root_.Nat Go.ChangeShapes Go.WideShapes Go.ChangeAt Go.RowKit Go.Deep Go.Shelf Go.Maps Go.Proofs.Tryz
set_option linter.unusedVariables false
set_option linter.unusedSimpArgs false
set_option maxRecDepth 100000
set_option maxHeartbeats 40000000
section
inductive Pls(P:List UInt8->Prop):List UInt8->Prop
 |one {x:List UInt8} (h:P x):Pls P x
 |more {x y:List UInt8} (h:P x) (k:Pls P y):Pls P (x++y)
def RepL(P:List UInt8->Prop)(o r:Bool)(x:List UInt8):Prop:=(o=true/\x= [])\/(if r=true then Pls P x else P x)
mutual
def Lg:Pat->List UInt8->Prop
 | .byte b=>λx=>x= [b]
 | .cls f=>λx=>∃c,x= [c]/\f c=true
 | .rep t o r=>RepL (Lg t) o r
 | .alt os=>LgA os
def LgA:List (List Pat)->List UInt8->Prop
 | []=>λ_=>False
 |ts::os=>λx=>LgS ts x\/LgA os x
def LgS:List Pat->List UInt8->Prop
 | []=>λx=>x= []
 |t::ts=>λx=>∃y z,x=y++z/\Lg t y/\LgS ts z
end
theorem yU:∀(os:List (List Pat))(x:List UInt8),LgA os x↔∃ts∈os,LgS ts x
 | [],x=>by simp[LgA]
 |ts::os,x=>by simp[LgA,yU os x]
mutual
def nulB:Pat->Bool
 | .byte _=>false
 | .cls _=>false
 | .rep t o _=>o || nulB t
 | .alt os=>nulA os
def nulA:List (List Pat)->Bool
 | []=>false
 |ts::os=>nulS ts || nulA os
def nulS:List Pat->Bool
 | []=>true
 |t::ts=>nulB t && nulS ts
end
abbrev PS:=Nat->Bool
def sOr(F G:PS):PS:=λi=>F i || G i
def sOne(a:Nat):PS:=λi=>i==a
def sNo:PS:=λ_=>false
structure Lay where
 nx:Nat
 fst:PS
 lst:PS
 tk:Nat->UInt8->Bool
 ed:Nat->Nat->Bool
def Lay.no(a:Nat):Lay:=⟨a,sNo,sNo,λ_ _=>false,λ_ _=>false⟩
def Lay.seq(g:Lay)(em nt:Bool)(l:Lay):Lay:=
 ⟨l.nx,if em=true then sOr g.fst l.fst else g.fst,if nt=true then sOr g.lst l.lst else l.lst,λp c=>g.tk p c || l.tk p c,λp q=>g.ed p q || l.ed p q || (g.lst p && l.fst q)⟩
def Lay.alt(g l:Lay):Lay:=⟨l.nx,sOr g.fst l.fst,sOr g.lst l.lst,λp c=>g.tk p c || l.tk p c,λp q=>g.ed p q || l.ed p q⟩
def Lay.rep(l:Lay)(r:Bool):Lay:=⟨l.nx,l.fst,l.lst,l.tk,λp q=>l.ed p q || (r && l.lst p && l.fst q)⟩
mutual
def lyP:Pat->Nat->Lay
 | .byte b,a=>⟨a+1,sOne a,sOne a,λp c=>p==a && c==b,λ_ _=>false⟩
 | .cls f,a=>⟨a+1,sOne a,sOne a,λp c=>p==a && f c,λ_ _=>false⟩
 | .rep t _ r,a=>(lyP t a).rep r
 | .alt os,a=>lyA os (Lay.no a)
def lyA:List (List Pat)->Lay->Lay
 | [],g=>g
 |ts::os,g=>lyA os (g.alt (lyS ts true (Lay.no g.nx)))
def lyS:List Pat->Bool->Lay->Lay
 | [],_,g=>g
 |t::ts,em,g=>lyS ts (em && nulB t) (g.seq em (nulB t) (lyP t g.nx))
end
inductive Pth(l:Lay):Nat->List UInt8->Nat->Prop
 |nil (p:Nat):Pth l p [] p
 |step {p p' q:Nat} {c:UInt8} {xs:List UInt8} (he:l.ed p p'=true) (ht:l.tk p' c=true) (h:Pth l p' xs q):Pth l p (c::xs) q
def Wd(l:Lay)(x:List UInt8):Prop:=∃c xs p q,x=c::xs/\l.fst p=true/\l.tk p c=true/\Pth l p xs q/\l.lst q=true
structure Spt(a:Nat)(l:Lay):Prop where
 le:a<=l.nx
 fst:∀p,l.fst p=true->a<=p/\p<l.nx
 lst:∀p,l.lst p=true->a<=p/\p<l.nx
 tk:∀p c,l.tk p c=true->a<=p/\p<l.nx
 ed:∀p q,l.ed p q=true->(a<=p/\p<l.nx)/\a<=q/\q<l.nx
structure Cor(a:Nat)(l:Lay)(P:List UInt8->Prop)(em:Bool):Prop where
 spt:Spt a l
 wd:∀x,P x↔(x= []/\em=true)\/Wd l x
variable {a p q:Nat} {xs:List UInt8}
theorem Pth.in{l:Lay}(hs:Spt a l)(h:Pth l p xs q)(hp:a<=p/\p<l.nx):a<=q/\q<l.nx:=by
 induction h with
 |nil p=>exact hp
 |step he ht h ih=>exact ih (hs.ed _ _ he).2
theorem Pth.cat{l:Lay}{r:Nat}{ys:List UInt8}(h:Pth l p xs q)(k:Pth l q ys r):Pth l p (xs++ys) r:=by
 induction h with
 |nil p=>exact k
 |step he ht h ih=>exact .step he ht (ih k)
theorem Pth.mono{l m:Lay}(h1:∀p q,l.ed p q=true->m.ed p q=true)(h2:∀p c,l.tk p c=true->m.tk p c=true)(h:Pth l p xs q):Pth m p xs q:=by
 induction h with
 |nil p=>exact .nil p
 |step he ht h ih=>exact .step (h1 _ _ he) (h2 _ _ ht) ih
theorem xHb{l:Lay}:¬Wd l []:=fun⟨c,xs,p,q,h,_⟩=>by cases h
variable {P:List UInt8->Prop} {em:Bool}
theorem Cor.nul{l:Lay}(h:Cor a l P em):P []↔em=true:=by
 rw[h.wd];constructor
 .rintro(⟨_,q⟩|q)
  .exact q
  .exact(xHb q).elim
 .exact λq=>.inl ⟨rfl,q⟩
theorem yZ1(a:Nat):Cor a (Lay.no a) (λx=>x= []) true:=by
 refine⟨⟨Nat.le_refl _,?_,?_,?_,?_⟩,λx=>?_⟩
 .intro p h;cases h
 .intro p h;cases h
 .intro p c h;cases h
 .intro p q h;cases h
 .constructor
  .exact λh=>.inl ⟨h,rfl⟩
  .rintro(⟨h,_⟩|⟨c,xs,p,q,_,h,_⟩)
   .exact h
   .cases h
theorem xB7(a:Nat):Cor a (Lay.no a) (λ_=>False) false:=by
 refine⟨(yZ1 a).spt,λx=>?_⟩;constructor
 .exact λh=>h.elim
 .rintro(⟨_,h⟩|⟨c,xs,p,q,_,h,_⟩)
  .cases h
  .cases h
theorem yZ0(a:Nat)(f:UInt8->Bool)(T:Nat->UInt8->Bool)(hT:∀p c,T p c=(p==a && f c)):Cor a ⟨a+1,sOne a,sOne a,T,λ_ _=>false⟩ (λx=>∃c,x= [c]/\f c=true) false:=by
 refine⟨⟨le_succ _,?_,?_,?_,?_⟩,λx=>?_⟩
 .intro p h;simp[sOne]at h;simp;omega
 .intro p h;simp[sOne]at h;simp;omega
 .intro p c h;simp[hT]at h;simp;omega
 .intro p q h;cases h
 .constructor
  .rintro⟨c,rfl,hc⟩;exact .inr ⟨c,[],a,a,rfl,by simp[sOne],by simp[hT,hc],.nil a,by simp[sOne]⟩
  .rintro(⟨_,h⟩|⟨c,xs,p,q,rfl,h1,h2,h3,_⟩)
   .cases h
   .cases h3 with
    |nil=>simp[hT]at h2;exact⟨c,rfl,h2.2⟩
    |step he _ _=>cases he
section
variable {a:Nat} {g l:Lay} {em nt:Bool}
theorem yUp(hg:Spt a g)(hl:Spt g.nx l)(h:Pth (g.seq em nt l) p xs q):
  ((g.nx<=p/\p<l.nx)->Pth l p xs q)/\((a<=p/\p<g.nx)->Pth g p xs q\/∃xs1 c xs2 p1 q1,xs=xs1++c::xs2/\Pth g p xs1 p1/\g.lst p1=true/\l.fst q1=true/\l.tk q1 c=true/\Pth l q1 xs2 q):=by
 induction h with
 |nil p=>exact⟨λ_=>.nil p,λ_=>.inl (.nil p)⟩
 | @step p p' q c xs he ht h ih=>
   simp only[Lay.seq,Bool.or_eq_true,Bool.and_eq_true]at he ht;refine⟨λhp=>?_,λhp=>?_⟩
   .rcases he with(he|he)|he
    .have:=(hg.ed _ _ he).1;omega
    .have a0:=(hl.ed _ _ he).2;rcases ht with ht|ht
     .have:=hg.tk _ _ ht;omega
     .exact .step he ht (ih.1 a0)
    .have:=hg.lst _ he.1;omega
   .rcases he with(he|he)|he
    .have a0:=(hg.ed _ _ he).2;rcases ht with ht|ht
     .rcases ih.2 a0 with k|⟨xs1,c1,xs2,p1,q1,rfl,k1,k2⟩
      .exact .inl (.step he ht k)
      .exact .inr ⟨c::xs1,c1,xs2,p1,q1,rfl,.step he ht k1,k2⟩
     .have:=hl.tk _ _ ht;omega
    .have:=(hl.ed _ _ he).1;omega
    .have a0:=hl.fst _ he.2;rcases ht with ht|ht
     .have:=hg.tk _ _ ht;omega
     .exact .inr ⟨[],c,xs,p,p',rfl,.nil p,he.1,he.2,ht,ih.1 a0⟩
theorem xHi(h:Pth g p xs q):Pth (g.seq em nt l) p xs q:=h.mono (λp q h=>by simp[Lay.seq,h]) (λp c h=>by simp[Lay.seq,h])
theorem xHh(h:Pth l p xs q):Pth (g.seq em nt l) p xs q:=h.mono (λp q h=>by simp[Lay.seq,h]) (λp c h=>by simp[Lay.seq,h])
theorem xFl{G:List UInt8->Prop}(hg:Cor a g G em)(hl:Cor g.nx l P nt):Cor a (g.seq em nt l) (λx=>∃y z,x=y++z/\G y/\P z) (em && nt):=by
 have sg:=hg.spt;have sl:=hl.spt;have a4:=sg.le;have a3:=sl.le;have ff:∀p,(g.seq em nt l).fst p=true↔g.fst p=true\/(em=true/\l.fst p=true):=λp=>by cases em<;>simp[Lay.seq,sOr]
 have fl:∀p,(g.seq em nt l).lst p=true↔(nt=true/\g.lst p=true)\/l.lst p=true:=λp=>by cases nt<;>simp[Lay.seq,sOr]
 refine⟨⟨Nat.le_trans a4 a3,λp h=>?_,λp h=>?_,λp c h=>?_,λp q h=>?_⟩,λx=>?_⟩
 .show a<=p/\p<l.nx;rcases(ff p).1 h with h|⟨_,h⟩
  .have:=sg.fst p h;omega
  .have:=sl.fst p h;omega
 .show a<=p/\p<l.nx;rcases(fl p).1 h with⟨_,h⟩|h
  .have:=sg.lst p h;omega
  .have:=sl.lst p h;omega
 .show a<=p/\p<l.nx;simp only[Lay.seq,Bool.or_eq_true]at h;rcases h with h|h
  .have:=sg.tk p c h;omega
  .have:=sl.tk p c h;omega
 .show(a<=p/\p<l.nx)/\a<=q/\q<l.nx;simp only[Lay.seq,Bool.or_eq_true,Bool.and_eq_true]at h;rcases h with(h|h)|⟨h,k⟩
  .have:=sg.ed p q h;omega
  .have:=sl.ed p q h;omega
  .have:=sg.lst p h;have:=sl.fst q k;omega
 .constructor
  .rintro⟨y,z,rfl,hy,hz⟩;rcases(hg.wd y).1 hy with⟨rfl,e1⟩|⟨c,xs,p,q,rfl,h1,h2,h3,h4⟩
   .rcases(hl.wd z).1 hz with⟨rfl,e2⟩|⟨c,xs,p,q,rfl,h1,h2,h3,h4⟩
    .exact .inl ⟨rfl,by rw[e1,e2];rfl⟩
    .exact .inr ⟨c,xs,p,q,rfl,(ff p).2 (.inr ⟨e1,h1⟩),by simp[Lay.seq,h2],xHh h3,(fl q).2 (.inr h4)⟩
   .rcases(hl.wd z).1 hz with⟨rfl,e2⟩|⟨c',a2,p',q',rfl,k1,k2,k3,k4⟩
    .exact .inr ⟨c,xs,p,q,by simp,(ff p).2 (.inl h1),by simp[Lay.seq,h2],xHi h3,(fl q).2 (.inl ⟨e2,h4⟩)⟩
    .refine .inr ⟨c,xs++c'::a2,p,q',by simp,(ff p).2 (.inl h1),by simp[Lay.seq,h2],(xHi h3).cat (.step ?_ (by simp[Lay.seq,k2]) (xHh k3)),(fl q').2 (.inr k4)⟩;simp[Lay.seq,h4,k1]
  .rintro(⟨rfl,e⟩|⟨c,xs,p,q,rfl,h1,h2,h3,h4⟩)
   .simp only[Bool.and_eq_true]at e;exact⟨[],[],rfl,hg.nul.2 e.1,hl.nul.2 e.2⟩
   .simp only[Lay.seq,Bool.or_eq_true]at h2;rcases(ff p).1 h1 with k1|⟨e1,k1⟩
    .have hp:=sg.fst p k1;have t1:g.tk p c=true:=by
      rcases h2 with h2|h2
      .exact h2
      .have:=sl.tk p c h2;omega
     rcases(yUp sg sl h3).2 hp with k|⟨a1,c1,a0,p1,q1,rfl,k2,k3,k4,k5,k6⟩
     .have hq:=k.in sg hp;rcases(fl q).1 h4 with⟨e2,h4⟩|h4
      .exact⟨c::xs,[],by simp,(hg.wd _).2 (.inr ⟨c,xs,p,q,rfl,k1,t1,k,h4⟩),hl.nul.2 e2⟩
      .have:=sl.lst q h4;omega
     .have hq:=k6.in sl (sl.fst _ k4);rcases(fl q).1 h4 with⟨_,h4⟩|h4
      .have:=sg.lst q h4;omega
      .exact⟨c::a1,c1::a0,by simp,(hg.wd _).2 (.inr ⟨c,a1,p,p1,rfl,k1,t1,k2,k3⟩),(hl.wd _).2 (.inr ⟨c1,a0,q1,q,rfl,k4,k5,k6,h4⟩)⟩
    .have hp:=sl.fst p k1;have t1:l.tk p c=true:=by
      rcases h2 with h2|h2
      .have:=sg.tk p c h2;omega
      .exact h2
     have k:=(yUp sg sl h3).1 hp;have hq:=k.in sl hp;rcases(fl q).1 h4 with⟨_,h4⟩|h4
     .have:=sg.lst q h4;omega
     .exact⟨[],c::xs,rfl,hg.nul.2 e1,(hl.wd _).2 (.inr ⟨c,xs,p,q,rfl,k1,t1,k,h4⟩)⟩
theorem yVj(hg:Spt a g)(hl:Spt g.nx l)(h:Pth (g.alt l) p xs q):
  ((g.nx<=p/\p<l.nx)->Pth l p xs q)/\((a<=p/\p<g.nx)->Pth g p xs q):=by
 induction h with
 |nil p=>exact⟨λ_=>.nil p,λ_=>.nil p⟩
 | @step p p' q c xs he ht h ih=>
   simp only[Lay.alt,Bool.or_eq_true]at he ht;refine⟨λhp=>?_,λhp=>?_⟩
   .rcases he with he|he
    .have:=(hg.ed _ _ he).1;omega
    .have a0:=(hl.ed _ _ he).2;rcases ht with ht|ht
     .have:=hg.tk _ _ ht;omega
     .exact .step he ht (ih.1 a0)
   .rcases he with he|he
    .have a0:=(hg.ed _ _ he).2;rcases ht with ht|ht
     .exact .step he ht (ih.2 a0)
     .have:=hl.tk _ _ ht;omega
    .have:=(hl.ed _ _ he).1;omega
theorem xI4(h:Pth g p xs q):Pth (g.alt l) p xs q:=h.mono (λp q h=>by simp[Lay.alt,h]) (λp c h=>by simp[Lay.alt,h])
theorem xI3(h:Pth l p xs q):Pth (g.alt l) p xs q:=h.mono (λp q h=>by simp[Lay.alt,h]) (λp c h=>by simp[Lay.alt,h])
theorem xFn{G:List UInt8->Prop}(hg:Cor a g G em)(hl:Cor g.nx l P nt):Cor a (g.alt l) (λx=>G x\/P x) (em || nt):=by
 have sg:=hg.spt;have sl:=hl.spt;have a1:=sg.le;have a0:=sl.le;refine⟨⟨Nat.le_trans a1 a0,λp h=>?_,λp h=>?_,λp c h=>?_,λp q h=>?_⟩,λx=>?_⟩
 .show a<=p/\p<l.nx;simp only[Lay.alt,sOr,Bool.or_eq_true]at h;rcases h with h|h
  .have:=sg.fst p h;omega
  .have:=sl.fst p h;omega
 .show a<=p/\p<l.nx;simp only[Lay.alt,sOr,Bool.or_eq_true]at h;rcases h with h|h
  .have:=sg.lst p h;omega
  .have:=sl.lst p h;omega
 .show a<=p/\p<l.nx;simp only[Lay.alt,Bool.or_eq_true]at h;rcases h with h|h
  .have:=sg.tk p c h;omega
  .have:=sl.tk p c h;omega
 .show(a<=p/\p<l.nx)/\a<=q/\q<l.nx;simp only[Lay.alt,Bool.or_eq_true]at h;rcases h with h|h
  .have:=sg.ed p q h;omega
  .have:=sl.ed p q h;omega
 .constructor
  .rintro(h|h)
   .rcases(hg.wd x).1 h with⟨rfl,e1⟩|⟨c,xs,p,q,rfl,h1,h2,h3,h4⟩
    .exact .inl ⟨rfl,by rw[e1];rfl⟩
    .exact .inr ⟨c,xs,p,q,rfl,by simp[Lay.alt,sOr,h1],by simp[Lay.alt,h2],xI4 h3,by simp[Lay.alt,sOr,h4]⟩
   .rcases(hl.wd x).1 h with⟨rfl,e1⟩|⟨c,xs,p,q,rfl,h1,h2,h3,h4⟩
    .exact .inl ⟨rfl,by rw[e1,Bool.or_true]⟩
    .exact .inr ⟨c,xs,p,q,rfl,by simp[Lay.alt,sOr,h1],by simp[Lay.alt,h2],xI3 h3,by simp[Lay.alt,sOr,h4]⟩
  .rintro(⟨rfl,e⟩|⟨c,xs,p,q,rfl,h1,h2,h3,h4⟩)
   .simp only[Bool.or_eq_true]at e;rcases e with e|e
    .exact .inl (hg.nul.2 e)
    .exact .inr (hl.nul.2 e)
   .simp only[Lay.alt,sOr,Bool.or_eq_true]at h1 h2 h4;rcases h1 with k1|k1
    .have hp:=sg.fst p k1;have k:=(yVj sg sl h3).2 hp;have hq:=k.in sg hp;refine .inl ((hg.wd _).2 (.inr ⟨c,xs,p,q,rfl,k1,?_,k,?_⟩))
     .rcases h2 with h2|h2
      .exact h2
      .have:=sl.tk p c h2;omega
     .rcases h4 with h4|h4
      .exact h4
      .have:=sl.lst q h4;omega
    .have hp:=sl.fst p k1;have k:=(yVj sg sl h3).1 hp;have hq:=k.in sl hp;refine .inr ((hl.wd _).2 (.inr ⟨c,xs,p,q,rfl,k1,?_,k,?_⟩))
     .rcases h2 with h2|h2
      .have:=sg.tk p c h2;omega
      .exact h2
     .rcases h4 with h4|h4
      .have:=sg.lst q h4;omega
      .exact h4
end
theorem xEo{l:Lay}{r:Bool}(h:Pth l p xs q):Pth (l.rep r) p xs q:=Pth.mono (l:=l) (m:=l.rep r) (λp q k=>by simp[Lay.rep,k]) (λp c k=>k) h
theorem xBc{l:Lay}(h:Pth (l.rep true) p xs q):Pth l p xs q\/∃xs1 c xs2 p1 q1,xs=xs1++c::xs2/\Pth l p xs1 p1/\l.lst p1=true/\l.fst q1=true/\l.tk q1 c=true/\Pth (l.rep true) q1 xs2 q:=by
 induction h with
 |nil p=>exact .inl (.nil p)
 | @step p p' q c xs he ht h ih=>
   simp only[Lay.rep,Bool.or_eq_true,Bool.and_eq_true,true_and]at he ht;rcases he with he|he
   .rcases ih with k|⟨xs1,c1,xs2,p1,q1,rfl,k1,k2⟩
    .exact .inl (.step he ht k)
    .exact .inr ⟨c::xs1,c1,xs2,p1,q1,rfl,.step he ht k1,k2⟩
   .exact .inr ⟨[],c,xs,p,p',rfl,.nil p,he.1,he.2,ht,h⟩
theorem yPo{l:Lay}(hw:∀x,Wd l x->P x):∀(n:Nat){x:List UInt8},x.length<=n->Wd (l.rep true) x->Pls P x
 |0,x,hn,⟨c,xs,p,q,hx,_⟩=>by subst hx;simp at hn
 |n+1,x,hn,⟨c,xs,p,q,hx,h1,h2,h3,h4⟩=>by
  subst hx
  rcases xBc h3 with k|⟨xs1,c1,xs2,p1,q1,rfl,k1,k2,k3,k4,k5⟩
  .exact .one (hw _ ⟨c,xs,p,q,rfl,h1,h2,k,h4⟩)
  .have e:c::(xs1++c1::xs2)=(c::xs1)++(c1::xs2):=by simp
   rw[e]
   refine .more (hw _ ⟨c,xs1,p,p1,rfl,h1,h2,k1,k2⟩) (yPo hw n ?_ ⟨c1,xs2,q1,q,rfl,k3,k4,k5,h4⟩)
   simp at hn|-;omega
theorem xFm{l:Lay}(h:Cor a l P em)(o r:Bool):Cor a (l.rep r) (RepL P o r) (o || em):=by
 have s:=h.spt;refine⟨⟨s.le,s.fst,s.lst,s.tk,λp q k=>?_⟩,λx=>?_⟩
 .simp only[Lay.rep,Bool.or_eq_true,Bool.and_eq_true]at k;rcases k with k|⟨⟨_,k1⟩,k2⟩
  .exact s.ed p q k
  .exact⟨s.lst p k1,s.fst q k2⟩
 .cases r with
  |false=>
   have e:∀x,Wd (l.rep false) x↔Wd l x:=λx=>by
    have:l.rep false=l:=by simp[Lay.rep]
    rw[this]
   unfold RepL;rw[if_neg (by decide),e,h.wd];cases o<;>cases em<;>simp
  |true=>
   unfold RepL;rw[if_pos rfl];constructor
   .rintro(⟨rfl,rfl⟩|k)
    .exact .inl ⟨rfl,rfl⟩
    .induction k with
     |one hx=>
      rcases(h.wd _).1 hx with⟨rfl,e⟩|⟨c,xs,p,q,rfl,h1,h2,h3,h4⟩
      .exact .inl ⟨rfl,by rw[e,Bool.or_true]⟩
      .exact .inr ⟨c,xs,p,q,rfl,h1,h2,xEo h3,h4⟩
     | @more x y hx k ih=>
       rcases(h.wd _).1 hx with⟨rfl,e⟩|⟨c,xs,p,q,rfl,h1,h2,h3,h4⟩
       .exact ih
       .rcases ih with⟨rfl,e⟩|⟨c',a0,p',q',rfl,k1,k2,k3,k4⟩
        .exact .inr ⟨c,xs,p,q,by simp,h1,h2,xEo h3,h4⟩
        .refine .inr ⟨c,xs++c'::a0,p,q',by simp,h1,h2,(xEo h3).cat (.step ?_ k2 k3),k4⟩;have a1:l.fst p'=true:=k1;simp[Lay.rep,h4,a1]
   .rintro(⟨rfl,e⟩|k)
    .simp only[Bool.or_eq_true]at e;rcases e with e|e
     .exact .inl ⟨e,rfl⟩
     .exact .inr (.one (h.nul.2 e))
    .exact .inr (yPo (λx hx=>(h.wd x).2 (.inr hx)) _ qr k)
theorem Cor.iff{l:Lay}{Q:List UInt8->Prop}(h:Cor a l P em)(hq:∀x,Q x↔P x):Cor a l Q em:=⟨h.spt,λx=>(hq x).trans (h.wd x)⟩
mutual
theorem yQ7:∀(t:Pat)(a:Nat),Cor a (lyP t a) (Lg t) (nulB t)
 | .byte b,a=>by
   refine(yZ0 a (λc=>c==b) _ (λp c=>rfl)).iff (λx=>?_)
   simp[Lg]
 | .cls f,a=>by
   refine(yZ0 a f _ (λp c=>rfl)).iff (λx=>?_)
   simp[Lg]
 | .rep t o r,a=>by
   have:=xFm (yQ7 t a) o r
   simp only[lyP,nulB,Lg]
   exact this
 | .alt os,a=>by
   have:=xH9 os a (Lay.no a) _ _ (xB7 a)
   simp only[lyP,nulB,Lg]
   refine(show Cor a (lyA os (Lay.no a)) _ (nulA os)from ?_)
   rw[Bool.false_or]at this
   exact this.iff (λx=>by simp)
theorem xH9:∀(os:List (List Pat))(a:Nat)(g:Lay)(G:List UInt8->Prop)(em:Bool),Cor a g G em->Cor a (lyA os g) (λx=>G x\/LgA os x) (em || nulA os)
 | [],a,g,G,em,h=>by
   simp only[lyA,nulA,LgA,or_false,Bool.or_false]
   exact h
 |ts::os,a,g,G,em,h=>by
  have h1:=xFo ts g.nx (Lay.no g.nx) _ _ (yZ1 g.nx)
  rw[Bool.true_and]at h1
  have h2:=xH9 os a _ _ _ (xFn h h1)
  simp only[lyA,nulA,LgA,<-Bool.or_assoc]
  refine h2.iff (λx=>?_)
  have e:(∃y z,x=y++z/\y= []/\LgS ts z)↔LgS ts x:=by
   constructor
   .rintro⟨y,z,rfl,rfl,h⟩;exact h
   .exact λh=>⟨[],x,rfl,rfl,h⟩
  rw[e,or_assoc]
theorem xFo:∀(ts:List Pat)(a:Nat)(g:Lay)(G:List UInt8->Prop)(em:Bool),Cor a g G em->Cor a (lyS ts em g) (λx=>∃y z,x=y++z/\G y/\LgS ts z) (em && nulS ts)
 | [],a,g,G,em,h=>by
   simp only[lyS,nulS,LgS,Bool.and_true]
   refine h.iff (λx=>?_)
   constructor
   .rintro⟨y,z,rfl,hy,rfl⟩;simpa using hy
   .exact λh=>⟨x,[],by simp,h,rfl⟩
 |t::ts,a,g,G,em,h=>by
  have h2:=xFo ts a _ _ _ (xFl h (yQ7 t g.nx))
  simp only[lyS,nulS,LgS,<-Bool.and_assoc]
  refine h2.iff (λx=>?_)
  constructor
  .rintro⟨y,z,rfl,hy,u,v,rfl,hu,hv⟩;exact⟨y++u,v,by simp,⟨y,u,rfl,hy,hu⟩,hv⟩
  .rintro⟨y,z,rfl,⟨u,v,rfl,hu,hv⟩,hz⟩;exact⟨u,v++z,by simp,hu,v,z,rfl,hv,hz⟩
end
end
def ofB(f:Nat->Bool):Nat->Nat
 |0=>0
 |n+1=>ofB f n |||(if f n=true then 2^n else 0)
theorem yCs(f:Nat->Bool):∀(n j:Nat),(ofB f n).testBit j=(decide (j<n) && f j)
 |0,j=>by simp[ofB]
 |n+1,j=>by
  unfold ofB
  rw[testBit_or,yCs f n j]
  by_cases hf:f n=true
  .rw[if_pos hf,testBit_two_pow]
   by_cases h:j=n
   .subst h;simp[hf]
   .have h1:decide (n=j)=false:=by simp;omega
    have h2:decide (j<n+1)=decide (j<n):=by rw[decide_eq_decide];omega
    rw[h1,h2];simp
  .rw[if_neg hf,zero_testBit]
   by_cases h:j=n
   .subst h;simp[hf]
   .have h2:decide (j<n+1)=decide (j<n):=by rw[decide_eq_decide];omega
    rw[h2];simp
theorem yYy(f:Nat->Bool)(n:Nat):ofB f n<2^n:=by
 refine lt_pow_two_of_testBit _ (λi hi=>?_);rw[yCs];have:decide (i<n)=false:=by simp;omega
 rw[this];rfl
variable {n:Nat}
theorem yMo{x:Nat}{f:Nat->Bool}(hx:x<2^n)(h:∀j,j<n->x.testBit j=f j):x=ofB f n:=by
 refine eq_of_testBit_eq (λj=>?_);rw[yCs];by_cases hj:j<n
 .rw[h j hj];simp[hj]
 .rw[testBit_lt_two_pow (Nat.lt_of_lt_of_le hx (Nat.pow_le_pow_right qj qo))];simp[hj]
theorem yGw{f g:Nat->Bool}(h:∀j,j<n->f j=g j):ofB f n=ofB g n:=yMo (yYy f n) (λj hj=>by rw[yCs,h j hj];simp[hj])
def wdF(S:PS)(i b:Nat):Nat:=ofB (λj=>S (64*i+j) && decide (b<=j)) 64
def wdN(S:PS)(i:Nat):Nat:=ofB (λj=>S (64*i+j)) 64
theorem xAt S (i:Nat):wdF S i 0=wdN S i:=yGw (λj _=>by simp)
theorem yF3 S (i:Nat):wdN S i<18446744073709551616:=yYy _ 64
theorem xC7 S (i b:Nat):wdF S i b<18446744073709551616:=yYy _ 64
def sAnd(F G:PS):PS:=λi=>F i && G i
theorem xIo S T (i:Nat):bits .or .u64 (wdN S i:Int) (wdN T i:Int)=((wdN (sOr S T) i:Nat):Int):=by rw[bits_or_u64_nat _ _ (yF3 _ _) (yF3 _ _)];congr 1;refine yMo (or_lt_two_pow (yF3 _ _) (yF3 _ _)) (λj hj=>?_);rw[testBit_or];unfold wdN;rw[yCs,yCs];simp[hj,sOr]
theorem xHc S T (i:Nat):bits .and .u64 (wdN S i:Int) (wdN T i:Int)=((wdN (sAnd S T) i:Nat):Int):=by rw[bits_and_u64_nat _ _ (yF3 _ _) (yF3 _ _)];congr 1;refine yMo (and_lt_two_pow _ (yF3 _ _)) (λj hj=>?_);rw[testBit_and];unfold wdN;rw[yCs,yCs];simp[hj,sAnd]
theorem yMy S (a i:Nat) (hi:i=a/64):bits .or .u64 (wdN S i:Int) ((2^(a%64):Nat):Int)=((wdN (sOr S (sOne a)) i:Nat):Int):=by
 have hp:=Nat.pow_lt_pow_right (a:=2) qj (mod_lt a qj:a%64<64);rw[bits_or_u64_nat _ _ (yF3 _ _) hp];congr 1;refine yMo (or_lt_two_pow (yF3 _ _) hp) (λj hj=>?_);rw[testBit_or,testBit_two_pow];unfold wdN;rw[yCs];have h:decide (a%64=j)=(64*i+j==a):=by rw[Bool.eq_iff_iff,decide_eq_true_eq,beq_iff_eq];omega
 simp only[hj,decide_true,Bool.true_and,sOr,sOne,h]
theorem yBf S (a i:Nat) (hi:¬i=a/64):wdN (sOr S (sOne a)) i=wdN S i:=by
 refine yGw (λj hj=>?_);have h:(64*i+j==a)=false:=by rw[beq_eq_false_iff_ne];omega
 simp only[sOr,sOne,h,Bool.or_false]
theorem xFd(x:Nat)(h0:x≠0)(hx:x<18446744073709551616):Lib.ctz 64 x<64/\x.testBit (Lib.ctz 64 x)=true/\(∀j,j<Lib.ctz 64 x->x.testBit j=false)/\∀j,(x &&& (x-1)).testBit j=(decide (Lib.ctz 64 x<j) && x.testBit j):=by
 obtain⟨m,hm,hk⟩:=Lib.ctzFrom_spec 64 x (by omega) hx;have e:Lib.ctz 64 x=Lib.ctzFrom 64 x:=by simp[Lib.ctz,h0]
 rw[e];generalize Lib.ctzFrom 64 x=k at hm hk;have hb:∀j,x.testBit j=(decide (k<=j) && (2*m+1).testBit (j-k)):=λj=>by rw[hm,Nat.mul_comm,testBit_mul_two_pow]
 have hp:0<2^k:=Nat.pow_pos qj;have hd:(x-1)/2^k=2*m:=by
  have h1:x-1=2^k*(2*m)+(2^k-1):=by rw[hm,Nat.mul_add];omega
  rw[h1,mul_add_div hp,div_eq_of_lt (by omega),Nat.add_zero]
 have a0:∀j,k<=j->(x-1).testBit j=(2*m).testBit (j-k):=λj hj=>by rw[<-hd,testBit_div_two_pow];congr 1;omega
 refine⟨hk,by rw[hb];simp,λj hj=>by rw[hb];have:decide (k<=j)=false:=(by simp;omega);rw[this];rfl,λj=>?_⟩
 rw[testBit_and,hb j];by_cases h1:k<=j
 .rw[a0 j h1];by_cases h2:j=k
  .subst h2;simp
  .obtain⟨t,rfl⟩:∃t,j=k+(t+1):=⟨j-k-1,by omega⟩;have e3:k+(t+1)-k=t+1:=by omega
   have e4:decide (k<k+(t+1))=true:=by simp
   have d1:(2*m+1)/2=m:=by omega
   have d2:(2*m)/2=m:=by omega
   rw[e3,e4,testBit_succ,testBit_succ,d1,d2];simp
 .have h2:decide (k<=j)=false:=by simp;omega
  have h3:decide (k<j)=false:=by simp;omega
  rw[h2,h3];simp
variable {i b:Nat}
theorem xE{S:PS}{x:Nat}(hx:x=wdF S i b)(h0:x≠0):Lib.ctz 64 x<64/\S (64*i+Lib.ctz 64 x)=true/\b<=Lib.ctz 64 x/\(∀j,b<=j->j<Lib.ctz 64 x->S (64*i+j)=false)/\x &&& (x-1)=wdF S i (Lib.ctz 64 x+1):=by
 have hl:x<18446744073709551616:=by rw[hx];exact xC7 _ _ _
 obtain⟨h1,h2,h3,h4⟩:=xFd x h0 hl;generalize Lib.ctz 64 x=k at h1 h2 h3 h4;have hb:∀j,j<64->x.testBit j=(S (64*i+j) && decide (b<=j)):=λj hj=>by rw[hx];unfold wdF;rw[yCs];simp[hj]
 rw[hb k h1,Bool.and_eq_true,decide_eq_true_eq]at h2;refine⟨h1,h2.1,h2.2,λj hbj hj=>?_,?_⟩
 .have:=h3 j hj;rw[hb j qo]at this;simpa [hbj]using this
 .refine yMo (and_lt_two_pow _ qo) (λj hj=>?_);rw[h4 j,hb j hj];by_cases q:k<j
  .have q1:decide (k+1<=j)=true:=by simp;omega
   have q2:decide (b<=j)=true:=by have:=h2.2;simp;omega
   rw[q1,q2];simp[q]
  .have q1:decide (k+1<=j)=false:=by simp;omega
   rw[q1];simp[q]
theorem xAu{S:PS}(h:wdF S i b=0)(j:Nat)(hb:b<=j)(hj:j<64):S (64*i+j)=false:=by
 have h1:(wdF S i b).testBit j=(S (64*i+j) && decide (b<=j)):=by unfold wdF;rw[yCs];simp[hj]
 rw[h,zero_testBit]at h1;simpa [hb]using h1.symm
theorem yR5(x:Nat)(h0:x≠0)(hx:x<18446744073709551616):bits .and .u64 (x:Int) (IntKind.u64.wrap ((x:Int)-1))=((x &&& (x-1):Nat):Int):=by
 have e1:IntKind.u64.wrap ((x:Int)-1)=((x-1:Nat):Int):=by rw[IntKind.wrap_u64];omega
 rw[e1,bits_and_u64_nat x _ hx qo]
def psL(S:PS):List Value:= [.int .u64 (wdN S 0:Int),.int .u64 (wdN S 1:Int),.int .u64 (wdN S 2:Int),.int .u64 (wdN S 3:Int)]
abbrev psV(S:PS):Value:=.agg #[xu (wdN S 0),xu (wdN S 1),xu (wdN S 2),xu (wdN S 3)]
variable {T:PS}
theorem yDc{S:PS}(h:∀p,p<256->S p=T p)(hi:i<4):wdN S i=wdN T i:=yGw (λj hj=>h _ qo)
theorem yF2(i:Nat):wdN sNo i=0:=by refine(yMo qj (λj _=>?_)).symm;simp[sNo]
theorem xD9{S:PS}(h:wdN S i=wdN T i)(j:Nat)(hj:j<64):S (64*i+j)=T (64*i+j):=by
 have h1:(wdN S i).testBit j=S (64*i+j):=by unfold wdN;rw[yCs];simp[hj]
 have h2:(wdN T i).testBit j=T (64*i+j):=by unfold wdN;rw[yCs];simp[hj]
 rw[<-h1,<-h2,h]
theorem yO1{S:PS}(h:∀i,i<4->wdN S i=wdN T i)(p:Nat)(hp:p<256):S p=T p:=by have:=xD9 (h (p/64) (by omega)) (p%64) (by omega);rwa [show 64*(p/64)+p%64=p by omega]at this
def TabD(w:World):Prop:=∀j,j<64->(xk w 1 j (.int .u8 (Lib.deBruijn64tab.getD j 0)):Prop)
variable {w:World}
theorem TabD.lt(h:TabD w):1<w.heap.size:=by have h0:=h 0 qo;apply Classical.byContradiction;intro hn;rw[World.cell?,Array.getElem?_eq_none (by simp only;omega)]at h0;simp at h0
theorem xE7(x a:Nat)(hx:x<18446744073709551616)(hx0:x≠0)(hlow:x &&& (18446744073709551616-x)=a):
  IntKind.u64.wrap (bits BinOp.and IntKind.u64 (x:Int) (IntKind.u64.wrap (-(x:Int)))*285870213051353865)/288230376151711744=((a*285870213051353865%18446744073709551616/288230376151711744:Nat):Int):=by
 have e1:IntKind.u64.wrap (-(x:Int))=((18446744073709551616-x:Nat):Int):=by rw[IntKind.wrap_u64];omega
 rw[e1,bits_and_u64_nat x _ hx qo,hlow,IntKind.wrap_u64];omega
theorem xIp(x k idx:Nat)(w:World)(hx0:((x:Int)==0)=false)
  (key:IntKind.u64.wrap (bits BinOp.and IntKind.u64 (x:Int) (IntKind.u64.wrap (-(x:Int)))*285870213051353865)/288230376151711744=(idx:Int))
  (hi:idx<64) (hk:k<64) (hcell:(xk w 1 idx (.int .u8 k):Prop)):
  Calls prog 258 #[xu x] w λe w'=>e=.returned (xi k)/\w'=w:=by
 go_enter func258,ntmps258;go_wp2_with (simp only[key]);go_ret;exact⟨rfl,rfl⟩
theorem xEb(x:Nat)(hx:x<18446744073709551616)(hx0:x≠0) w (hT:TabD w):Calls prog 258 #[xu x] w λe w'=>e=.returned (xi (Lib.ctz 64 x))/\w'=w:=by obtain⟨a2,hk⟩:=Lib.lowest_bit 64 x hx0 hx;obtain⟨hi,a1⟩:=Lib.deBruijn64_at _ hk;have a0:=hT _ hi;rw[a1]at a0;exact xIp x _ _ w (by simp;omega) (xE7 x _ hx hx0 a2) hi hk a0
theorem xBg S {k:Nat} (hk:k<4) (w:World):(Instr.index 328 (psV S) (xi k)).run prog w=.ok (xu (wdN S k)) w:=by rcases(by omega:k=0\/k=1\/k=2\/k=3)with rfl|rfl|rfl|rfl<;>kernel_rfl
theorem yWl S (l m:Nat) (hm:1<=m) (J:Nat->World->Prop)
  (hY:∀k x W,J k W->k<=x->x<256->S x=true->(∀j,k<=j->j<x->S j=false)->YieldAt Fence.wide (m-1) prog l #[xi x] W λe W'=>e=.returned true/\J (x+1) W')
  (hJs:∀k k' W,J k W->k<=k'->(∀j,k<=j->j<k'->S j=false)->J k' W) (hJd:∀k W,J k W->J k W.drew) (hJa:∀k W (o:Obj),J k W->J k (W.alloc o)) (hJt:∀k W,J k W->TabD W) (W:World) (h0:J 0 W):
  CallsIn Fence.wide m prog 246 #[psV S,.func (.yield l) #[] #[]] W λe W'=>(∃v,e=.returned v)/\J 256 W':=by
 have aa:Hid (J 0 (xw W (psL S).toArray 328)):=hJa _ _ _ h0;refine callsIn_of_wp func246 rfl trivial ?_ rfl;simp only[ntmps246,size_toArray,length_cons,length_nil,Nat.reduceAdd,Nat.reduceSub,Array.replicate_succ,Array.replicate_zero,push_toArray,append_toArray,nil_append,cons_append];gi_wp2;gi_loopw [7] (λiv wr=>∃i:Nat,i<=4/\iv=(xi i)/\J (64*i) wr) (λiv _=>4-(intOf iv).toNat);case atStart=>exact⟨0,by omega,rfl,aa.out⟩
 case round=>
  obtain⟨i,hi,rfl,a2⟩:=hrel;by_cases hlt:i<4
  .have zi:(i:Int)<4:=by omega
   have ab:=λw=>xBg S hlt w;have a3:Hid (J (64*i) wr):=a2;clear a2;gi_wp2;gi_loopw [5] (λxv wr=>∃x b:Nat,xv=(xu x)/\Hid (x=wdF S i b)/\b<=64/\Hid (J (64*i+b) wr)) (λxv _=>(intOf xv).toNat);case atStart=>exact⟨wdN S i,0,rfl,(xAt S i).symm,by omega,a3.out⟩
   case round=>
    obtain⟨x,b,rfl,HX,hb,a0⟩:=hrel;by_cases hx0:x=0
    .subst hx0;have hn:Hid (J (64*(i+1)) wr):=hJs _ _ _ a0.out (by omega) (λj h1 h2=>by
      have:=xAu HX.symm (j-64*i) (by omega) (by omega)
      rwa [show 64*i+(j-64*i)=j by omega]at this)
     clear a0 HX a3;gi_wp2;go_roundw;case rel=>exact⟨i+1,qo,by go_num,hn.out⟩
     case measure=>simp[intOf];omega
    .have a5:x<18446744073709551616:=by rw[HX.out];exact xC7 _ _ _
     obtain⟨h1,h2,h3,h4,h5⟩:=xE HX.out hx0;have HT:=xEb x a5 hx0 wr (hJt _ _ a0.out);obtain⟨k,hk⟩:=qE (Lib.ctz 64 x);rw[<-hk]at h1 h2 h3 h4 h5 HT;obtain⟨fn,tmps,assign,body,hy,hR⟩:=hY _ (64*i+k) wr a0.out qo (by omega) h2 (λj q1 q2=>by
      have:=h4 (j-64*i) (by omega) (by omega)
      rwa [show 64*i+(j-64*i)=j by omega]at this)
     have e0:((64*i+k:Nat):Int)=(i:Int)*64+(k:Int):=by omega
     rw[e0]at hy;have zx:((x:Int)==0)=false:=by simp;omega
     have HN:Hid (x &&& (x-1)=wdF S i (k+1)/\x &&& (x-1)<x):=⟨h5,qw (and_le_right (n:=x) (m:=x-1))⟩;have a1:bits .and .u64 (x:Int) ((x:Int)-1)=((x &&& (x-1):Nat):Int):=by have:=yR5 x hx0 a5;rwa [IntKind.wrap_u64,Int.emod_eq_of_lt (by omega) (by omega)]at this
     have a8:Hid (Calls prog 258 #[xu x] wr λe w'=>e=.returned (xi k)/\w'=wr):=HT;obtain⟨y,a4⟩:=qE (x &&& (x-1));rw[<-a4]at a1 HN;clear HT hk h2 h3 h4 h5 a3 a0 e0 a4;gi_wp2;refine⟨trivial,(callsIn_wide.2 a8.out).mono ?_⟩;rintro e w' ⟨rfl,a6⟩;rw[a6];clear a6 a8;gi_wp2;refine hR.mono ?_;rintro e W3 ⟨rfl,a7⟩;have a9:Hid (J (64*i+(k+1)) W3):=a7;clear a7 hR hy;gi_wp2_with (simp only[a1]);go_roundw;case rel=>exact⟨y,k+1,by first|rfl|rw[a1],HN.1,by omega,a9.out⟩
     case measure=>have:=HN.2;simp[intOf,a1];omega
  .obtain rfl:i=4:=by omega
   gi_wp2;go_end0;exact⟨⟨_,rfl⟩,a2⟩
variable {body:Code} {Q:Exit->Act->World->Prop}
theorem yH5{g:Operand}{ps:Array Tmp}{assign:Code}{a:Act}(h1:2<=n)(S:PS)
  (hg:a.eval g=.func (.func 246) #[psV S] #[]) (hps:ps.size=1) (I:Nat->World->Prop) (hI:OwnFrom w.heap.size I) (hIt:∀k W,I k W->TabD W)
  (hIs:∀k k' W,I k W->k<=k'->(∀j,k<=j->j<k'->S j=false)->I k' W) (h0:I 0 w) (a₁:Nat->Act)
  (hassign:∀(l x:Nat)(W:World)(K:Act->World->Prop),K (a₁ x) W->assign.wpIn (Fence.wide.inRound l) (n-1-1) prog (Exit.then K (λ_ _ _=>False)) {tmps:=(ps.zip #[.int .i64 (x:Int)]).foldl (λt (p,v)=>t.setIfInBounds p v) a.tmps,defers:= []} W)
  (hbody:∀(l k x:Nat)(W:World),I k W->k<=x->x<256->S x=true->(∀j,k<=j->j<x->S j=false)->body.wpIn (Fence.wide.inRound l) (n-1-1) prog (λe _ W'=>e=.normal/\KeepsFrom w W W'/\I (x+1) W') (a₁ x) W)
  (hdone:∀(D:Nat)(W:World),w.heap.size<=D->I 256 W->W.heap[D]?=some (.deferred (some []))->Q .normal {a with defers:={target:=.collected D,args:=#[]}::a.defers} W):
  (Code.rangeFunc g ps assign body).wpIn Fence.wide n prog Q a w:=by
 refine wpIn_rangeFunc ?_;intro fn aa;obtain⟨rec,a0⟩:∃rec:LoopState->Option Code->Loop,rec=λst pe=>{state:=st,pending:=pe,fn,tmps:=a.tmps,params:=ps,assign,body,defers:=w.heap.size}:=⟨_,rfl⟩;obtain⟨W1,a2⟩:∃W1,(w.alloc (.deferred (some []))).alloc (.loop (rec .ready none))=W1:=⟨_,rfl⟩;have ac:W1.heap[w.heap.size+1]?=some (.loop (rec .ready none)):=by rw[<-a2];have:=World.alloc_heap_new (w.alloc (.deferred (some []))) (.loop (rec .ready none));rwa [World.size_alloc]at this
 have ad:W1.heap[w.heap.size]?=some (.deferred (some [])):=by rw[<-a2];exact(Below.heap_alloc _ _ _ (by simp)).trans (World.alloc_heap_new w _)
 have ae:I 0 W1:=by rw[<-a2];exact hI.alloc _ (hI.alloc _ h0)
 refine⟨w+1,[{target:=.collected w.heap.size,args:=#[]}],W1,{target:=.fn (.func 246) #[],args:=#[psV S,.func (.yield (w.heap.size+1)) #[] #[]]},W1,246,
  #[psV S,.func (.yield (w.heap.size+1)) #[] #[]],W1,?_,?_,λ_ _=>trivial,?_,λ_=>qo,?_⟩
 .rw[<-a2,a0];exact run_enterLoop_outer _ _ _ _ _
 .simp only[resolve,hg];simp[go_sem]
 .simp[invoke,go_sem]
 .have a4:∀(k:Nat){A B:World}{row:Option Nat},(I k A/\A.heap[w.heap.size+1]?=some (.loop (rec .ready none))/\A.heap[w.heap.size]?=some (.deferred (some [])))->A.grownBy B none->(I k B/\B.heap[w.heap.size+1]?=some (.loop (rec .ready none))/\B.heap[w.heap.size]?=some (.deferred (some []))):=λk A B row h hgr=>
   ⟨hI k A B none h.1 hgr (λr e=>by cases e),(hgr.block _ (Array.getElem?_eq_some_iff.1 h.2.1).1 (by simp)).trans h.2.1,(hgr.block _ (Array.getElem?_eq_some_iff.1 h.2.2).1 (by simp)).trans h.2.2⟩
  refine(yWl S (w.heap.size+1) (n-1) qo (λk W=>I k W/\W.heap[w.heap.size+1]?=some (.loop (rec .ready none))/\W.heap[w.heap.size]?=some (.deferred (some []))) ?_ (λk k' W h q1 q2=>⟨hIs k k' W h.1 q1 q2,h.2⟩) (λk W h=>a4 k (row:=none) h ⟨rfl,rfl,rfl,Nat.le_refl _,λ_ _ _=>rfl⟩) (λk W o h=>a4 k (row:=none) h (World.grownBy_alloc W o none)) (λk W h=>hIt k W h.1) W1 ⟨ae,ac,ad⟩).mono ?_
  .rintro k x W ⟨hi,hl,hk⟩ a7 hx hS ab;have a6:=(Array.getElem?_eq_some_iff.1 hl).1;have hy:=run_yield (P:=prog) (args:=#[.int .i64 (x:Int)]) hl (by rw[a0];exact hps.symm);rw[a0]at hy;refine⟨fn,_,assign,body,hy,roundIn_of_wpIn aa (hassign _ x W _ ⟨_,run_beginRound hl (by rw[a0]),?_⟩)⟩;have hl2:(W.putObj (w+1) (.loop {rec .ready none with state:=.busy})).heap[w.heap.size+1]?=some (.loop {rec .ready none with state:=.busy}):=World.putObj_heap_same a6;have a8:(W.putObj (w+1) (.loop {rec .ready none with state:=.busy})).heap[w.heap.size]?=some (.deferred (some [])):=(World.putObj_heap_other qo).trans hk;refine wpIn_mono (hbody _ k x _ (hI.putObj _ hi qo hl rfl) a7 hx hS ab) ?_;rintro e a3 W3 ⟨rfl,a5,a9⟩;have a1:=a5.same _ _ qo hl2 rfl;have hr:=run_endRound (P:=prog) none a1;rw[a0]at hr a1;refine⟨_,_,hr,rfl,hI.putObj _ a9 qo a1 rfl,?_,(World.putObj_heap_other qo).trans (a5.same _ _ qr a8 rfl)⟩;rw[a0];exact World.putObj_heap_same (Array.getElem?_eq_some_iff.1 a1).1
  .rintro e W2 ⟨⟨v,rfl⟩,hi,hl,hk⟩;exact⟨none,_,by have:=run_endLoop (P:=prog) hl (by rw[a0];simp);rw[a0]at this;exact this,hdone _ _ qr (hI.putObj _ hi qo hl rfl) ((World.putObj_heap_other qo).trans hk)⟩
mutual
def wtP:Pat->Nat
 | .byte _=>1
 | .cls _=>1
 | .rep t _ _=>wtP t
 | .alt os=>wtA os+1
def wtA:List (List Pat)->Nat
 | []=>0
 |ts::os=>wtS ts+1+wtA os
def wtS:List Pat->Nat
 | []=>0
 |t::ts=>wtP t+wtS ts
end
theorem yXt:∀t:Pat,1<=wtP t
 | .byte _=>by simp[wtP]
 | .cls _=>by simp[wtP]
 | .rep t _ _=>by simp only[wtP];exact yXt t
 | .alt os=>by simp[wtP]
theorem yRo:∀ts:List Pat,ts.length<=wtS ts
 | []=>by simp[wtS]
 |t::ts=>by have:=yRo ts;have:=yXt t;simp only[wtS,length_cons];omega
theorem yRr:∀os:List (List Pat),os.length<=wtA os
 | []=>by simp[wtA]
 |t::ts=>by have:=yRr ts;simp only[wtA,length_cons];omega
theorem yRn:∀{ts:List Pat}{t:Pat},t∈ts->wtP t<=wtS ts
 |s::ts,t,h=>by
  rcases mem_cons.1 h with rfl|q
  .simp only[wtS];omega
  .have:=yRn q;simp only[wtS];omega
theorem yRq:∀{os:List (List Pat)}{ts:List Pat},ts∈os->wtS ts<=wtA os
 |s::os,ts,h=>by
  rcases mem_cons.1 h with rfl|q
  .simp only[wtA];omega
  .have:=yRq q;simp only[wtA];omega
variable {A:List UInt8->Pat->Prop} {xs:List UInt8}
theorem xG5(hA:∀xs t,A xs t->wtP t<=xs.length){t:Pat}:RepG A xs t->wtP t<=xs.length
 |⟨ys,ops,a,h1,h2,h3,h4⟩=>by
  have:=hA _ _ h2
  rw[h1,h4]
  split
  .simp;omega
  .simp only[wtP,length_append];omega
theorem yXq(hA:∀xs t,A xs t->wtP t<=xs.length):∀{ts:List Pat}{xs:List UInt8},SeqG A ts xs->wtS ts<=xs.length
 | [],_,h=>by simp[wtS]
 |t::ts,xs,⟨ys,zs,h1,h2,h3⟩=>by
  have:=xG5 hA h2
  have:=yXq hA h3
  rw[h1];simp only[wtS,length_append];omega
theorem yXs(hA:∀xs t,A xs t->wtP t<=xs.length):∀{os:List (List Pat)}{xs:List UInt8},AltG A os xs->wtA os<=xs.length+1
 | [],_,h=>h.elim
 | [ts],xs,h=>by have:=yXq hA (ts:=ts) (xs:=xs) h;simp only[wtA];omega
 |ts::t2::os,xs,⟨ys,zs,h1,h2,h3⟩=>by
  have:=yXq hA h2
  have:=yXs hA (os:=t2::os) h3
  rw[h1];rw[show wtA (ts::t2::os)=wtS ts+1+wtA (t2::os)from rfl];simp only[length_append,length_cons];omega
theorem yXr:∀(n:Nat)(xs:List UInt8)(t:Pat),yAm n xs t->wtP t<=xs.length
 |0,_,_,h=>h.elim
 |n+1,xs,t,h=>by
  rcases h with⟨c,rfl,_,rfl⟩|⟨rfl,rfl⟩|⟨c,rfl,rfl⟩|⟨ys,os,rfl,h2,rfl⟩|⟨p,i,k,f,h1,h2,rfl,rfl⟩
  .simp[wtP]
  .simp[wtP]
  .simp[wtP]
  .have:=yXs (λxs t q=>yXr n xs t q) h2
   simp only[wtP,length_append,length_cons,length_nil];omega
  .have hg:=yBj h2
   rw[yAw hg.2];simp only[wtP];omega
mutual
theorem nx_P:∀(t:Pat)(a:Nat),(lyP t a).nx<=a+wtP t
 | .byte _,a=>by simp[lyP,wtP]
 | .cls _,a=>by simp[lyP,wtP]
 | .rep t _ _,a=>by simp only[lyP,wtP,Lay.rep];exact nx_P t a
 | .alt os,a=>by have:=nx_A os (Lay.no a);simp only[lyP,wtP,Lay.no]at*;omega
theorem nx_A:∀(os:List (List Pat))(g:Lay),(lyA os g).nx<=g.nx+wtA os
 | [],g=>by simp[lyA,wtA]
 |ts::os,g=>by
  have h1:=nx_A os (g.alt (lyS ts true (Lay.no g.nx)))
  have h2:=nx_S ts true (Lay.no g.nx)
  simp only[lyA,wtA,Lay.alt,Lay.no]at*;omega
theorem nx_S:∀(ts:List Pat)(em:Bool)(g:Lay),(lyS ts em g).nx<=g.nx+wtS ts
 | [],em,g=>by simp[lyS,wtS]
 |t::ts,em,g=>by
  have h1:=nx_S ts (em && nulB t) (g.seq em (nulB t) (lyP t g.nx))
  have h2:=nx_P t g.nx
  simp only[lyS,wtS,Lay.seq]at*;omega
end
abbrev ub(x:UInt8):Value:=.int .u8 (x.toNat:Int)
def yXk(w:World)(b off:Nat)(xs:List UInt8):Prop:=∀i x,xs[i]?=some x->(xk w b (off+i) (ub x):Prop)
variable {B:Nat} {w':World}
theorem yXk.below{off:Nat}(h:yXk w b off xs)(hb:Below B w w')(hlt:b<B):yXk w' b off xs:=by intro i x hx;rw[hb.cell (p:=(xd b (off+i))) hlt];exact h i x hx
def OwnY(w:World)(base g cp:Nat)(xs:List UInt8):Prop:=w.ownsRow base 5 1 (xg g xs.length cp) xs.length (xs.map ub)
variable {base cp:Nat}
theorem OwnY.lt{g:Nat}(h:OwnY w base g cp xs):base<=g/\g<w.heap.size:=World.ownsRow.lt h g rfl
theorem OwnY.chg{S:Nat->Prop}{g:Nat}(h:OwnY w base g cp xs)(hc:Chg S w w')(hn:¬S g):OwnY w' base g cp xs:=yAh h hc (λk q=>by simp[Value.ownBlock]at q;subst q;exact hn)
theorem OwnY.below{g:Nat}(h:OwnY w base g cp xs)(hb:Below w w w'):OwnY w' base g cp xs:=h.chg (Chg.of_below hb) (S:=λ_=>False) (λq=>q)
theorem OwnY.at{g:Nat}(h:OwnY w base g cp xs):yXk w g 0 xs:=by intro k x hx;have hk:=qf hx;rw[Nat.zero_add,World.ownsRow.cellAt h k qo,getElem?_map,hx];rfl
theorem OwnY.caps{g:Nat}(h:OwnY w base g cp xs):xs.length<=cp/\cp<=maxLen:=by exact yMx
variable {base':Nat}
theorem OwnY.mono{g:Nat}(h:OwnY w base g cp xs)(hb:base'<=base):OwnY w base' g cp xs:=by exact yO0
theorem xHd(xs:List UInt8):∀u∈xs.map ub,u.oneCell'=true:=by intro u hu;obtain⟨r,_,rfl⟩:=List.mem_map.1 hu;rfl
theorem Tryz.infoByte:(prog.info? 5).map (λi=>(i.zero,i.size,i.bytes))=some (some (.int .u8 0),1,1):=qk
theorem yBg{ops:Array Oper}{rest:List Oper}{o:Oper}{a:Act}(w:World)(hgd:o.guard=none) s x
  (ho:o.op=.call {callee:=.builtin .append,args:=#[s,x],argTypes:=#[22,22]})
  (base g cp n b off m cx:Nat) (l k:List UInt8) (hs:a.eval s=(xg g n cp)) (hx:a.eval x=.slice (some ⟨b,off,none⟩) m cx) (hn:n=l.length) (hm:m=k.length) (hO:OwnY w base g cp l)
  (hc:yXk w b off k) (hlen:l.length+k.length<=2^30) (hbase:base<=w.heap.size)
  (h:∀g' cp' w',OwnY w' base g' cp' (l++k)->w.grownBy w' (some g)->(g'=g\/g'=w.heap.size)->wpList prog ops Q rest (a.put o.dst (xg g' (n+m) cp')) w'):wpList prog ops Q (o::rest) a w:=by
 subst hn hm;obtain⟨i,hi,a4,a3,a2⟩:=info_parts Tryz.infoByte;refine wpList_append_own_at w hgd s x 22 ho base 5 i _ 1 1 underlying22 hi a4 a3 a2 rfl qj (xg g l.length cp) l.length (l.map ub) hs hO (xd b off) k.length cx (k.map ub) hx (by simp) ?_ (xHd k) ?_ ?_ hbase ?_
 .intro j u hu;rw[getElem?_map]at hu;cases hk:k[j]? with
  |none=>rw[hk]at hu;cases hu
  |some r=>
   rw[hk]at hu;simp at hu;rw[Addr.add_mid,hc j r hk,<-hu]
 .unfold maxLen;omega
 .omega
 .intro v' w' a1 a6 a5 a0;rcases a1.2 with⟨h0,_⟩|⟨g',a7,cur,hv,_,_,hn,a8,_,_⟩
  .have:=(a5.1 h0).1;cases this
  .subst hv;refine h g' a7 w' ?_ a6 ?_
   .unfold OwnY;rw[length_append,map_append];exact a1
   .simp[Value.ownBlock]at a0;exact a0
theorem yU0(w:World)(hb:base<=w.heap.size):OwnY (xw w #[] 5) base w 0 []:=
 World.ownsRow_made w #[] 0 hb (zero_le _) (by simp)
theorem yGu(w:World)(hb:base<=w.heap.size)(x:UInt8){v:Int}(hv:v=(x.toNat:Int)):OwnY (xw w #[.int .u8 v] 5) base w 1 [x]:=by subst hv;exact World.ownsRow_lit w #[ub x] 1 hb qj rfl
def cB(a b:ByteArray):Int:=Lib.compareBytes a.data.toList b.data.toList
theorem yCw:∀a b:List UInt8,Op.bytesLess a b=true->Lib.compareBytes a b= -1
 | [],[]=>by simp[Op.bytesLess]
 | [],_::_=>by simp[Lib.compareBytes]
 |_::_,[]=>by simp[Op.bytesLess]
 |a::x,b::y=>by
  intro h
  simp only[Op.bytesLess,Bool.or_eq_true,decide_eq_true_eq,Bool.and_eq_true,beq_iff_eq]at h
  unfold Lib.compareBytes
  rcases h with h|⟨rfl,h⟩
  .rw[if_pos h]
  .have hn:¬a<a:=by simp
   rw[if_neg hn,if_neg hn];exact yCw x y h
theorem yCu:∀a:List UInt8,Lib.compareBytes a a=0
 | []=>rfl
 |a::x=>by
  unfold Lib.compareBytes
  have hn:¬a<a:=by simp
  rw[if_neg hn,if_neg hn];exact yCu x
theorem yCv:∀a b:List UInt8,Op.bytesLess a b=false->(a==b)=false->Lib.compareBytes a b=1
 | [],[]=>by simp
 | [],_::_=>by simp[Op.bytesLess]
 |_::_,[]=>by simp[Lib.compareBytes]
 |a::x,b::y=>by
  intro h h2
  simp only[Op.bytesLess,Bool.or_eq_false_iff,decide_eq_false_iff_not]at h
  unfold Lib.compareBytes
  rw[if_neg h.1]
  by_cases hb:b<a
  .rw[if_pos hb]
  .rw[if_neg hb]
   have hab:a=b:=by have h1:=h.1;rw[UInt8.lt_iff_toNat_lt]at h1 hb;exact UInt8.toNat_inj.1 qo
   subst hab
   refine yCv x y ?_ ?_
   .simpa using h.2
   .simpa using h2
theorem yHq(a b:List UInt8):Lib.compareBytes a b= -1\/Lib.compareBytes a b=0\/Lib.compareBytes a b=1:=by
 cases h:Op.bytesLess a b
 .cases h2:(a==b)
  .exact .inr (.inr (yCv a b h h2))
  .rw[beq_iff_eq]at h2;subst h2;exact .inr (.inl (yCu a))
 .exact .inl (yCw a b h)
theorem yEm(a b:ByteArray):cB a b= -1\/cB a b=0\/cB a b=1:=yHq _ _
variable {a b:ByteArray}
theorem yOt(h:Op.bytesLess a.toList b.toList=true):cB a b= -1:=by rw[ByteArray.toList_eq,ByteArray.toList_eq]at h;exact yCw _ _ h
theorem yOs(h:Op.bytesLess a.toList b.toList=false)(h2:(a.toList==b.toList)=false):cB a b=1:=by rw[ByteArray.toList_eq,ByteArray.toList_eq]at h h2;exact yCv _ _ h h2
theorem xFr(h2:(a.toList==b.toList)=true):cB a b=0:=by rw[ByteArray.toList_eq,ByteArray.toList_eq,beq_iff_eq]at h2;unfold cB;rw[h2];exact yCu _
def yAp(a b:Int):Int:=if a=0 then b else a
def yA7(k l:Int):Int:=if k=2 then(if l=2 then 0 else-1)else(if l=2 then 1 else 0)
def yE4(t u:Int):Int:=if u<t then-1 else if t<u then 1 else 0
def yAo(a b:Ent):Int:=yAp (cB a.row b.row) (yAp (cB a.fam b.fam) (yAp (cB a.qual b.qual) (yAp (yA7 a.kind b.kind) (yE4 a.ts b.ts))))
theorem yNn{k:IntKind}{a b:Int}(h:a=b):Ending.returned (.int k a)=.returned (.int k b):=by rw[h]
theorem yZh(a b:ByteArray) w:
  Calls prog 147 #[a,b] w λe w'=>e=.returned (xi (cB a b))/\w'=w:=by
 cases h:Op.bytesLess a.toList b.toList
 .cases h2:(a.toList==b.toList)
  .have H:=qH1 (yOs h h2);exact xDr
  .have H:=qH1 (xFr h2);exact xDr
 .have H:=qH1 (yOt h);exact xDr
theorem yTb(a b:Int) w:
  Calls prog 146 #[xi a,xi b] w λe w'=>e=.returned (xi (yAp a b))/\w'=w:=by
 unfold yAp;by_cases h:a=0
 .have h':(a != 0)=false:=by simp[h]
  rw[if_pos h];clear h;go_enter func146,ntmps146;go_wp2;go_ret;exact⟨rfl,rfl⟩
 .have h':(a != 0)=true:=by simp[h]
  rw[if_neg h];clear h;go_enter func146,ntmps146;go_wp2;go_ret;exact⟨rfl,rfl⟩
set_option maxRecDepth 100000 in
theorem yHp(a b:ByteArray) w:
  Calls prog 231 #[a,b] w λe w'=>e=.returned (xi (cB a b))/\w'=w:=by
 go_enter func231,ntmps231;go_wp2;rw[run_callFunc_extern func245 qk qk qk (e:=Extern.BytealgCompare.compare) qk,Lib.run_compareString];simp only[Result.andThen];rw[Oper.upon_value];go_wp2;go_ret;exact⟨rfl,rfl⟩
theorem yGl(a b:ByteArray) w:
  Calls prog 213 #[a,b] w λe w'=>e=.returned (xi (cB a b))/\w'=w:=by
 go_enter func213,ntmps213;go_wp2_with (go_at_call 231;refine(yHp _ _ _).mono ?_;rintro e w' ⟨rfl,rfl⟩);go_ret;exact⟨rfl,rfl⟩
theorem yW1(a b:Int) w:
  Calls prog 188 #[xu a,xu b] w λe w'=>e=.returned (xi (yE4 b a))/\w'=w:=by
 unfold yE4;by_cases h:a<b
 .rw[if_pos h];go_enter func188,ntmps188;go_wp2;go_ret;exact⟨rfl,rfl⟩
 .rw[if_neg h];by_cases h2:b<a
  .rw[if_pos h2];go_enter func188,ntmps188;go_wp2;go_ret;exact⟨rfl,rfl⟩
  .rw[if_neg h2];go_enter func188,ntmps188;go_wp2;go_ret;exact⟨rfl,rfl⟩
def tri(x:Int):Prop:=x= -1\/x=0\/x=1
theorem yGj{a b:Int}(h:tri a)(k:tri b):tri (yAp a b):=by
 unfold yAp;split
 .exact k
 .exact h
theorem yM0(k l:Int):tri (yA7 k l):=by
 unfold yA7 tri;repeat' split
 all_goals omega
theorem xHe(k l:Int):tri (yE4 k l):=by
 unfold yE4 tri;repeat' split
 all_goals omega
theorem yJ4 a b:yAo a b= -1\/yAo a b=0\/yAo a b=1:=
 yGj (yEm _ _) (yGj (yEm _ _) (yGj (yEm _ _) (yGj (yM0 _ _) (xHe _ _))))
def yEw(a b:Ent):Int:=yAp (cB a.row b.row) (yAp (cB a.fam b.fam) (cB a.qual b.qual))
theorem yBr(a b:Ent)(w:World):
  (xf 187 #[a.v,b.v] w (xi (yEw a b)):Prop):=by
 unfold yEw yAp Ent.v;by_cases h1:cB a.row b.row=0
 .have g1:(cB a.row b.row != 0)=false:=by simp[h1]
  rw[if_pos h1];clear h1;by_cases h2:cB a.fam b.fam=0
  .have g2:(cB a.fam b.fam != 0)=false:=by simp[h2]
   rw[if_pos h2];clear h2;exact xD1
  .have g2:(cB a.fam b.fam != 0)=true:=by simp[h2]
   rw[if_neg h2];clear h2;exact xD1
 .have g1:(cB a.row b.row != 0)=true:=by simp[h1]
  rw[if_neg h1];clear h1;exact xD1
theorem yG5(a b c:Int):yAp (yAp a b) c=yAp a (yAp b c):=by
 unfold yAp;by_cases h:a=0
 .simp[h]
 .simp[h]
theorem yFp(a b:Ent):yAo a b=yAp (yEw a b) (yAp (yA7 a.kind b.kind) (yE4 a.ts b.ts)):=by unfold yAo yEw;rw[yG5,yG5]
variable {a b:Ent}
theorem yZk(h:¬yEw a b=0):yAo a b=yEw a b:=by rw[yFp];unfold yAp;rw[if_neg h]
theorem yTf(h:yEw a b=0)(h1:a.kind=2)(h2:¬b.kind=2):yAo a b= -1:=by rw[yFp];unfold yAp yA7;simp[h,h1,h2]
theorem yTe(h:yEw a b=0)(h1:¬a.kind=2)(h2:b.kind=2):yAo a b=1:=by rw[yFp];unfold yAp yA7;simp[h,h1,h2]
theorem yZj(h:yEw a b=0)(h1:(a.kind=2)↔(b.kind=2)):yAo a b=yE4 a.ts b.ts:=by
 rw[yFp];unfold yAp yA7;by_cases h2:a.kind=2
 .simp[h,h2,h1.1 h2]
 .have h3:¬b.kind=2:=λx=>h2 (h1.2 x);simp[h,h2,h3]
theorem yTu(a b:Ent)(w:World):
  (xf 148 #[a.v,b.v] w (xi (yAo a b)):Prop):=by
 by_cases h1:yEw a b=0
 .have g1:(yEw a b != 0)=false:=by simp[h1]
  by_cases ha:a.kind=2
  .have ga:(a.kind==2)=true:=by simp[ha]
   by_cases hb:b.kind=2
   .have gb:(b.kind==2)=true:=by simp[hb]
    exact xGv
   .have gb:(b.kind==2)=false:=by simp[hb]
    have H:=qH1 (yTf h1 ha hb);clear h1 ha hb;go_enter func148,ntmps148;go_wp2_with fail;refine(yBr a b _).mono ?_;rintro e w1 ⟨rfl,hb1⟩;obtain⟨hc1,hf1⟩:=yOw hb1;have hz1:w.heap.size+1<w1.heap.size:=by have:=hb1.size;simp at this;omega
    exact xD3
  .have ga:(a.kind==2)=false:=by simp[ha]
   by_cases hb:b.kind=2
   .have gb:(b.kind==2)=true:=by simp[hb]
    have H:=qH1 (yTe h1 ha hb);clear h1 ha hb;go_enter func148,ntmps148;go_wp2_with fail;refine(yBr a b _).mono ?_;rintro e w1 ⟨rfl,hb1⟩;obtain⟨hc1,hf1⟩:=yOw hb1;have hz1:w.heap.size+1<w1.heap.size:=by have:=hb1.size;simp at this;omega
    exact xD3
   .have gb:(b.kind==2)=false:=by simp[hb]
    exact xGv
 .have g1:(yEw a b != 0)=true:=by simp[h1]
  have H:=qH1 (yZk h1);clear h1;go_enter func148,ntmps148;go_wp2_with fail;refine(yBr a b _).mono ?_;rintro e w1 ⟨rfl,hb1⟩;exact xD3
def kt(a b:Ent)(K T:Int):Prop:=yAo a b=yAp (cB a.row b.row) (yAp (cB a.fam b.fam) (yAp (cB a.qual b.qual) (yAp K T)))
theorem xI0{K T:Int}(hk:yA7 a.kind b.kind=K)(ht:yE4 a.ts b.ts=T):kt a b K T:=by unfold kt yAo;rw[hk,ht]
theorem kinds(a b:Ent):
  ((a.kind==2)=true/\(a.kind != 2)=false/\(b.kind==2)=true/\(b.kind != 2)=false/\yA7 a.kind b.kind=0)\/
  ((a.kind==2)=true/\(a.kind != 2)=false/\(b.kind==2)=false/\(b.kind != 2)=true/\yA7 a.kind b.kind= -1)\/
  ((a.kind==2)=false/\(a.kind != 2)=true/\(b.kind==2)=true/\(b.kind != 2)=false/\yA7 a.kind b.kind=1)\/
  ((a.kind==2)=false/\(a.kind != 2)=true/\(b.kind==2)=false/\(b.kind != 2)=true/\yA7 a.kind b.kind=0):=by
 unfold yA7;by_cases ha:a.kind=2<;>by_cases hb:b.kind=2<;>simp[ha,hb]
theorem tss(a b:Ent):
  (b.ts<a.ts/\¬a.ts<b.ts/\yE4 a.ts b.ts= -1)\/(¬b.ts<a.ts/\a.ts<b.ts/\yE4 a.ts b.ts=1)\/(¬b.ts<a.ts/\¬a.ts<b.ts/\yE4 a.ts b.ts=0):=by
 unfold yE4;by_cases h1:b.ts<a.ts
 .exact .inl ⟨h1,qo,by simp[h1]⟩
 .by_cases h2:a.ts<b.ts
  .exact .inr (.inl ⟨h1,h2,by simp[h1,h2]⟩)
  .exact .inr (.inr ⟨h1,h2,by simp[h1,h2]⟩)
theorem yF9(a b:Ent)(w:World):
  (xf 95 #[a.v,b.v] w (xi (yAo a b)):Prop):=by
 unfold Ent.v;rcases kinds a b with⟨ga,a1,gb,a0,hk⟩|⟨ga,a1,gb,a0,hk⟩|⟨ga,a1,gb,a0,hk⟩|⟨ga,a1,gb,a0,hk⟩;all_goals rcases tss a b with⟨h1,h2,ht⟩|⟨h1,h2,ht⟩|⟨h1,h2,ht⟩
 all_goals
  have H:=xI0 hk ht
  clear hk ht
  go_enter func95,ntmps95
  go_wp2
  go_quiet ((first|(go_at_call 147;exact Calls.quiet_of_same (yZh _ _ _))|(go_at_call 146;exact Calls.quiet_of_same (yTb _ _ _))))
  go_wp2
  go_ret
  exact⟨yNn H.symm,below_drewN ((qB).alloc (by simp) _) _⟩
def Ent.vld(e:Ent):Bool:=vE e.row e.fam e.qual e.kind e.val
def yEc(a b:Ent):Bool:=(a.row.toList==b.row.toList) && ((a.fam.toList==b.fam.toList) && (a.qual.toList==b.qual.toList))
theorem yF5(a b:Ent)(w:World):
  (xf 96 #[a.v,b.v] w (yEc a b):Prop):=by
 unfold yEc Ent.v;cases h1:(a.row.toList==b.row.toList)
 .exact xDu
 .cases h2:(a.fam.toList==b.fam.toList)
  .exact xDu
  .exact xDu
theorem yHr(a:Ent)(w:World):
  (xf 216 #[a.v] w (.agg #[a.row,a.fam,a.qual]):Prop):=by
 unfold Ent.v;go_enter func216,ntmps216;go_wp2;refine bodyPost_ret (v:=.agg #[a.row,a.fam,a.qual]) (by simp[results,results216,go_sem]) rfl ⟨rfl,?_⟩;exact(qB).alloc (by simp) _
def yCe(p e:Ent):Bool:=(yAo p e== -1) && !((p.kind==2) && ((e.kind==2) && yEc p e))
def xI7(es:List Ent):Prop:=es.length<=10000/\∀e∈es,e.vld=true
def xIc(es:List Ent):Prop:=∀i p e,es[i]?=some p->es[i+1]?=some e->yCe p e=true
def yC(es:List Ent):Prop:=xI7 es/\xIc es
theorem iffF{p:Prop}(h:¬p):(false=true↔p):=⟨λx=>Bool.noConfusion x,λx=>absurd x h⟩
theorem iffT{p:Prop}(h:p):(true=true↔p):=⟨λ_=>h,λ_=>rfl⟩
variable {es:List Ent} {e:Ent}
theorem yRt{k:Nat}(h:∀x∈es.take k,x.vld=true)(he:es[k]?=some e)(hv:e.vld=true):∀x∈es.take (k+1),x.vld=true:=by
 intro x hx;rw[take_add_one,he]at hx;simp at hx;rcases hx with hx|rfl
 .exact h x hx
 .exact hv
def yFh(es:List Ent)(k:Nat):Prop:=∀i p e,i+1<k->es[i]?=some p->es[i+1]?=some e->yCe p e=true
variable {p:Ent}
theorem yE7{m:Nat}(h:yFh es (m+1))(hp:es[m]?=some p)(he:es[m+1]?=some e)(ho:yCe p e=true):yFh es (m+1+1):=by
 intro i p' e' hi h1 h2;by_cases hm:i=m
 .subst hm;rw[hp]at h1;rw[he]at h2;simp at h1 h2;subst h1 h2;exact ho
 .exact h i p' e' qo h1 h2
theorem yJn{k:Nat}(h:yFh es k)(hk:es.length<=k):xIc es:=by intro i p e h1 h2;have:=qf h2;exact h i p e qo h1 h2
def yWr(e:Ent):List Ent->Bool->List Ent
 | [],done=>if done then []else [e]
 |x::r,done=>
  if yAo x e= -1 then x::yWr e r done
  else if yAo x e=0 then(if done then yWr e r true else e::yWr e r true)
  else(if done then x::yWr e r true else e::x::yWr e r true)
def into(L:List Ent)(e:Ent):List Ent:=yWr e L false
theorem yQ8:∀a b:List UInt8,Lib.compareBytes a b=0↔a=b
 | [],[]=>by simp[Lib.compareBytes]
 | [],_::_=>by simp[Lib.compareBytes]
 |_::_,[]=>by simp[Lib.compareBytes]
 |a::x,b::y=>by
  unfold Lib.compareBytes
  by_cases h1:a<b
  .rw[if_pos h1]
   constructor
   .intro h;cases h
   .intro h
    simp at h
    rw[h.1]at h1
    simp at h1
  .rw[if_neg h1]
   by_cases h2:b<a
   .rw[if_pos h2]
    constructor
    .intro h;cases h
    .intro h
     simp at h
     rw[h.1]at h2
     simp at h2
   .rw[if_neg h2,yQ8 x y]
    have hab:a=b:=by rw[UInt8.lt_iff_toNat_lt]at h1 h2;exact UInt8.toNat_inj.1 qo
    simp[hab]
theorem yVe:∀a b:List UInt8,Lib.compareBytes b a= -Lib.compareBytes a b
 | [],[]=>by simp[Lib.compareBytes]
 | [],_::_=>by simp[Lib.compareBytes]
 |_::_,[]=>by simp[Lib.compareBytes]
 |a::x,b::y=>by
  unfold Lib.compareBytes
  have:=yVe x y
  simp only[UInt8.lt_iff_toNat_lt]
  by_cases h1:a.toNat<b.toNat
  .have h2:¬b.toNat<a.toNat:=qo
   simp[h1,h2]
  .by_cases h2:b.toNat<a.toNat
   .simp[h1,h2]
   .simp[h1,h2,this]
theorem yMr:∀a b c:List UInt8,Lib.compareBytes a b= -1->Lib.compareBytes b c= -1->Lib.compareBytes a c= -1
 | [],[],_=>by simp[Lib.compareBytes]
 | [],_::_,[]=>by simp[Lib.compareBytes]
 | [],_::_,_::_=>by simp[Lib.compareBytes]
 |_::_,[],_=>by simp[Lib.compareBytes]
 |_::_,_::_,[]=>by simp[Lib.compareBytes]
 |a::x,b::y,c::z=>by
  have ih:=yMr x y z
  unfold Lib.compareBytes
  simp only[UInt8.lt_iff_toNat_lt]
  intro h1 h2
  by_cases h3:a.toNat<c.toNat
  .simp[h3]
  .by_cases p1:a.toNat<b.toNat
   .by_cases p2:b.toNat<c.toNat
    .omega
    .by_cases p3:c.toNat<b.toNat
     .simp[p2,p3]at h2
     .omega
   .by_cases p2:b.toNat<a.toNat
    .simp[p1,p2]at h1
    .by_cases q1:b.toNat<c.toNat
     .omega
     .by_cases q2:c.toNat<b.toNat
      .simp[q1,q2]at h2
      .simp[p1,p2]at h1
       simp[q1,q2]at h2
       have r1:¬c.toNat<a.toNat:=qo
       simp[h3,r1]
       exact ih h1 h2
theorem yCx{a b:ByteArray}:cB a b=0↔a=b:=by
 unfold cB;rw[yQ8];constructor
 .intro h;cases a;cases b;simp at h;simpa using h
 .intro h;rw[h]
theorem yZ6(a b:ByteArray):cB b a= -cB a b:=yVe _ _
theorem yOr{a b c:ByteArray}(h:cB a b= -1)(k:cB b c= -1):cB a c= -1:=yMr _ _ _ h k
theorem yD{a b c a' b' c':Int}(h0:a=0->b=0->c=0)(h1:a= -1->b= -1->c= -1)(h2:a= -1->b=0->c= -1)(h3:a=0->b= -1->c= -1)
  (ta:tri a) (tb:tri b) (k:a'= -1->b'= -1->c'= -1) (x:yAp a a'= -1) (y:yAp b b'= -1):yAp c c'= -1:=by
 unfold yAp at*;unfold tri at*;by_cases ha:a=0
 .rw[if_pos ha]at x;by_cases hb:b=0
  .rw[if_pos hb]at y;rw[if_pos (h0 ha hb)];exact k x y
  .rw[if_neg hb]at y;have:=h3 ha y;rw[if_neg qo];exact this
 .rw[if_neg ha]at x;by_cases hb:b=0
  .have:=h2 x hb;rw[if_neg qo];exact this
  .rw[if_neg hb]at y;have:=h1 x y;rw[if_neg qo];exact this
theorem yT0(a b c:ByteArray):(cB a b=0->cB b c=0->cB a c=0)/\(cB a b= -1->cB b c= -1->cB a c= -1)/\(cB a b= -1->cB b c=0->cB a c= -1)/\(cB a b=0->cB b c= -1->cB a c= -1):=by
 refine⟨λh k=>?_,λh k=>yOr h k,λh k=>?_,λh k=>?_⟩
 .rw[yCx]at*;rw[h,k]
 .rw[yCx]at k;rw[<-k];exact h
 .rw[yCx]at h;rw[h];exact k
theorem yQg{c:Ent}(h:yAo a b= -1)(k:yAo b c= -1):yAo a c= -1:=by
 obtain⟨r0,r1,r2,r3⟩:=yT0 a.row b.row c.row;obtain⟨f0,f1,f2,f3⟩:=yT0 a.fam b.fam c.fam;obtain⟨q0,q1,q2,q3⟩:=yT0 a.qual b.qual c.qual;refine yD r0 r1 r2 r3 (yEm _ _) (yEm _ _) (λh k=>?_) h k;refine yD f0 f1 f2 f3 (yEm _ _) (yEm _ _) (λh k=>?_) h k;refine yD q0 q1 q2 q3 (yEm _ _) (yEm _ _) (λh k=>?_) h k;refine yD ?_ ?_ ?_ ?_ (yM0 _ _) (yM0 _ _) (λh k=>?_) h k
 .unfold yA7;(repeat' split)<;>omega
 .unfold yA7;(repeat' split)<;>omega
 .unfold yA7;(repeat' split)<;>omega
 .unfold yA7;(repeat' split)<;>omega
 .unfold yE4 at*;(repeat' split at h)<;>(repeat' split at k)<;>(repeat' split)<;>omega
def Ord(l:List Ent):Prop:=l.Pairwise λa b=>yAo a b= -1
variable {a b:Int}
theorem yDt:yAp a b=0↔a=0/\b=0:=by
 unfold yAp;by_cases h:a=0
 .simp[h]
 .simp[h]
theorem yQd:yA7 a b=0↔(a=2↔b=2):=by unfold yA7;by_cases h:a=2<;>by_cases k:b=2<;>simp[h,k]
theorem yVr:yE4 a b=0↔a=b:=by unfold yE4;(repeat' split)<;>omega
theorem yTd{a b:Ent}:yAo a b=0↔a.row=b.row/\a.fam=b.fam/\a.qual=b.qual/\(a.kind=2↔b.kind=2)/\a.ts=b.ts:=by unfold yAo;rw[yDt,yDt,yDt,yDt,yCx,yCx,yCx,yQd,yVr]
theorem yOc{c:Int}(h:a=2↔b=2):yA7 a c=yA7 b c:=by
 unfold yA7;by_cases k:a=2
 .rw[if_pos k,if_pos (h.1 k)]
 .rw[if_neg k,if_neg (λx=>k (h.2 x))]
theorem yQh{a b c:Ent}(h:yAo a b=0):yAo a c=yAo b c:=by obtain⟨h1,h2,h3,h4,h5⟩:=yTd.1 h;unfold yAo;rw[h1,h2,h3,h5,yOc h4]
def xI1(v e:Ent):Bool:=yEc v e && (if(v.kind==2)=true then decide (e.ts<=v.ts)else(v.ts==e.ts))
abbrev Ent.five(e:Ent):List Value:= [.string e.row,.string e.fam,.string e.qual,.int .u64 e.ts,.string e.val]
abbrev Ent.c(e:Ent):Value:=.agg #[e.row,e.fam,e.qual,xu e.ts,e.val]
def yBs(es:List Ent):List Value:=es.flatMap Ent.five
theorem yDh(e:Ent) es:yBs (e::es)=e.five++yBs es:=by simp[yBs]
theorem yEl es fs:yBs (es++fs)=yBs es++yBs fs:=by simp[yBs]
theorem yCi(es:List Ent):(yBs es).length=es.length*5:=by
 induction es with
 |nil=>rfl
 |cons e es ih=>rw[yDh,length_append,ih];simp;omega
theorem yHw es:∀(k:Nat)(e:Ent),es[k]?=some e->∀j,j<5->(yBs es)[k*5+j]?=e.five[j]?:=by
 induction es with
 |nil=>intro k e h;simp at h
 |cons f es ih=>
  intro k e h j hj;rw[yDh];cases k with
  |zero=>
   simp at h;subst h;rw[getElem?_append_left (by show 0*5+j<5;omega)];simp
  |succ k=>
   simp at h;rw[getElem?_append_right (by show 5<=(k+1)*5+j;omega)];have:(k+1)*5+j-f.five.length=k*5+j:=by show(k+1)*5+j-5=_;omega
   rw[this];exact ih k e h j hj
theorem yW9(es:List Ent):∀(k:Nat)(e e':Ent)(u:Value)(j:Nat),es[k]?=some e->j<5->e'.five=e.five.set j u->(yBs es).set (k*5+j) u=yBs (es.set k e'):=by
 induction es with
 |nil=>intro k e e' u j h;simp at h
 |cons f es ih=>
  intro k e e' u j h hj hc;rw[yDh];cases k with
  |zero=>
   simp at h;subst h;rw[set_append_left _ _ (by show 0*5+j<5;omega),set_cons_zero,yDh,hc];simp
  |succ k=>
   simp at h;rw[set_append_right _ _ (by show 5<=(k+1)*5+j;omega),set_cons_succ,yDh];have:(k+1)*5+j-f.five.length=k*5+j:=by show(k+1)*5+j-5=_;omega
   rw[this,ih k e e' u j h hj hc]
def yA4(w:World)(b off:Nat)(es:List Ent):Prop:=
 ∀i e,es[i]?=some e->xk w b (off+i*5) e.row/\xk w b (off+i*5+1) e.fam/\xk w b (off+i*5+2) e.qual/\
  xk w b (off+i*5+3) (xu e.ts)/\xk w b (off+i*5+4) e.val
variable {b:Nat}
theorem yA4.below{off:Nat}(h:yA4 w b off es)(hb:Below B w w')(hlt:b<B):yA4 w' b off es:=by
 intro i e he;have:=h i e he;refine⟨?_,?_,?_,?_,?_⟩;all_goals rw[hb.cell (by exact hlt)]
 .exact this.1
 .exact this.2.1
 .exact this.2.2.1
 .exact this.2.2.2.1
 .exact this.2.2.2.2
def OwnC(w:World)(base g cap:Nat)(es:List Ent):Prop:=w.ownsRow base 70 5 (xg g es.length cap) es.length (yBs es)
variable {cap:Nat}
theorem OwnC.at{g:Nat}(h:OwnC w base g cap es):yA4 w g 0 es:=by
 intro i e he;have hi:=qf he;have c:=λj (hj:j<5)=>(World.ownsRow.cellAt h (i*5+j) qo).trans (yHw es i e he j hj);refine⟨?_,?_,?_,?_,?_⟩
 .simpa using c 0 qo
 .simpa using c 1 qo
 .simpa using c 2 qo
 .simpa using c 3 qo
 .simpa using c 4 qo
theorem OwnC.lt{g:Nat}(h:OwnC w base g cap es):base<=g/\g<w.heap.size:=World.ownsRow.lt h g rfl
theorem OwnC.below{g:Nat}(h:OwnC w base g cap es)(hb:Below B w w')(hg:g<B):OwnC w' base g cap es:=by exact xAr
theorem OwnC.set{g:Nat}(h:OwnC w base g cap es)(k j:Nat)(e e':Ent)(u:Value)(hk:es[k]?=some e)(hj:j<5)(hc:e'.five=e.five.set j u):
  OwnC (xt w g (k*5+j) u) base g cap (es.set k e'):=by
 have:=(World.ownsRow.stored h (k*5+j) u).1;rw[yW9 es k e e' u j hk hj hc]at this;unfold OwnC;rw[length_set];exact this
variable {fs:List Ent}
theorem OwnC.upd{g m j:Nat}{f f':Ent}{u:Value}(h:OwnC w base g cap (fs.set m f))(hm:m<fs.length)(hj:j<5)(hc:f'.five=f.five.set j u):
  OwnC (xt w g (m*5+j) u) base g cap (fs.set m f'):=by
 have:=h.set m j f f' u (by simp[hm]) hj hc;rwa [set_set]at this
theorem OwnC.mono{g:Nat}(h:OwnC w base g cap es)(hb:base'<=base):OwnC w base' g cap es:=by exact yO0
theorem OwnC.kept{g:Nat}{row:Option Nat}(h:OwnC w base g cp fs)(hg:w.grownBy w' row)(hne:some g≠row):OwnC w' base g cp fs:=
 World.ownsRow.kept h hg (.inr hne)
theorem OwnC.caps{g:Nat}{R:List Ent}(h:OwnC w base g cp R):R.length<=cp/\cp<=maxLen:=by exact yMx
theorem xBl(w:World):OwnC (xw w #[] 70) w w 0 []:=World.ownsRow_made w #[] 0 qr (zero_le _) (by simp)
theorem Tryz.infoCel:(prog.info? 70).map (λi=>(i.zero,i.size,i.bytes))=some (some (.agg #[xe,xe,xe,xu 0,xe]),5,72):=qk
theorem yTz(wx:World)(f:Ent):yA4 (xw wx #[f.row,f.fam,f.qual,xu f.ts,f.val] 70) wx 0 [f]:=by exact xCm
theorem yTp(a:Ent)(w:World):
  (xf 66 #[a.c,a.c] w true:Prop):=by
 unfold Ent.c;go_enter func66,ntmps66;go_wp2;go_ret;exact⟨rfl,(qB).alloc (by simp) _⟩
theorem yQw(b off cap b' off' cap':Nat)(es:List Ent)(w:World)(hE:yA4 w b off es)(hE':yA4 w b' off' es)(hB:b<w.heap.size)(hB':b'<w.heap.size)(hlen:es.length<=maxLen):
  Calls prog 23 #[.slice (some ⟨b,off,none⟩) es.length cap,.slice (some ⟨b',off',none⟩) es.length cap'] w λe w'=>
   e=.returned true/\Below w w w':=by
 have HE:=qH2 hE hE';clear hE hE';unfold maxLen at hlen;go_enter func23,ntmps23;go_wp2;go_loopw[5] (λi wr=>∃(k:Nat),k<=es.length/\i=(xi k)/\Below w w wr) (λi _=>es.length-(intOf i).toNat);case atStart=>exact⟨0,zero_le _,rfl,Below.refl _ _⟩
 case round=>
  obtain⟨k,hk,rfl,hb⟩:=hrel;have a1:=hb.size;by_cases hlt:k<es.length
  .obtain⟨e,he⟩:∃e,es[k]?=some e:=qg hlt;obtain⟨c0,c1,c2,c3,c4⟩:=HE.1.below hb hB k e he;obtain⟨d0,d1,d2,d3,d4⟩:=HE.2.below hb hB' k e he;clear he;go_upto_region 6 with fail;go_cut[26] (λs wx=>s=false/\Below w w wx);case first=>
    have z2:(k:Int)<(es.length:Int):=qo
    go_region_with (go_at_call 66;refine(yTp e _).mono ?_;rintro e' w' ⟨rfl,a0⟩);all_goals go_wp2_with fail
    all_goals go_meet
    all_goals exact⟨rfl,hb.drew.trans (a0.mono (by simp;omega))⟩
   case rest=>
   obtain⟨rfl,h3⟩:=hcut;clear c0 c1 c2 c3 c4 d0 d1 d2 d3 d4;exact xDx
  .go_wp2;go_ret;exact⟨rfl,hb⟩
theorem yKd{g g' cp':Nat}(h:OwnC w base g cp es)(h':OwnC w base' g' cp' es):
  (xf 23 #[xg g es.length cp,xg g' es.length cp'] w true:Prop):=
 yQw g 0 cp g' 0 cp' es w h.at h'.at h.lt.2 h'.lt.2 (Nat.le_trans h.caps.1 h.caps.2)
theorem yY8:laidOutB prog=true:=qk
theorem xDc:(238:TypeId)<prog.types.size:=of_decide_eq_true qk
theorem xD8:(match prog.underlying 238 with|some (.array _ _)|some (.struct _)=>true|_=>false)=true:=qk
theorem xH4:Keyed prog 238:=Keyed.of_law (deep_law_laid yY8 (m:=2) qo xDc qk xD8)
abbrev colV(r f q:ByteArray):Value:=.agg #[r,f,q]
def colL(r f q:ByteArray):Lit:=.string (keyBytes [.string r.data.toList,.string f.data.toList,.string q.data.toList])
theorem yXw:∃n,prog.types.size=n+1:=⟨prog.types.size-1,by have h:(238:Nat)<prog.types.size:=xDc;omega⟩
theorem xH5{r f q:ByteArray}(hr:r.size<=maxLen)(hf:f.size<=maxLen)(hq:q.size<=maxLen):keyOf prog 238 (colV r f q)=some (colL r f q):=by
 have h1:prog.keyType 238=true:=qk
 have h2:prog.cellsOf 238=3:=qk
 obtain⟨n,hn⟩:=yXw;unfold keyOf;rw[underlying238];simp only[h1,Value.formed,underlying238,h2,hn];simp[Program.keyLits,underlying238,underlying9,h2,Tryz.cellsStr,Value.cells,hr,hf,hq,colL]
def Rh:Value->Option (DataW Value×List MemPlace):=λv=>some (.held v,[])
theorem xI5{v:Value}{x:DataW Value}{ps:List MemPlace}(h:Rh v=some (x,ps)):x=.held v/\ps= []:=by unfold Rh at h;simp at h;exact⟨h.1.symm,h.2⟩
def Inn(w:World)(b n:Nat)(f:Int->Option Ent):Prop:=
 ∃D,w.ownsMap prog 68 Rh b n D/\∀t,(Lit.int .u64 t).wf=true->(f t=none/\Maps.has D (.int .u64 t)=false)\/∃e,f t=some e/\Maps.has D (.int .u64 t)=true/\∀z,D.atKey (.int .u64 t) z=.held e.v
variable {f:Int->Option Ent}
theorem Inn.lt(h:Inn w b n f):b<w.heap.size:=by obtain⟨D,h,_⟩:=h;exact h.lt
theorem Inn.kept{row:Option Nat}(h:Inn w b n f)(hg:w.grownBy w' row)(hne:some b≠row):Inn w' b n f:=by obtain⟨D,h,k⟩:=h;exact⟨D,h.kept hg hne,k⟩
theorem Inn.mono{n':Nat}(h:Inn w b n f)(hn:n<=n'):Inn w b n' f:=by obtain⟨D,h,k⟩:=h;exact⟨D,h.mono hn,k⟩
theorem Inn.setCell(h:Inn w b n f){a:Addr}(ha:b≠a.block)(u:Value):Inn (w.setCell a u) b n f:=by obtain⟨D,h,k⟩:=h;exact⟨D,h.setCell ha u,k⟩
structure CW where
 d:Bool
 u:Int
 f:Int->Option Ent
abbrev Col:=ByteArray×ByteArray×ByteArray
def Col.okc(c:Col):Prop:=c.1.size<=maxLen/\c.2.1.size<=maxLen/\c.2.2.size<=maxLen
abbrev Col.v(c:Col):Value:=colV c.1 c.2.1 c.2.2
def Col.l(c:Col):Lit:=colL c.1 c.2.1 c.2.2
theorem Col.key{c:Col}(h:c.okc):keyOf prog 238 c.v=some c.l:=xH5 h.1 h.2.1 h.2.2
theorem Col.inj{c c':Col}(h:c.okc)(h':c'.okc)(e:c.l=c'.l):c=c':=by have h1:=Col.key h;have h2:=Col.key h';rw[<-e]at h2;have:=xH4.inj h1 h2;obtain⟨a,b,d⟩:=c;obtain⟨a',b',d'⟩:=c';simp at this;obtain⟨rfl,rfl,rfl⟩:=this;rfl
def yUa(w:World)(base N:Nat)(m:Option Nat)(f:Int->Option Ent):Prop:=
 (m=none/\f=λ_=>none)\/∃b n,m=some b/\Inn w b n f/\n<=N/\base<=b
variable {N:Nat}
theorem yUa.kept{m:Option Nat}{row:Option Nat}(h:yUa w base N m f)(hg:w.grownBy w' row)(hne:m=none\/m≠row):yUa w' base N m f:=by
 rcases h with h|⟨b,n,rfl,h,hn,hb⟩
 .exact .inl h
 .refine .inr ⟨b,n,rfl,h.kept hg ?_,hn,hb⟩;rcases hne with e|e
  .cases e
  .exact e
theorem yUa.mono{N':Nat}{m:Option Nat}(h:yUa w base N m f)(hn:N<=N'):yUa w base N' m f:=by
 rcases h with h|⟨b,n,rfl,h,h1,hb⟩
 .exact .inl h
 .exact .inr ⟨b,n,rfl,h,qo,hb⟩
structure xAh(w:World)(base B N:Nat)(G:Col->Option CW)(M:Col->Option Nat):Prop where
 map:∃D,w.ownsMap prog 238 Rh B N D/\∀c,Col.okc c->(G c=none/\Maps.has D c.l=false)\/∃k,G c=some k/\Maps.has D c.l=true/\∀z,D.atKey c.l z=.held (.agg #[k.d,xu k.u,.map (M c)])
 inner:∀c k,G c=some k->yUa w base N (M c) k.f
 nom:∀c,G c=none->M c=none
 apart:∀c c' b,M c=some b->M c'=some b->c=c'
 off:∀c b,M c=some b->b≠B
 ok:∀c k,G c=some k->Col.okc c
theorem xAh.lt{G:Col->Option CW}{M:Col->Option Nat}(h:xAh w base B N G M):B<w.heap.size:=by obtain⟨D,hD,_⟩:=h.map;exact hD.lt
theorem xAh.kept{G:Col->Option CW}{M:Col->Option Nat}(h:xAh w base B N G M)(hg:w.grownBy w' none):xAh w' base B N G M:=by obtain⟨D,hD,hv⟩:=h.map;exact⟨⟨D,hD.kept hg (by simp),hv⟩,λc k hk=>(h.inner c k hk).kept hg (by cases M c<;>simp),h.nom,h.apart,h.off,h.ok⟩
theorem OwnE.kept{g:Nat}{row:Option Nat}(h:OwnE w base g cp fs)(hg:w.grownBy w' row)(hne:some g≠row):OwnE w' base g cp fs:=
 World.ownsRow.kept h hg (.inr hne)
theorem xB3(w:World)(e:Ent):yFl (xw w #[e.row,e.fam,e.qual,xu e.ts,xi e.kind,e.val] 165) w 0 [e]:=by exact xCm
def putE(x:Ent):Ent:={x with kind:=0}
theorem yR8(e:Ent)(w:World):
  (xf 97 #[.agg #[e.row,e.fam,e.qual,xu e.ts,e.val]] w (putE e).v:Prop):=by
 go_enter func97,ntmps97;go_wp2;refine bodyPost_ret (v:=(putE e).v) (by simp[results,results97,go_sem,putE]) rfl ⟨rfl,?_⟩;exact(qB).alloc (by simp) _
theorem yBx(e:Ent)(w:World):
  (xf 99 #[.agg #[e.row,e.fam,e.qual,xu e.ts,e.val]] w (putE e).v:Prop):=by
 go_enter func99,ntmps99;go_wp2;refine bodyPost_ret (v:=(putE e).v) (by simp[results,results99,go_sem,putE]) rfl ⟨rfl,?_⟩;exact(qB).alloc (by simp) _
variable {a:Act}
theorem yJa{ops:Array Oper}{o:Oper}{K:Act->World->Prop}{E:Prop}(w:World)(hgd:o.guard=none) s x
  (ho:o.op=.call {callee:=.builtin .append,args:=#[s,x],argTypes:=#[87,87]})
  (base g cp n blk:Nat) (fs:List Ent) e (hn:n=fs.length) (hs:a.eval s=(xg g n cp)) (hx:a.eval x=(xg blk 1 1)) (hO:OwnE w base g cp fs)
  (hc:yFl w blk 0 [e]) (hlen:fs.length<=2^30) (hbase:base<=w.heap.size)
  (h:∀g' cp' w',OwnE w' base g' cp' (fs++ [e])->w.grownBy w' (some g)->(g=g'\/g'=w.heap.size)->K (a.put o.dst (xg g' (n+1) cp')) w'):if Region.wanted o (yielded ops a.tmps)=true then Oper.wp prog o a w K Q else E:=by
 subst hn;obtain⟨i,hi,a2,a1,a0⟩:=info_parts Tryz.infoEnt;obtain⟨c0,c1,c2,c3,c4,c5⟩:=hc 0 e rfl;refine step_append_lies w hgd s x 87 ho base 165 i _ 6 80 underlying87 hi a2 a1 a0 rfl qj (xg g fs.length cp) fs.length (yB8 fs) hs hO (xd blk 0) 1 1 (yB8 [e]) hx rfl ?_ ?_ qj ?_ ?_ hbase w rfl ?_
 .intro j u hu;have hj:j<6:=by have:=qf hu;rw[yN9]at this;simpa using this
  rw[Addr.add_mid,Nat.zero_add];simp only[Nat.zero_mul,Nat.zero_add]at c0 c1 c2 c3 c4 c5;match j,hj,hu with
  |0,_,hu=>simp[yB8]at hu;rw[<-hu];exact c0
  |1,_,hu=>simp[yB8]at hu;rw[<-hu];exact c1
  |2,_,hu=>simp[yB8]at hu;rw[<-hu];exact c2
  |3,_,hu=>simp[yB8]at hu;rw[<-hu];exact c3
  |4,_,hu=>simp[yB8]at hu;rw[<-hu];exact c4
  |5,_,hu=>simp[yB8]at hu;rw[<-hu];exact c5
 .intro u hu;simp[yB8]at hu;rcases hu with rfl|rfl|rfl|rfl|rfl|rfl<;>rfl
 .unfold maxLen;omega
 .omega
 .intro g' cp' w' a5 a3 a4 a6;refine h g' cp' w' ?_ a3 ?_
  .unfold OwnE;rw[length_append,yOq];exact a5
  .rcases a4 with q|q
   .exact .inl (by simpa [Value.ownBlock]using q)
   .exact .inr q
def yEu(L:List Ent)(m:Nat):List Ent:=(L.take m).map putE
variable {L:List Ent} {m:Nat}
theorem ySk{x:Ent}(h:L[m]?=some x):yEu L (m+1)=yEu L m++ [putE x]:=by unfold yEu;rw[take_add_one,h];simp
theorem yV8(h:m<=L.length):(yEu L m).length=m:=by simp[yEu];omega
theorem yV9(h:L.length<=m):yEu L m=L.map putE:=by unfold yEu;rw[take_of_length_le h]
structure PInv(w:World)(ov:Nat)(L:List Ent)(m g5 cp5:Nat)(wr:World):Prop where
 hdr:(xk wr ov 0 (xg g5 m cp5):Prop)
 free:wr.frozen? (xd ov 0)=false
 lt:ov<wr.heap.size
 own:w.heap.size<ov
 row:OwnE wr w g5 cp5 (yEu L m)
 ne:¬g5=ov
 new:w.heap.size<g5
 res:(xk wr w 0 xh:Prop)
 rfree:wr.frozen? (xd w 0)=false
 below:Below w w wr
theorem PInv.step{ov:Nat}{g5 cp5:Nat}{wr:World}(h:PInv w ov L m g5 cp5 wr)(hb:Below wr wr w'):PInv w ov L m g5 cp5 w' where
 hdr:=by rw[hb.cell (p:=(xd ov 0)) h.lt];exact h.hdr
 free:=by rw[hb.frozen (p:=(xd ov 0)) h.lt];exact h.free
 lt:=qv hb.size h.lt
 own:=h.own
 row:=h.row.below hb h.row.lt.2
 ne:=h.ne
 new:=h.new
 res:=by rw[hb.cell (p:=(xd w 0)) (by have:=h.own;have:=h.lt;show w.heap.size<wr.heap.size;omega)];exact h.res
 rfree:=by rw[hb.frozen (p:=(xd w 0)) (by have:=h.own;have:=h.lt;show w.heap.size<wr.heap.size;omega)];exact h.rfree
 below:=h.below.trans (hb.mono h.below.size)
theorem PInv.push{ov:Nat}{g5 cp5:Nat}{wA w7:World}(h:PInv w ov L m g5 cp5 wA){x:Ent}(hx:L[m]?=some x){g7 cp7:Nat}(hO:OwnE w7 w g7 cp7 (yEu L m++ [putE x]))(hgr:wA.grownBy w7 (some g5))(hgg:g5=g7\/g7=wA.heap.size):
  PInv w ov L (m+1) g7 cp7 (xt w7 ov 0 (xg g7 (m+1) cp7))/\xk w7 ov 0 (xg g5 m cp5)/\w7.frozen? (xd ov 0)=false:=by
 have a0:Chg (λk=>k=g5) wA w7:=Chg.of_grown hgr (λk hk=>by cases hk;rfl);have a1:Chg (λk=>k=ov) w7 (xt w7 ov 0 (xg g7 (m+1) cp7)):=Chg.of_set _ _ _ _ rfl;have s7:=a0.size;have s8:=a1.size;have hl:=h.lt;have ho:=h.own;have hn:=h.new;have c7:(xk w7 ov 0 (xg g5 m cp5):Prop):=by rw[a0.cell (p:=(xd ov 0)) hl (λq=>h.ne q.symm)];exact h.hdr
 have f7:w7.frozen? (xd ov 0)=false:=by rw[a0.frozen (p:=(xd ov 0)) hl (λq=>h.ne q.symm)];exact h.free
 have a2:¬g7=ov:=by
  rcases hgg with q|q
  .rw[<-q];exact h.ne
  .omega
 refine⟨?_,c7,f7⟩
 exact {
  hdr:=World.cell?_setCell_same _ _ _ c7
  free:=by rw[World.frozen?_setCell];exact f7
  lt:=qo
  own:=ho
  row:=by
   rw[ySk hx]
   exact World.ownsRow.kept hO (yAv w7 ov 0 _) (.inr (λq=>a2 (Option.some.inj q)))
  ne:=a2
  new:=by
   rcases hgg with q|q
   .rw[<-q];exact hn
   .omega
  res:=by
   rw[a1.cell (p:=(xd w 0)) (by show w.heap.size<w7.heap.size;omega) (by show¬w.heap.size=ov;omega),a0.cell (p:=(xd w 0)) (by show w.heap.size<wA.heap.size;omega) (by show¬w.heap.size=g5;omega)]
   exact h.res
  rfree:=by
   rw[a1.frozen (p:=(xd w 0)) (by show w.heap.size<w7.heap.size;omega) (by show¬w.heap.size=ov;omega),a0.frozen (p:=(xd w 0)) (by show w.heap.size<wA.heap.size;omega) (by show¬w.heap.size=g5;omega)]
   exact h.rfree
  below:=Chg.below (Chg.below h.below a0 h.below.size (λk q=>by omega)) a1 (by omega) (λk q=>by omega)}
theorem yYh(g cap:Nat)(L:List Ent)(base:Nat)(w:World)(hC:OwnC w base g cap L)(hn:L.length<=1048576):
  Calls prog 44 #[xg g L.length cap] w λr w'=>
   ∃g' cp,r=.returned (.agg #[xg g' L.length cp])/\OwnE w' w g' cp (L.map putE)/\Below w w w':=by
 have HC:=qH1 hC;have ac:=hC.lt.2;clear hC;obtain⟨Wa,a2⟩:=qW (xw w #[xh] 89);have af:=qN a2
 have a9:=qS a2
 obtain⟨Wb,a3⟩:=qW (xw Wa #[] 165);have ae:=qN a3
 have a6:Wb.heap.size=w.heap.size+1+1:=by rw[a3];simp[a9]
 obtain⟨Wc,a1⟩:=qW (xw Wb #[xg (w+1) 0 0] 89);have a7:=qN a1
 have ar:Wc.heap.size=w.heap.size+1+1+1:=by rw[a1];simp[a6]
 have HP:Hid (PInv w (w+1+1) L 0 (w+1) 0 Wc):=by
  have k1:=ae.trans (a7.mono qo)
  exact {
   hdr:=by rw[a1,<-a6];simp
   free:=by
    rw[a1,<-a6]
    exact World.ownsRow.frozenAt (World.ownsRow_lit (base:=0) (e:=89) (size:=1) Wb #[xg (w+1) 0 0] 1 (zero_le _) qj rfl) 0
   lt:=qo
   own:=qo
   row:=by
    have h0:OwnE Wb w (w+1) 0 []:=by
     rw[a3,<-a9]
     exact World.ownsRow_made Wa #[] 0 qo (zero_le _) (by simp)
    exact h0.below a7 qo
   ne:=qo
   new:=qo
   res:=by rw[k1.cell (p:=(xd w 0)) (by show w.heap.size<Wa.heap.size;omega),a2];simp
   rfree:=by
    rw[k1.frozen (p:=(xd w 0)) (by show w.heap.size<Wa.heap.size;omega),a2]
    exact World.ownsRow.frozenAt (World.ownsRow_lit (base:=0) (e:=89) (size:=1) w #[xh] 1 (zero_le _) qj rfl) 0
   below:=af.trans (k1.mono qo)}
 go_enter func44,ntmps44;go_wp2_with fail;rw[<-a2,<-a3,<-a1];clear a2 a3 a1 af ae a7;generalize w.heap.size+1+1=ov at*;generalize w.heap.size+1=g0 at*;go_loopw[4] (λi wr=>∃(m g5 cp5:Nat),m<=L.length/\i=(xi m)/\PInv w ov L m g5 cp5 wr) (λi _=>L.length-(intOf i).toNat);case atStart=>exact⟨0,_,_,zero_le _,rfl,HP.out⟩
 case round=>
  obtain⟨m,g5,cp5,hm,rfl,hI⟩:=hrel;have HI:=qH1 hI;have a5:=hI.below;have ai:=a5.size;have h0:=hI.hdr;have aw:=hI.free;have al:=hI.row.lt.2;have ak:=hI.lt;clear hI HP;by_cases hlt:m<L.length
  .obtain⟨x,hx⟩:∃x,L[m]?=some x:=qg hlt;obtain⟨c0,c1,c2,c3,c4⟩:=(HC.below a5 ac).at m x hx;simp only[Nat.zero_add,Nat.zero_mul]at c0 c1 c2 c3 c4;have HX:=qH2 hx ((HC.below a5 ac).at);have ah:Hid (m=(yEu L m).length):=(yV8 hm).symm;have aj:(yEu L m).length<=2^30:=by rw[<-ah.out];omega
   clear hx;have zm:(m:Int)<(L.length:Int):=qo
   have ao:g≠ov:=qw HI.own
   have av:g<wr.heap.size:=qo
   go_upto_region 5 with fail
   go_region_law ((first
        |(go_simp;go_at_call 97;refine(yR8 x _).mono ?_;rintro e' w6 ⟨rfl,am⟩;have a0:Below wr wr w6:=((Below.refl wr wr).drew).trans am;have m6:=(HI.step a0).hdr;have aq:∀o,(xk (w6.alloc o) ov 0 (xg g5 m cp5):Prop):=λo=>by {rw[((Below.refl w6 w6).alloc qr o).cell (p:=(xd ov 0)) (Nat.lt_of_lt_of_le ak a0.size)];exact m6})
        |(refine yJa _ (by rfl) _ _ (by rfl) w g5 cp5 m w6 (yEu L m) (putE x) ah.out (by rfl) (by rfl) ?hO ?hc aj ?hb ?_
          case hO=>exact(HI.step a0).row.below (qB) (Nat.lt_of_lt_of_le al a0.size)
          case hc=>exact xB3 w6 (putE x)
          case hb=>exact Nat.le_trans ai (Nat.le_trans a0.size (by simp))
          intro g7 a8 w7 ag ab ad
          have a4:=((HI.step a0).step ((Below.refl w6 w6).alloc qr (Obj.cells #[(putE x).row,(putE x).fam,(putE x).qual,xu (putE x).ts,xi (putE x).kind,(putE x).val] 165))).push HX.1 ag ab (by simpa using ad)
          have an:Hid (PInv w ov L (m+1) g7 a8 (xt w7 ov 0 (xg g7 (m+1) a8))):=a4.1
          have m7:=a4.2.1
          have f7:=a4.2.2
          clear a4 ag ab ad)))
   all_goals go_wp2_with fail
   all_goals go_roundw
   all_goals first
    |exact⟨m+1,g7,a8,qo,by go_num,an.out⟩
    |(go_light;simp[intOf];omega)
  .have aa:m=L.length:=qo
   have HF:Hid (OwnE wr w g5 cp5 (L.map putE)):=by have:=HI.row;rw[yV9 qo]at this;exact this
   have r0:=HI.res;have rf:=HI.rfree;have HM:Hid (m=L.length):=aa;have zm:¬(m:Int)<(L.length:Int):=qo
   have au:=HI.new;clear aa;go_wp2;refine bodyPost_ret (v:=.agg #[xg g5 m cp5]) (by simp[results,results44,go_sem,World.cell?_setCell_same _ _ _ r0]) rfl ⟨g5,cp5,by rw[HM.out],?_,?_⟩
   .exact World.ownsRow.kept HF.out (yAv wr w 0 _) (.inr (λq=>by have h2:g5=w.heap.size:=Option.some.inj q;omega))
   .exact a5.setCell qr _
theorem yYx(h:(yAo p e != -1)=true):yCe p e=false:=by unfold yCe;simp at h;simp[h]
theorem yYw(h:(yAo p e != -1)=false)(h2:(p.kind==2)=false):yCe p e=true:=by unfold yCe;simp at h;simp[h,h2]
theorem yYv(h:(yAo p e != -1)=false)(h2:(e.kind==2)=false):yCe p e=true:=by unfold yCe;simp at h;simp[h,h2]
theorem yU2(h:(yAo p e != -1)=false)(h2:(p.kind==2)=true)(h3:(e.kind==2)=true):yCe p e= !yEc p e:=by unfold yCe;simp at h;simp[h,h2,h3]
theorem yYn(p e:Ent):
  ((yAo p e != -1)=true/\yCe p e=false)\/((yAo p e != -1)=false/\(p.kind==2)=false/\yCe p e=true)\/
  ((yAo p e != -1)=false/\(p.kind==2)=true/\(e.kind==2)=false/\yCe p e=true)\/
  ((yAo p e != -1)=false/\(p.kind==2)=true/\(e.kind==2)=true/\yEc p e=true/\yCe p e=false)\/
  ((yAo p e != -1)=false/\(p.kind==2)=true/\(e.kind==2)=true/\yEc p e=false/\yCe p e=true):=by
 cases h1:(yAo p e != -1)
 .cases h2:(p.kind==2)
  .exact .inr (.inl ⟨rfl,rfl,yYw h1 h2⟩)
  .cases h3:(e.kind==2)
   .exact .inr (.inr (.inl ⟨rfl,rfl,rfl,yYv h1 h3⟩))
   .cases h4:yEc p e
    .exact .inr (.inr (.inr (.inr ⟨rfl,rfl,rfl,rfl,by rw[yU2 h1 h2 h3,h4];rfl⟩)))
    .exact .inr (.inr (.inr (.inl ⟨rfl,rfl,rfl,rfl,by rw[yU2 h1 h2 h3,h4];rfl⟩)))
 .exact .inl ⟨rfl,yYx h1⟩
theorem yHf(b off cap:Nat)(es:List Ent)(w:World)(hE:yFl w b off es)(hok:∀e∈es,e.ok)(hB:b<w.heap.size)(hlen:es.length<=cap)(hcap:cap<=maxLen):
  Calls prog 43 #[.agg #[.slice (some ⟨b,off,none⟩) es.length cap]] w λe w'=>
   ∃r:Bool,e=.returned r/\(r=true↔yC es)/\Below w w w':=by
 obtain⟨W0,a1⟩:=qW (xw w #[.slice (some ⟨b,off,none⟩) es.length cap] 89);have a0:=qN a1
 have ab:w.heap.size<W0.heap.size:=by rw[a1];simp
 have ca:(xk W0 w 0 (.slice (some ⟨b,off,none⟩) es.length cap):Prop):=by rw[a1];simp
 have HE:=qH1 (hE.below a0 hB);have HO:=qH1 hok;clear hE hok;unfold maxLen at hcap;by_cases hbig:10000<es.length
 .have H:Hid (¬yC es):=λh=>qw h.1.1
  go_enter func43,ntmps43;go_wp2;go_ret;exact⟨_,rfl,iffF H.out,qB⟩
 go_enter func43,ntmps43;go_wp2_with fail;rw[<-a1];clear a1;go_loopw[3] (λi wr=>∃(k:Nat),k<=es.length/\i=(xi k)/\(∀x∈es.take k,x.vld=true)/\yFh es k/\Below W0 W0 wr) (λi _=>es.length-(intOf i).toNat);case atStart=>exact⟨0,zero_le _,rfl,by simp,λi p e hi=>qo,Below.refl _ _⟩
 case round=>
  obtain⟨k,hk,rfl,hv,hP,hb⟩:=hrel;have HV:=qH2 hv hP;clear hv hP;have ac:=hb.size;have a8:(xk wr w 0 (.slice (some ⟨b,off,none⟩) es.length cap):Prop):=by rw[hb.cell (p:=(xd w 0)) (by show w.heap.size<_;omega)];exact ca
  by_cases hlt:k<es.length
  .obtain⟨e,he⟩:∃e,es[k]?=some e:=qg hlt;have a6:=HE.below hb qo;obtain⟨c0,c1,c2,c3,c4,c5⟩:=a6 k e he;have HK:=qH3 (HO.out e (mem_of_getElem? he)) he a6;clear he a6;go_wp2_with fail;refine(yL e.row e.fam e.qual e.val e.ts e.kind _ HK.1.row HK.1.fam HK.1.qual HK.1.val).mono ?_;rintro e' w1 ⟨rfl,a2⟩;obtain⟨ag,ae⟩:=yOw a2;have aa:wr.heap.size<w1.heap.size:=by have:=a2.size;simp at this;omega
   have hb2:=(hb.alloc hb.size (Obj.cells #[e.row,e.fam,e.qual,xu e.ts,xi e.kind,e.val] 165)).trans (a2.mono (by simp;omega));clear c0 c1 c2 c3 c4 c5;cases hv:vE e.row e.fam e.qual e.kind e.val
   .have H:Hid (¬yC es):=λh=>by have:=h.1.2 e (mem_of_getElem? HK.2.1);unfold Ent.vld at this;rw[hv]at this;cases this
    go_wp2;go_ret;exact⟨_,rfl,iffF H.out,a0.trans (hb2.mono qo)⟩
   .have H:=qH1 (yRt HV.1 HK.2.1 hv);by_cases hk0:k=0
    .subst hk0;refine zY ?_;exact⟨0+1,qo,by go_num,H.out,λi p e hi=>qo,hb2⟩
    .obtain⟨m,rfl⟩:∃m,k=m+1:=⟨k-1,qo⟩;obtain⟨p,hp⟩:∃e,es[m]?=some e:=qg qo;have a7:=((Below.refl _ _).alloc qr (Obj.cells #[e.row,e.fam,e.qual,xu e.ts,xi e.kind,e.val] 165)).trans (a2.mono (by simp));have ah:(xk w1 w 0 (.slice (some ⟨b,off,none⟩) es.length cap):Prop):=by rw[a7.cell (p:=(xd w 0)) (by show w.heap.size<_;omega)];exact a8
     obtain⟨d0,d1,d2,d3,d4,d5⟩:=HK.2.2.below a7 qo m p hp;have HKp:=qH1 hp;clear hp;have hw:IntKind.i64.wrap (m:Int)=(m:Int):=Go.IntWalk.i64_in _ qo;go_wp2_with fail;refine(yF9 p e _).mono ?_;rintro e' w2 ⟨rfl,a5⟩;obtain⟨af,ad⟩:=yOw a5;have a9:w1.heap.size<w2.heap.size:=by have:=a5.size;simp at this;omega
     have hb4:=(hb2.alloc hb2.size (Obj.cells #[p.row,p.fam,p.qual,xu p.ts,xi p.kind,p.val] 165)).trans (a5.mono (by have:=hb2.size;simp;omega));clear d0 d1 d2 d3 d4 d5;rcases yYn p e with⟨g1,ho⟩|⟨g1,g2,ho⟩|⟨g1,g2,g3,ho⟩|⟨g1,g2,g3,g4,ho⟩|⟨g1,g2,g3,g4,ho⟩
     .have H2:Hid (¬yC es):=λh=>by have:=h.2 m p e HKp.out HK.2.1;rw[ho]at this;cases this
      go_wp2;go_ret;exact⟨_,rfl,iffF H2.out,a0.trans (hb4.mono qo)⟩
     .exact xGc
     .exact xGc
     .have H2:Hid (¬yC es):=λh=>by have:=h.2 m p e HKp.out HK.2.1;rw[ho]at this;cases this
      go_wp2_with fail;refine(yF5 p e _).mono ?_;rintro e' w3 ⟨rfl,a4⟩;have a3:=hb4.trans (a4.mono hb4.size);go_wp2;go_ret;exact⟨_,rfl,iffF H2.out,a0.trans (a3.mono qo)⟩
     .have H2:=qH1 (yE7 HV.2 HKp.out HK.2.1 ho);go_wp2_with fail;refine(yF5 p e _).mono ?_;rintro e' w3 ⟨rfl,a4⟩;have a3:=hb4.trans (a4.mono hb4.size);refine zY ?_;exact⟨m+1+1,qo,by go_num,H.out,H2.out,a3⟩
  .go_wp2;go_ret;refine⟨_,rfl,iffT ⟨⟨qo,λe he=>?_⟩,yJn HV.2 qo⟩,a0.trans (hb.mono qo)⟩;have:=HV.1;rw[take_of_length_le qo]at this;exact this e he
theorem xEr(h:e.ok):(putE e).ok:=⟨h.row,h.fam,h.qual,h.val,h.ts,(show(Lit.int .i64 0).wf=true by decide)⟩
theorem yL8 a b:yCe (putE a) (putE b)=(yAo (putE a) (putE b)== -1):=by unfold yCe putE;simp
theorem yKq(a b:Ent)(w:World):
  (xf 100 #[a.c,b.c] w (xi (yAo (putE a) (putE b))):Prop):=by
 unfold Ent.c;obtain⟨W0,a5⟩:=qW (xw (w.alloc (Obj.cells #[a.row,a.fam,a.qual,xu a.ts,a.val] 70)) #[b.row,b.fam,b.qual,xu b.ts,b.val] 70);have a6:Below w w W0:=by rw[a5];exact(qB).alloc (by simp) _
 have a7:W0.heap.size=w.heap.size+2:=by rw[a5];simp
 have HA:Hid (yA4 W0 w 0 [a]/\yA4 W0 (w+1) 0 [b]):=by rw[a5];refine⟨(yTz w a).below (qB) (by simp),?_⟩;have:=yTz (xw w #[a.row,a.fam,a.qual,xu a.ts,a.val] 70) b;simpa using this
 have q:∀n:Out W0,yA4 n.u w 0 [a]/\yA4 n.u (w+1) 0 [b]:=λn=>⟨HA.1.below n.out qo,HA.2.below n.out qo⟩;have a0:∀n:Out W0,(xk n.u w 0 a.row:Prop):=λn=>by simpa using ((q n).1 0 a rfl).1
 have a1:∀n:Out W0,(xk n.u w 1 a.fam:Prop):=λn=>by simpa using ((q n).1 0 a rfl).2.1
 have a2:∀n:Out W0,(xk n.u w 2 a.qual:Prop):=λn=>by simpa using ((q n).1 0 a rfl).2.2.1
 have a3:∀n:Out W0,(xk n.u w 3 (xu a.ts):Prop):=λn=>by simpa using ((q n).1 0 a rfl).2.2.2.1
 have a4:∀n:Out W0,(xk n.u w 4 a.val:Prop):=λn=>by simpa using ((q n).1 0 a rfl).2.2.2.2
 have b0:∀n:Out W0,(xk n.u (w+1) 0 b.row:Prop):=λn=>by simpa using ((q n).2 0 b rfl).1
 have b1:∀n:Out W0,(xk n.u (w+1) 1 b.fam:Prop):=λn=>by simpa using ((q n).2 0 b rfl).2.1
 have b2:∀n:Out W0,(xk n.u (w+1) 2 b.qual:Prop):=λn=>by simpa using ((q n).2 0 b rfl).2.2.1
 have b3:∀n:Out W0,(xk n.u (w+1) 3 (xu b.ts):Prop):=λn=>by simpa using ((q n).2 0 b rfl).2.2.2.1
 have b4:∀n:Out W0,(xk n.u (w+1) 4 b.val:Prop):=λn=>by simpa using ((q n).2 0 b rfl).2.2.2.2
 clear q HA;go_enter func100,ntmps100;go_upto_region 1 with fail;rw[<-a5];clear a5 a7;have a9:Nonempty (Out W0):=⟨⟨W0,Below.refl _ _⟩⟩;refine yAs qk qk ?_;repeat (go_big_quiet_step ((first|(go_at_call 99;exact Calls.out_of (yBx _ _))|(go_at_call 148;exact Calls.out_of (yTu (putE a) (putE b) _)))))
 refine wpQuiet_nil ?_;rintro w1 ⟨⟨wx,a8⟩,rfl⟩;go_wp2;go_ret;exact⟨rfl,a6.trans (a8.mono a6.size)⟩
def yH0(P:Prop)(w:World)(e:Ending)(w':World):Prop:=∃r:Bool,e=.returned r/\(r=true↔P)/\Below w w w'
theorem ySo es:yFh es 1:=λi p e hi=>qo
theorem yQn{c:Ent}(h:yC (L.map putE))(hp:L[i]?=some p)(hc:L[i+1]?=some c):yAo (putE p) (putE c)= -1:=by have h1:=h.2 i (putE p) (putE c) (by rw[getElem?_map,hp];rfl) (by rw[getElem?_map,hc];rfl);rw[yL8]at h1;simpa using h1
theorem yLm(g cap:Nat)(L:List Ent)(base:Nat) w (hC:OwnC w base g cap L) (hok:∀e∈L,e.ok) (hn:L.length<=1048576):
  Calls prog 45 #[xg g L.length cap] w (yH0 (yC (L.map putE)) w):=by
 have HC:=qH2 hC hok;have ai:=hC.lt.2;clear hC hok;by_cases hbig:10000<L.length
 .have H:Hid (¬yC (L.map putE)):=λh=>by have:=h.1.1;rw[length_map]at this;omega
  have z:(10000:Int)<(L.length:Int):=qo
  go_enter func45,ntmps45;go_wp2;go_ret;exact⟨_,rfl,iffF H.out,Below.refl _ _⟩
 have z:¬(10000:Int)<(L.length:Int):=qo
 go_enter func45,ntmps45;go_wp2;go_loopw[10] (λiv wr=>∃(k:Nat),k<=L.length/\iv=(xi k)/\(∀x∈L.take k,(putE x).vld=true)/\yFh (L.map putE) k/\Below w w wr) (λiv _=>L.length-(intOf iv).toNat);case atStart=>exact⟨0,zero_le _,rfl,by simp,λi p e hi=>qo,Below.refl _ _⟩
 case round=>
  obtain⟨k,hk,rfl,hv,hP,hb⟩:=hrel;have HV:=qH2 hv hP;have hs:=hb.size;clear hv hP;by_cases hlt:k<L.length
  .obtain⟨c,hc⟩:∃c,L[k]?=some c:=qg hlt;have a5:=qH2 hc (HC.2 c (mem_of_getElem? hc));have HR:=qH1 (HC.1.at.below hb ai);obtain⟨c0,c1,c2,c3,c4⟩:=HR.out k c hc;simp only[Nat.zero_add]at c0 c1 c2 c3 c4;have zk:(k:Int)<(L.length:Int):=qo
   obtain⟨W1,a6⟩:=qW (xw wr #[c.row,c.fam,c.qual,xu c.ts,c.val] 70);have HW1:Hid (yA4 W1 wr 0 [c]/\yA4 W1 g 0 L/\Below w w W1/\W1.heap.size=wr.heap.size+1):=by
    have ab:=qN a6
    refine⟨by rw[a6];exact yTz wr c,HR.below ab qo,hb.trans (ab.mono hs),by rw[a6];simp⟩
   clear hc;go_upto_region 6 with fail;rw[<-a6];clear a6 c0 c1 c2 c3 c4 HR;have ag:=HW1.2.2.2;have q:∀n:Out W1,yA4 n.u wr 0 [c]:=λn=>HW1.1.below n.out qo;have a0:∀n:Out W1,(xk n.u wr 0 c.row:Prop):=λn=>by simpa using ((q n) 0 c rfl).1
   have a1:∀n:Out W1,(xk n.u wr 1 c.fam:Prop):=λn=>by simpa using ((q n) 0 c rfl).2.1
   have a2:∀n:Out W1,(xk n.u wr 2 c.qual:Prop):=λn=>by simpa using ((q n) 0 c rfl).2.2.1
   have a3:∀n:Out W1,(xk n.u wr 3 (xu c.ts):Prop):=λn=>by simpa using ((q n) 0 c rfl).2.2.2.1
   have a4:∀n:Out W1,(xk n.u wr 4 c.val:Prop):=λn=>by simpa using ((q n) 0 c rfl).2.2.2.2
   clear q ag;have al:Nonempty (Out W1):=⟨⟨W1,Below.refl _ _⟩⟩;obtain⟨bv,a9⟩:=qE ((putE c).vld);have a7:Hid (∀n:Out W1,(xf 98 #[(putE c).v] n.u bv:Prop)):=λn=>by rw[a9];exact yLj _ _ _ _ _ _ n.u a5.2.row a5.2.fam a5.2.qual a5.2.val
   have af:=qH1 a9.symm;clear a9;cases bv
   .have HF:Hid (¬yC (L.map putE)):=λh=>by have:=h.1.2 (putE c) (List.mem_map.2 ⟨c,mem_of_getElem? a5.1,rfl⟩);rw[af.out]at this;cases this
    refine yAs qk qk ?_;repeat (go_big_quiet_step ((first|(go_at_call 99;exact Calls.out_of (yBx _ _))|(go_at_call 98;exact Calls.out_of (a7.out _)))))
    exact xC4
   have ac:Hid (∀x∈L.take (k+1),(putE x).vld=true):=by
    intro x hx;rw[take_add_one,a5.1]at hx;rcases List.mem_append.1 hx with hx|hx
    .exact HV.1 x hx
    .simp at hx;subst hx;exact af.out
   by_cases hk0:k=0
   .subst hk0;refine yAs qk qk ?_;repeat (go_big_quiet_step ((first|(go_at_call 99;exact Calls.out_of (yBx _ _))|(go_at_call 98;exact Calls.out_of (a7.out _)))))
    refine wpQuiet_nil ?_;rintro w2 ⟨⟨wx,hb2⟩,rfl⟩;refine zY ?_;exact⟨1,qo,by go_num,ac.out,ySo _,HW1.2.2.1.trans (hb2.mono HW1.2.2.1.size)⟩
   obtain⟨m,rfl⟩:∃m,k=m+1:=⟨k-1,qo⟩;obtain⟨p,hp⟩:∃p,L[m]?=some p:=qg qo;have ad:=qH1 hp;have q:∀n:Out W1,yA4 n.u g 0 L:=λn=>HW1.2.1.below n.out (qw HW1.2.2.2);have p0:∀n:Out W1,(xk n.u g (m*5) p.row:Prop):=λn=>by simpa using ((q n) m p hp).1
   have p1:∀n:Out W1,(xk n.u g (m*5+1) p.fam:Prop):=λn=>by simpa using ((q n) m p hp).2.1
   have p2:∀n:Out W1,(xk n.u g (m*5+2) p.qual:Prop):=λn=>by simpa using ((q n) m p hp).2.2.1
   have p3:∀n:Out W1,(xk n.u g (m*5+3) (xu p.ts):Prop):=λn=>by simpa using ((q n) m p hp).2.2.2.1
   have p4:∀n:Out W1,(xk n.u g (m*5+4) p.val:Prop):=λn=>by simpa using ((q n) m p hp).2.2.2.2
   clear q hp;obtain⟨kc,a8⟩:=qE (yAo (putE p) (putE c));have ae:Hid (∀n:Out W1,(xf 100 #[p.c,c.c] n.u (xi kc):Prop)):=λn=>by rw[a8];exact yKq p c n.u
   have aa:=qH1 a8;have zm:(m:Int)<(L.length:Int):=qo
   have ak:(0:Int)<(m:Int)+1:=qo
   clear a8;by_cases hneg:0<=kc
   .have HF:Hid (¬yC (L.map putE)):=λh=>by have:=yQn h ad.out a5.1;rw[<-aa.out]at this;omega
    refine yAs qk qk ?_;repeat (go_big_quiet_step ((first|(go_at_call 99;exact Calls.out_of (yBx _ _))|(go_at_call 98;exact Calls.out_of (a7.out _))|(go_at_call 100;exact Calls.out_of (ae.out _)))))
    exact xC4
   .have aj:Hid (yFh (L.map putE) (m+1+1)):=by
     refine yE7 HV.2 (p:=putE p) (e:=putE c) (by rw[getElem?_map,ad.out];rfl) (by rw[getElem?_map,a5.1];rfl) ?_;rw[yL8];rcases yJ4 (putE p) (putE c)with h|h|h
     .rw[h];rfl
     .rw[aa.out,h]at hneg;omega
     .rw[aa.out,h]at hneg;omega
    refine yAs qk qk ?_;repeat (go_big_quiet_step ((first|(go_at_call 99;exact Calls.out_of (yBx _ _))|(go_at_call 98;exact Calls.out_of (a7.out _))|(go_at_call 100;exact Calls.out_of (ae.out _)))))
    refine wpQuiet_nil ?_;rintro w2 ⟨⟨wx,hb2⟩,rfl⟩;refine zY ?_;exact⟨m+1+1,qo,by go_num,ac.out,aj.out,HW1.2.2.1.trans (hb2.mono HW1.2.2.1.size)⟩
  .have ah:k=L.length:=qo
   have HF:Hid (yC (L.map putE)):=by refine⟨⟨by rw[length_map];omega,λe he=>?_⟩,yJn HV.2 (by rw[length_map];omega)⟩;obtain⟨x,hx,rfl⟩:=List.mem_map.1 he;exact HV.1 x (by rw[take_of_length_le qo];exact hx)
   have zk:¬(k:Int)<(L.length:Int):=qo
   clear ah;go_wp2;go_ret;exact⟨_,rfl,iffT HF.out,hb⟩
theorem yLd(g cap:Nat)(L:List Ent)(base:Nat) w (hC:OwnC w base g cap L) (hok:∀e∈L,e.ok) (hn:L.length<=1048576):
  Calls prog 9 #[xg g L.length cap] w (yH0 (yC (L.map putE)) w):=by
 have HC:Hid (OwnC w base g cap L/\∀e∈L,e.ok):=⟨hC,hok⟩;clear hC hok;go_enter func9,ntmps9;go_wp2_with fail;refine(yYh g cap L base w HC.1 hn).mono ?_;rintro e w1 ⟨g1,a0,rfl,a1,a2⟩;have HO:Hid (OwnE w1 w g1 a0 (L.map putE)/\a0<=maxLen/\L.length<=a0):=by
  refine⟨a1,?_⟩;rcases a1.2 with⟨h0,_⟩|⟨g',a4,cur,hv,_,_,hn,a3,_,_⟩
  .cases h0
  .simp only[Value.slice.injEq,Option.some.injEq,Addr.mk.injEq,and_true,true_and]at hv;obtain⟨rfl,rfl⟩:=hv;rw[length_map]at hn;exact⟨a3,hn⟩
 have hl:L.length=(L.map putE).length:=(length_map ..).symm;have HV:Hid (Calls prog 43 #[.agg #[xg g1 L.length a0]] w1 λe w'=>∃r:Bool,e=.returned r/\(r=true↔yC (L.map putE))/\Below w1 w1 w'):=by show Calls _ _ _ _ _;have:=yHf g1 0 a0 (L.map putE) w1 HO.1.at (λe he=>by obtain⟨x,hx,rfl⟩:=List.mem_map.1 he;exact xEr (HC.2 x hx)) HO.1.lt.2 (by rw[length_map];exact HO.2.2) HO.2.1;rw[length_map]at this;exact this
 clear a1 hl;go_wp2_with fail;refine HV.mono ?_;rintro e w2 ⟨r,rfl,hr,hb2⟩;have HR:Hid (r=true↔yC (L.map putE)):=hr;clear hr;go_wp2;go_ret;exact⟨r,rfl,HR.out,a2.trans (hb2.mono a2.size)⟩
abbrev rcL(fn:FuncId)(tmps:Array Value)(ps:Array Tmp)(assign body:Code)(D:Nat)(st:LoopState)(pe:Option Code):Obj:=.loop {state:=st,pending:=pe,fn,tmps,params:=ps,assign,body,defers:=D}
def RndP(rec:LoopState->Option Code->Obj)(l:Nat)(R:Ending->World->Prop)(e:Exit)(W:World):Prop:=
 W.heap[l]?=some (rec .busy none)/\match e with
 | .normal=>R (.returned true) (W.putObj l (rec .ready none))
 | .ret=>R (.returned false) (W.putObj l (rec .done (some .ret)))
 | .exit id=>R (.returned false) (W.putObj l (rec .done (some (.exit id))))
 |_=>False
variable {ps:Array Tmp}
theorem yD7{fn:FuncId}{tmps:Array Value}{assign:Code}{D l:Nat}{W:World}{args:Array Value}{R:Ending->World->Prop}(hl:W.heap[l]?=some (rcL fn tmps ps assign body D .ready none))(hs:args.size=ps.size)
  (h:assign.wpIn (Fence.wide.inRound l) n prog (Exit.then (λa' Wa=>Wa.heap[l]?=some (rcL fn tmps ps assign body D .ready none)/\body.wpIn (Fence.wide.inRound l) n prog (λe _ W3=>RndP (rcL fn tmps ps assign body D) l R e W3) a' (Wa.putObj l (rcL fn tmps ps assign body D .busy none))) (λ_ _ _=>False))
   {tmps:=(ps.zip args).foldl (λt (p,v)=>t.setIfInBounds p v) tmps,defers:= []} W):
  YieldAt Fence.wide n prog l args W R:=by
 have hy:=run_yield (P:=prog) (args:=args) hl hs;refine⟨fn,_,assign,body,hy,roundIn_of_wpIn trivial (wpIn_mono h ?_)⟩;intro e a' Wa hp;cases e with
 |normal=>
  obtain⟨a1,hb⟩:=hp;refine⟨_,run_beginRound a1 rfl,wpIn_mono hb ?_⟩;rintro e a3 W3 ⟨a0,hp⟩;cases e with
  |normal=>exact⟨_,_,run_endRound none a0,hp⟩
  |ret=>exact⟨_,_,run_endRound (some .ret) a0,hp⟩
  |exit id=>exact⟨_,_,run_endRound (some (.exit id)) a0,hp⟩
  |goto t=>exact hp.elim
  |panic ch=>exact hp.elim
  |outgrown=>exact hp.elim
 |_=>exact hp
theorem yGa{g:Operand}{assign:Code}{gf:Nat}{lb:Array Value}(hg:a.eval g=.func (.func gf) #[] lb)(eg:∀args w,(callFunc gf args).run prog w=.ok (.enter gf args) w)(h1:1<=n)
  (h:∀fn W1,W1=(w.alloc (.deferred (some []))).alloc (rcL fn a.tmps ps assign body w .ready none)->CallsIn Fence.wide (n-1) prog gf (#[.func (.yield (w+1)) #[] #[]]++lb) W1 λe W2=>(∃v,e=.returned v)/\
   ((W2.heap[w.heap.size+1]?=some (rcL fn a.tmps ps assign body w .ready none)/\Q .normal {a with defers:={target:=.collected w,args:=#[]}::a.defers} (W2.putObj (w+1) (rcL fn a.tmps ps assign body w .exhausted none)))\/
    ∃c,W2.heap[w.heap.size+1]?=some (rcL fn a.tmps ps assign body w .done (some c))/\c.wpIn Fence.wide n prog Q {a with defers:={target:=.collected w,args:=#[]}::a.defers} (W2.putObj (w+1) (rcL fn a.tmps ps assign body w .exhausted (some c))))):
  (Code.rangeFunc g ps assign body).wpIn Fence.wide n prog Q a w:=by
 refine wpIn_rangeFunc ?_;intro fn a1;obtain⟨W1,a0⟩:=qE ((w.alloc (.deferred (some []))).alloc (rcL fn a.tmps ps assign body w .ready none))
 refine⟨w+1,[{target:=.collected w,args:=#[]}],W1,{target:=.fn (.func gf) lb,args:=#[.func (.yield (w+1)) #[] #[]]},W1,gf,
  #[.func (.yield (w+1)) #[] #[]]++lb,W1,by rw[a0];exact run_enterLoop_outer _ _ _ _ _,?_,λ_ _=>trivial,?_,λ_=>h1,?_⟩
 .simp only[resolve,hg];simp[go_sem]
 .simp[invoke,go_sem,eg]
 .refine(h fn W1 a0).mono ?_;exact xF3
theorem ySi{g:Operand}{assign:Code}{l₀:Nat}{r₀:Loop}(hl₀:w.heap[l₀]?=some (.loop r₀)){gf:Nat}{lb:Array Value}(hg:a.eval g=.func (.func gf) #[] lb)(eg:∀args w,(callFunc gf args).run prog w=.ok (.enter gf args) w)(h1:1<=n)
  (h:∀fn W1,W1=w.alloc (rcL fn a.tmps ps assign body r₀.defers .ready none)->CallsIn Fence.wide (n-1) prog gf (#[.func (.yield w) #[] #[]]++lb) W1 λe W2=>(∃v,e=.returned v)/\
   ((W2.heap[w.heap.size]?=some (rcL fn a.tmps ps assign body r₀.defers .ready none)/\Q .normal a (W2.putObj w (rcL fn a.tmps ps assign body r₀.defers .exhausted none)))\/
    ∃c,W2.heap[w.heap.size]?=some (rcL fn a.tmps ps assign body r₀.defers .done (some c))/\c.wpIn (Fence.wide.inRound l₀) n prog Q a (W2.putObj w (rcL fn a.tmps ps assign body r₀.defers .exhausted (some c))))):
  (Code.rangeFunc g ps assign body).wpIn (Fence.wide.inRound l₀) n prog Q a w:=by
 refine wpIn_rangeFunc ?_;intro fn a1;obtain⟨W1,a0⟩:=qE (w.alloc (rcL fn a.tmps ps assign body r₀.defers .ready none))
 refine⟨w,[],W1,{target:=.fn (.func gf) lb,args:=#[.func (.yield w) #[] #[]]},W1,gf,
  #[.func (.yield w) #[] #[]]++lb,W1,by rw[a0];exact run_enterLoop_inner hl₀ _ _ _ _ _,?_,λ_ _=>trivial,?_,λ_=>h1,?_⟩
 .simp only[resolve,hg];simp[go_sem]
 .simp[invoke,go_sem,eg]
 .refine CallsIn.inRound l₀ ((h fn W1 a0).mono ?_);exact xF3
def hit(x e:Ent):Bool:=yEc x e && ((x.ts==e.ts) || ((e.kind==2) && decide (x.ts<=e.ts)))
theorem yWc(h:yCe p e=true):yAo p e= -1:=by
 unfold yCe at h;simp only[Bool.and_eq_true,decide_eq_true_eq,Bool.not_eq_true',beq_iff_eq]at h
 first
  |exact h.1
  |exact h.2
  |(have h1:=h.1;have h2:=h.2;rcases yJ4 p e with q|q|q<;>simp_all)
theorem yL7:∀(l:List Ent),(∀i p e,l[i]?=some p->l[i+1]?=some e->yAo p e= -1)->Ord l
 | [],_=>List.Pairwise.nil
 | [a],_=>by simp[Ord]
 |a::b::r,h=>by
  have ih:=yL7 (b::r) (λi p e h1 h2=>h (i+1) p e (by simpa using h1) (by simpa using h2))
  have hab:=h 0 a b rfl rfl
  refine List.pairwise_cons.2 ⟨λx hx=>?_,ih⟩
  rcases mem_cons.1 hx with rfl|hx
  .exact hab
  .exact yQg hab ((List.pairwise_cons.1 ih).1 x hx)
theorem ySp(h:yC es):Ord es:=yL7 es (λi p e h1 h2=>yWc (h.2 i p e h1 h2))
def xI6(rs:List (List Ent))(k:Nat)(x:Ent):Prop:=∃m ds d,m<k/\rs[m]?=some ds/\d∈ds/\xI1 d x=true
def Good(rs:List (List Ent))(inr:ByteArray->Bool)(i:Nat)(x:Ent):Prop:=x.kind=0/\inr x.row=true/\¬xI6 rs i x
theorem yR3(r f q v:ByteArray)(t left:Int)(w:World)(hr:r.size<=maxLen)(hf:f.size<=maxLen)(hq:q.size<=maxLen)(hv:v.size<=maxLen)(h0:0<=left)(h1:left<=2^40):
  Calls prog 55 #[.agg #[r,f,q,xu t,v],xi left] w λe w'=>
   ∃x,e=.returned (xi x)/\(x= -1\/(0<=x/\x+r.size+f.size+q.size+v.size=left))/\Below w w w':=by
 unfold maxLen at hr hf hq hv;go_enter func55,ntmps55;go_wp2
 .go_ret;exact⟨_,rfl,.inl rfl,qB⟩
 .go_ret;exact⟨_,rfl,.inl rfl,qB⟩
 .go_ret;exact⟨_,rfl,.inl rfl,qB⟩
 .go_ret;exact⟨_,rfl,.inl rfl,qB⟩
 .go_ret;exact⟨_,rfl,.inr ⟨by assumption,qo⟩,qB⟩
theorem yRz(r f q v:ByteArray)(t:Int)(w:World):
  Calls prog 63 #[.agg #[r,f,q,xu t,v]] w λe w'=>
   e=.returned (.agg #[r,f,q,xu t,v])/\Below w w w':=by
 go_enter func63,ntmps63;go_wp2;refine bodyPost_ret (v:=.agg #[r,f,q,xu t,v]) (by simp[results,results63,go_sem]) rfl ⟨rfl,?_⟩;exact((qB).alloc (by simp) _).alloc (by simp;omega) _
theorem Tryz.cellsCel:prog.cellsOf 108=5:=qk
theorem xH0{α:Type}{cs:List α}(h:cs.length=5):∃c0 c1 c2 c3 c4,cs= [c0,c1,c2,c3,c4]:=by
 match cs,h with
 | [c0,c1,c2,c3,c4],_=>exact⟨c0,c1,c2,c3,c4,rfl⟩
theorem yTy{H:Type}{enc:TypeId×Value->H}{spare:Nat->Bool}{held:Bool}{fuel:Nat}{cs:List Value}{x:DataW H×List MemPlace}
  (h:DataW.trod enc prog w base spare held fuel 108 cs=some x):
  ∃e:Ent,e.ok/\cs= [.string e.row,.string e.fam,.string e.qual,.int .u64 e.ts,.string e.val]:=by
 obtain⟨xs,n,_,_,hl,a4,hf⟩:=DataW.trod_struct underlying108 h;rw[Tryz.cellsCel]at hl;obtain⟨c0,c1,c2,c3,c5,rfl⟩:=xH0 hl;obtain⟨x0,x1,x2,x3,x5,rfl⟩:=xH0 (cs:=xs) a4;have h0:=hf 0 _ rfl;have h1:=hf 1 _ rfl;have h2:=hf 2 _ rfl;have h3:=hf 3 _ rfl;have h5:=hf 4 _ rfl;simp[Tryz.cellsStr,Tryz.cellsU64]at h0 h1 h2 h3 h5;obtain⟨a0,e0,_,b0⟩:=DataW.trod_string underlying9 h0;obtain⟨a1,e1,_,b1⟩:=DataW.trod_string underlying9 h1;obtain⟨a2,e2,_,b2⟩:=DataW.trod_string underlying9 h2;obtain⟨a3,e3,_,b3⟩:=DataW.trod_int underlying68 h3;obtain⟨a5,e5,_,b5⟩:=DataW.trod_string underlying9 h5;simp only[List.cons.injEq,and_true]at e0 e1 e2 e3 e5;exact⟨⟨a0,a1,a2,a3,0,a5⟩,⟨b0,b1,b2,b5,b3,(show(Lit.int .i64 0).wf=true by decide)⟩,by rw[e0,e1,e2,e3,e5]⟩
def yEz(w:World)(v:Value)(es:List Ent):Prop:=
 (∃a cap,v=.slice a 0 cap/\es= [])\/
 ∃b off cap,v=.slice (some ⟨b,off,none⟩) es.length cap/\yA4 w b off es/\b<w.heap.size/\es.length<=cap/\cap<=maxLen
theorem yEz.below{v:Value}(h:yEz w v es)(hb:Below B w w')(hB:w.heap.size<=B):yEz w' v es:=by exact xAq
theorem yRc{H:Type}{enc:TypeId×Value->H}{held:Bool}{fuel:Nat}{v:Value}{x:DataW H×List MemPlace}
  (h:DataW.trod enc prog w base (λ_=>true) held fuel 52 [v]=some x):∃es:List Ent,yEz w v es/\∀e∈es,e.ok:=by
 rcases open_slice underlying52 h with⟨hcs,_⟩|⟨a,len,cap,m,n,D,Pl,hcs,a7,hl,hm,a3,_,a4⟩
 .exact xDt
 .simp only[List.cons.injEq,and_true]at hcs;subst hcs;rw[if_pos rfl]at a3;subst a3;have a1:∀i,i<m->∃cs',w.cells? base (a.add (i*5)) 5=some cs'/\DataW.trod enc prog w base (λ_=>true) held n 108 cs'=some (D i,Pl i):=λi hi=>by have:=a4 i hi;rw[Tryz.cellsCel]at this;exact this
  clear a4;have HM:=qH1 hm;clear hm;by_cases h0:len=0
  .subst h0;exact⟨[],.inl ⟨_,_,rfl,rfl⟩,by simp⟩
  .obtain⟨b,off,a2⟩:=a;have a5:a2=none:=by
    obtain⟨cs',hc,_⟩:=a1 0 qo;obtain⟨_,a6,a0⟩:=World.cells?_some hc;have h1:=a0 0 qo;have h2:(w.cell? ((Addr.add ⟨b,off,a2⟩ (0*5)).add 0)).isSome=true:=by rw[h1];simp;omega
    obtain⟨u,hu⟩:=Option.isSome_iff_exists.1 h2;simpa [Addr.add]using World.cell?_spot hu
   subst a5
   obtain⟨es,hes,hp⟩:=yC0 (P:=λi (e:Ent)=>e.ok/\(xk w b (off+i*5) e.row/\xk w b (off+i*5+1) e.fam/\xk w b (off+i*5+2) (.string e.qual)/\
     w.cell? (xd b (off+i*5+3))=some (.int .u64 e.ts)/\w.cell? (xd b (off+i*5+4))=some (.string e.val))) len (λi hi=>by
    obtain⟨cs',hc,ht⟩:=a1 i qo
    obtain⟨e,ok,rfl⟩:=yTy ht
    obtain⟨_,a6,a0⟩:=World.cells?_some hc
    refine⟨e,ok,?_,?_,?_,?_,?_⟩
    .simpa [Addr.add_mid]using a0 0 qo
    .simpa [Addr.add_mid]using a0 1 qo
    .simpa [Addr.add_mid]using a0 2 qo
    .simpa [Addr.add_mid]using a0 3 qo
    .simpa [Addr.add_mid]using a0 4 qo)
   have hlt:b<w.heap.size:=by obtain⟨cs',hc,_⟩:=a1 0 qo;simpa [Addr.add]using World.cells?_block hc qo
   exact xD0
theorem yP(b off cap:Nat)(es:List Ent)(left:Int)(w:World)(hE:yA4 w b off es)(hok:∀e∈es,e.ok)(hB:b<w.heap.size)(hlen:es.length<=cap)(hcap:cap<=maxLen)(h0:0<=left)(h1:left<=2^40):
  Calls prog 17 #[.slice (some ⟨b,off,none⟩) es.length cap,xi left] w λe w'=>
   ∃x,e=.returned (xi x)/\(x= -1\/(0<=x/\x+es.length<=left))/\Below w w w':=by
 have HE:=qH1 hE;have HO:=qH1 hok;clear hE hok;unfold maxLen at hcap;by_cases hle:left<es.length
 .have a0:left-es.length<0:=qo
  go_enter func17,ntmps17;go_wp2;go_ret;exact⟨_,rfl,.inl rfl,Below.refl _ _⟩
 have a0:0<=left-es.length:=qo
 go_enter func17,ntmps17;go_wp2;go_loopw[1,5] (λl i wr=>∃(k:Nat)(x:Int),k<=es.length/\i=(xi k)/\l=(xi x)/\0<=x/\x+es.length<=left/\Below w w wr) (λ_ i _=>es.length-(intOf i).toNat);case atStart=>exact⟨0,_,zero_le _,rfl,rfl,a0,qo,Below.refl _ _⟩
 case round=>
  obtain⟨k,x,hk,rfl,rfl,a3,a2,hb⟩:=hrel;by_cases hlt:k<es.length
  .obtain⟨e,he⟩:∃e,es[k]?=some e:=qg hlt;obtain⟨c0,c1,c2,c3,c5⟩:=(HE.below hb hB) k e he;have ok:=HO.out e (mem_of_getElem? he);have HK:=ok;clear ok he;go_wp2_with fail;refine(yR3 e.row e.fam e.qual e.val e.ts _ _ HK.row HK.fam HK.qual HK.val qo qo).mono ?_;rintro e w1 ⟨y,rfl,hy,a1⟩;have a4:=hb.size;have hb2:=hb.trans (a1.mono a4);clear c0 c1 c2 c3 c5 a1;exact xGj
  .go_wp2;go_ret;exact⟨_,rfl,.inr ⟨a3,a2⟩,hb⟩
theorem yO9(a:Option Addr)(cap:Nat)(left:Int)(w:World)(h0:0<=left)(h1:left<=2^40):
  (xf 17 #[.slice a 0 cap,xi left] w (xi left):Prop):=by
 go_enter func17,ntmps17;exact xD5
theorem yR4(v:Value)(es:List Ent)(left:Int)(w:World)(h:yEz w v es)(hok:∀e∈es,e.ok)(h0:0<=left)(h1:left<=2^40):
  Calls prog 17 #[v,xi left] w λe w'=>
   ∃x,e=.returned (xi x)/\(x= -1\/(0<=x/\x+es.length<=left))/\Below w w w':=by
 rcases h with⟨a,cap,rfl,rfl⟩|⟨b,off,cap,rfl,hE,a0,g1,g2⟩
 .exact(yO9 a cap left w h0 h1).mono λe w' ⟨he,hb⟩=>⟨left,he,.inr ⟨h0,by simp⟩,hb⟩
 .exact yP b off cap es left w hE hok a0 g1 g2 h0 h1
theorem yMd(n:Nat):(madeCells #[xe,xe,xe,xu 0,xe] (n*5)).toList=yBs (List.replicate n yXo):=by
 apply ext_getElem?;intro j;by_cases hj:j<n*5
 .have h:=yHw (List.replicate n yXo) (j/5) yXo (by rw[getElem?_replicate,if_pos (by omega)]) (j%5) (mod_lt _ (by omega));rw[show j/5*5+j%5=j by omega]at h;rw[h];have h6:j%5<5:=mod_lt _ qo;simp[madeCells,hj];generalize j%5=m at*;match m,h6 with
  |0,_=>rfl
  |1,_=>rfl
  |2,_=>rfl
  |3,_=>rfl
  |4,_=>rfl
 .have h1:(yBs (List.replicate n yXo)).length<=j:=by rw[yCi,length_replicate];omega
  rw[getElem?_eq_none h1];simp[madeCells,hj]
theorem OwnC.put{g:Nat}(h:OwnC w base g cap es)(k:Nat)(f e:Ent)(hk:es[k]?=some f):
  OwnC (xt ((((w.setCell (xd g (k*5)) e.row).setCell (xd g (k*5+1)) e.fam).setCell (xd g (k*5+2)) e.qual).setCell (xd g (k*5+3)) (xu e.ts)) g (k*5+4) e.val) base g cap (es.set k e):=by
 have a0:=qf hk;have g1:=h.set k 0 f {f with row:=e.row} e.row hk qo rfl;have g2:=g1.set k 1 {f with row:=e.row} {f with row:=e.row,fam:=e.fam} e.fam (by simp[a0]) qo rfl;have g3:=g2.set k 2 {f with row:=e.row,fam:=e.fam} {f with row:=e.row,fam:=e.fam,qual:=e.qual} e.qual (by simp[a0]) qo rfl;have g4:=g3.set k 3 {f with row:=e.row,fam:=e.fam,qual:=e.qual} {f with row:=e.row,fam:=e.fam,qual:=e.qual,ts:=e.ts} (xu e.ts) (by simp[a0]) qo rfl;have g5:=g4.set k 4 {f with row:=e.row,fam:=e.fam,qual:=e.qual,ts:=e.ts} e e.val (by simp[a0]) qo rfl;simpa only[set_set,Nat.add_zero]using g5
theorem yXb{a:World}(h:Below B a w){g:Nat}(hg:B<=g)(o0 o1 o2 o3 o4:Nat)(v0 v1 v2 v3 v4:Value):
  Below B a (xt ((((w.setCell (xd g o0) v0).setCell (xd g o1) v1).setCell (xd g o2) v2).setCell (xd g o3) v3) g o4 v4):=
 ((((h.setCell hg _).setCell hg _).setCell hg _).setCell hg _).setCell hg _
theorem yO6(b off cap:Nat)(es:List Ent)(w:World)(hE:yA4 w b off es)(hB:b<w.heap.size)(hlen:es.length<=cap)(hcap:cap<=maxLen)(h1:es.length<=1048576):
  Calls prog 20 #[.slice (some ⟨b,off,none⟩) es.length cap] w λe w'=>
   ∃g,e=.returned (xg g es.length es.length)/\OwnC w' w g es.length es/\Below w w w':=by
 have HE:=qH1 hE;clear hE;unfold maxLen at hcap;obtain⟨i,hi,a3,a2,a1⟩:=info_parts Tryz.infoCel;have HI:=qH4 hi a3 a2 a1;clear hi a3 a2 a1;go_enter func20,ntmps20;go_wp2_with (at_make;refine wpList_make_full _ rfl _ _ 26 rfl w 70 i _ 5 underlying26 HI.1 HI.2.1 HI.2.2.1 _ _ _ _ es.length rfl rfl ?_ ?_ ?hb ?hm ?hs ?_);case hb=>rw[HI.2.2.2];omega
 case hm=>unfold maxLen;omega
 case hs=>exact Nat.le_refl _
 .rfl
 .rfl
 intro w1 a0 a5;rw[yMd]at a0;have a4:OwnC w1 w w es.length (List.replicate es.length yXo):=by unfold OwnC;rw[length_replicate];exact a0
 have HW:=qH1 a4;have a9:=(Below.refl _ _).grown a5 qr (λk hk=>by cases hk);clear a0 a4 a5;go_wp2;go_loopw[4] (λi wr=>∃(k:Nat)(fs:List Ent),k<=es.length/\i=(xi k)/\fs.length=es.length/\fs.take k=es.take k/\OwnC wr w w es.length fs/\Below w w wr) (λi _=>es.length-(intOf i).toNat);case atStart=>exact⟨0,_,zero_le _,rfl,length_replicate ..,rfl,HW.out,a9⟩
 case round=>
  obtain⟨k,fs,hk,rfl,a7,a6,hO,hb⟩:=hrel;have HO:=qH3 a7 a6 hO;clear a7 a6 hO;by_cases hlt:k<es.length
  .obtain⟨e,he⟩:∃e,es[k]?=some e:=qg hlt;obtain⟨c0,c1,c2,c3,c5⟩:=(HE.below hb hB) k e he;have HG:=qH1 he;clear he;go_wp2_with fail;refine(yRz e.row e.fam e.qual e.val e.ts _).mono ?_;rintro e' w2 ⟨rfl,hb2⟩;have hO2:=(HO.2.2).below hb2 (HO.2.2).lt.2;obtain⟨f,hf⟩:∃f,fs[k]?=some f:=qg (by rw[HO.1];exact hlt);obtain⟨d0,d1,d2,d3,d5⟩:=hO2.at k f hf;simp only[Nat.zero_add]at d0 d1 d2 d3 d5;have aa:=λj=>World.ownsRow.frozenAt hO2 j;have a8:=qH2 hO2 hf;clear hO2 hf c0 c1 c2 c3 c5;refine zY ?_;exact⟨k+1,fs.set k e,qo,by go_num,by rw[length_set];exact HO.1,yM6 HO.2.1 HO.1 HG.out,a8.1.put k f e a8.2,yXb (hb.trans (hb2.mono hb.size)) qr _ _ _ _ _ _ _ _ _ _⟩
  .exact xGd
theorem yO5(a:Option Addr)(cap:Nat)(w:World):
  Calls prog 20 #[.slice a 0 cap] w λe w'=>
   ∃g,e=.returned (xg g 0 0)/\OwnC w' w g 0 []/\Below w w w':=by
 obtain⟨i,hi,a2,a1,a0⟩:=info_parts Tryz.infoCel;have HI:=qH4 hi a2 a1 a0;clear hi a2 a1 a0;go_enter func20,ntmps20;go_wp2_with (at_make;refine wpList_make_full _ rfl _ _ 26 rfl w 70 i _ 5 underlying26 HI.1 HI.2.1 HI.2.2.1 _ _ _ _ 0 rfl rfl ?_ ?_ ?hb ?hm ?hs ?_);case hb=>rw[HI.2.2.2];omega
 case hm=>unfold maxLen;omega
 case hs=>exact Nat.le_refl _
 .rfl
 .rfl
 intro w1 hown hgrow;have HW:Hid (OwnC w1 w w 0 []):=by have h0:=yMd 0;rw[Nat.zero_mul]at h0;rw[h0]at hown;exact hown
 exact xGn
theorem yD9(v:Value)(es:List Ent)(w:World)(h:yEz w v es)(h1:es.length<=1048576):
  Calls prog 20 #[v] w λe w'=>
   ∃g,e=.returned (xg g es.length es.length)/\OwnC w' w g es.length es/\Below w w w':=by
 rcases h with⟨a,cap,rfl,rfl⟩|⟨b,off,cap,rfl,hE,a0,g1,g2⟩
 .exact yO5 a cap w
 .exact yO6 b off cap es w hE a0 g1 g2 h1
end Go.Proofs.YtnnagkfoiganfaaGreatDoor
