import Derived.Test.YtnnagkfoiganfaaGreatDoorFkAA
namespace Go.Proofs.YtnnagkfoiganfaaGreatDoor
open XD XI XU XG XP XK XW XT XF XE XH _root_.List _root_.Nat Go.ChangeShapes Go.WideShapes Go.ChangeAt Go.RowKit Go.Deep Go.Shelf XY Go.Proofs.Tryz
open _root_.Array renaming getElem?_eq_some_iff->AE,getD_eq_getD_getElem?->AJ
open _root_.Bool renaming or_eq_true->AA,and_eq_true->AF,or_false->Af,true_and->Ag,or_true->Aj
open _root_.Go renaming bodyPost_ret->AC,run_endRound->AR,bits_and_u64_nat->AS,wpIn_rangeFunc->AW,run_enterLoop_outer->Ac,LoopState->Al,wpIn_mono->Am,bits_or_u64_nat->Aq,roundIn_of_wpIn->Ar,run_beginRound->Aw,Ending->Ax,CallsIn->A7,Operand->A8
open _root_.Go.Fence renaming wide->AH
open _root_.Go.IntKind renaming wrap_u64->AK,u64->Ad
open _root_.Go.Lib renaming ctz->AG,ctzFrom->As
open _root_.Go.World renaming putObj_heap_other->AM,putObj_heap_same->AV,alloc_heap_new->AY,ownsRow_made->AZ,ownsRow_lit->Aa
open _root_.Go.World.ownsRow renaming cellAt->AL,lt->AO,stored->Ao
open _root_.List renaming length_append->AB,length_singleton->AD,append_assoc->AI,length_cons->AQ,getElem?_eq_none->AT,take_append_drop->AU,mem_cons->AX,drop_eq_getElem_cons->Ab,all_append->Ah,length->An,mem_of_getElem?->Au,length_flatten->Ay,getElem?_map->A9,flatten_cons->BA
open _root_.Nat renaming zero_le->AN,le_refl->AP,testBit_or->Ae,add_assoc->Ai,le_trans->Ak,testBit_two_pow->Ap,and_lt_two_pow->Av,or_lt_two_pow->Az,zero_testBit->A0,testBit_succ->A6
set_option linter.unusedVariables false
set_option linter.unusedSimpArgs false
set_option maxRecDepth 100000
set_option maxHeartbeats 64000000
variable {G:List U8->Prop} {r em:Bool} {x rb g off B o gf l₀:Nat} {Q:Exit->Act->Ww->Prop} {assign:Code} {t:Pat} {c:Int} {wr W:Ww} {R:Ending->Ww->Prop} {args tmps lb:Array Vv} {fn:FuncId} {r₀:Loop}
section
inductive Pls(P:List U8->Prop):List U8->Prop
 |one {x:List U8} (h:P x):Pls P x
 |more {x y:List U8} (h:P x) (k:Pls P y):Pls P (x++y)
def RepL(P:List U8->Prop)(o r:Bool)(x:List U8):Prop:=(o=true/\x= [])\/(if r=true then Pls P x else P x)
mutual
def Lg:Pat->List U8->Prop
 | .byte b=>λx=>x= [b]
 | .cls f=>λx=>∃c,x= [c]/\f c=true
 | .rep t o r=>RepL (Lg t) o r
 | .alt os=>LgA os
def LgA:List (List Pat)->List U8->Prop
 | []=>λ_=>False
 |ts::os=>λx=>LgS ts x\/LgA os x
def LgS:List Pat->List U8->Prop
 | []=>λx=>x= []
 |t::ts=>λx=>∃y z,x=y++z/\Lg t y/\LgS ts z
end
theorem yUg:∀(os:List (List Pat))(x:List U8),LgA os x↔∃ts∈os,LgS ts x
 | [],x=>by simp[LgA]
 |ts::os,x=>by simp[LgA,yUg os x]
mutual
def nulB:Pat->Bool
 | .byte _| .cls _=>false
 | .rep t o _=>o || nulB t
 | .alt os=>nulA os
def nulA:List (List Pat)->Bool
 | []=>false
 |ts::os=>nulS ts || nulA os
def nulS:List Pat->Bool
 | []=>true
 |t::ts=>nulB t && nulS ts
end
abbrev PS:=Nat->Bool
def sOr(F G:PS):PS:=λi=>F i || G i
def sOne(a:Nat):PS:=λi=>i==a
def sNo:PS:=λ_=>false
structure Lay where
 nx:Nat
 fst:PS
 P:PS
 tk:Nat->U8->Bool
 ed:Nat->Nat->Bool
def Lay.no(a:Nat):Lay:=⟨a,sNo,sNo,λ_ _=>false,λ_ _=>false⟩
def Lay.seq(g:Lay)(em nt:Bool)(l:Lay):Lay:=
 ⟨l.nx,if em=true then sOr g.fst l.fst else g.fst,if nt=true then sOr g.P l.P else l.P,λp c=>g.tk p c || l.tk p c,λp q=>g.ed p q || l.ed p q || (g.P p && l.fst q)⟩
def Lay.alt(g l:Lay):Lay:=⟨l.nx,sOr g.fst l.fst,sOr g.P l.P,λp c=>g.tk p c || l.tk p c,λp q=>g.ed p q || l.ed p q⟩
def Lay.rep(l:Lay)(r:Bool):Lay:=⟨l.nx,l.fst,l.P,l.tk,λp q=>l.ed p q || (r && l.P p && l.fst q)⟩
mutual
def lyP:Pat->Nat->Lay
 | .byte b,a=>⟨a+1,sOne a,sOne a,λp c=>p==a && c==b,λ_ _=>false⟩
 | .cls f,a=>⟨a+1,sOne a,sOne a,λp c=>p==a && f c,λ_ _=>false⟩
 | .rep t _ r,a=>(lyP t a).rep r
 | .alt os,a=>lyA os (Lay.no a)
def lyA:List (List Pat)->Lay->Lay
 | [],g=>g
 |ts::os,g=>lyA os (g.alt (lyS ts true (Lay.no g.nx)))
def lyS:List Pat->Bool->Lay->Lay
 | [],_,g=>g
 |t::ts,em,g=>lyS ts (em && nulB t) (g.seq em (nulB t) (lyP t g.nx))
end
inductive Pth(l:Lay):Nat->List U8->Nat->Prop
 |nil (p:Nat):Pth l p [] p
 |step {p p' q:Nat} {c:U8} {xs:List U8} (he:l.ed p p'=true) (ht:l.tk p' c=true) (h:Pth l p' xs q):Pth l p (c::xs) q
def Wd(l:Lay)(x:List U8):Prop:=∃c xs p q,x=c::xs/\l.fst p=true/\l.tk p c=true/\Pth l p xs q/\l.P q=true
structure Spt(a:Nat)(l:Lay):Prop where
 le:a<=l.nx
 fst:∀p,l.fst p=true->a<=p/\p<l.nx
 P:∀p,l.P p=true->a<=p/\p<l.nx
 tk:∀p c,l.tk p c=true->a<=p/\p<l.nx
 ed:∀p q,l.ed p q=true->(a<=p/\p<l.nx)/\a<=q/\q<l.nx
structure Cor(a:Nat)(l:Lay)(P:List U8->Prop)(em:Bool):Prop where
 spt:Spt a l
 wd:∀x,P x↔(x= []/\em=true)\/Wd l x
variable {l:Lay}
variable {a p q:Nat} {xs:List U8}
theorem Pth.in(hs:Spt a l)(h:Pth l p xs q)(hp:a<=p/\p<l.nx):a<=q/\q<l.nx:=by
 induction h with
 |nil p=>exact hp
 |step he ht h ih=>exact ih (hs.ed _ _ he).2
theorem Pth.cat{r:Nat}{ys:List U8}(h:Pth l p xs q)(k:Pth l q ys r):Pth l p (xs++ys) r:=by
 induction h with
 |nil p=>exact k
 |step he ht h ih=>exact .step he ht (ih k)
variable {m:Lay}
theorem Pth.mono(h1:∀p q,l.ed p q=true->m.ed p q=true)(h2:∀p c,l.tk p c=true->m.tk p c=true)(h:Pth l p xs q):Pth m p xs q:=by
 induction h with
 |nil p=>exact .nil p
 |step he ht h ih=>exact .step (h1 _ _ he) (h2 _ _ ht) ih
theorem xK6:¬Wd l []:=fun⟨c,xs,p,q,h,_⟩=>by cases h
variable {P:List U8->Prop}
theorem Cor.nul(h:Cor a l P em):P []↔em=true:=by
 rw[h.wd];constructor
 .rintro(⟨_,q⟩|q)
  .exact q
  .exact(xK6 q).elim
 .exact λq=>.inl ⟨rfl,q⟩
theorem xBr(a:Nat):Cor a (Lay.no a) (λx=>x= []) true:=by
 refine⟨⟨AP _,?_,?_,?_,?_⟩,λx=>?_⟩
 .intro p h;cases h
 .intro p h;cases h
 .intro p c h;cases h
 .intro p q h;cases h
 .constructor
  .exact λh=>.inl ⟨h,rfl⟩
  .rintro(⟨h,_⟩|⟨c,xs,p,q,_,h,_⟩)
   .exact h
   .cases h
theorem xEr(a:Nat):Cor a (Lay.no a) (λ_=>False) false:=by
 refine⟨(xBr a).spt,λx=>?_⟩;constructor
 .exact λh=>h.elim
 .rintro(⟨_,h⟩|⟨c,xs,p,q,_,h,_⟩)
  .cases h
  .cases h
theorem xBq(a:Nat)(f:U8->Bool)(T:Nat->U8->Bool)(hT:∀p c,T p c=(p==a && f c)):Cor a ⟨a+1,sOne a,sOne a,T,λ_ _=>false⟩ (λx=>∃c,x= [c]/\f c=true) false:=by
 refine⟨⟨le_succ _,?_,?_,?_,?_⟩,λx=>?_⟩
 .intro p h;simp[sOne]at h;simp;omega
 .intro p h;simp[sOne]at h;simp;omega
 .intro p c h;simp[hT]at h;simp;omega
 .intro p q h;cases h
 .constructor
  .rintro⟨c,rfl,hc⟩;exact .inr ⟨c,[],a,a,rfl,by simp[sOne],by simp[hT,hc],.nil a,by simp[sOne]⟩
  .rintro(⟨_,h⟩|⟨c,xs,p,q,rfl,h1,h2,h3,_⟩)
   .cases h
   .cases h3 with
    |nil=>simp[hT]at h2;exact⟨c,rfl,h2.2⟩
    |step he _ _=>cases he
section
variable {a:Nat} {g:Lay} {nt:Bool}
theorem yU1(hg:Spt a g)(hl:Spt g.nx l)(h:Pth (g.seq em nt l) p xs q):
  ((g.nx<=p/\p<l.nx)->Pth l p xs q)/\((a<=p/\p<g.nx)->Pth g p xs q\/∃xs1 c xs2 p1 q1,xs=xs1++c::xs2/\Pth g p xs1 p1/\g.P p1=true/\l.fst q1=true/\l.tk q1 c=true/\Pth l q1 xs2 q):=by
 induction h with
 |nil p=>exact⟨λ_=>.nil p,λ_=>.inl (.nil p)⟩
 | @step p p' q c xs he ht h ih=>
   simp only[Lay.seq,AA,AF]at he ht;refine⟨λhp=>?_,λhp=>?_⟩
   .rcases he with(he|he)|he
    .have:=(hg.ed _ _ he).1;omega
    .exact xJm
    .have:=hg.P _ he.1;omega
   .rcases he with(he|he)|he
    .have a0:=(hg.ed _ _ he).2;rcases ht with ht|ht
     .rcases ih.2 a0 with k|⟨xs1,c1,xs2,p1,q1,rfl,k1,k2⟩
      .exact .inl (.step he ht k)
      .exact .inr ⟨c::xs1,c1,xs2,p1,q1,rfl,.step he ht k1,k2⟩
     .have:=hl.tk _ _ ht;omega
    .have:=(hl.ed _ _ he).1;omega
    .have a0:=hl.fst _ he.2;rcases ht with ht|ht
     .have:=hg.tk _ _ ht;omega
     .exact .inr ⟨[],c,xs,p,p',rfl,.nil p,he.1,he.2,ht,ih.1 a0⟩
theorem xLd(h:Pth g p xs q):Pth (g.seq em nt l) p xs q:=h.mono (λp q h=>by simp[Lay.seq,h]) (λp c h=>by simp[Lay.seq,h])
theorem xLc(h:Pth l p xs q):Pth (g.seq em nt l) p xs q:=h.mono (λp q h=>by simp[Lay.seq,h]) (λp c h=>by simp[Lay.seq,h])
theorem xIq(hg:Cor a g G em)(hl:Cor g.nx l P nt):Cor a (g.seq em nt l) (λx=>∃y z,x=y++z/\G y/\P z) (em && nt):=by
 have sg:=hg.spt;have sl:=hl.spt;have a4:=sg.le;have a3:=sl.le;have ff:∀p,(g.seq em nt l).fst p=true↔g.fst p=true\/(em=true/\l.fst p=true):=λp=>by cases em<;>simp[Lay.seq,sOr]
 have fl:∀p,(g.seq em nt l).P p=true↔(nt=true/\g.P p=true)\/l.P p=true:=λp=>by cases nt<;>simp[Lay.seq,sOr]
 refine⟨⟨Ak a4 a3,λp h=>?_,λp h=>?_,λp c h=>?_,λp q h=>?_⟩,λx=>?_⟩
 .show a<=p/\p<l.nx;rcases(ff p).1 h with h|⟨_,h⟩
  .have:=sg.fst p h;omega
  .have:=sl.fst p h;omega
 .show a<=p/\p<l.nx;rcases(fl p).1 h with⟨_,h⟩|h
  .have:=sg.P p h;omega
  .have:=sl.P p h;omega
 .show a<=p/\p<l.nx;simp only[Lay.seq,AA]at h;rcases h with h|h
  .have:=sg.tk p c h;omega
  .have:=sl.tk p c h;omega
 .show(a<=p/\p<l.nx)/\a<=q/\q<l.nx;simp only[Lay.seq,AA,AF]at h;rcases h with(h|h)|⟨h,k⟩
  .have:=sg.ed p q h;omega
  .have:=sl.ed p q h;omega
  .have:=sg.P p h;have:=sl.fst q k;omega
 .constructor
  .rintro⟨y,z,rfl,hy,hz⟩;rcases(hg.wd y).1 hy with⟨rfl,e1⟩|⟨c,xs,p,q,rfl,h1,h2,h3,h4⟩
   .rcases(hl.wd z).1 hz with⟨rfl,e2⟩|⟨c,xs,p,q,rfl,h1,h2,h3,h4⟩
    .exact .inl ⟨rfl,by rw[e1,e2];rfl⟩
    .exact .inr ⟨c,xs,p,q,rfl,(ff p).2 (.inr ⟨e1,h1⟩),by simp[Lay.seq,h2],xLc h3,(fl q).2 (.inr h4)⟩
   .rcases(hl.wd z).1 hz with⟨rfl,e2⟩|⟨c',a2,p',q',rfl,k1,k2,k3,k4⟩
    .exact .inr ⟨c,xs,p,q,by simp,(ff p).2 (.inl h1),by simp[Lay.seq,h2],xLd h3,(fl q).2 (.inl ⟨e2,h4⟩)⟩
    .refine .inr ⟨c,xs++c'::a2,p,q',by simp,(ff p).2 (.inl h1),by simp[Lay.seq,h2],(xLd h3).cat (.step ?_ (by simp[Lay.seq,k2]) (xLc k3)),(fl q').2 (.inr k4)⟩;simp[Lay.seq,h4,k1]
  .rintro(⟨rfl,e⟩|⟨c,xs,p,q,rfl,h1,h2,h3,h4⟩)
   .simp only[AF]at e;exact⟨[],[],rfl,hg.nul.2 e.1,hl.nul.2 e.2⟩
   .simp only[Lay.seq,AA]at h2;rcases(ff p).1 h1 with k1|⟨e1,k1⟩
    .have hp:=sg.fst p k1;have t1:g.tk p c=true:=by
      rcases h2 with h2|h2
      .exact h2
      .have:=sl.tk p c h2;omega
     rcases(yU1 sg sl h3).2 hp with k|⟨a1,c1,a0,p1,q1,rfl,k2,k3,k4,k5,k6⟩
     .have hq:=k.in sg hp;rcases(fl q).1 h4 with⟨e2,h4⟩|h4
      .exact⟨c::xs,[],by simp,(hg.wd _).2 (.inr ⟨c,xs,p,q,rfl,k1,t1,k,h4⟩),hl.nul.2 e2⟩
      .have:=sl.P q h4;omega
     .have hq:=k6.in sl (sl.fst _ k4);rcases(fl q).1 h4 with⟨_,h4⟩|h4
      .have:=sg.P q h4;omega
      .exact⟨c::a1,c1::a0,by simp,(hg.wd _).2 (.inr ⟨c,a1,p,p1,rfl,k1,t1,k2,k3⟩),(hl.wd _).2 (.inr ⟨c1,a0,q1,q,rfl,k4,k5,k6,h4⟩)⟩
    .have hp:=sl.fst p k1;have t1:l.tk p c=true:=by
      rcases h2 with h2|h2
      .have:=sg.tk p c h2;omega
      .exact h2
     have k:=(yU1 sg sl h3).1 hp;have hq:=k.in sl hp;rcases(fl q).1 h4 with⟨_,h4⟩|h4
     .have:=sg.P q h4;omega
     .exact⟨[],c::xs,rfl,hg.nul.2 e1,(hl.wd _).2 (.inr ⟨c,xs,p,q,rfl,k1,t1,k,h4⟩)⟩
theorem yV9(hg:Spt a g)(hl:Spt g.nx l)(h:Pth (g.alt l) p xs q):
  ((g.nx<=p/\p<l.nx)->Pth l p xs q)/\((a<=p/\p<g.nx)->Pth g p xs q):=by
 induction h with
 |nil p=>exact⟨λ_=>.nil p,λ_=>.nil p⟩
 | @step p p' q c xs he ht h ih=>
   simp only[Lay.alt,AA]at he ht;refine⟨λhp=>?_,λhp=>?_⟩
   .rcases he with he|he
    .have:=(hg.ed _ _ he).1;omega
    .exact xJm
   .rcases he with he|he
    .have a0:=(hg.ed _ _ he).2;rcases ht with ht|ht
     .exact .step he ht (ih.2 a0)
     .have:=hl.tk _ _ ht;omega
    .have:=(hl.ed _ _ he).1;omega
theorem xM1(h:Pth g p xs q):Pth (g.alt l) p xs q:=h.mono (λp q h=>by simp[Lay.alt,h]) (λp c h=>by simp[Lay.alt,h])
theorem xM0(h:Pth l p xs q):Pth (g.alt l) p xs q:=h.mono (λp q h=>by simp[Lay.alt,h]) (λp c h=>by simp[Lay.alt,h])
theorem xIs(hg:Cor a g G em)(hl:Cor g.nx l P nt):Cor a (g.alt l) (λx=>G x\/P x) (em || nt):=by
 have sg:=hg.spt;have sl:=hl.spt;have a1:=sg.le;have a0:=sl.le;refine⟨⟨Ak a1 a0,λp h=>?_,λp h=>?_,λp c h=>?_,λp q h=>?_⟩,λx=>?_⟩
 .show a<=p/\p<l.nx;simp only[Lay.alt,sOr,AA]at h;rcases h with h|h
  .have:=sg.fst p h;omega
  .have:=sl.fst p h;omega
 .show a<=p/\p<l.nx;simp only[Lay.alt,sOr,AA]at h;rcases h with h|h
  .have:=sg.P p h;omega
  .have:=sl.P p h;omega
 .show a<=p/\p<l.nx;simp only[Lay.alt,AA]at h;rcases h with h|h
  .have:=sg.tk p c h;omega
  .have:=sl.tk p c h;omega
 .show(a<=p/\p<l.nx)/\a<=q/\q<l.nx;simp only[Lay.alt,AA]at h;rcases h with h|h
  .have:=sg.ed p q h;omega
  .have:=sl.ed p q h;omega
 .constructor
  .rintro(h|h)
   .rcases(hg.wd x).1 h with⟨rfl,e1⟩|⟨c,xs,p,q,rfl,h1,h2,h3,h4⟩
    .exact .inl ⟨rfl,by rw[e1];rfl⟩
    .exact .inr ⟨c,xs,p,q,rfl,by simp[Lay.alt,sOr,h1],by simp[Lay.alt,h2],xM1 h3,by simp[Lay.alt,sOr,h4]⟩
   .rcases(hl.wd x).1 h with⟨rfl,e1⟩|⟨c,xs,p,q,rfl,h1,h2,h3,h4⟩
    .exact .inl ⟨rfl,by rw[e1,Aj]⟩
    .exact .inr ⟨c,xs,p,q,rfl,by simp[Lay.alt,sOr,h1],by simp[Lay.alt,h2],xM0 h3,by simp[Lay.alt,sOr,h4]⟩
  .rintro(⟨rfl,e⟩|⟨c,xs,p,q,rfl,h1,h2,h3,h4⟩)
   .simp only[AA]at e;rcases e with e|e
    .exact .inl (hg.nul.2 e)
    .exact .inr (hl.nul.2 e)
   .simp only[Lay.alt,sOr,AA]at h1 h2 h4;rcases h1 with k1|k1
    .have hp:=sg.fst p k1;have k:=(yV9 sg sl h3).2 hp;have hq:=k.in sg hp;refine .inl ((hg.wd _).2 (.inr ⟨c,xs,p,q,rfl,k1,?_,k,?_⟩))
     .rcases h2 with h2|h2
      .exact h2
      .have:=sl.tk p c h2;omega
     .rcases h4 with h4|h4
      .exact h4
      .have:=sl.P q h4;omega
    .have hp:=sl.fst p k1;have k:=(yV9 sg sl h3).1 hp;have hq:=k.in sl hp;refine .inr ((hl.wd _).2 (.inr ⟨c,xs,p,q,rfl,k1,?_,k,?_⟩))
     .rcases h2 with h2|h2
      .have:=sg.tk p c h2;omega
      .exact h2
     .rcases h4 with h4|h4
      .have:=sg.P q h4;omega
      .exact h4
end
theorem xHl(h:Pth l p xs q):Pth (l.rep r) p xs q:=Pth.mono (l:=l) (m:=l.rep r) (λp q k=>by simp[Lay.rep,k]) (λp c k=>k) h
theorem xDi(h:Pth (l.rep true) p xs q):Pth l p xs q\/∃xs1 c xs2 p1 q1,xs=xs1++c::xs2/\Pth l p xs1 p1/\l.P p1=true/\l.fst q1=true/\l.tk q1 c=true/\Pth (l.rep true) q1 xs2 q:=by
 induction h with
 |nil p=>exact .inl (.nil p)
 | @step p p' q c xs he ht h ih=>
   simp only[Lay.rep,AA,AF,true_and]at he ht;rcases he with he|he
   .rcases ih with k|⟨xs1,c1,xs2,p1,q1,rfl,k1,k2⟩
    .exact .inl (.step he ht k)
    .exact .inr ⟨c::xs1,c1,xs2,p1,q1,rfl,.step he ht k1,k2⟩
   .exact .inr ⟨[],c,xs,p,p',rfl,.nil p,he.1,he.2,ht,h⟩
theorem yP7(hw:∀x,Wd l x->P x):∀(n:Nat){x:List U8},x.length<=n->Wd (l.rep true) x->Pls P x
 |0,x,hn,⟨c,xs,p,q,hx,_⟩=>by subst hx;simp at hn
 |n+1,x,hn,⟨c,xs,p,q,hx,h1,h2,h3,h4⟩=>by
  subst hx
  rcases xDi h3 with k|⟨xs1,c1,xs2,p1,q1,rfl,k1,k2,k3,k4,k5⟩
  .exact .one (hw _ ⟨c,xs,p,q,rfl,h1,h2,k,h4⟩)
  .have e:c::(xs1++c1::xs2)=(c::xs1)++(c1::xs2):=by simp
   rw[e]
   refine .more (hw _ ⟨c,xs1,p,p1,rfl,h1,h2,k1,k2⟩) (yP7 hw n ?_ ⟨c1,xs2,q1,q,rfl,k3,k4,k5,h4⟩)
   simp at hn|-;omega
theorem xIr(h:Cor a l P em)(o r:Bool):Cor a (l.rep r) (RepL P o r) (o || em):=by
 have s:=h.spt;refine⟨⟨s.le,s.fst,s.P,s.tk,λp q k=>?_⟩,λx=>?_⟩
 .simp only[Lay.rep,AA,AF]at k;rcases k with k|⟨⟨_,k1⟩,k2⟩
  .exact s.ed p q k
  .exact⟨s.P p k1,s.fst q k2⟩
 .cases r with
  |false=>
   have e:∀x,Wd (l.rep false) x↔Wd l x:=λx=>by
    have:l.rep false=l:=by simp[Lay.rep]
    rw[this]
   unfold RepL;rw[iA (by decide),e,h.wd];cases o<;>cases em<;>simp
  |true=>
   unfold RepL;rw[iB rfl];constructor
   .rintro(⟨rfl,rfl⟩|k)
    .exact .inl ⟨rfl,rfl⟩
    .induction k with
     |one hx=>
      rcases(h.wd _).1 hx with⟨rfl,e⟩|⟨c,xs,p,q,rfl,h1,h2,h3,h4⟩
      .exact .inl ⟨rfl,by rw[e,Aj]⟩
      .exact .inr ⟨c,xs,p,q,rfl,h1,h2,xHl h3,h4⟩
     | @more x y hx k ih=>
       rcases(h.wd _).1 hx with⟨rfl,e⟩|⟨c,xs,p,q,rfl,h1,h2,h3,h4⟩
       .exact ih
       .rcases ih with⟨rfl,e⟩|⟨c',a0,p',q',rfl,k1,k2,k3,k4⟩
        .exact .inr ⟨c,xs,p,q,by simp,h1,h2,xHl h3,h4⟩
        .refine .inr ⟨c,xs++c'::a0,p,q',by simp,h1,h2,(xHl h3).cat (.step ?_ k2 k3),k4⟩;have a1:l.fst p'=true:=k1;simp[Lay.rep,h4,a1]
   .rintro(⟨rfl,e⟩|k)
    .simp only[AA]at e;rcases e with e|e
     .exact .inl ⟨e,rfl⟩
     .exact .inr (.one (h.nul.2 e))
    .exact .inr (yP7 (λx hx=>(h.wd x).2 (.inr hx)) _ qr k)
theorem Cor.iff{Q:List U8->Prop}(h:Cor a l P em)(hq:∀x,Q x↔P x):Cor a l Q em:=⟨h.spt,λx=>(hq x).trans (h.wd x)⟩
mutual
theorem yTx:∀(t:Pat)(a:Nat),Cor a (lyP t a) (Lg t) (nulB t)
 | .byte b,a=>by
   refine(xBq a (λc=>c==b) _ (λp c=>rfl)).iff (λx=>?_)
   simp[Lg]
 | .cls f,a=>by
   refine(xBq a f _ (λp c=>rfl)).iff (λx=>?_)
   simp[Lg]
 | .rep t o r,a=>by
   have:=xIr (yTx t a) o r
   simp only[lyP,nulB,Lg]
   exact this
 | .alt os,a=>by
   have:=xL5 os a (Lay.no a) _ _ (xEr a)
   simp only[lyP,nulB,Lg]
   refine(show Cor a (lyA os (Lay.no a)) _ (nulA os)from ?_)
   rw[Bool.false_or]at this
   exact this.iff (λx=>by simp)
theorem xL5:∀(os:List (List Pat))(a:Nat)(g:Lay)(G:List U8->Prop)(em:Bool),Cor a g G em->Cor a (lyA os g) (λx=>G x\/LgA os x) (em || nulA os)
 | [],a,g,G,em,h=>by
   simp only[lyA,nulA,LgA,or_false,Af]
   exact h
 |ts::os,a,g,G,em,h=>by
  have h1:=xIt ts g.nx (Lay.no g.nx) _ _ (xBr g.nx)
  rw[Ag]at h1
  have h2:=xL5 os a _ _ _ (xIs h h1)
  simp only[lyA,nulA,LgA,<-Bool.or_assoc]
  refine h2.iff (λx=>?_)
  have e:(∃y z,x=y++z/\y= []/\LgS ts z)↔LgS ts x:=by
   constructor
   .rintro⟨y,z,rfl,rfl,h⟩;exact h
   .exact λh=>⟨[],x,rfl,rfl,h⟩
  rw[e,or_assoc]
theorem xIt:∀(ts:List Pat)(a:Nat)(g:Lay)(G:List U8->Prop)(em:Bool),Cor a g G em->Cor a (lyS ts em g) (λx=>∃y z,x=y++z/\G y/\LgS ts z) (em && nulS ts)
 | [],a,g,G,em,h=>by
   simp only[lyS,nulS,LgS,Bool.and_true]
   refine h.iff (λx=>?_)
   constructor
   .rintro⟨y,z,rfl,hy,rfl⟩;simpa using hy
   .exact λh=>⟨x,[],by simp,h,rfl⟩
 |t::ts,a,g,G,em,h=>by
  have h2:=xIt ts a _ _ _ (xIq h (yTx t g.nx))
  simp only[lyS,nulS,LgS,<-Bool.and_assoc]
  refine h2.iff (λx=>?_)
  constructor
  .rintro⟨y,z,rfl,hy,u,v,rfl,hu,hv⟩;exact⟨y++u,v,by simp,⟨y,u,rfl,hy,hu⟩,hv⟩
  .rintro⟨y,z,rfl,⟨u,v,rfl,hu,hv⟩,hz⟩;exact⟨u,v++z,by simp,hu,v,z,rfl,hv,hz⟩
end
end
def ofB(f:Nat->Bool):Nat->Nat
 |0=>0
 |n+1=>ofB f n |||(if f n=true then 2^n else 0)
theorem yC3(f:Nat->Bool):∀(n j:Nat),(ofB f n).testBit j=(decide (j<n) && f j)
 |0,j=>by simp[ofB]
 |n+1,j=>by
  unfold ofB
  rw[Ae,yC3 f n j]
  by_cases hf:f n=true
  .rw[iB hf,Ap]
   by_cases h:j=n
   .subst h;simp[hf]
   .have h1:decide (n=j)=false:=by simp;omega
    have h2:decide (j<n+1)=decide (j<n):=by rw[decide_eq_decide];omega
    rw[h1,h2];simp
  .rw[iA hf,A0]
   by_cases h:j=n
   .subst h;simp[hf]
   .have h2:decide (j<n+1)=decide (j<n):=by rw[decide_eq_decide];omega
    rw[h2];simp
theorem yZ3(f:Nat->Bool)(n:Nat):ofB f n<2^n:=by
 refine lt_pow_two_of_testBit _ (λi hi=>?_);rw[yC3];have:decide (i<n)=false:=by simp;omega
 rw[this];rfl
variable {n:Nat}
theorem yNg{f:Nat->Bool}(hx:x<2^n)(h:∀j,j<n->x.testBit j=f j):x=ofB f n:=by
 refine eq_of_testBit_eq (λj=>?_);rw[yC3];by_cases hj:j<n
 .rw[h j hj];simp[hj]
 .rw[testBit_lt_two_pow (Nat.lt_of_lt_of_le hx (Nat.pow_le_pow_right qj qo))];simp[hj]
theorem yHl{f g:Nat->Bool}(h:∀j,j<n->f j=g j):ofB f n=ofB g n:=yNg (yZ3 f n) (λj hj=>by rw[yC3,h j hj];simp[hj])
def wdF(S:PS)(i b:Nat):Nat:=ofB (λj=>S (64*i+j) && decide (b<=j)) 64
def wdN(S:PS)(i:Nat):Nat:=ofB (λj=>S (64*i+j)) 64
theorem xCs S (i:Nat):wdF S i 0=wdN S i:=yHl (λj _=>by simp)
theorem yGs S (i:Nat):wdN S i<18446744073709551616:=yZ3 _ 64
theorem xFk S (i b:Nat):wdF S i b<18446744073709551616:=yZ3 _ 64
def sAnd(F G:PS):PS:=λi=>F i && G i
theorem xMl S T (i:Nat):bits .or .u64 (wdN S i:Int) (wdN T i:Int)=((wdN (sOr S T) i:Nat):Int):=by rw[Aq _ _ (yGs _ _) (yGs _ _)];congr 1;refine yNg (Az (yGs _ _) (yGs _ _)) (λj hj=>?_);rw[Ae];unfold wdN;rw[yC3,yC3];simp[hj,sOr]
theorem xK7 S T (i:Nat):bits .and .u64 (wdN S i:Int) (wdN T i:Int)=((wdN (sAnd S T) i:Nat):Int):=by rw[AS _ _ (yGs _ _) (yGs _ _)];congr 1;refine yNg (Av _ (yGs _ _)) (λj hj=>?_);rw[testBit_and];unfold wdN;rw[yC3,yC3];simp[hj,sAnd]
theorem yNo S (a i:Nat) (hi:i=a/64):bits .or .u64 (wdN S i:Int) ((2^(a%64):Nat):Int)=((wdN (sOr S (sOne a)) i:Nat):Int):=by
 have hp:=Nat.pow_lt_pow_right (a:=2) qj (mod_lt a qj:a%64<64);rw[Aq _ _ (yGs _ _) hp];congr 1;refine yNg (Az (yGs _ _) hp) (λj hj=>?_);rw[Ae,Ap];unfold wdN;rw[yC3];have h:decide (a%64=j)=(64*i+j==a):=by rw[Bool.eq_iff_iff,decide_eq_true_eq,beq_iff_eq];omega
 simp only[hj,decide_true,Ag,sOr,sOne,h]
theorem yBg S (a i:Nat) (hi:¬i=a/64):wdN (sOr S (sOne a)) i=wdN S i:=by
 refine yHl (λj hj=>?_);have h:(64*i+j==a)=false:=by rw[iC];omega
 simp only[sOr,sOne,h,Af]
theorem xIc(x:Nat)(h0:x≠0)(hx:x<18446744073709551616):AG 64 x<64/\x.testBit (AG 64 x)=true/\(∀j,j<AG 64 x->x.testBit j=false)/\∀j,(x &&& (x-1)).testBit j=(decide (AG 64 x<j) && x.testBit j):=by
 have⟨m,hm,hk⟩:=Lib.ctzFrom_spec 64 x (by omega) hx;have e:AG 64 x=As 64 x:=by simp[AG,h0]
 rw[e];generalize As 64 x=k at hm hk;have hb:∀j,x.testBit j=(decide (k<=j) && (2*m+1).testBit (j-k)):=λj=>by rw[hm,Nat.mul_comm,testBit_mul_two_pow]
 have hp:0<2^k:=Nat.pow_pos qj;have hd:(x-1)/2^k=2*m:=by
  have h1:x-1=2^k*(2*m)+(2^k-1):=by rw[hm,Nat.mul_add];omega
  rw[h1,mul_add_div hp,div_eq_of_lt (by omega),Nat.add_zero]
 have a0:∀j,k<=j->(x-1).testBit j=(2*m).testBit (j-k):=λj hj=>by rw[<-hd,testBit_div_two_pow];congr 1;omega
 refine⟨hk,by rw[hb];simp,λj hj=>by rw[hb];have:decide (k<=j)=false:=(by simp;omega);rw[this];rfl,λj=>?_⟩
 rw[testBit_and,hb j];by_cases h1:k<=j
 .rw[a0 j h1];by_cases h2:j=k
  .subst h2;simp
  .obtain⟨t,rfl⟩:∃t,j=k+(t+1):=⟨j-k-1,by omega⟩;have e3:k+(t+1)-k=t+1:=by omega
   have e4:decide (k<k+(t+1))=true:=by simp
   have d1:(2*m+1)/2=m:=by omega
   have d2:(2*m)/2=m:=by omega
   rw[e3,e4,A6,A6,d1,d2];simp
 .have h2:decide (k<=j)=false:=by simp;omega
  have h3:decide (k<j)=false:=by simp;omega
  rw[h2,h3];simp
variable {S:PS}
theorem xGy{i b:Nat}(hx:x=wdF S i b)(h0:x≠0):AG 64 x<64/\S (64*i+AG 64 x)=true/\b<=AG 64 x/\(∀j,b<=j->j<AG 64 x->S (64*i+j)=false)/\x &&& (x-1)=wdF S i (AG 64 x+1):=by
 have hl:x<18446744073709551616:=hx▸(xFk _ _ _)
 have⟨h1,h2,h3,h4⟩:=xIc x h0 hl;generalize AG 64 x=k at h1 h2 h3 h4;have hb:∀j,j<64->x.testBit j=(S (64*i+j) && decide (b<=j)):=λj hj=>by rw[hx];unfold wdF;rw[yC3];simp[hj]
 rw[hb k h1,AF,decide_eq_true_eq]at h2;refine⟨h1,h2.1,h2.2,λj hbj hj=>?_,?_⟩
 .have:=h3 j hj;rw[hb j qo]at this;simpa [hbj]using this
 .refine yNg (Av _ qo) (λj hj=>?_);rw[h4 j,hb j hj];by_cases q:k<j
  .have q1:decide (k+1<=j)=true:=by simp;omega
   have q2:decide (b<=j)=true:=by have:=h2.2;simp;omega
   rw[q1,q2];simp[q]
  .have q1:decide (k+1<=j)=false:=by simp;omega
   rw[q1];simp[q]
theorem xCt{i b:Nat}(h:wdF S i b=0)(j:Nat)(hb:b<=j)(hj:j<64):S (64*i+j)=false:=by
 have h1:(wdF S i b).testBit j=(S (64*i+j) && decide (b<=j)):=by unfold wdF;rw[yC3];simp[hj]
 rw[h,A0]at h1;simpa [hb]using h1.symm
theorem ySd(x:Nat)(h0:x≠0)(hx:x<18446744073709551616):bits .and .u64 (x:Int) (IntKind.u64.wrap ((x:Int)-1))=((x &&& (x-1):Nat):Int):=by
 have e1:IntKind.u64.wrap ((x:Int)-1)=((x-1:Nat):Int):=by rw[AK];omega
 rw[e1,AS x _ hx qo]
def psL(S:PS):List Vv:= [.int .u64 (wdN S 0:Int),.int .u64 (wdN S 1:Int),.int .u64 (wdN S 2:Int),.int .u64 (wdN S 3:Int)]
abbrev psV(S:PS):Vv:=.agg #[xu (wdN S 0),xu (wdN S 1),xu (wdN S 2),xu (wdN S 3)]
variable {T:PS}
theorem yDo(h:∀p,p<256->S p=T p){i:Nat}(hi:i<4):wdN S i=wdN T i:=yHl (λj hj=>h _ qo)
theorem yGr(i:Nat):wdN sNo i=0:=by refine(yNg qj (λj _=>?_)).symm;simp[sNo]
theorem xGx{i:Nat}(h:wdN S i=wdN T i)(j:Nat)(hj:j<64):S (64*i+j)=T (64*i+j):=by
 have h1:(wdN S i).testBit j=S (64*i+j):=by unfold wdN;rw[yC3];simp[hj]
 have h2:(wdN T i).testBit j=T (64*i+j):=by unfold wdN;rw[yC3];simp[hj]
 rw[<-h1,<-h2,h]
theorem yPq(h:∀i,i<4->wdN S i=wdN T i)(p:Nat)(hp:p<256):S p=T p:=by have:=xGx (h (p/64) (by omega)) (p%64) (by omega);rwa [show 64*(p/64)+p%64=p by omega]at this
def TabD(w:Ww):Prop:=∀j,j<64->(xk w 1 j (.int .u8 (Lib.deBruijn64tab.getD j 0)):Prop)
variable {w:Ww}
theorem TabD.lt(h:TabD w):1<w.heap.size:=by have h0:=h 0 qo;apply Classical.byContradiction;intro hn;rw[World.cell?,Array.getElem?_eq_none (by simp only;omega)]at h0;simp at h0
theorem xH3(x a:Nat)(hx:x<18446744073709551616)(hx0:x≠0)(hlow:x &&& (18446744073709551616-x)=a):
  IntKind.u64.wrap (bits BinOp.and Ad (x:Int) (IntKind.u64.wrap (-(x:Int)))*285870213051353865)/288230376151711744=((a*285870213051353865%18446744073709551616/288230376151711744:Nat):Int):=by
 have e1:IntKind.u64.wrap (-(x:Int))=((18446744073709551616-x:Nat):Int):=by rw[AK];omega
 rw[e1,AS x _ hx qo,hlow,AK];omega
theorem xMm(x k idx:Nat)(w:Ww)(hx0:((x:Int)==0)=false)
  (key:IntKind.u64.wrap (bits BinOp.and Ad (x:Int) (IntKind.u64.wrap (-(x:Int)))*285870213051353865)/288230376151711744=(idx:Int))
  (hi:idx<64) (hk:k<64) (hcell:(xk w 1 idx (.int .u8 k):Prop)):
  Calls prog 258 #[xu x] w λe w'=>e=.returned (xi k)/\w'=w:=by
 go_enter func258,ntmps258;go_wp2_with (simp only[key]);go_ret;exact⟨rfl,rfl⟩
theorem xG2(x:Nat)(hx:x<18446744073709551616)(hx0:x≠0) w (hT:TabD w):Calls prog 258 #[xu x] w λe w'=>e=.returned (xi (AG 64 x))/\w'=w:=by have⟨a2,hk⟩:=Lib.lowest_bit 64 x hx0 hx;have⟨hi,a1⟩:=Lib.deBruijn64_at _ hk;have a0:=hT _ hi;rw[a1]at a0;exact xMm x _ _ w (by simp;omega) (xH3 x _ hx hx0 a2) hi hk a0
theorem xDn S {k:Nat} (hk:k<4) (w:Ww):(Instr.index 328 (psV S) (xi k)).run prog w=.ok (xu (wdN S k)) w:=by rcases(by omega:k=0\/k=1\/k=2\/k=3)with rfl|rfl|rfl|rfl<;>kernel_rfl
theorem yW9 S (l m:Nat) (hm:1<=m) (J:Nat->Ww->Prop)
  (hY:∀k x W,J k W->k<=x->x<256->S x=true->(∀j,k<=j->j<x->S j=false)->YieldAt AH (m-1) prog l #[xi x] W λe W'=>e=.returned true/\J (x+1) W')
  (hJs:∀k k' W,J k W->k<=k'->(∀j,k<=j->j<k'->S j=false)->J k' W) (hJd:∀k W,J k W->J k W.drew) (hJa:∀k W (o:Obj),J k W->J k (W.alloc o)) (hJt:∀k W,J k W->TabD W) (W:Ww) (h0:J 0 W):
  A7 AH m prog 246 #[psV S,.func (.yield l) #[] #[]] W λe W'=>(∃v,e=.returned v)/\J 256 W':=by
 have aa:Hid (J 0 (xw W (psL S).toArray 328)):=hJa _ _ _ h0;refine callsIn_of_wp func246 rfl trivial ?_ rfl;simp only[ntmps246,size_toArray,AQ,length_nil,Nat.reduceAdd,Nat.reduceSub,Array.replicate_succ,Array.replicate_zero,push_toArray,append_toArray,nil_append,cons_append];gi_wp2;gi_loopw [7] (λiv wr=>∃i:Nat,i<=4/\iv=(xi i)/\J (64*i) wr) (λiv _=>4-(intOf iv).toNat);case atStart=>exact⟨0,by omega,rfl,aa⟩
 case round=>
  obtain⟨i,hi,rfl,a2⟩:=hrel;by_cases hlt:i<4
  .have zi:(i:Int)<4:=by omega
   have ab:=λw=>xDn S hlt w;have a3:Hid (J (64*i) wr):=a2;gi_wp2;gi_loopw [5] (λxv wr=>∃x b:Nat,xv=(xu x)/\Hid (x=wdF S i b)/\b<=64/\Hid (J (64*i+b) wr)) (λxv _=>(intOf xv).toNat);case atStart=>exact⟨wdN S i,0,rfl,(xCs S i).symm,by omega,a3⟩
   case round=>
    obtain⟨x,b,rfl,HX,hb,a0⟩:=hrel;by_cases hx0:x=0
    .subst hx0;have hn:Hid (J (64*(i+1)) wr):=hJs _ _ _ a0 (by omega) (λj h1 h2=>by
      have:=xCt HX.symm (j-64*i) (by omega) (by omega)
      rwa [show 64*i+(j-64*i)=j by omega]at this)
     gi_wp2;go_roundw;case rel=>exact⟨i+1,qo,by go_num,hn⟩
     case measure=>simp[intOf];omega
    .have a5:x<18446744073709551616:=by rw[HX];exact xFk _ _ _
     have⟨h1,h2,h3,h4,h5⟩:=xGy HX hx0;have HT:=xG2 x a5 hx0 wr (hJt _ _ a0);have⟨k,hk⟩:=qE (AG 64 x);rw[<-hk]at h1 h2 h3 h4 h5 HT;have⟨fn,tmps,assign,body,hy,hR⟩:=hY _ (64*i+k) wr a0 qo (by omega) h2 (λj q1 q2=>by
      have:=h4 (j-64*i) (by omega) (by omega)
      rwa [show 64*i+(j-64*i)=j by omega]at this)
     have e0:((64*i+k:Nat):Int)=(i:Int)*64+(k:Int):=by omega
     rw[e0]at hy;have zx:((x:Int)==0)=false:=by simp;omega
     have HN:Hid (x &&& (x-1)=wdF S i (k+1)/\x &&& (x-1)<x):=⟨h5,qw (and_le_right (n:=x) (m:=x-1))⟩;have a1:bits .and .u64 (x:Int) ((x:Int)-1)=((x &&& (x-1):Nat):Int):=by have:=ySd x hx0 a5;rwa [AK,Int.emod_eq_of_lt (by omega) (by omega)]at this
     have a8:Hid (Calls prog 258 #[xu x] wr λe w'=>e=.returned (xi k)/\w'=wr):=HT;have⟨y,a4⟩:=qE (x &&& (x-1));rw[<-a4]at a1 HN;clear HT hk h2 h3 h4 h5 a3 a0 e0 a4;gi_wp2;refine⟨trivial,(callsIn_wide.2 a8).mono ?_⟩;rintro e w' ⟨rfl,a6⟩;rw[a6];gi_wp2;apply hR.mono;rintro e W3 ⟨rfl,a7⟩;have a9:Hid (J (64*i+(k+1)) W3):=a7;gi_wp2_with (simp only[a1]);go_roundw;case rel=>exact⟨y,k+1,by first|rfl|rw[a1],HN.1,by omega,a9⟩
     case measure=>have:=HN.2;simp[intOf,a1];omega
  .obtain rfl:i=4:=by omega
   gi_wp2;go_end0;exact⟨⟨_,rfl⟩,a2⟩
variable {ps:Array Tmp} {body:Code} {a:Act}
theorem yIt{g:A8}(h1:2<=n)(S:PS)
  (hg:a.eval g=.func (.func 246) #[psV S] #[]) (hps:ps.size=1) (I:Nat->Ww->Prop) (hI:OwnFrom w.heap.size I) (hIt:∀k W,I k W->TabD W)
  (hIs:∀k k' W,I k W->k<=k'->(∀j,k<=j->j<k'->S j=false)->I k' W) (h0:I 0 w) (a₁:Nat->Act)
  (hassign:∀(l x:Nat)(W:Ww)(K:Act->Ww->Prop),K (a₁ x) W->assign.wpIn (Fence.wide.inRound l) (n-1-1) prog (Exit.then K (λ_ _ _=>False)) {tmps:=(ps.zip #[.int .i64 (x:Int)]).foldl (λt (p,v)=>t.setIfInBounds p v) a.tmps,defers:= []} W)
  (hbody:∀(l k x:Nat)(W:Ww),I k W->k<=x->x<256->S x=true->(∀j,k<=j->j<x->S j=false)->body.wpIn (Fence.wide.inRound l) (n-1-1) prog (λe _ W'=>e=.normal/\KeepsFrom w W W'/\I (x+1) W') (a₁ x) W)
  (hdone:∀(D:Nat)(W:Ww),w<=D->I 256 W->W.heap[D]?=some (.deferred (some []))->Q .normal {a with defers:={target:=.collected D,args:=#[]}::a.defers} W):
  (Code.rangeFunc g ps assign body).wpIn AH n prog Q a w:=by
 apply AW;intro fn aa;obtain⟨rec,a0⟩:∃rec:Al->Option Code->Loop,rec=λst pe=>{state:=st,pending:=pe,fn,tmps:=a.tmps,params:=ps,assign,body,defers:=w.heap.size}:=⟨_,rfl⟩;obtain⟨W1,a2⟩:∃W1,(w.alloc (.deferred (some []))).alloc (.loop (rec .ready none))=W1:=⟨_,rfl⟩;have ac:W1.heap[w.heap.size+1]?=some (.loop (rec .ready none)):=by rw[<-a2];have:=AY (w.alloc (.deferred (some []))) (.loop (rec .ready none));rwa [World.size_alloc]at this
 have ad:W1.heap[w.heap.size]?=some (.deferred (some [])):=by rw[<-a2];exact(Below.heap_alloc _ _ _ (by simp)).trans (AY w _)
 have ae:I 0 W1:=by rw[<-a2];exact hI.alloc _ (hI.alloc _ h0)
 refine⟨w+1,[{target:=.collected w.heap.size,args:=#[]}],W1,{target:=.fn (.func 246) #[],args:=#[psV S,.func (.yield (w.heap.size+1)) #[] #[]]},W1,246,
  #[psV S,.func (.yield (w.heap.size+1)) #[] #[]],W1,?_,?_,λ_ _=>trivial,?_,λ_=>qo,?_⟩
 .rw[<-a2,a0];exact Ac _ _ _ _ _
 .simp only[resolve,hg];simp[go_sem]
 .simp[invoke,go_sem]
 .have a4:∀(k:Nat){A B:Ww}{row:Option Nat},(I k A/\A.heap[w.heap.size+1]?=some (.loop (rec .ready none))/\A.heap[w.heap.size]?=some (.deferred (some [])))->A.grownBy B none->(I k B/\B.heap[w.heap.size+1]?=some (.loop (rec .ready none))/\B.heap[w.heap.size]?=some (.deferred (some []))):=λk A B row h hgr=>
   ⟨hI k A B none h.1 hgr (λr e=>by cases e),(hgr.block _ (AE.1 h.2.1).1 (by simp)).trans h.2.1,(hgr.block _ (AE.1 h.2.2).1 (by simp)).trans h.2.2⟩
  refine(yW9 S (w.heap.size+1) (n-1) qo (λk W=>I k W/\W.heap[w.heap.size+1]?=some (.loop (rec .ready none))/\W.heap[w.heap.size]?=some (.deferred (some []))) ?_ (λk k' W h q1 q2=>⟨hIs k k' W h.1 q1 q2,h.2⟩) (λk W h=>a4 k (row:=none) h ⟨rfl,rfl,rfl,AP _,λ_ _ _=>rfl⟩) (λk W o h=>a4 k (row:=none) h (World.grownBy_alloc W o none)) (λk W h=>hIt k W h.1) W1 ⟨ae,ac,ad⟩).mono ?_
  .rintro k x W ⟨hi,hl,hk⟩ a7 hx hS ab;have a6:=(AE.1 hl).1;have hy:=run_yield (P:=prog) (args:=#[.int .i64 (x:Int)]) hl (a0▸hps.symm);rw[a0]at hy;refine⟨fn,_,assign,body,hy,Ar aa (hassign _ x W _ ⟨_,Aw hl (by rw[a0]),?_⟩)⟩;have hl2:(W.putObj (w+1) (.loop {rec .ready none with state:=.busy})).heap[w.heap.size+1]?=some (.loop {rec .ready none with state:=.busy}):=AV a6;have a8:(W.putObj (w+1) (.loop {rec .ready none with state:=.busy})).heap[w.heap.size]?=some (.deferred (some [])):=(AM qo).trans hk;apply Am (hbody _ k x _ (hI.putObj _ hi qo hl rfl) a7 hx hS ab);rintro e a3 W3 ⟨rfl,a5,a9⟩;have a1:=a5.same _ _ qo hl2 rfl;have hr:=AR (P:=prog) none a1;rw[a0]at hr a1;refine⟨_,_,hr,rfl,hI.putObj _ a9 qo a1 rfl,?_,(AM qo).trans (a5.same _ _ qr a8 rfl)⟩;rw[a0];exact AV (AE.1 a1).1
  .rintro e W2 ⟨⟨v,rfl⟩,hi,hl,hk⟩;exact⟨none,_,by have:=run_endLoop (P:=prog) hl (by rw[a0];simp);rw[a0]at this;exact this,hdone _ _ qr (hI.putObj _ hi qo hl rfl) ((AM qo).trans hk)⟩
mutual
def wtP:Pat->Nat
 | .byte _| .cls _=>1
 | .rep t _ _=>wtP t
 | .alt os=>wtA os+1
def wtA:List (List Pat)->Nat
 | []=>0
 |ts::os=>wtS ts+1+wtA os
def wtS:List Pat->Nat
 | []=>0
 |t::ts=>wtP t+wtS ts
end
theorem yYk:∀t:Pat,1<=wtP t
 | .byte _| .cls _=>by simp[wtP]
 | .rep t _ _=>by simp only[wtP];exact yYk t
 | .alt os=>by simp[wtP]
theorem yR7:∀ts:List Pat,ts.length<=wtS ts
 | []=>by simp[wtS]
 |t::ts=>by have:=yR7 ts;have:=yYk t;simp only[wtS,AQ];omega
theorem yS:∀os:List (List Pat),os.length<=wtA os
 | []=>by simp[wtA]
 |t::ts=>by have:=yS ts;simp only[wtA,AQ];omega
theorem yR6:∀{ts:List Pat}{t:Pat},t∈ts->wtP t<=wtS ts
 |s::ts,t,h=>by
  rcases AX.1 h with rfl|q
  .simp only[wtS];omega
  .have:=yR6 q;simp only[wtS];omega
theorem yR9:∀{os:List (List Pat)}{ts:List Pat},ts∈os->wtS ts<=wtA os
 |s::os,ts,h=>by
  rcases AX.1 h with rfl|q
  .simp only[wtA];omega
  .have:=yR9 q;simp only[wtA];omega
variable {A:List U8->Pat->Prop} {xs:List U8}
theorem xKy(hA:∀xs t,A xs t->wtP t<=xs.length):RepG A xs t->wtP t<=xs.length
 |⟨ys,ops,a,h1,h2,h3,h4⟩=>by
  have:=hA _ _ h2
  rw[h1,h4]
  split
  .simp;omega
  .simp only[wtP,AB];omega
theorem yYh(hA:∀xs t,A xs t->wtP t<=xs.length):∀{ts:List Pat}{xs:List U8},SeqG A ts xs->wtS ts<=xs.length
 | [],_,h=>by simp[wtS]
 |t::ts,xs,⟨ys,zs,h1,h2,h3⟩=>by
  have:=xKy hA h2
  have:=yYh hA h3
  rw[h1];simp only[wtS,AB];omega
theorem yYj(hA:∀xs t,A xs t->wtP t<=xs.length):∀{os:List (List Pat)}{xs:List U8},AltG A os xs->wtA os<=xs.length+1
 | [],_,h=>h.elim
 | [ts],xs,h=>by have:=yYh hA (ts:=ts) (xs:=xs) h;simp only[wtA];omega
 |ts::t2::os,xs,⟨ys,zs,h1,h2,h3⟩=>by
  have:=yYh hA h2
  have:=yYj hA (os:=t2::os) h3
  rw[h1];rw[show wtA (ts::t2::os)=wtS ts+1+wtA (t2::os)from rfl];simp only[AB,AQ];omega
theorem yYi:∀(n:Nat)(xs:List U8)(t:Pat),yAu n xs t->wtP t<=xs.length
 |0,_,_,h=>h.elim
 |n+1,xs,t,h=>by
  rcases h with⟨c,rfl,_,rfl⟩|⟨rfl,rfl⟩|⟨c,rfl,rfl⟩|⟨ys,os,rfl,h2,rfl⟩|⟨p,i,k,f,h1,h2,rfl,rfl⟩
  .simp[wtP]
  .simp[wtP]
  .simp[wtP]
  .have:=yYj (λxs t q=>yYi n xs t q) h2
   simp only[wtP,AB,AQ,length_nil];omega
  .have hg:=yBk h2
   rw[yA5 hg.2];simp only[wtP];omega
mutual
theorem nx_P:∀(t:Pat)(a:Nat),(lyP t a).nx<=a+wtP t
 | .byte _,a| .cls _,a=>by simp[lyP,wtP]
 | .rep t _ _,a=>by simp only[lyP,wtP,Lay.rep];exact nx_P t a
 | .alt os,a=>by have:=nx_A os (Lay.no a);simp only[lyP,wtP,Lay.no]at*;omega
theorem nx_A:∀(os:List (List Pat))(g:Lay),(lyA os g).nx<=g.nx+wtA os
 | [],g=>by simp[lyA,wtA]
 |ts::os,g=>by
  have h1:=nx_A os (g.alt (lyS ts true (Lay.no g.nx)))
  have h2:=nx_S ts true (Lay.no g.nx)
  simp only[lyA,wtA,Lay.alt,Lay.no]at*;omega
theorem nx_S:∀(ts:List Pat)(em:Bool)(g:Lay),(lyS ts em g).nx<=g.nx+wtS ts
 | [],em,g=>by simp[lyS,wtS]
 |t::ts,em,g=>by
  have h1:=nx_S ts (em && nulB t) (g.seq em (nulB t) (lyP t g.nx))
  have h2:=nx_P t g.nx
  simp only[lyS,wtS,Lay.seq]at*;omega
end
theorem yCp{x c:U8}(h:¬x=c):¬(x.toNat:Int)=(c.toNat:Int):=λq=>h (UInt8.toNat_inj.1 qo)
theorem yEn(p:Ba)(i:Nat) w (hp:p.size<=200) (hi:i<=300) (c:U8) (k:Nat) (b:Bool) (h:chM (sb p) i=(c,k,b)):
  Calls prog 186 #[p,xi i] w λe w'=>e=.returned (.tuple #[.int .u8 (c.toNat:Int),xi k,b])/\w'=w:=by
 have HM:=qH1 h;by_cases hlt:i<p.size
 .obtain⟨x,hx⟩:∃x,(sb p)[i]?=some x:=qg (by rw[yAd];exact hlt);have⟨_,gx⟩:=yA9 hx;have z1:(i:Int)<(p.size:Int):=qo
  have a1:¬p.size<=i:=qo
  have HX:=qH1 hx;by_cases hend:x=93\/x=45
  .have HF:c=0/\k=i/\b=false:=by
    have h1:chM (sb p) i=(0,i,false):=by unfold chM;rw[HX.out];simp only[];rw[iB hend]
    rw[HM.out]at h1;simpa using h1
   obtain⟨rfl,rfl,rfl⟩:=HF;rcases hend with rfl|rfl;all_goals go_enter func186,ntmps186
   all_goals go_wp2
   all_goals refine AC (v:=.tuple #[.int .u8 0,xi k,false]) (by simp[results,results186,go_sem]) rfl ⟨rfl,rfl⟩
  have a2:((x.toNat:Int)==93)=false:=iC.2 (yCp (c:=93) (λq=>hend (.inl q)));have a3:((x.toNat:Int)==45)=false:=iC.2 (yCp (c:=45) (λq=>hend (.inr q)));by_cases h92:x=92
  .subst h92;by_cases hl2:i+1<p.size
   .obtain⟨y,hy⟩:∃y,(sb p)[i+1]?=some y:=qg (by rw[yAd];exact hl2);obtain⟨_,gy⟩:=yA9 hy;have HF:c=y/\k=i+2/\b=true:=by
     have h1:chM (sb p) i=(y,i+2,true):=by rw[yPd HX.out,hy]
     rw[HM.out]at h1;simpa using h1
    obtain⟨rfl,rfl,rfl⟩:=HF;have z2:(i:Int)+1<(p.size:Int):=qo
    clear hy;go_enter func186,ntmps186;go_wp2;refine AC (v:=.tuple #[.int .u8 (c.toNat:Int),xi (i+2:Nat),true]) (by simp[results,results186,go_sem]) rfl ⟨rfl,rfl⟩
   .have HF:c=0/\k=i+1/\b=false:=by
     have h1:chM (sb p) i=(0,i+1,false):=by rw[yPd HX.out,AT (by rw[yAd];omega)]
     rw[HM.out]at h1;simpa using h1
    obtain⟨rfl,rfl,rfl⟩:=HF;have z2:¬(i:Int)+1<(p.size:Int):=qo
    go_enter func186,ntmps186;go_wp2;refine AC (v:=.tuple #[.int .u8 0,xi (i+1:Nat),false]) (by simp[results,results186,go_sem]) rfl ⟨rfl,rfl⟩
  .have a0:((x.toNat:Int)==92)=false:=iC.2 (yCp (c:=92) h92);have HF:c=x/\k=i+1/\b=true:=by
    have h1:chM (sb p) i=(x,i+1,true):=by unfold chM;rw[HX.out];simp only[];rw[iA hend,iA h92]
    rw[HM.out]at h1;simpa using h1
   obtain⟨rfl,rfl,rfl⟩:=HF;go_enter func186,ntmps186;go_wp2;refine AC (v:=.tuple #[.int .u8 (c.toNat:Int),xi (i+1:Nat),true]) (by simp[results,results186,go_sem]) rfl ⟨rfl,rfl⟩
 .have HF:c=0/\k=i/\b=false:=by have h1:chM (sb p) i=(0,i,false):=yT2 (AT (by rw[yAd];omega));rw[HM.out]at h1;simpa using h1
  obtain⟨rfl,rfl,rfl⟩:=HF;have z1:¬(k:Int)<(p.size:Int):=qo
  have z2:(p.size:Int)<=(k:Int):=qo
  go_enter func186,ntmps186;go_wp2;refine AC (v:=.tuple #[.int .u8 0,xi k,false]) (by simp[results,results186,go_sem]) rfl ⟨rfl,rfl⟩
theorem yCt(c:U8) w:Calls prog 142 #[.int .u8 (c.toNat:Int)] w λe w'=>e=.returned (decide (isOp c))/\w'=w:=by
 by_cases h42:c=42
 .subst h42;exact xGo
 by_cases h43:c=43
 .subst h43;exact xGo
 by_cases h63:c=63
 .subst h63;exact xGo
 have z1:((c.toNat:Int)==42)=false:=iC.2 (yCp (c:=42) h42);have z2:((c.toNat:Int)==43)=false:=iC.2 (yCp (c:=43) h43);have z3:((c.toNat:Int)==63)=false:=iC.2 (yCp (c:=63) h63);have H:Hid (decide (isOp c)=false):=decide_eq_false (λq=>q.elim h42 (λq=>q.elim h43 h63));go_enter func142,ntmps142;go_wp2;go_ret;exact⟨by rw[H.out];(first|rfl|simp[z3]),rfl⟩
variable {j:Nat}
theorem xF7{p:List U8}{b:Bool}{f:U8->Bool}(hj:j<=p.length)(h:¬(p[j]?=some 93/\b=true)):clsM p j b f=match yB2 p j with| .inr e=>.inr e| .inl (a,b,k)=>clsM p k true (wider f a b):=by
 cases b
 .exact yLj hj
 .exact yPb hj (λq=>h ⟨q,rfl⟩)
def xMe(p:Ba)(i:Nat)(e:Ax):Prop:=
 (∃f k,yAw (sb p) i=.inl (f,k)/\e=.returned (.tuple #[xi k,.agg #[xi 0,xi 0]]))\/(∃c k,yAw (sb p) i=.inr (c,k)/\e=.returned (.tuple #[xi 0,.agg #[xi c,xi k]]))
variable {O:Nat}
theorem yCh{x y z:Vv}(hx:a.tmps.getD 4 undef=x)(ht:a.tmps.getD 5 undef=(xp rb))(he:yA w O 158 2 rb [y,z]):
  (results Tryz.f143 a.tmps).run prog w=.ok (.tuple #[x,.agg #[y,z]]) w:=by
 have⟨q0,q1⟩:=he.c2;have h1:a.tmps[4]?.getD undef=x:=by rw[<-AJ];exact hx
 have h2:a.tmps[5]?.getD undef=(xp rb):=by rw[<-AJ];exact ht
 simp[results,results143,go_sem,h1,h2,q0,q1]
theorem yI3(p:Ba)(i:Nat)(w:Ww)(hp:p.size<=200)(hi:i<p.size):
  Calls prog 143 #[p,xi i] w λe w'=>xMe p (i+1) e/\Below w w w':=by
 have⟨W0,a2⟩:=qE (xw w #[xi 0,xi 0] 158:Ww);have a1:Hid (yA W0 w 158 2 w [xi 0,xi 0]/\Below w w W0):=a2▸⟨yAa w _ qr rfl,qB⟩
 have HS:Hid (∀a b:Vv,yA (xt (W0.setCell (xd w 0) a) w 1 b) w 158 2 w [a,b]/\Below w w (xt (W0.setCell (xd w 0) a) w 1 b)):=λa b=>⟨(a1.1.set 0 a).set 1 b,yAb (yAb a1.2 qr 0 _) qr 1 _⟩;have⟨r0,r1⟩:=a1.1.c2;have⟨f0,f1⟩:=a1.1.f2;obtain⟨ng,j0,a4,hj0,a3⟩:∃(ng:Bool)(j0:Nat),j0=(if ng=true then i+2 else i+1)/\j0<=p.size/\(yCw (sb p) (i+1) ng j0 false (λ_=>false)/\(ng=true↔(sb p)[i+1]?=some 94)):=by
  by_cases hx:(sb p)[i+1]?=some 94
  .refine⟨true,i+2,rfl,by have:=yAt hx;rw[yAd]at this;omega,?_,⟨λ_=>hx,λ_=>rfl⟩⟩;unfold yCw yAw;rw[iB hx];rfl
  .refine⟨false,i+1,rfl,qo,?_,⟨λq=>(by cases q),λq=>absurd q hx⟩⟩;unfold yCw yAw;rw[iA hx];generalize clsM (sb p) (i+1) false (λ_=>false)=r;cases r<;>rfl
 have HM0:=qH1 a3.1;have HNG:=qH1 a3.2;have HJ0:=qH1 a4;clear a3 a4;go_enter func143,ntmps143;go_upto_region 1 with fail;rw[<-a2];clear a2;by_cases hi1:i+1<p.size
 .obtain⟨x0,a0⟩:∃x,(sb p)[i+1]?=some x:=qg (by rw[yAd];exact hi1);obtain⟨_,a8⟩:=yA9 a0;have a5:(i:Int)+1<(p.size:Int):=qo
  cases ng
  .have a7:((x0.toNat:Int)==94)=false:=iC.2 (yCp (c:=94) (λq=>by have h1:=HNG.2 (by rw[a0,q]);cases h1));clear a0;exact zzQ1
  .have a6:x0=94:=by have h1:=HNG.1 rfl;rw[a0]at h1;exact Option.some.inj h1
   subst a6;clear a0;go_wp2_with fail;go_loopw[6,7] (λjv nv wr=>∃(j n:Nat)(f:U8->Bool),j<=p.size/\n<=j/\jv=(xi j)/\nv=(xi n)/\yCw (sb p) (i+1) true j (decide (0<n)) f/\wr=W0) (λjv _ _=>p.size-(intOf jv).toNat);case atStart=>exact⟨j0,0,λ_=>false,hj0,AN _,congrArg (Value.int .i64) (by rw[HJ0.out];simp<;>omega),rfl,HM0.out,rfl⟩
   case round=>
    obtain⟨j,n,f,hj,hnj,rfl,rfl,hE,hwr⟩:=hrel;have HE:=qH1 hE;rw[hwr];clear hE hwr HM0 HJ0 HNG;by_cases hlt:j<p.size
    .obtain⟨x,hx⟩:∃x,(sb p)[j]?=some x:=qg (by rw[yAd];exact hlt);obtain⟨_,gx⟩:=yA9 hx;have HX:=qH1 hx;have zj:(j:Int)<(p.size:Int):=qo
     clear hx;by_cases hend:x=93/\0<n
     .obtain⟨rfl,hn0⟩:=hend;have zn:(0:Int)<(n:Int):=qo
      have HF:Hid (∃f',yAw (sb p) (i+1)=.inl (f',j+1)):=by refine⟨if true=true then λc=> !f c else f,?_⟩;rw[HE.eq,decide_eq_true hn0,yPa HX.out]
      obtain⟨f',hf'⟩:=HF.out;have HF':=qH1 hf';clear hf' HF;go_wp2_with fail;exact AC (v:=.tuple #[xi (j+1:Nat),.agg #[xi 0,xi 0]]) (yCh rfl rfl (HS.out (xi 0) (xi 0)).1) rfl ⟨.inl ⟨f',j+1,HF'.out,rfl⟩,(HS.out (xi 0) (xi 0)).2⟩
     .have HG:Hid (clsM (sb p) j (decide (0<n)) f=match yB2 (sb p) j with| .inr e=>.inr e| .inl (a,b,k)=>clsM (sb p) k true (wider f a b)):=xF7 (by rw[yAd];omega) (λq=>hend ⟨by have h1:=q.1;rw[HX.out]at h1;exact Option.some.inj h1,by simpa using q.2⟩);obtain⟨lo,k,b,hch⟩:∃lo k b,chM (sb p) j=(lo,k,b):=⟨_,_,_,rfl⟩;have HCh:=qH1 hch;have hkl:b=true->k<=p.size/\j<k:=λq=>by subst q;have:=yFi hch;rw[yAd]at this;omega
      clear hch;have hpick:((x.toNat:Int)==93)=false\/(¬(0:Int)<(n:Int)):=by
       by_cases h93:x=93
       .exact .inr (λq=>hend ⟨h93,qo⟩)
       .exact .inl (iC.2 (yCp (c:=93) h93))
      clear hend;have hpk:(((x.toNat:Int)==93)=false)\/(((x.toNat:Int)==93)=true/\n=0):=by
       rcases hpick with q|q
       .exact .inl q
       .cases hq:((x.toNat:Int)==93)
        .exact .inl rfl
        .exact .inr ⟨rfl,qo⟩
      clear hpick;rcases hpk with h93|⟨h93,hn0⟩;case' inr=>
       have zn:¬(0:Int)<(n:Int):=qo
       clear hn0
      all_goals
       go_wp2_with fail
       refine(yEn p j W0 hp qo lo k b HCh.out).mono ?_
       rintro e w1 ⟨rfl,hw1⟩
       rw[hw1]
       clear hw1
       cases b
       case false=>
        have HF:Hid (yAw (sb p) (i+1)=.inr (2,k)):=by show yAw (sb p) (i+1)=_;rw[HE.eq,HG.out];unfold yB2;rw[HCh.out]
        go_wp2_with fail;exact AC (v:=.tuple #[xi 0,.agg #[xi 2,xi k]]) (yCh rfl rfl (HS.out (xi 2) (xi k)).1) rfl ⟨.inr ⟨2,k,HF.out,rfl⟩,(HS.out (xi 2) (xi k)).2⟩
       obtain⟨hks,hjk⟩:=hkl rfl
       clear hkl
       by_cases h45:(sb p)[k]?=some 45
       .obtain⟨hk2,gk⟩:=yA9 h45;have HK:=qH1 h45;have zk:(k:Int)<(p.size:Int):=qo
        obtain⟨hh,m,b2,hch2⟩:∃hh m b2,chM (sb p) (k+1)=(hh,m,b2):=⟨_,_,_,rfl⟩;have HCh2:=qH1 hch2;have hml:b2=true->m<=p.size/\k<m:=λq=>by subst q;have:=yFi hch2;rw[yAd]at this;omega
        clear hch2 h45;go_wp2_with fail;refine(yEn p (k+1) W0 hp qo hh m b2 HCh2.out).mono ?_;rintro e w2 ⟨rfl,hw2⟩;rw[hw2];clear hw2;cases b2
        .have HF:Hid (yAw (sb p) (i+1)=.inr (2,m)):=by show yAw (sb p) (i+1)=_;rw[HE.eq,HG.out];unfold yB2;rw[HCh.out];simp only[];rw[iB HK.out,HCh2.out]
         go_wp2_with fail;exact AC (v:=.tuple #[xi 0,.agg #[xi 2,xi m]]) (yCh rfl rfl (HS.out (xi 2) (xi m)).1) rfl ⟨.inr ⟨2,m,HF.out,rfl⟩,(HS.out (xi 2) (xi m)).2⟩
        .obtain⟨hms,hkm⟩:=hml rfl;clear hml;by_cases hlo:hh<lo
         .have zlo:(hh.toNat:Int)<(lo.toNat:Int):=by have:=UInt8.lt_iff_toNat_lt.1 hlo;omega
          have HF:Hid (yAw (sb p) (i+1)=.inr (4,j)):=by show yAw (sb p) (i+1)=_;rw[HE.eq,HG.out];unfold yB2;rw[HCh.out];simp only[];rw[iB HK.out,HCh2.out];simp only[];rw[iB hlo]
          go_wp2_with fail;exact AC (v:=.tuple #[xi 0,.agg #[xi 4,xi j]]) (yCh rfl rfl (HS.out (xi 4) (xi j)).1) rfl ⟨.inr ⟨4,j,HF.out,rfl⟩,(HS.out (xi 4) (xi j)).2⟩
         .have zlo:(lo.toNat:Int)<=(hh.toNat:Int):=by have:=UInt8.le_iff_toNat_le.1 (UInt8.not_lt.1 hlo);omega
          have HF:Hid (yCw (sb p) (i+1) true m true (wider f lo hh)):=by show yCw _ _ _ _ _ _;unfold yCw;rw[HE.eq,HG.out];unfold yB2;rw[HCh.out];simp only[];rw[iB HK.out,HCh2.out];simp only[];rw[iA hlo]
          clear hlo;go_wp2;go_roundw;case rel=>exact⟨m,n+1,wider f lo hh,hms,qo,rfl,by go_num,by rw[decide_eq_true (succ_pos n)];exact HF.out,trivial⟩
          case measure=>simp[intOf];omega
       .have HK:=qH1 h45;have HF:Hid (yCw (sb p) (i+1) true k true (wider f lo lo)):=by show yCw _ _ _ _ _ _;unfold yCw;rw[HE.eq,HG.out];unfold yB2;rw[HCh.out];simp only[];rw[iA HK.out]
        clear h45;by_cases hke:k<p.size
        .obtain⟨y,hy⟩:∃y,(sb p)[k]?=some y:=qg (by rw[yAd];exact hke);obtain⟨_,gy⟩:=yA9 hy;have zk:(k:Int)<(p.size:Int):=qo
         have zy:((y.toNat:Int)==45)=false:=iC.2 (yCp (c:=45) (λq=>HK.out (by rw[hy,q])));clear hy;exact xJv
        .have zk:¬(k:Int)<(p.size:Int):=qo
         exact xJv
    .have HF:Hid (yAw (sb p) (i+1)=.inr (2,p.size)):=by show yAw (sb p) (i+1)=_;rw[HE.eq,clsM,dif_neg (by rw[yAd];exact hlt),yAd]
     have zj:¬(j:Int)<(p.size:Int):=qo
     go_wp2_with fail;exact AC (v:=.tuple #[xi 0,.agg #[xi 2,xi p.size]]) (yCh rfl rfl (HS.out (xi 2) (xi p.size)).1) rfl ⟨.inr ⟨2,p.size,HF.out,rfl⟩,(HS.out (xi 2) (xi p.size)).2⟩
 .have a5:¬(i:Int)+1<(p.size:Int):=qo
  cases ng
  case true=>exact absurd (HNG.1 rfl) (by rw[AT (by rw[yAd];omega)];exact λq=>by cases q)
  exact zzQ1
def OwnY(w:Ww)(O g cp:Nat)(xs:List U8):Prop:=w.ownsRow O 5 1 (xg g xs.length cp) xs.length (xs.map ub)
variable {cp:Nat}
theorem OwnY.lt(h:OwnY w O g cp xs):O<=g/\g<w.heap.size:=AO h g rfl
variable {w':Ww}
theorem OwnY.i{S:Nat->Prop}(h:OwnY w O g cp xs)(hc:Chg S w w')(hn:¬S g):OwnY w' O g cp xs:=yAh h hc (λk q=>by simp[Value.ownBlock]at q;subst q;exact hn)
theorem OwnY.k(h:OwnY w O g cp xs)(hb:Below w w w'):OwnY w' O g cp xs:=h.i (Chg.h hb) (S:=λ_=>False) (λq=>q)
theorem OwnY.at(h:OwnY w O g cp xs):xI7 w g 0 xs:=by intro k x hx;have hk:=qf hx;rw[Nat.zero_add,AL h k qo,A9,hx];rfl
theorem xK8(xs:List U8):∀u∈xs.map ub,u.oneCell'=true:=by intro u hu;obtain⟨r,_,rfl⟩:=List.mem_map.1 hu;rfl
theorem Tryz.infoByte:(prog.info? 5).map (λi=>(i.zero,i.size,i.bytes))=some (some (.int .u8 0),1,1):=qk
theorem xMz:ApT 22 5 1 (λl=>l.map ub) OwnY xI7:=⟨⟨underlying22,_,_,Tryz.infoByte,rfl,qj,qj⟩,λ_ _=>map_append,λ_=>by simp,Iff.rfl,λh=>⟨λj u hu=>by
 rw[A9]at hu;obtain⟨r,hr,rfl⟩:=Option.map_eq_some_iff.1 hu;exact h j r hr,xK8 _⟩⟩
theorem xDs(w:Ww)(hb:O<=w.heap.size):OwnY (xw w #[] 5) O w 0 []:=
 AZ w #[] 0 hb (AN _) (by simp)
theorem xDr(w:Ww)(hb:O<=w.heap.size)(x:U8){v:Int}(hv:v=(x.toNat:Int)):OwnY (xw w #[.int .u8 v] 5) O w 1 [x]:=by subst hv;exact Aa w #[ub x] 1 hb qj rfl
section
structure Nd where
 f:Int
 s:Ba
 hi:Bool
 t:Ba
 lo:Int
 up:Int
 n:Int
def yAk(k:Int):Nat:=if k=14\/k=15 then 2 else if k=16 then 3 else 0
theorem yGj(k:Int):yAk k<=3:=by unfold yAk;split<;>(try split)<;>omega
inductive IsT:Nat->List Nd->Prop
 |nil:IsT 0 []
 |snoc {k:Nat} {xs:List Nd} (n:Nd) (h:IsT (k+yAk n.f) xs):IsT (k+1) (xs++ [n])
variable {xs ys:List Nd}
theorem IsT.inv_snoc{k:Nat}{n:Nd}(h:IsT k ys)(e:ys=xs++ [n]):∃j,k=j+1/\IsT (j+yAk n.f) xs:=by
 cases h with
 |nil=>simp at e
 |snoc m h=>
  have:=append_inj' e rfl;obtain⟨rfl,h2⟩:=this;simp at h2;subst h2;exact⟨_,rfl,h⟩
theorem IsT.zero(h:IsT 0 xs):xs= []:=by
 cases h with
 |nil=>rfl
theorem IsT.X{k:Nat}(h:IsT k xs):k<=xs.length:=by
 induction h with
 |nil=>exact AP _
 |snoc n h ih=>simp;omega
inductive Sc:Nat->List Nd->Prop
 |nil:Sc 1 []
 |cons {m:Nat} {ys:List Nd} (n:Nd) (h:Sc (m+1) ys):Sc (m+yAk n.f) (n::ys)
theorem Sc.inv{m:Nat}{n:Nd}(h:Sc m (n::ys)):∃q,m=q+yAk n.f/\Sc (q+1) ys:=by
 cases h with
 |cons _ h=>exact⟨_,rfl,h⟩
theorem Sc.one:∀{ys:List Nd}{m k:Nat},Sc m ys->Sc k ys->m=k
 | [],_,_,.nil,.nil=>rfl
 |n::ys,m,k,h,g=>by
  obtain⟨a,rfl,ha⟩:=h.inv
  obtain⟨b,rfl,hb⟩:=g.inv
  have:=Sc.one ha hb
  omega
theorem Sc.tree:∀{ys:List Nd}{m:Nat},Sc m ys->∀{pre:List Nd},IsT m pre↔IsT 1 (pre++ys)
 | [],_,.nil,pre=>by simp
 |n::ys,m,h,pre=>by
  obtain⟨q,rfl,hq⟩:=h.inv
  have ih:=Sc.tree hq (pre:=pre++ [n])
  rw[AI]at ih
  rw[show pre++n::ys=pre++([n]++ys)from rfl,<-ih]
  constructor
  .intro h;exact .snoc n h
  .intro h
   have⟨j,hj,h2⟩:=h.inv_snoc rfl
   rw[show q=j by omega];exact h2
theorem IsT.sc{b:List Nd}(h:IsT j b):∀{m:Nat}{ys:List Nd},Sc (m+j) ys->Sc m (b++ys):=by
 induction h with
 |nil=>intro m ys h;exact h
 | @snoc k xs n h ih=>
   intro m ys hs;rw[AI];apply ih;show Sc (m+(k+yAk n.f)) (n::ys);rw[<-Ai];exact .cons n hs
theorem IsT.sc0{b:List Nd}(h:IsT 1 b):Sc 0 b:=by have:=h.sc (m:=0) (ys:= []) .nil;simpa using this
theorem yNs{i:Nat}(hi:IsT 1 (xs.drop i))(hj:IsT 1 (xs.drop j))(hij:i<=j)(hjl:j<=xs.length):i=j:=by
 have h0:=hj.sc0;have e:xs.drop i=(xs.drop i).take (j-i)++xs.drop j:=by
  conv=>lhs;rw[<-AU (j-i) (xs.drop i)]
  rw[drop_drop,show i+(j-i)=j by omega]
 rw[e]at hi;have h1:=(h0.tree.2 hi).zero;have h2:=congrArg An h1;simp at h2;omega
theorem xHa:∀{i m:Nat},Sc (m+1) (xs.drop i)->∀j,i<=j->j<=xs.length->¬IsT 1 (xs.drop j):=by
 intro i m h j hij a0 ht;obtain⟨d,rfl⟩:∃d,j=i+d:=⟨j-i,by omega⟩;clear hij;induction d generalizing i m with
 |zero=>have:=h.one ht.sc0;omega
 |succ d ih=>
  rw[Ab (by omega)]at h;have⟨q,_,hq⟩:=h.inv;exact ih (i:=i+1) (m:=q) hq (by omega) (by rw[show i+1+d=i+(d+1)by omega];exact ht)
structure yAx where
 valid:Bool
 f:Int
 nest:Nat
def yBz(k:Int):Nat:=if k=15 then 1 else if k=14 then 2 else 3
def yBn(op:Int)(i:Nat)(kid:Int):Bool:=decide (op=16) || (if i=0 then decide (yBz kid<yBz op)else decide (yBz kid<=yBz op))
def yAq(op:Int):Nat->Nat->List yAx->Nat
 |_,a,[]=>a
 |i,a,o::os=>yAq op (i+1) (max a (o.nest+if yBn op i o.f then 1 else 0)) os
variable (G:Nd->Bool)
def yA6(n:Nd)(os:List yAx):yAx:=⟨G n && os.all (·.valid),n.f,yAq n.f 0 0 os⟩
def yWk(st:List yAx)(n:Nd):Option (List yAx):=
 if st.length<yAk n.f then none else some (st.take (st.length-yAk n.f)++ [yA6 G n (st.drop (st.length-yAk n.f))])
def yDh(st:List yAx):List Nd->Option (List yAx)
 | []=>some st
 |n::ns=>match yWk G st n with
  |none=>none
  |some st'=>yDh st' ns
theorem yFw(st:List yAx) xs ys:yDh G st (xs++ys)=(yDh G st xs).bind (λs=>yDh G s ys):=by
 induction xs generalizing st with
 |nil=>rfl
 |cons x xs ih=>
  simp only[cons_append,yDh];cases yWk G st x with
  |none=>rfl
  |some s=>exact ih s
inductive ShT:List yAx->List Nd->Prop
 |nil:ShT [] []
 |snoc {ss os:List yAx} {xs:List Nd} (n:Nd) (ho:os.length=yAk n.f) (h:ShT (ss++os) xs):ShT (ss++ [yA6 G n os]) (xs++ [n])
theorem IsT.shapes{k:Nat}(h:IsT k xs):∃ss,ss.length=k/\ShT G ss xs:=by
 induction h with
 |nil=>exact⟨[],rfl,.nil⟩
 | @snoc k xs n h ih=>
   have⟨ss,hl,hs⟩:=ih;refine⟨ss.take k++ [yA6 G n (ss.drop k)],by simp;omega,.snoc n (by simp;omega) ?_⟩;rw[AU];exact hs
variable {ss:List yAx}
theorem ShT.tree(h:ShT G ss xs):IsT ss.length xs:=by exact xJ3
theorem ShT.fold(h:ShT G ss xs):∀st,yDh G st xs=some (st++ss):=by
 induction h with
 |nil=>intro st;simp[yDh]
 | @snoc ss os xs n ho h ih=>
   intro st;rw[yFw,ih];simp only[Option.bind_some,yDh,yWk];rw[iA (by simp;omega)];have hl:(st++(ss++os)).length-yAk n.f=(st++ss).length:=by simp;omega
   rw[hl,<-AI,take_left,drop_left,AI]
theorem yRb:∀{xs pre:List Nd}{st ss:List yAx},ShT G st pre->yDh G st xs=some ss->ShT G ss (pre++xs)
 | [],pre,st,ss,h,e=>by simp[yDh]at e;subst e;simpa using h
 |n::xs,pre,st,ss,h,e=>by
  simp only[yDh,yWk]at e
  by_cases hl:st.length<yAk n.f
  .rw[iB hl]at e;cases e
  .rw[iA hl]at e
   have h1:ShT G (st.take (st.length-yAk n.f)++ [yA6 G n (st.drop (st.length-yAk n.f))]) (pre++ [n]):=by refine .snoc n (by simp;omega) ?_;rw[AU];exact h
   have h2:=yRb h1 e
   rw[AI]at h2
   exact h2
theorem yRa(h:yDh G [] xs=some ss):ShT G ss xs:=by simpa using yRb G (pre:= []) .nil h
theorem ShT.valid(h:ShT G ss xs):ss.all (·.valid)=xs.all G:=by
 induction h with
 |nil=>rfl
 | @snoc ss os xs n ho h ih=>
   rw[Ah,Ah,<-ih,Ah];simp[yA6];cases G n<;>cases ss.all (·.valid)<;>cases os.all (·.valid)<;>rfl
theorem ShT.split(h:ShT G ss xs):∀{a b:List yAx},ss=a++b->∃ys zs,xs=ys++zs/\ShT G a ys/\ShT G b zs:=by
 induction h with
 |nil=>intro a b e;obtain⟨rfl,rfl⟩:a= []/\b= []:=by simpa using e.symm
       exact⟨[],[],rfl,.nil,.nil⟩
 | @snoc ss os xs n ho h ih=>
   intro a b e;exact zzU4
theorem ShT.inv{s:yAx}(h:ShT G [s] xs):∃ys n os,xs=ys++ [n]/\os.length=yAk n.f/\ShT G os ys/\s=yA6 G n os:=by exact xKe
inductive Kids:List yAx->List (List Nd)->Prop
 |nil:Kids [] []
 |cons {o:yAx} {os:List yAx} {k:List Nd} {ks:List (List Nd)} (h:ShT G [o] k) (t:Kids os ks):Kids (o::os) (k::ks)
theorem ShT.kids:∀{os:List yAx}{ys:List Nd},ShT G os ys->∃ks,ys=ks.flatten/\Kids G os ks
 | [],ys,h=>by
   have:=h.tree.zero
   subst this
   exact⟨[],rfl,.nil⟩
 |o::os,ys,h=>by
  obtain⟨a,b,rfl,h1,h2⟩:=ShT.split G h (a:= [o]) (b:=os) rfl
  obtain⟨ks,rfl,hk⟩:=ShT.kids h2
  exact⟨a::ks,rfl,.cons h1 hk⟩
variable {os:List yAx} {ks:List (List Nd)}
theorem Kids.length(h:Kids G os ks):os.length=ks.length:=by
 induction h with
 |nil=>rfl
 |cons _ _ ih=>simp[ih]
theorem Kids.tree(h:Kids G os ks):∀k∈ks,IsT 1 k:=by exact xKv
theorem Kids.nth(h:Kids G os ks):∀{j:Nat}{k:List Nd},ks[j]?=some k->∃o,os[j]?=some o/\ShT G [o] k:=by
 induction h with
 |nil=>intro j k hk;simp at hk
 |cons h1 _ ih=>
  intro j k hk;cases j with
  |zero=>simp at hk;subst hk;exact⟨_,rfl,h1⟩
  |succ j=>simp at hk;simpa using ih hk
theorem yKx(op:Int)(B:Nat):∀{os:List yAx}{i a:Nat},a<=B->(∀o∈os,o.nest+1<=B)->yAq op i a os<=B
 | [],i,a,h,_=>h
 |o::os,i,a,h,g=>by
  unfold yAq
  apply yKx op B
  .have:=g o (by simp)
   split<;>omega
  .exact λo' ho=>g o' (by simp[ho])
theorem yTi(h:Kids G os ks){o:yAx}(ho:o∈os):∃k∈ks,ShT G [o] k:=by
 induction h with
 |nil=>cases ho
 |cons h1 _ ih=>
  rcases AX.1 ho with rfl|ho
  .exact⟨_,by simp,h1⟩
  .have⟨k,hk,h2⟩:=ih ho;exact⟨k,by simp[hk],h2⟩
theorem yDl{k:List Nd}(h:k∈ks):k.length<=ks.flatten.length:=by
 induction ks with
 |nil=>cases h
 |cons a ks ih=>
  simp only[BA,AB];rcases AX.1 h with rfl|h
  .omega
  .have:=ih h;omega
theorem yOm:∀(n:Nat){s:yAx}{xs:List Nd},xs.length<=n->ShT G [s] xs->s.nest<=xs.length
 |0,s,xs,hn,h=>by
  obtain⟨ys,e,os,rfl,_⟩:=h.inv
  simp at hn
 |n+1,s,xs,hn,h=>by
  obtain⟨ys,e,os,rfl,_,h2,rfl⟩:=h.inv
  obtain⟨ks,rfl,hK⟩:=h2.kids
  simp only[AB,AD]at hn|-
  refine yKx e.f _ (AN _) λo ho=>?_
  have⟨k,hk,h3⟩:=yTi G hK ho
  have h4:=yDl hk
  have h5:=yOm n qo h3
  omega
end
def yBl(p:List U8):Int×Nat:=if 200<p.length then(1,0)else chkM p 0 0 false
theorem xIv{y z:Vv}(ht:a.tmps.getD 2 undef=(xp rb))(he:yA w O 158 2 rb [y,z]):
  (results Tryz.f89 a.tmps).run prog w=.ok (.agg #[y,z]) w:=by
 have⟨q0,q1⟩:=he.c2;have h2:a.tmps[2]?.getD undef=(xp rb):=by rw[<-AJ];exact ht
 simp[results,results89,go_sem,h2,q0,q1]
def ChkP(p:Ba)(w:Ww)(e:Ax)(w':Ww):Prop:=e=.returned (.agg #[xi (yBl (sb p)).1,xi (yBl (sb p)).2])/\Below w w w'
theorem yT1{p:Ba}{k:Nat}(hM:yBl (sb p)=(c,k))(hd:a.defers= [])(ht:a.tmps.getD 2 undef=(xp w))(hx:yA wr w 158 2 w [xi 0,xi 0])(hb:Below w w wr):
  bodyPost prog Tryz.f89 (ChkP p w) .ret a (xt (wr.setCell (xd w 0) (xi c)) w 1 (xi k)):=
 AC (v:=.agg #[xi c,xi k]) (xIv ht ((hx.set 0 _).set 1 _)) hd ⟨by rw[hM],yAb (yAb hb qr 0 _) qr 1 _⟩
theorem yCd(p:Ba) w (hpm:p.size<=maxLen):Calls prog 89 #[p] w (ChkP p w):=by
 have⟨W0,a4⟩:=qE (xw w #[xi 0,xi 0] 158:Ww);have a1:Hid (yA W0 w 158 2 w [xi 0,xi 0]/\Below w w W0):=a4▸⟨yAa w _ qr rfl,qB⟩
 unfold maxLen at hpm;by_cases hp:200<p.size
 .have HM:Hid (yBl (sb p)=(1,0)):=by show yBl (sb p)=_;unfold yBl;rw[iB (by rw[yAd];exact hp)]
  have z2:(200:Int)<(p.size:Int):=qo
  have⟨r0,r1⟩:=a1.1.c2;have⟨f0,f1⟩:=a1.1.f2;go_enter func89,ntmps89;go_upto_region 1 with fail;rw[<-a4];clear a4;go_wp2_with fail;exact yT1 HM.out rfl rfl a1.1 a1.2
 have a9:p.size<=200:=qo
 have HM:Hid (yBl (sb p)=chkM (sb p) 0 0 false):=by show yBl (sb p)=_;unfold yBl;rw[iA (by rw[yAd];exact hp)]
 have z2:¬(200:Int)<(p.size:Int):=qo
 go_enter func89,ntmps89;go_upto_region 1 with fail;rw[<-a4];clear a4 hp;go_wp2_with fail;go_loopw[3,4,5] (λov av iv wr=>∃(i o:Nat)(a:Bool),i<=p.size/\o<=i/\ov=(xi o)/\av=a/\iv=(xi i)/\yBl (sb p)=chkM (sb p) i o a/\Below W0 W0 wr) (λ_ _ iv _=>p.size-(intOf iv).toNat);case atStart=>exact⟨0,0,false,AN _,AN _,rfl,rfl,rfl,HM.out,Below.refl _ _⟩
 case round=>
  obtain⟨i,o,a,hi,aj,rfl,rfl,rfl,hE,hb⟩:=hrel;have HE:=qH1 hE;have HX:=qH2 (a1.1.k hb) (a1.2.trans (hb.mono a1.2.size));have HB:=qH1 hb;obtain⟨r0,r1⟩:=HX.1.c2;obtain⟨f0,f1⟩:=HX.1.f2;clear hE hb HM;by_cases hlt:i<p.size
  .obtain⟨c,hc⟩:∃x,(sb p)[i]?=some x:=qg (by rw[yAd];exact hlt);obtain⟨_,gc⟩:=yA9 hc;have HC:Hid ((sb p)[i]?=some c):=hc;have zi:(i:Int)<(p.size:Int):=qo
   clear hc;by_cases h40:c=40
   .subst h40;by_cases ho:o=20
    .subst ho;have HF:Hid (yBl (sb p)=(3,i)):=by show yBl (sb p)=_;rw[HE.out,yE HC.out,iB rfl]
     exact zzU5
    .have zo:¬(o:Int)=20:=qo
     have HF:Hid (yBl (sb p)=chkM (sb p) (i+1) (o+1) false):=by show yBl (sb p)=_;rw[HE.out,yE HC.out,iA ho]
     go_wp2;go_roundw;case rel=>exact⟨i+1,o+1,false,qo,qo,by go_num,rfl,by go_num,HF.out,HB.out⟩
     case measure=>simp[intOf];omega
   have ag:((c.toNat:Int)==40)=false:=iC.2 (yCp (c:=40) h40);by_cases h41:c=41
   .subst h41;by_cases ho:o=0
    .subst ho;have HF:Hid (yBl (sb p)=(2,i)):=by show yBl (sb p)=_;rw[HE.out,yEq HC.out,iB rfl]
     exact zzU5
    .have zo:¬(o:Int)=0:=qo
     have HF:Hid (yBl (sb p)=chkM (sb p) (i+1) (o-1) true):=by show yBl (sb p)=_;rw[HE.out,yEq HC.out,iA ho]
     go_wp2;go_roundw;case rel=>exact⟨i+1,o-1,true,qo,qo,congrArg (Value.int .i64) qo,rfl,by go_num,HF.out,HB.out⟩
     case measure=>simp[intOf];omega
   have af:((c.toNat:Int)==41)=false:=iC.2 (yCp (c:=41) h41);by_cases h124:c=124
   .subst h124;have HF:Hid (yBl (sb p)=chkM (sb p) (i+1) o false):=by show yBl (sb p)=_;rw[HE.out,yLk HC.out]
    refine zX ?_;exact⟨i+1,o,false,qo,qo,rfl,rfl,by go_num,HF.out,HB.out⟩
   have ah:((c.toNat:Int)==124)=false:=iC.2 (yCp (c:=124) h124);have HL:Hid (∀q:Bool,decide (isOp c)=q->Calls prog 142 #[.int .u8 (c.toNat:Int)] wr λe w'=>e=.returned q/\w'=wr):=λq hq=>by rw[<-hq];exact yCt c wr
   by_cases hop:isOp c
   .go_wp2_with fail;refine(HL.out true (decide_eq_true hop)).mono ?_;rintro e w3 ⟨rfl,a3⟩;rw[a3];clear a3 HL;cases a
    .have HF:Hid (yBl (sb p)=(2,i)):=by show yBl (sb p)=_;rw[HE.out,yRu HC.out hop];rfl
     clear hop;exact zzU5
    .have HF:Hid (yBl (sb p)=chkM (sb p) (i+1) o true):=by show yBl (sb p)=_;rw[HE.out,yRu HC.out hop,iB rfl]
     clear hop;exact xFf
   go_wp2_with fail;refine(HL.out false (decide_eq_false hop)).mono ?_;rintro e w3 ⟨rfl,a3⟩;rw[a3];have ab:=qH1 hop;clear a3 HL hop;by_cases h91:c=91
   .subst h91;go_wp2_with fail;refine(yI3 p i wr a9 hlt).mono ?_;rintro e w4 ⟨hP,a2⟩;have a5:Below W0 W0 w4:=HB.trans (a2.mono HB.size);have ai:=a2.size;have a8:=HX.2.size;rcases hP with⟨f,k,hk,rfl⟩|⟨c4,k,hk,rfl⟩
    .have a6:=yBk hk;rw[yAd]at a6;obtain⟨W5,a0⟩:=qE (xw w4 #[xi 0,xi 0] 158:Ww);have HF:Hid (yBl (sb p)=chkM (sb p) k o true/\Below W0 W0 W5):=by refine⟨by rw[HE.out,yEr HC.out,hk],?_⟩;rw[a0];exact a5.trans ((Below.refl _ _).alloc (by have:=HB.size;omega) _)
     clear hk a2 a5 r0 r1 f0 f1;go_wp2_with fail;rw[<-a0];go_roundw;case rel=>exact⟨k,o,true,a6.2,qo,rfl,rfl,rfl,HF.1,HF.2⟩
     case measure=>simp[intOf];omega
    .have aa:=yNl hk;obtain⟨W5,a0⟩:=qE (xw w4 #[xi c4,xi k] 158:Ww);have HF:Hid (yBl (sb p)=(c4,k)/\yA W5 w 158 2 w [xi 0,xi 0]/\Below w w W5/\yA W5 w 158 2 w4 [xi c4,xi k]):=by
      have a7:=qN a0
      refine⟨by rw[HE.out,yEr HC.out,hk],(HX.1.k a2).k a7,(HX.2.trans (a2.mono a8)).trans (a7.mono qo),?_⟩;rw[a0];exact yAa w4 _ qo rfl
     have ak:(c4 != 0)=true:=by simpa using aa
     clear hk a2 a5 r0 r1 f0 f1;go_upto_region 29 with fail;rw[<-a0];clear a0;obtain⟨b0,b1⟩:=HF.2.2.2.c2;obtain⟨r0,r1⟩:=HF.2.1.c2;obtain⟨f0,f1⟩:=HF.2.1.f2;go_wp2_with fail;exact yT1 HF.1 rfl rfl HF.2.1 HF.2.2.1
   have ae:((c.toNat:Int)==91)=false:=iC.2 (yCp (c:=91) h91);by_cases h93:c=93
   .subst h93;have HF:Hid (yBl (sb p)=(2,i)):=by show yBl (sb p)=_;rw[HE.out,yRt HC.out]
    exact zzU5
   have ac:((c.toNat:Int)==93)=false:=iC.2 (yCp (c:=93) h93);by_cases h92:c=92
   .subst h92;by_cases hl1:i+1=p.size
    .have HF:Hid (yBl (sb p)=(2,p.size)):=by show yBl (sb p)=_;rw[HE.out,yIk HC.out,iB (by rw[yAd];exact hl1),yAd]
     have zl:(i:Int)+1=(p.size:Int):=qo
     exact zzU5
    .have HF:Hid (yBl (sb p)=chkM (sb p) (i+2) o true):=by show yBl (sb p)=_;rw[HE.out,yIk HC.out,iA (by rw[yAd];exact hl1)]
     have zl:¬(i:Int)+1=(p.size:Int):=qo
     go_wp2;go_roundw;case rel=>exact⟨i+2,o,true,qo,qo,rfl,rfl,by go_num,HF.out,HB.out⟩
     case measure=>simp[intOf];omega
   have ad:((c.toNat:Int)==92)=false:=iC.2 (yCp (c:=92) h92);have HF:Hid (yBl (sb p)=chkM (sb p) (i+1) o true):=by show yBl (sb p)=_;rw[HE.out,yF1 HC.out (λq=>q.elim ab.out (λq=>q.elim h124 (λq=>q.elim h41 h93))) h40 h91 h92]
   exact xFf
  .have zi:¬(i:Int)<(p.size:Int):=qo
   by_cases ho:0<o
   .have HF:Hid (yBl (sb p)=(2,p.size)):=by show yBl (sb p)=_;rw[HE.out,yIl (by rw[yAd];exact hlt),iB ho,yAd]
    have zo:(0:Int)<(o:Int):=qo
    exact zzU5
   .have HF:Hid (yBl (sb p)=(0,0)):=by show yBl (sb p)=_;rw[HE.out,yIl (by rw[yAd];exact hlt),iA ho]
    have zo:¬(0:Int)<(o:Int):=qo
    exact zzU5
structure Nd.ok(e:Nd):Prop where
 s:e.s.size<=maxLen
 t:e.t.size<=maxLen
 f:(Lit.int .i64 e.f).wf=true
 lo:(Lit.int .u64 e.lo).wf=true
 up:(Lit.int .u64 e.up).wf=true
 n:(Lit.int .i64 e.n).wf=true
abbrev Nd.seven(e:Nd):List Vv:= [.int .i64 e.f,.string e.s,.bool e.hi,.string e.t,.int .u64 e.lo,.int .u64 e.up,.int .i64 e.n]
abbrev Nd.v(e:Nd):Vv:=.agg #[xi e.f,e.s,e.hi,e.t,xu e.lo,xu e.up,xi e.n]
def yA8:Nd:=⟨0,⟨#[]⟩,false,⟨#[]⟩,0,0,0⟩
def yC0(es:List Nd):List Vv:=es.flatMap Nd.seven
theorem yXy es:∀(k:Nat)(e:Nd),es[k]?=some e->∀j,j<7->(yC0 es)[k*7+j]?=e.seven[j]?:=yCg (f:=Nd.seven) (λ_=>rfl) es
theorem yXx(es:List Nd):∀(k:Nat)(e e':Nd)(u:Vv)(j:Nat),es[k]?=some e->j<7->e'.seven=e.seven.set j u->(yC0 es).set (k*7+j) u=yC0 (es.set k e'):=λk e e' u j=>yEo (f:=Nd.seven) (λ_=>rfl) es k e e' j u
def yCq(w:Ww)(b off:Nat)(es:List Nd):Prop:=
 ∀i e,es[i]?=some e->xk w b (off+i*7) (xi e.f)/\xk w b (off+i*7+1) e.s/\xk w b (off+i*7+2) e.hi/\xk w b (off+i*7+3) e.t/\xk w b (off+i*7+4) (xu e.lo)/\xk w b (off+i*7+5) (xu e.up)/\xk w b (off+i*7+6) (xi e.n)
variable {b:Nat} {es:List Nd}
theorem yCq.k(h:yCq w b off es)(hb:Below B w w')(hlt:b<B):yCq w' b off es:=by have c:=λo=>hb.cell (p:=(xd b o)) hlt;intro i e he;simpa only[c]using h i e he
def yBb(w:Ww)(O g cap:Nat)(es:List Nd):Prop:=w.ownsRow O 83 7 (xg g es.length cap) es.length (yC0 es)
variable {cap:Nat}
theorem yBb.at(h:yBb w O g cap es):yCq w g 0 es:=by
 intro i e he;have hi:=qf he;have c:=λj (hj:j<7)=>(AL h (i*7+j) qo).trans (yXy es i e he j hj);refine⟨?_,?_,?_,?_,?_,?_,?_⟩
 .simpa using c 0 qo
 .simpa using c 1 qo
 .simpa using c 2 qo
 .simpa using c 3 qo
 .simpa using c 4 qo
 .simpa using c 5 qo
 .simpa using c 6 qo
theorem yBb.lt(h:yBb w O g cap es):O<=g/\g<w.heap.size:=AO h g rfl
theorem yBb.k(h:yBb w O g cap es)(hb:Below B w w')(hg:g<B):yBb w' O g cap es:=by exact xGv
theorem yBb.mono{base':Nat}(h:yBb w O g cap es)(hb:base'<=O):yBb w base' g cap es:=by exact yYe
theorem yBb.caps{R:List Nd}(h:yBb w O g cp R):R.length<=cp/\cp<=maxLen:=by exact yNn
theorem yBb.set(h:yBb w O g cap es)(k j:Nat)(e e':Nd)(u:Vv)(hk:es[k]?=some e)(hj:j<7)(hc:e'.seven=e.seven.set j u):
  yBb (xt w g (k*7+j) u) O g cap (es.set k e'):=by
 have:=(Ao h (k*7+j) u).1;rw[yXx es k e e' u j hk hj hc]at this;unfold yBb;rw[length_set];exact this
theorem yI2(k:Int) w:Calls prog 144 #[xi k] w λe w'=>e=.returned (xi (yAk k))/\w'=w:=by
 by_cases h14:k=14
 .subst h14;exact xGn
 by_cases h15:k=15
 .subst h15;exact xGn
 by_cases h16:k=16
 .subst h16;exact xGn
 have a2:(k==14)=false:=by simpa using h14
 have a1:(k==15)=false:=by simpa using h15
 have a0:(k==16)=false:=by simpa using h16
 have H:Hid (yAk k=0):=by show yAk k=0;unfold yAk;rw[iA qo,iA h16]
 go_enter func144,ntmps144;go_wp2;go_ret;exact⟨by rw[H.out];rfl,rfl⟩
theorem yK6(k:Int) w:Calls prog 145 #[xi k] w λe w'=>e=.returned (xi (yBz k))/\w'=w:=by
 by_cases h15:k=15
 .subst h15;go_enter func145,ntmps145;go_wp2;go_ret;exact⟨rfl,rfl⟩
 by_cases h14:k=14
 .subst h14;go_enter func145,ntmps145;go_wp2;go_ret;exact⟨rfl,rfl⟩
 have a1:(k==14)=false:=by simpa using h14
 have a0:(k==15)=false:=by simpa using h15
 have H:Hid (yBz k=3):=by show yBz k=3;unfold yBz;rw[iA h15,iA h14]
 go_enter func145,ntmps145;go_wp2;go_ret;exact⟨by rw[H.out];rfl,rfl⟩
theorem yL9(op:Int)(i:Nat)(kid:Int) w (hop:¬op=16):Calls prog 93 #[xi op,xi i,xi kid] w λe w'=>e=.returned (yBn op i kid)/\w'=w:=by
 have a0:(op==16)=false:=by simpa using hop
 by_cases hi:i=0
 .subst hi;have HL:Hid (yBn op 0 kid=decide (yBz kid<yBz op)):=by show yBn op 0 kid=_;unfold yBn;simp[hop]
  exact xJ8
 .have zi:((i:Int)==0)=false:=by simpa using hi
  have HL:Hid (yBn op i kid=decide (yBz kid<=yBz op)):=by show yBn op i kid=_;unfold yBn;simp[hop,hi]
  exact xJ8
structure Win(w:Ww)(b off cap:Nat)(xs:List Nd):Prop where
 U:yCq w b off xs
 lt:b<w.heap.size
 X:xs.length<=cap
 cap:cap<=9223372036854775807
 sm:xs.length<=281474976710656
variable {xs:List Nd}
theorem Win.k(h:Win w b off cap xs)(hb:Below w w w'):Win w' b off cap xs:=
 ⟨h.U.k hb h.lt,qv hb.size h.lt,h.X,h.cap,h.sm⟩
variable {e:Nd}
theorem Win.f(h:Win w b off cap xs){i:Nat}(he:xs[i]?=some e):(xk w b (off+i*7) (xi e.f):Prop):=(h.U i e he).1
theorem yIa(h:Win w b off cap (xs++ [e])):Calls prog 91 #[(xy b off (xs.length+1) cap)] w λr w'=>r=.returned (xi e.f)/\w'=w:=by have hk:=h.f (i:=xs.length) (e:=e) (by simp);have⟨n,hn⟩:=qE xs.length;have h1:=h.X;have h2:=h.cap;rw[AB,AD]at h1;rw[<-hn]at hk h1|-;clear h hn;go_enter func91,ntmps91;go_wp2;go_ret;exact⟨rfl,rfl⟩
def yWa(xs:List Nd)(w:Ww)(r:Ax)(w':Ww):Prop:=w'=w/\((∃i:Nat,r=.returned (xi i)/\i<=xs.length/\IsT 1 (xs.drop i))\/(r=.returned (xi (-1))/\∀j,j<=xs.length->¬IsT 1 (xs.drop j)))
theorem yK8(h:Win w b off cap xs):Calls prog 90 #[(xy b off xs.length cap)] w (yWa xs w):=by
 have HW:=qH1 h;have h1:=h.X;have h2:=h.cap;have h3:=h.sm;have⟨n,hn⟩:=qE xs.length;have HN:=qH1 hn;rw[<-hn]at h1 h3|-;clear h hn;go_enter func90,ntmps90;go_wp2;go_loopw[3,4] (λnv iv wr=>∃(i m:Nat),iv=(xi i)/\nv=(xi m)/\i<=n/\m<=1+3*(n-i)/\Sc m (xs.drop i)/\wr=w) (λ_ iv _=>(intOf iv).toNat);case atStart=>exact⟨n,1,rfl,rfl,AP _,qo,by rw[HN.out,drop_length];exact .nil,rfl⟩
 case round=>
  obtain⟨i,m,rfl,rfl,hi,hm,hS,rfl⟩:=hrel;have HS:=qH1 hS;by_cases hm0:m=0
  .subst hm0;go_wp2;go_ret;refine⟨rfl,.inl ⟨i,rfl,qw HN.out,?_⟩⟩;have:=HS.tree (pre:= []);exact this.1 .nil
  .obtain⟨m',rfl⟩:∃m',m=m'+1:=⟨m-1,qo⟩;have zm:(0:Int)<(m':Int)+1:=qo
   by_cases hi0:i=0
   .subst hi0;go_wp2;go_ret;exact⟨rfl,.inr ⟨rfl,λj hj=>xHa HS.out j (AN _) hj⟩⟩
   .obtain⟨i',rfl⟩:∃i',i=i'+1:=⟨i-1,qo⟩;obtain⟨e,he⟩:∃e,xs[i']?=some e:=qg (qw HN.out);have hk:=HW.f he;have a0:i'<xs.length:=qw HN.out
    have a2:Hid (Sc (m'+yAk e.f) (xs.drop i')):=by show Sc _ _;rw[Ab a0,show xs[i']=e from Option.some.inj ((getElem?_eq_getElem a0).symm.trans he)];exact .cons e HS.out
    have ha:=yGj e.f;have zi:¬(i':Int)<0:=qo
    go_wp2_with fail;refine(yI2 e.f _).mono ?_;rintro r w2 ⟨rfl,a1⟩;rw[a1];clear a1;go_wp2;go_roundw;case rel=>exact⟨i',m'+yAk e.f,by go_num,by go_num,qo,qo,a2.out,by first|rfl|trivial⟩
    case measure=>simp[intOf]<;>omega
theorem yTa(h:Win w b off cap xs):Calls prog 41 #[(xy b off xs.length cap)] w λr w'=>w'=w/\((r=.returned true/\IsT 1 xs)\/(r=.returned false/\¬IsT 1 xs)):=by
 have HW:=qH1 h;have h1:=h.X;have h2:=h.cap;have h3:=h.sm;have⟨n,hn⟩:=qE xs.length;have HN:=qH1 hn;have HF:Hid (Calls prog 90 #[(xy b off n cap)] w (yWa xs w)):=hn▸(yK8 h)
 rw[<-hn]at h1 h3|-;clear h hn;by_cases hn0:n=0
 .subst hn0;have HE:Hid (¬IsT 1 xs):=λq=>qv q.X HN.out
  go_enter func41,ntmps41;go_wp2;go_ret;exact⟨rfl,.inr ⟨rfl,HE.out⟩⟩
 .have zn:(0:Int)<(n:Int):=qo
  go_enter func41,ntmps41;go_wp2_with fail;apply HF.mono;rintro r w2 ⟨a0,(⟨i,rfl,hi,hT⟩|⟨rfl,hT⟩)⟩
  .rw[a0];have HT:=qH2 hi hT;by_cases hi0:i=0
   .subst hi0;go_wp2;go_ret;exact⟨rfl,.inl ⟨rfl,by simpa using HT.2⟩⟩
   .have zi:((i:Int)==0)=false:=by simpa using hi0
    go_wp2;go_ret;refine⟨rfl,.inr ⟨rfl,λq=>hi0 ?_⟩⟩;exact(yNs (xs:=xs) (i:=0) (j:=i) (by simpa using q) HT.2 (AN _) HT.1).symm
  .rw[a0];have HT:Hid (¬IsT 1 xs):=λq=>hT 0 (AN _) (by simpa using q);go_wp2;go_ret;exact⟨rfl,.inr ⟨rfl,HT.out⟩⟩
def OwnV(w:Ww)(O g cp:Nat)(us:List Vv):Prop:=w.ownsRow O 23 1 (xg g us.length cp) us.length us
variable {us:List Vv}
theorem OwnV.lt(h:OwnV w O g cp us):O<=g/\g<w:=AO h g rfl
theorem OwnV.k(h:OwnV w O g cp us)(hb:Below w w w'):OwnV w' O g cp us:=yAh h (Chg.h hb) (S:=λ_=>False) (λk q z=>z)
theorem OwnV.z(h:OwnV w O g cp us){v:Vv}(hv:us[j]?=some v):(xk w g j v:Prop):=by have hj:=qf hv;rw[AL h j qo,hv]
theorem OwnV.caps(h:OwnV w O g cp us):us.length<=cp/\cp<=maxLen:=by exact yNn
theorem yVf(w:Ww)(hb:O<=w):OwnV (xw w #[] 23) O w 0 []:=
 AZ w #[] 0 hb (AN _) (by simp)
theorem xDu(w:Ww)(hb:O<=w)(v:Vv):OwnV (xw w #[v] 23) O w 1 [v]:=
 Aa w #[v] 1 hb qj rfl
theorem Tryz.infoNds:(prog.info? 23).map (λi=>(i.zero,i.size,i.bytes))=some (some (.slice none 0 0),1,24):=qk
theorem xM:ApT 161 23 1 (λl=>l) OwnV AtV:=apTV ⟨underlying161,_,_,Tryz.infoNds,rfl,qj,qj⟩ Iff.rfl
def yIb(b:Nat):Nat->Nat->List (List Nd)->List Vv
 |_,_,[]=> []
 |o,cap,k::ks=>(xy b o k.length cap)::yIb b (o+k.length*7) (cap-k.length) ks
theorem yHr(b:Nat):∀(o cap:Nat)(ks:List (List Nd)),(yIb b o cap ks).length=ks.length
 |_,_,[]=>rfl
 |o,cap,k::ks=>by simp[yIb,yHr]
theorem yQ1(b:Nat):∀(o cap:Nat)(ks:List (List Nd)),∀v∈yIb b o cap ks,v.oneCell'=true
 |_,_,[],v,h=>by cases h
 |o,cap,k::ks,v,h=>by
  rcases AX.1 h with rfl|h
  .rfl
  .exact yQ1 b _ _ ks v h
theorem yCq.part{ys:List Nd}(h:yCq w b o (xs++ys)):yCq w b o xs/\yCq w b (o+xs.length*7) ys:=by refine⟨λi e he=>h i e (by rw[getElem?_append_left (qf he)];exact he),λi e he=>?_⟩;have:=h (xs.length+i) e (by rw[getElem?_append_right qo,Nat.add_sub_cancel_left];exact he);rw[Nat.add_mul,<-Ai]at this;exact this
theorem yK9:∀{ks:List (List Nd)}{o cap:Nat}{rest:List Nd},Win w b o cap (ks.flatten++rest)->∀{j:Nat}{k:List Nd},ks[j]?=some k->∃o' cap',(yIb b o cap ks)[j]?=some (.slice (some ⟨b,o',none⟩) k.length cap')/\Win w b o' cap' k
 | [],_,_,_,_,j,k,h=>by simp at h
 |a::ks,o,cap,rest,hW,j,k,h=>by
  simp only[BA,AI]at hW
  have hp:=hW.U.part
  have hl:=hW.X
  have hc:=hW.cap
  have hs:=hW.sm
  simp only[AB]at hl hs
  cases j with
  |zero=>
   simp at h
   subst h
   exact⟨o,cap,rfl,hp.1,hW.lt,qo,hc,qo⟩
  |succ j=>
   simp at h
   exact yK9 (ks:=ks) (o:=o+a.length*7) (cap:=cap-a.length) (rest:=rest) ⟨hp.2,hW.lt,by simp only[AB];omega,qo,by simp only[AB];omega⟩ h
structure KiJ(w:Ww)(b o cap:Nat)(pre suf:List (List Nd))(g cp:Nat)(wr:Ww):Prop where
 Z:OwnV wr w g cp (yIb b (o+pre.flatten.length*7) (cap-pre.flatten.length) suf)
 k:Below w w wr
theorem yK7{ks:List (List Nd)}(h:Win w b o cap (ks.flatten++ [e]))(hk:ks.length=yAk e.f)(hT:∀k∈ks,IsT 1 k):
  Calls prog 92 #[(xy b o (ks.flatten.length+1) cap)] w λr w'=>∃g cp,r=.returned (xg g ks.length cp)/\OwnV w' w g cp (yIb b o cap ks)/\Below w w w':=by
 have HW:=qH2 h hT;have ab:=h.f (i:=ks.flatten.length) (e:=e) (by simp);have h1:=h.X;have h2:=h.cap;have h3:=h.sm;have⟨n,hn⟩:=qE ks.flatten.length;have HN:=qH1 hn;rw[AB,AD]at h1 h3;rw[<-hn]at ab h1 h3|-;have ha:=yGj e.f;have HA:=qH1 hk;have⟨W0,af⟩:=qW (xw w #[] 23);have ah:Hid (KiJ w b o cap ks [] w 0 W0):=af▸⟨yVf w qr,qB⟩
 have av:(xk W0 b (o+n*7) (xi e.f):Prop):=by rw[(Chg.h ah.k (S:=λ_=>False)).z (p:=(xd b (o+n*7))) h.lt (λq=>q)];exact ab
 have⟨a,a5⟩:=qE (yAk e.f);have aq:Hid (Calls prog 144 #[xi e.f] W0 λr w'=>r=.returned (xi a)/\w'=W0):=a5▸(yI2 e.f W0)
 have ay:Hid (ks.length=a):=a5▸hk
 rw[hk,<-a5];rw[<-a5]at ha;clear h hn hT hk ab HA a5;go_enter func92,ntmps92;go_upto_region 3 with fail;rw[<-af];clear af;go_wp2_with fail;apply aq.mono;rintro r w1 ⟨rfl,aj⟩;rw[aj];clear aj av aq;go_wp2;go_loopw[3,4,5] (λrv ov kv wr=>∃(c m g cp:Nat)(pre suf:List (List Nd)),ks=pre++suf/\pre.length=c/\suf.length+c=a/\m=pre.flatten.length/\m<=n/\kv=(xi c)/\rv=(xy b o m cap)/\ov=(xg g suf.length cp)/\KiJ w b o cap pre suf g cp wr) (λ_ _ kv _=>(intOf kv).toNat);case atStart=>exact⟨a,n,_,0,ks,[],by simp,ay,by simp,HN,AP _,rfl,rfl,rfl,ah⟩
 case round=>
  obtain⟨c,m,g,cp,pre,suf,an,al,ar,hm,aA,rfl,rfl,rfl,hJ⟩:=hrel;have HJ:=qH4 hJ an hm al;have aC:=hJ.Z.lt;have ak:=hJ.k.size;clear hJ an hm al ah;have⟨q,hq⟩:=qE suf.length;have HQ:=qH1 hq;rw[<-hq]at ar|-;clear hq;by_cases hc0:c=0
  .subst hc0;have HF:=qH2 (length_eq_zero_iff.1 HJ.2.2.2) (by omega:q=a);go_wp2;go_ret;have hp:=HF.1;have hj:=HJ.1.Z;have hs:=HJ.2.1;rw[hp]at hj hs;simp at hj hs;refine⟨g,cp,by rw[<-HF.2];rfl,by rw[hs];exact hj,HJ.1.k⟩
  .obtain⟨c',rfl⟩:∃c',c=c'+1:=⟨c-1,qo⟩;have zc:(0:Int)<(c':Int)+1:=qo
   obtain⟨a0,k,a1⟩:∃a0 k,pre=a0++ [k]:=by
    rcases eq_nil_or_concat pre with h|⟨p',k,h⟩
    .have:=HJ.2.2.2;rw[h]at this;simp at this
    .exact⟨p',k,by rw[h,concat_eq_append]⟩
   have⟨m',a2⟩:=qE a0.flatten.length;have am:m=m'+k.length:=by rw[HJ.2.2.1,a1,a2];simp
   have a3:=HW.2 k (by rw[HJ.2.1,a1];simp);have aw:=a3.X;have ai:Win wr b o cap pre.flatten:=by have hw:=HW.1;rw[HJ.2.1]at hw;simp only[flatten_append,AI]at hw;have h8:=hw.X;have h9:=hw.sm;simp only[AB]at h8 h9;exact Win.k ⟨hw.U.part.1,hw.lt,qo,hw.cap,qo⟩ HJ.1.k
   have HC:Hid (Calls prog 90 #[(xy b o m cap)] wr λr w'=>r=.returned (xi m')/\w'=wr):=by
    have hf:=yK8 ai;rw[<-HJ.2.2.1]at hf;apply hf.mono;have ad:pre.flatten.drop m'=k:=by rw[a1,a2];simp
    rintro r w2 ⟨a8,(⟨i,rfl,hi,a9⟩|⟨rfl,a9⟩)⟩
    .refine⟨?_,a8⟩;have au:m'<=pre.flatten.length:=by rw[a1,a2];simp
     have:i=m':=by
      rcases Nat.le_total i m' with aa|aa
      .exact yNs a9 (ad▸a3) aa au
      .exact(yNs (ad▸a3) a9 aa hi).symm
     rw[this]
    .exact absurd (ad▸a3) (a9 m' (by rw[a1,a2];simp))
   have HP:=qH4 a1 a2 a3 am;have aB:m'<=m:=qo
   have z1:(m':Int)<=(m:Int):=qo
   have z2:(m:Int)<=(cap:Int):=qo
   have z3:(m':Int)<=(cap:Int):=qo
   clear ai a3 a1 a2 am aw;go_wp2_with fail;apply HC.mono;rintro r w2 ⟨rfl,a8⟩;rw[a8];clear a8 HC;have⟨W5,a4⟩:=qW (xw wr #[(xy b (o+m'*7) (m-m') (cap-m'))] 23);have ae:=qN a4
   have az:=qS a4
   have ag:Hid (OwnV W5 w wr 1 [(xy b (o+m'*7) (m-m') (cap-m'))]/\OwnV W5 w g cp (yIb b (o+pre.flatten.length*7) (cap-pre.flatten.length) suf)/\Below w w W5):=by refine⟨?_,HJ.1.Z.k ae,HJ.1.k.trans (ae.mono ak)⟩;rw[a4];exact xDu wr ak _
   go_wp2_with (at_builtin;rw[<-a4];refine wpA rfl (apK xM rfl w [(xy b (o+m'*7) (m-m') (cap-m'))] (yIb b (o+pre.flatten.length*7) (cap-pre.flatten.length) suf) rfl rfl rfl ?hm ?hO (atV0 ?hc ?hy) (lT ?hl) ?hb ?_));case hm=>rw[yHr];exact HQ
   case hO=>exact ag.1
   case hc=>exact λj v hv=>ag.2.1.z hv
   case hy=>exact yQ1 _ _ _ _
   case hl=>rw[yHr,<-HQ];simp;omega
   case hb=>omega
   intro g' ao w' a6 ac ax;rw[<-a4]at ac;have a7:Hid (KiJ w b o cap a0 (k::suf) g' ao w'/\ks=a0++(k::suf)/\a0.length=c'/\(k::suf).length=q+1):=by
    have hP:=HP.out;refine⟨⟨?_,ag.2.2.grown ac qo (λj hj=>by cases hj;omega)⟩,by rw[HJ.2.1,hP.1];simp,?_,by rw[HQ];rfl⟩
    .have e1:(List.map An pre).sum=m'+k.length:=by rw[<-Ay,<-HJ.2.2.1];exact hP.2.2.2
     rw[e1]at a6;have e2:m-m'=k.length:=qo
     rw[e2]at a6;have e3:o+(m'+k.length)*7=o+m'*7+k.length*7:=qo
     have e4:cap-(m'+k.length)=cap-m'-k.length:=qo
     rw[e3,e4]at a6;rw[<-hP.2.1];exact a6
    .have:=HJ.2.2.2;rw[hP.1]at this;simpa using this
   clear a6 ac ax a4 ae;go_wp2;go_roundw;case rel=>exact⟨c',m',g',ao,a0,k::suf,a7.2.1,a7.2.2.1,qw a7.2.2.2,HP.2.1,qo,by go_num,rfl,by rw[a7.2.2.2];go_num,a7.1⟩
   case measure=>simp[intOf]<;>omega
section
variable (G:Nd->Bool)
def xI6(n:Nat):Prop:=∀(w:Ww)(b o cap:Nat)(xs:List Nd)(s:yAx),xs.length<=n->Win w b o cap xs->ShT G [s] xs->(xf 42 #[(xy b o xs.length cap)] w (xi s.nest):Prop)
theorem yOn(op:Int){os:List yAx}{a:Nat}{o:yAx}(h:os[j]?=some o):yAq op j a (os.drop j)=yAq op (j+1) (max a (o.nest+if yBn op j o.f then 1 else 0)) (os.drop (j+1)):=by exact xJ5
structure NeJ(w:Ww)(b o cap:Nat)(ks:List (List Nd))(g cp:Nat)(wr:Ww):Prop where
 Z:OwnV wr w g cp (yIb b o cap ks)
 k:Below w w wr
theorem NeJ.K{ks:List (List Nd)}(h:NeJ w b o cap ks g cp wr)(hb:Below wr wr w'):NeJ w b o cap ks g cp w':=⟨h.Z.k hb,h.k.trans (hb.mono h.k.size)⟩
theorem xH2(H:xI6 G n):xI6 G (n+1):=by
 intro w b o cap xs s hn hW hS;obtain⟨ys,e,os,rfl,ax,ak,hs⟩:=ShT.inv G hS;obtain⟨ks,rfl,hK⟩:=ShT.kids G ak;have ad:=Kids.length G hK;have HF:=qH6 hW hK hs ad (by simp at hn;rw[Ay];omega:ks.flatten.length<=n) H;have au:=yGj e.f;have⟨a3,a5⟩:=qE ks.length;have HA:=qH1 a5;have aB:a3<=3:=qo
 have aC:=hW.cap;have ar:ks.flatten.length+1<=281474976710656:=by have:=hW.sm;rw[AB,AD]at this;exact this
 have aw:ks.flatten.length+1<=cap:=by have:=hW.X;rw[AB,AD]at this;exact this
 have HT:=qH1 (yIa hW);have aa:Hid (Calls prog 92 #[(xy b o (ks.flatten.length+1) cap)] w λr w'=>∃g cp,r=.returned (xg g a3 cp)/\OwnV w' w g cp (yIb b o cap ks)/\Below w w w'):=a5▸(yK7 hW qo (Kids.tree G hK))
 have HB:Hid (∀o∈os,o.nest<=281474976710656):=λo' ho=>by have⟨k,hk,h3⟩:=yTi G hK ho;have h4:=yDl hk;have h5:=yOm G _ qr h3;omega
 have ao:Hid (yAq e.f 0 0 os=s.nest):=by show _=_;rw[hs];rfl
 rw[AB,AD];have⟨m,hm⟩:=qE ks.flatten.length;rw[<-hm]at HT aa aw ar|-;have⟨sn,a2⟩:=qE s.nest;have an:Hid (yAq e.f 0 0 os=sn):=a2▸ao
 rw[<-a2];clear hW hS ak hK hs ax ad H a5 hm hn a2 ao au;go_enter func42,ntmps42;go_wp2_with fail;refine HT.mono ?_;rintro r w1 ⟨rfl,ac⟩;rw[ac];clear ac HT;go_wp2_with fail;refine aa.mono ?_;rintro r w1 ⟨g,cp,rfl,hO,ai⟩;have al:Hid (NeJ w b o cap ks g cp w1):=⟨hO,ai⟩;clear hO ai aa;go_wp2;go_loopw[5,6] (λmv iv wr=>∃(j a:Nat),iv=(xi j)/\mv=(xi a)/\j<=a3/\a<=999999999999999/\yAq e.f j a (os.drop j)=sn/\NeJ w b o cap ks g cp wr) (λ_ iv _=>a3-(intOf iv).toNat);case atStart=>exact⟨0,0,rfl,rfl,AN _,qo,an.out,al.out⟩
 case round=>
  obtain⟨j,a,rfl,rfl,hj,ha,hN,hJ⟩:=hrel;have HJ:=qH2 hN hJ;have av:=hJ.Z.lt;have az:=hJ.k.size;clear hN hJ al an;by_cases hlt:j<a3
  .have zj:(j:Int)<(a3:Int):=qo
   obtain⟨k,hk⟩:∃k,ks[j]?=some k:=qg (qw HA.out);obtain⟨os1,a4,a7⟩:=Kids.nth G HF.2.1 hk;obtain⟨o',a8,hv,aj⟩:=yK9 HF.1 hk;have hc:=HJ.2.Z.z hv;have af:k.length<=n:=qv (yDl (Au hk)) HF.2.2.2.2.1
   have a6:=aj.k HJ.2.k;have ab:=qH1 (HF.2.2.2.2.2 wr b o' a8 k os1 af a6 a7);obtain⟨ky,ke,ko,rfl,_,_,ae⟩:=ShT.inv G a7;have ah:os1.f=ke.f:=by rw[ae];rfl
   have a9:Hid (∀w2,Below wr wr w2->Calls prog 91 #[(xy b o' (ky++ [ke]).length a8)] w2 λr w'=>r=.returned (xi os1.f)/\w'=w2):=λw2 hb2=>by have:=yIa (a6.k hb2);rw[AB,AD,ah];exact this
   have aA:=HB.out os1 (Au a4);have ay:Hid (yAq e.f (j+1) (max a (os1.nest+if yBn e.f j os1.f then 1 else 0)) (os.drop (j+1))=sn):=by show _=_;rw[<-yOn e.f a4];exact HJ.1
   obtain⟨kl,ag⟩:=qE ((ky++ [ke]).length);rw[<-ag]at hc ab a9;clear hk a4 a7 hv aj af a6 ae ah ag;go_wp2_with fail;refine ab.mono ?_;rintro r w2 ⟨rfl,hb2⟩;have HJ2:=qH1 (HJ.2.K hb2);have hc2:(xk w2 g j (xy b o' kl a8):Prop):=by rw[(Chg.h hb2 (S:=λ_=>False)).z (p:=(xd g j)) av.2 (λq=>q)];exact hc
   have am:=qH1 (a9.out w2 hb2);clear hc hb2 a9 ab;have fin:∀(x:Nat),x=os1.nest+(if yBn e.f j os1.f then 1 else 0)->x<=281474976710657->Hid (∀y:Nat,y=max a x->yAq e.f (j+1) y (os.drop (j+1))=sn):=λx hx _ y hy=>by rw[hy,hx];exact ay.out
   by_cases h16:e.f=16
   .have a0:yBn e.f j os1.f=true:=by unfold yBn;rw[h16];rfl
    rw[a0]at fin;have HFin:=fin (os1.nest+1) rfl qo;have aq:(e.f==16)=true:=by simpa using h16
    clear fin a0 h16;exact xKl
   .have aq:(e.f==16)=false:=by simpa using h16
    go_wp2_with fail;refine am.mono ?_;rintro r w3 ⟨rfl,a1⟩;rw[a1];clear a1 am;go_wp2_with fail;refine(yL9 e.f j os1.f _ h16).mono ?_;rintro r w3 ⟨rfl,a1⟩;rw[a1];clear a1;cases a0:yBn e.f j os1.f
    .rw[a0]at fin;have HFin:=fin os1.nest rfl qo;clear fin a0;by_cases hgt:a<os1.nest
     .have zg:(a:Int)<(os1.nest:Int):=qo
      refine zY ?_;exact⟨j+1,os1.nest,by go_num,rfl,qo,qo,HFin.out _ qo,HJ2.out⟩
     .have zg:¬(a:Int)<(os1.nest:Int):=qo
      refine zY ?_;exact⟨j+1,a,by go_num,rfl,qo,qo,HFin.out _ qo,HJ2.out⟩
    .rw[a0]at fin;have HFin:=fin (os1.nest+1) rfl qo;clear fin a0;exact xKl
  .have zj:¬(j:Int)<(a3:Int):=qo
   have hd:a=sn:=by have:=HJ.1;rw[drop_eq_nil_of_le (qv HA.out HF.2.2.2.1)]at this;exact this
   subst hd;go_wp2;go_ret;exact⟨rfl,HJ.2.k⟩
theorem yVk:∀n,xI6 G n
 |0=>λw b o cap xs s hn hW hS=>by
  obtain⟨ys,e,os,rfl,_⟩:=ShT.inv G hS
  simp at hn
 |n+1=>xH2 G (yVk n)
end
def yMw(w:Ww)(v:Vv)(es:List Nd):Prop:=
 (∃a cap,v=.slice a 0 cap/\es= [])\/
 ∃b off cap,v=(xy b off es.length cap)/\yCq w b off es/\b<w.heap.size/\es.length<=cap/\cap<=maxLen
theorem yMw.Z(h:yBb w O g cap es)(hn:n=es.length):yMw w (xg g n cap) es:=by subst hn;exact .inr ⟨g,0,cap,rfl,h.at,h.lt.2,h.caps.1,h.caps.2⟩
abbrev rcL(fn:FuncId)(tmps:Array Vv)(ps:Array Tmp)(assign body:Code)(D:Nat)(st:Al)(pe:Option Code):Obj:=.loop {state:=st,pending:=pe,fn,tmps,params:=ps,assign,body,defers:=D}
def RndP(rec:Al->Option Code->Obj)(l:Nat)(R:Ax->Ww->Prop)(e:Exit)(W:Ww):Prop:=
 W.heap[l]?=some (rec .busy none)/\match e with
 | .normal=>R (.returned true) (W.putObj l (rec .ready none))
 | .ret=>R (.returned false) (W.putObj l (rec .done (some .ret)))
 | .exit id=>R (.returned false) (W.putObj l (rec .done (some (.exit id))))
 |_=>False
theorem yEw{D l:Nat}(hl:W.heap[l]?=some (rcL fn tmps ps assign body D .ready none))(hs:args.size=ps.size)
  (h:assign.wpIn (Fence.wide.inRound l) n prog (Exit.then (λa' Wa=>Wa.heap[l]?=some (rcL fn tmps ps assign body D .ready none)/\body.wpIn (Fence.wide.inRound l) n prog (λe _ W3=>RndP (rcL fn tmps ps assign body D) l R e W3) a' (Wa.putObj l (rcL fn tmps ps assign body D .busy none))) (λ_ _ _=>False))
   {tmps:=(ps.zip args).foldl (λt (p,v)=>t.setIfInBounds p v) tmps,defers:= []} W):
  YieldAt AH n prog l args W R:=by
 have hy:=run_yield (P:=prog) (args:=args) hl hs;refine⟨fn,_,assign,body,hy,Ar trivial (Am h ?_)⟩;intro e a' Wa hp;cases e with
 |normal=>
  have⟨a1,hb⟩:=hp;refine⟨_,Aw a1 rfl,Am hb ?_⟩;rintro e a3 W3 ⟨a0,hp⟩;cases e with
  |normal=>exact⟨_,_,AR none a0,hp⟩
  |ret=>exact⟨_,_,AR (some .ret) a0,hp⟩
  |exit id=>exact⟨_,_,AR (some (.exit id)) a0,hp⟩
  |goto t|panic ch|outgrown=>exact hp.elim
 |_=>exact hp
theorem yG1{g:A8}(hg:a.eval g=.func (.func gf) #[] lb)(eg:∀args w,(callFunc gf args).run prog w=.ok (.enter gf args) w)(h1:1<=n)
  (h:∀fn W1,W1=(w.alloc (.deferred (some []))).alloc (rcL fn a.tmps ps assign body w .ready none)->A7 AH (n-1) prog gf (#[.func (.yield (w+1)) #[] #[]]++lb) W1 λe W2=>(∃v,e=.returned v)/\
   ((W2.heap[w.heap.size+1]?=some (rcL fn a.tmps ps assign body w .ready none)/\Q .normal {a with defers:={target:=.collected w,args:=#[]}::a.defers} (W2.putObj (w+1) (rcL fn a.tmps ps assign body w .exhausted none)))\/
    ∃c,W2.heap[w.heap.size+1]?=some (rcL fn a.tmps ps assign body w .done (some c))/\c.wpIn AH n prog Q {a with defers:={target:=.collected w,args:=#[]}::a.defers} (W2.putObj (w+1) (rcL fn a.tmps ps assign body w .exhausted (some c))))):
  (Code.rangeFunc g ps assign body).wpIn AH n prog Q a w:=by
 apply AW;intro fn a1;have⟨W1,a0⟩:=qE ((w.alloc (.deferred (some []))).alloc (rcL fn a.tmps ps assign body w .ready none))
 refine⟨w+1,[{target:=.collected w,args:=#[]}],W1,{target:=.fn (.func gf) lb,args:=#[.func (.yield (w+1)) #[] #[]]},W1,gf,
  #[.func (.yield (w+1)) #[] #[]]++lb,W1,by rw[a0];exact Ac _ _ _ _ _,?_,λ_ _=>trivial,?_,λ_=>h1,?_⟩
 .simp only[resolve,hg];simp[go_sem]
 .simp[invoke,go_sem,eg]
 .apply (h fn W1 a0).mono;exact xJ4
theorem ySr{g:A8}(hl₀:w.heap[l₀]?=some (.loop r₀))(hg:a.eval g=.func (.func gf) #[] lb)(eg:∀args w,(callFunc gf args).run prog w=.ok (.enter gf args) w)(h1:1<=n)
  (h:∀fn W1,W1=w.alloc (rcL fn a.tmps ps assign body r₀.defers .ready none)->A7 AH (n-1) prog gf (#[.func (.yield w) #[] #[]]++lb) W1 λe W2=>(∃v,e=.returned v)/\
   ((W2.heap[w.heap.size]?=some (rcL fn a.tmps ps assign body r₀.defers .ready none)/\Q .normal a (W2.putObj w (rcL fn a.tmps ps assign body r₀.defers .exhausted none)))\/
    ∃c,W2.heap[w.heap.size]?=some (rcL fn a.tmps ps assign body r₀.defers .done (some c))/\c.wpIn (Fence.wide.inRound l₀) n prog Q a (W2.putObj w (rcL fn a.tmps ps assign body r₀.defers .exhausted (some c))))):
  (Code.rangeFunc g ps assign body).wpIn (Fence.wide.inRound l₀) n prog Q a w:=by
 apply AW;intro fn a1;have⟨W1,a0⟩:=qE (w.alloc (rcL fn a.tmps ps assign body r₀.defers .ready none))
 refine⟨w,[],W1,{target:=.fn (.func gf) lb,args:=#[.func (.yield w) #[] #[]]},W1,gf,
  #[.func (.yield w) #[] #[]]++lb,W1,by rw[a0];exact run_enterLoop_inner hl₀ _ _ _ _ _,?_,λ_ _=>trivial,?_,λ_=>h1,?_⟩
 .simp only[resolve,hg];simp[go_sem]
 .simp[invoke,go_sem,eg]
 .refine CallsIn.inRound l₀ ((h fn W1 a0).mono ?_);exact xJ4
def xM3(w:Ww)(O:Nat)(u:Vv)(R:List Nd):Prop:=(u=xh/\R= [])\/∃g cp,u=(xg g R.length cp)/\yBb w O g cp R
end Go.Proofs.YtnnagkfoiganfaaGreatDoor
