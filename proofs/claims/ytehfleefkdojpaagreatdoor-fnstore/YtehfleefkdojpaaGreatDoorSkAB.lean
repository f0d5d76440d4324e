import Derived.Test.YtehfleefkdojpaaGreatDoorSkAA
namespace Go.Proofs.YtehfleefkdojpaaGreatDoor
open _root_.List _root_.Nat Go.ChangeShapes Go.WideShapes Go.ChangeAt Go.RowKit Go.Deep Go.Maps Go.Proofs.Tryz
set_option linter.unusedVariables false
set_option linter.unusedSimpArgs false
set_option maxRecDepth 100000
set_option maxHeartbeats 16000000
def Lt2(p q:Nat×Ent):Prop:=yAc p.2 q.2= -1\/(yAc p.2 q.2=0/\p.1<q.1)
variable {p q:Nat×Ent}
theorem yFq{r:Nat×Ent}(h:Lt2 p q)(k:Lt2 q r):Lt2 p r:=by
 rcases h with h|⟨h,h'⟩<;>rcases k with k|⟨k,k'⟩
 .exact .inl (yDa h k)
 .left;have h1:=yDb k (c:=p.2);have h2:=yBm p.2 q.2;have h3:=yBm p.2 r.2;omega
 .left;have h1:=yDb h (c:=r.2);omega
 .right;have h1:=yDb h (c:=r.2);exact⟨by omega,by omega⟩
theorem yK6(p:Nat×Ent):¬Lt2 p p:=by
 rintro(h|⟨_,h⟩)
 .rw[yD2]at h;omega
 .omega
theorem yN1(h:¬p.1=q.1):Lt2 p q\/Lt2 q p:=by
 have h2:=yBm p.2 q.2;rcases yBe p.2 q.2 with k|k|k
 .exact .inl (.inl k)
 .by_cases hl:p.1<q.1
  .exact .inl (.inr ⟨k,hl⟩)
  .exact .inr (.inr ⟨by omega,by omega⟩)
 .exact .inr (.inl (by omega))
theorem yUj(h:Lt2 p q):¬Lt2 q p:=λk=>yK6 p (yFq h k)
def Over(P:List (Nat×Ent))(a:Nat)(x:Ent):Prop:=∃p∈P,p.1<a/\yA6 p.2 x=true
def Shown(P:List (Nat×Ent))(L:List Ent):Prop:=Ord L/\∀x,x∈L↔∃a,(a,x)∈P/\x.kind=0/\¬Over P a x
abbrev Ent.col(e:Ent):ByteArray×ByteArray×ByteArray:=(e.row,e.fam,e.qual)
variable {a b:Ent}
theorem yDz:yAm a b=true↔a.col=b.col:=by rw[yAz];simp[Ent.col]
theorem yUq(h:yAc a b<=0):cB a.row b.row<=0/\(a.row=b.row->cB a.fam b.fam<=0/\(a.fam=b.fam->cB a.qual b.qual<=0/\(a.qual=b.qual->yA1 a.kind b.kind<=0/\(yA1 a.kind b.kind=0->yEk a.ts b.ts<=0)))):=by
 have F:∀{x y:Int},yAr x y<=0->x<=0/\(x=0->y<=0):=by
  intro x y;unfold yAr;by_cases h:x=0
  .rw[if_pos h];intro k;exact⟨by omega,λ_=>k⟩
  .rw[if_neg h];intro k;exact⟨k,λq=>absurd q h⟩
 unfold yAc at h;obtain⟨h1,h⟩:=F h;refine⟨h1,λq=>?_⟩;obtain⟨h2,h⟩:=F (h (yBn.2 q));refine⟨h2,λq=>?_⟩;obtain⟨h3,h⟩:=F (h (yBn.2 q));refine⟨h3,λq=>?_⟩;exact F (h (yBn.2 q))
theorem Lt2.le(h:Lt2 p q):yAc p.2 q.2<=0:=by rcases h with h|⟨h,_⟩<;>omega
theorem yQ{c:Ent}(h:yAc a b<=0)(k:yAc b c<=0)(q:a.col=c.col):b.col=c.col:=by simp only[Ent.col,Prod.mk.injEq]at q|-;obtain⟨q1,q2,q3⟩:=q;obtain⟨h1,h⟩:=yUq h;obtain⟨k1,k⟩:=yUq k;have n1:=yE3 a.row b.row;rw[<-q1]at k1 k|-;have e1:b.row=a.row:=yBn.1 (by omega);obtain⟨h2,h⟩:=h e1.symm;obtain⟨k2,k⟩:=k e1;have n2:=yE3 a.fam b.fam;rw[<-q2]at k2 k|-;have e2:b.fam=a.fam:=yBn.1 (by omega);obtain⟨h3,h⟩:=h e2.symm;obtain⟨k3,k⟩:=k e2;have n3:=yE3 a.qual b.qual;rw[<-q3]at k3 k|-;have e3:b.qual=a.qual:=yBn.1 (by omega);exact⟨e1,e2,e3⟩
theorem yQj(h:yAc a b<=0)(q:a.col=b.col)(ha:¬a.kind=2)(hb:¬b.kind=2):b.ts<=a.ts:=by simp only[Ent.col,Prod.mk.injEq]at q;have hk:yA1 a.kind b.kind=0:=yIb.2 ⟨λh=>absurd h ha,λh=>absurd h hb⟩;have:=(((((yUq h).2 q.1).2 q.2.1).2 q.2.2).2) hk;unfold yEk at this;(repeat' split at this)<;>omega
variable {a:Nat}
theorem yWu{d x:Ent}{b:Nat}(h:yA6 d x=true)(hab:a<b)(hx:x.kind=0):Lt2 (a,d) (b,x):=by
 unfold yA6 at h;rw[Bool.and_eq_true,yAz]at h;obtain⟨⟨h1,h2,h3⟩,h4⟩:=h;by_cases hd:d.kind=2
 .left;show yAc d x= -1;unfold yAc;rw[yBn.2 h1,yBn.2 h2,yBn.2 h3];have:yA1 d.kind x.kind= -1:=by unfold yA1;rw[if_pos hd,if_neg (by omega)]
  rw[this];simp[yAr]
 .right;refine⟨yBw.2 ⟨h1,h2,h3,⟨λq=>absurd q hd,λq=>by have q':x.kind=2:=q;omega⟩,?_⟩,hab⟩;simpa [hd]using h4
variable {P:List (Nat×Ent)} {e:Ent}
theorem yGx{b:Nat}{x:Ent}(hx:x.kind=0)(h:Lt2 (b,x) (a,e)):Over (P++ [(a,e)]) b x↔Over P b x:=by
 constructor
 .rintro⟨p,hp,h1,h2⟩;rcases List.mem_append.1 hp with hp|hp
  .exact⟨p,hp,h1,h2⟩
  .simp at hp;subst hp;exact absurd h (yUj (yWu h2 h1 hx))
 .rintro⟨p,hp,h1,h2⟩;exact⟨p,mem_append_left _ hp,h1,h2⟩
theorem yNt:Over (P++ [(a,e)]) a e↔Over P a e:=by
 constructor
 .rintro⟨p,hp,h1,h2⟩;rcases List.mem_append.1 hp with hp|hp
  .exact⟨p,hp,h1,h2⟩
  .simp at hp;subst hp;simp at h1
 .rintro⟨p,hp,h1,h2⟩;exact⟨p,mem_append_left _ hp,h1,h2⟩
theorem yTp:Shown [] []:=⟨List.Pairwise.nil,λx=>by simp⟩
variable {L:List Ent}
theorem yCz(h:Shown P L)(hP:∀p∈P,Lt2 p (a,e))(hn:¬(e.kind=0/\¬Over P a e)):Shown (P++ [(a,e)]) L:=by
 refine⟨h.1,λx=>(h.2 x).trans ⟨?_,?_⟩⟩
 .rintro⟨b,h1,h2,h3⟩;exact⟨b,mem_append_left _ h1,h2,λq=>h3 ((yGx h2 (hP _ h1)).1 q)⟩
 .rintro⟨b,h1,h2,h3⟩;rcases List.mem_append.1 h1 with h1|h1
  .exact⟨b,h1,h2,λq=>h3 ((yGx h2 (hP _ h1)).2 q)⟩
  .simp at h1;obtain⟨rfl,rfl⟩:=h1;exact absurd ⟨h2,λq=>h3 (yNt.2 q)⟩ hn
theorem yNk(h:Shown P L)(hP:∀p∈P,Lt2 p (a,e))(h0:e.kind=0)(hn:¬Over P a e):Shown (P++ [(a,e)]) (L++ [e]):=by
 refine⟨List.pairwise_append.2 ⟨h.1,by simp,λy hy z hz=>?_⟩,λx=>?_⟩
 .simp at hz;subst hz;obtain⟨b,h1,h2,h3⟩:=(h.2 y).1 hy;rcases hP _ h1 with q|⟨q,q'⟩
  .exact q
  .refine absurd ⟨(b,y),h1,q',?_⟩ hn;obtain⟨k1,k2,k3,k4,k5⟩:=yBw.1 q;unfold yA6;have hk:¬y.kind=2:=by omega
   simp at k1 k2 k3 k5;simp[yAz,hk,k1,k2,k3,k5]
 .rw[List.mem_append,h.2 x];constructor
  .rintro(⟨b,h1,h2,h3⟩|hx)
   .exact⟨b,mem_append_left _ h1,h2,λq=>h3 ((yGx h2 (hP _ h1)).1 q)⟩
   .simp at hx;subst hx;exact⟨a,by simp,h0,λq=>hn (yNt.1 q)⟩
  .rintro⟨b,h1,h2,h3⟩;rcases List.mem_append.1 h1 with h1|h1
   .exact .inl ⟨b,h1,h2,λq=>h3 ((yGx h2 (hP _ h1)).2 q)⟩
   .simp at h1;obtain⟨rfl,rfl⟩:=h1;exact .inr (by simp)
structure Mem(P:List (Nat×Ent))(c:ByteArray×ByteArray×ByteArray)(ds:List (Nat×Int))(dec:Bool)(ts:Int):Prop where
 dels:∀d,d∈ds↔∃p∈P,p.2.kind=2/\p.2.col=c/\d=(p.1,p.2.ts)
 some:dec=true->∃p∈P,¬p.2.kind=2/\p.2.col=c/\p.2.ts=ts
 all:∀p∈P,¬p.2.kind=2->p.2.col=c->dec=true/\ts<=p.2.ts
 len:ds.length<=P.length
def Last(P:List (Nat×Ent))(c:ByteArray×ByteArray×ByteArray):Prop:=∀p,P.getLast?=some p->p.2.col=c
theorem yYx(c:ByteArray×ByteArray×ByteArray)(ts:Int):Mem [] c [] false ts:=⟨by simp,by simp,by simp,by simp⟩
theorem yWt(c:ByteArray×ByteArray×ByteArray):Last [] c:=by intro p h;simp at h
theorem yUm(P:List (Nat×Ent))(a:Nat)(e:Ent):Last (P++ [(a,e)]) e.col:=by intro p h;simp at h;subst h;rfl
theorem yVc{c:ByteArray×ByteArray×ByteArray}(hl:Last P c)(hS:P.Pairwise Lt2)(hP:∀p∈P,Lt2 p (a,e))(hc:¬e.col=c):∀p∈P,¬p.2.col=e.col:=by
 intro p hp hq;obtain⟨l,y⟩:∃l,P.getLast?=some l:=by
  cases hg:P.getLast? with
  |none=>rw[List.getLast?_eq_none_iff]at hg;subst hg;simp at hp
  |some l=>exact⟨l,rfl⟩
 have hm:l∈P:=List.mem_of_getLast? y;have h1:yAc p.2 l.2<=0:=by
  by_cases hpl:p=l
  .subst hpl;rw[yD2];omega
  .obtain⟨Q,hQ⟩:=List.getLast?_eq_some_iff.1 y;subst hQ;rcases List.mem_append.1 hp with hp|hp
   .exact((List.pairwise_append.1 hS).2.2 p hp l (by simp)).le
   .simp at hp;exact absurd hp hpl
 have:=yQ h1 (hP l hm).le hq;exact hc (this.symm.trans (hl l y))
theorem yQ0{c:ByteArray×ByteArray×ByteArray}(hl:Last P c)(hS:P.Pairwise Lt2)(hP:∀p∈P,Lt2 p (a,e))(hc:¬e.col=c)(ts:Int):Mem P e.col [] false ts:=by have:=yVc hl hS hP hc;refine⟨λd=>⟨λh=>by simp at h,?_⟩,by simp,λp hp _ q=>absurd q (this p hp),by simp⟩;rintro⟨p,hp,_,q,_⟩;exact absurd q (this p hp)
variable {ds:List (Nat×Int)} {dec:Bool}
theorem yUi{ts:Int}(h:Mem P e.col ds dec ts)(h2:e.kind=2):Mem (P++ [(a,e)]) e.col (ds++ [(a,e.ts)]) dec ts:=by
 refine⟨λd=>?_,λq=>?_,λp hp hn hc=>?_,by simpa using h.len⟩
 .rw[List.mem_append,h.dels];constructor
  .rintro(⟨p,hp,q⟩|hd)
   .exact⟨p,mem_append_left _ hp,q⟩
   .simp at hd;exact⟨(a,e),by simp,h2,rfl,hd⟩
  .rintro⟨p,hp,q1,q2,q3⟩;rcases List.mem_append.1 hp with hp|hp
   .exact .inl ⟨p,hp,q1,q2,q3⟩
   .simp at hp;subst hp;exact .inr (by simpa using q3)
 .obtain⟨p,hp,k⟩:=h.some q;exact⟨p,mem_append_left _ hp,k⟩
 .rcases List.mem_append.1 hp with hp|hp
  .exact h.all p hp hn hc
  .simp at hp;subst hp;exact absurd h2 hn
theorem yWq{ts:Int}(h:Mem P e.col ds dec ts)(h2:¬e.kind=2)(hd:dec=true)(ht:ts=e.ts):Mem (P++ [(a,e)]) e.col ds dec ts:=by
 refine⟨λd=>?_,λq=>?_,λp hp hn hc=>?_,by simpa using le_succ_of_le h.len⟩
 .exact xAu
 .obtain⟨p,hp,k⟩:=h.some q;exact⟨p,mem_append_left _ hp,k⟩
 .rcases List.mem_append.1 hp with hp|hp
  .exact h.all p hp hn hc
  .simp at hp;subst hp;exact⟨hd,by simp[ht]⟩
theorem yUg{ts:Int}(h:Mem P e.col ds dec ts)(hP:∀p∈P,Lt2 p (a,e))(h2:¬e.kind=2):Mem (P++ [(a,e)]) e.col ds true e.ts:=by
 refine⟨λd=>?_,λq=>⟨(a,e),by simp,h2,rfl,rfl⟩,λp hp hn hc=>⟨rfl,?_⟩,by simpa using le_succ_of_le h.len⟩
 .exact xAu
 .rcases List.mem_append.1 hp with hp|hp
  .exact yQj (hP p hp).le hc hn h2
  .simp at hp;subst hp;simp
theorem yNu{ts:Int}(h:Mem P e.col ds dec ts)(hP:∀p∈P,Lt2 p (a,e))(h2:¬e.kind=2)(hd:dec=true)(ht:ts=e.ts):Over P a e:=by
 obtain⟨p,hp,k1,k2,k3⟩:=h.some hd;simp only[Ent.col,Prod.mk.injEq]at k2;have hz:yAc p.2 e=0:=yBw.2 ⟨k2.1,k2.2.1,k2.2.2,⟨λq=>absurd q k1,λq=>absurd q h2⟩,by omega⟩;refine⟨p,hp,?_,?_⟩
 .rcases hP p hp with q|⟨_,q⟩
  .have q':yAc p.2 e= -1:=q;omega
  .exact q
 .unfold yA6;simp[yAz,k1,k2];omega
def yFj(ds:List (Nat×Int))(ts:Int)(a:Nat):Bool:=ds.any λd=>decide (d.1<a) && decide (ts<=d.2)
theorem yK0{ts:Int}(h:Mem P e.col ds dec ts)(hP:∀p∈P,Lt2 p (a,e))(h2:¬e.kind=2)(hd:¬(dec=true/\ts=e.ts)):Over P a e↔yFj ds e.ts a=true:=by
 unfold yFj;rw[any_eq_true];constructor
 .rintro⟨p,hp,h1,hk⟩;have a7:=hk;unfold yA6 at hk;rw[Bool.and_eq_true,yDz]at hk;by_cases hp2:p.2.kind=2
  .refine⟨(p.1,p.2.ts),(h.dels _).2 ⟨p,hp,hp2,hk.1,rfl⟩,?_⟩;have:=hk.2;simp[hp2]at this;simp[h1,this]
  .exfalso;have a5:p.2.ts=e.ts:=by have:=hk.2;simpa [hp2]using this
   obtain⟨a3,a6⟩:=h.all p hp hp2 hk.1;obtain⟨y,hy,y1,y2,y3⟩:=h.some a3;have f1:=yQj (hP y hy).le y2 y1 h2;have a8:e.ts<=y.2.ts:=f1;exact hd ⟨a3,by omega⟩
 .rintro⟨d,a4,a0⟩;obtain⟨p,hp,q1,q2,rfl⟩:=(h.dels d).1 a4;simp at a0;refine⟨p,hp,a0.1,?_⟩;unfold yA6;rw[yDz.2 q2];simp[q1,a0.2]
theorem yTq{rs:List (List Ent)}{inr:ByteArray->Bool}(h:Shown P L)(hP:∀a x,(a,x)∈P↔(∃j,At rs a j x)/\inr x.row=true):Mrg rs inr L:=by
 have ho:∀a x,inr x.row=true->(Over P a x↔yGh rs a x):=by
  intro a x hr;constructor
  .rintro⟨⟨b,d⟩,hp,h1,h2⟩;obtain⟨⟨j,es,k1,k2⟩,_⟩:=(hP b d).1 hp;exact⟨b,es,d,h1,k1,mem_of_getElem? k2,h2⟩
  .rintro⟨b,es,d,h1,k1,k2,h2⟩;obtain⟨j,hj⟩:=getElem?_of_mem k2;refine⟨(b,d),(hP b d).2 ⟨⟨j,es,k1,hj⟩,?_⟩,h1,h2⟩;unfold yA6 at h2;rw[Bool.and_eq_true,yAz]at h2;rw[h2.1.1];exact hr
 refine⟨h.1,λx=>(h.2 x).trans ⟨?_,?_⟩⟩
 .rintro⟨a,h1,h2,h3⟩;obtain⟨⟨j,hj⟩,hr⟩:=(hP a x).1 h1;exact⟨a,j,hj,h2,hr,λq=>h3 ((ho a x hr).2 q)⟩
 .rintro⟨a,j,hj,h2,hr,h3⟩;exact⟨a,(hP a x).2 ⟨⟨j,hj⟩,hr⟩,h2,λq=>h3 ((ho a x hr).1 q)⟩
section
inductive Pat where
 |byte (b:UInt8)
 |cls (f:UInt8->Bool)
 |rep (t:Pat) (opt rpt:Bool)
 |alt (os:List (List Pat))
abbrev isOp(c:UInt8):Prop:=c=42\/c=43\/c=63
abbrev xB4(c:UInt8):Prop:=isOp c\/c=124\/c=41\/c=93
def chM(p:List UInt8)(i:Nat):UInt8×Nat×Bool:=
 match p[i]? with
 |none=>(0,i,false)
 |some c=>if c=93\/c=45 then(0,i,false)else if c=92 then(match p[i+1]? with|none=>(0,i+1,false)|some d=>(d,i+2,true))else(c,i+1,true)
variable {p:List UInt8} {i k:Nat}
theorem yLk{c:UInt8}(h:chM p i=(c,k,true)):i<k/\k<=p.length:=by
 unfold chM at h;split at h
 .cases h
 .next c' hc=>
  have h0:=(List.getElem?_eq_some_iff.1 hc).1;split at h
  .cases h
  .split at h
   .split at h
    .cases h
    .next d hd=>
     have h1:=(List.getElem?_eq_some_iff.1 hd).1;simp only[Prod.mk.injEq]at h;omega
   .simp only[Prod.mk.injEq]at h;omega
def yE(p:List UInt8)(j:Nat):(UInt8×UInt8×Nat) ⊕ (Int×Nat):=
 match chM p j with
 |(_,k,false)=>.inr (2,k)
 |(lo,k,true)=>
  if p[k]?=some 45 then
   match chM p (k+1)with
   |(_,m,false)=>.inr (2,m)
   |(hi,m,true)=>if hi<lo then .inr (4,j)else .inl (lo,hi,m)
  else .inl (lo,lo,k)
variable {j:Nat}
theorem yMp{a b:UInt8}(h:yE p j=.inl (a,b,k)):j<k/\k<=p.length/\a<=b:=by
 unfold yE at h;split at h
 .cases h
 .next lo k' hk=>
  have h1:=yLk hk;split at h
  .split at h
   .cases h
   .next hi m hm=>
    have h2:=yLk hm;split at h
    .cases h
    .next hle=>
     simp only[Sum.inl.injEq,Prod.mk.injEq]at h;obtain⟨rfl,rfl,rfl⟩:=h;exact⟨by omega,by omega,UInt8.not_lt.1 hle⟩
  .simp only[Sum.inl.injEq,Prod.mk.injEq]at h;obtain⟨rfl,rfl,rfl⟩:=h;exact⟨by omega,by omega,UInt8.le_refl _⟩
def clsM(p:List UInt8)(j:Nat)(items:Bool)(f:UInt8->Bool):((UInt8->Bool)×Nat) ⊕ (Int×Nat):=
 if h:j<p.length then
  if p[j]?=some 93/\items=true then .inl (f,j+1)
  else match hi:yE p j with
   | .inr e=>.inr e
   | .inl (a,b,k)=>clsM p k true (λc=>f c || (decide (a<=c) && decide (c<=b)))
 else .inr (2,p.length)
termination_by p.length-j
decreasing_by have:=yMp hi;omega
def yBc(p:List UInt8)(i:Nat):((UInt8->Bool)×Nat) ⊕ (Int×Nat):=
 if p[i]?=some 94 then(match clsM p (i+1) false (λ_=>false)with| .inl (f,k)=>.inl (λc=> !f c,k)| .inr e=>.inr e)
 else clsM p i false (λ_=>false)
theorem yQa:∀(n:Nat){p:List UInt8}{j:Nat}{b:Bool}{f g:UInt8->Bool}{k:Nat},p.length-j<=n->clsM p j b f=.inl (g,k)->j<k/\k<=p.length
 |n,p,j,b,f,g,k,hn,h=>by
  unfold clsM at h
  split at h
  .next hj=>
   split at h
   .simp only[Sum.inl.injEq,Prod.mk.injEq]at h
    omega
   .split at h
    .cases h
    .next a b' k' hk=>
     have h1:=yMp hk
     match n,hn with
     |0,hn=>omega
     |n+1,hn=>
      have h2:=yQa n (by omega) h
      omega
  .cases h
theorem yOu{g:UInt8->Bool}(h:yBc p i=.inl (g,k)):i<k/\k<=p.length:=by
 unfold yBc at h;split at h
 .split at h
  .next hc=>
   have:=yQa _ (Nat.le_refl _) hc;simp only[Sum.inl.injEq,Prod.mk.injEq]at h;omega
  .cases h
 .exact yQa _ (Nat.le_refl _) h
theorem yUx{c:Int}(h:yE p j=.inr (c,k)):¬c=0:=by
 unfold yE at h;split at h
 .simp only[Sum.inr.injEq,Prod.mk.injEq]at h;omega
 .split at h
  .split at h
   .simp only[Sum.inr.injEq,Prod.mk.injEq]at h;omega
   .split at h
    .simp only[Sum.inr.injEq,Prod.mk.injEq]at h;omega
    .cases h
  .cases h
theorem yMx:∀(n:Nat){p:List UInt8}{j:Nat}{b:Bool}{f:UInt8->Bool}{c:Int}{k:Nat},p.length-j<=n->clsM p j b f=.inr (c,k)->¬c=0
 |n,p,j,b,f,c,k,hn,h=>by
  unfold clsM at h
  split at h
  .split at h
   .cases h
   .split at h
    .next e he=>
     simp only[Sum.inr.injEq]at h
     subst h
     exact yUx he
    .next a b' k' hk=>
     have h1:=yMp hk
     match n,hn with
     |0,hn=>omega
     |n+1,hn=>exact yMx n (by omega) h
  .simp only[Sum.inr.injEq,Prod.mk.injEq]at h;omega
theorem ySr{c:Int}(h:yBc p i=.inr (c,k)):¬c=0:=by
 unfold yBc at h;split at h
 .split at h
  .cases h
  .next e he=>
   simp only[Sum.inr.injEq]at h;subst h;exact yMx _ (Nat.le_refl _) he
 .exact yMx _ (Nat.le_refl _) h
def chkM(p:List UInt8)(i o:Nat)(a:Bool):Int×Nat:=
 if h:i<p.length then
  if p[i]=40 then(if o=20 then(3,i)else chkM p (i+1) (o+1) false)
  else if p[i]=41 then(if o=0 then(2,i)else chkM p (i+1) (o-1) true)
  else if p[i]=124 then chkM p (i+1) o false
  else if p[i]=42\/p[i]=43\/p[i]=63 then(if a=true then chkM p (i+1) o true else(2,i))
  else if p[i]=91 then(match hc:yBc p (i+1)with| .inr e=>e| .inl (f,k)=>chkM p k o true)
  else if p[i]=93 then(2,i)
  else if p[i]=92 then(if i+1=p.length then(2,p.length)else chkM p (i+2) o true)
  else chkM p (i+1) o true
 else if 0<o then(2,p.length)else(0,0)
termination_by p.length-i
decreasing_by
 all_goals first
  |(have:=yOu hc;omega)
  |omega
variable {p:List UInt8} {i o:Nat} {a:Bool} {c:UInt8}
theorem yCn(h:p[i]?=some c):i<p.length:=(List.getElem?_eq_some_iff.1 h).1
theorem yDd(h:p[i]?=some c):p[i]'(yCn h)=c:=(List.getElem?_eq_some_iff.1 h).2
theorem yVm(h:¬i<p.length):chkM p i o a=if 0<o then(2,p.length)else(0,0):=by rw[chkM,dif_neg h]
theorem yRb(h:p[i]?=some 40):chkM p i o a=if o=20 then(3,i)else chkM p (i+1) (o+1) false:=by rw[chkM,dif_pos (yCn h),if_pos (yDd h)]
theorem yOv(h:p[i]?=some 41):chkM p i o a=if o=0 then(2,i)else chkM p (i+1) (o-1) true:=by rw[chkM,dif_pos (yCn h),yDd h];simp
theorem yZg(h:p[i]?=some 124):chkM p i o a=chkM p (i+1) o false:=by rw[chkM,dif_pos (yCn h),yDd h];simp
theorem yXn(h:p[i]?=some c)(hc:isOp c):chkM p i o a=if a=true then chkM p (i+1) o true else(2,i):=by rw[chkM,dif_pos (yCn h),yDd h];rcases hc with rfl|rfl|rfl<;>simp
theorem xCb(h:p[i]?=some 93):chkM p i o a=(2,i):=by rw[chkM,dif_pos (yCn h),yDd h];simp
theorem yOw(h:p[i]?=some 91):chkM p i o a=match yBc p (i+1)with| .inr e=>e| .inl (f,k)=>chkM p k o true:=by rw[chkM,dif_pos (yCn h),yDd h];simp only[show¬(91:UInt8)=40 by decide,show¬(91:UInt8)=41 by decide,show¬(91:UInt8)=124 by decide,show¬((91:UInt8)=42\/(91:UInt8)=43\/(91:UInt8)=63)by decide,if_false,if_true];split<;>(next hc=>rw[hc])
theorem yVl(h:p[i]?=some 92):chkM p i o a=if i+1=p.length then(2,p.length)else chkM p (i+2) o true:=by rw[chkM,dif_pos (yCn h),yDd h];simp
theorem yVk(h:p[i]?=some c)(h1:¬xB4 c)(h2:¬c=40)(h3:¬c=91)(h4:¬c=92):chkM p i o a=chkM p (i+1) o true:=by rw[chkM,dif_pos (yCn h),yDd h];unfold xB4 isOp at h1;simp only[not_or]at h1;obtain⟨⟨g1,g2,g3⟩,g4,g5,g6⟩:=h1;simp[h2,h3,h4,g1,g2,g3,g4,g5,g6]
end
section
variable {P:Program} {C:World->Prop}
def fk(m:Value)(o:Oper):Oper:={o with op:=.move (.const m)}
end
section
structure Nd where
 kind:Int
 s:ByteArray
 hi:Bool
 t:ByteArray
 lo:Int
 up:Int
 n:Int
def yE4(k:Int):Nat:=if k=14\/k=15 then 2 else if k=16 then 3 else 0
theorem yRd(k:Int):yE4 k<=3:=by unfold yE4;split<;>(try split)<;>omega
inductive IsT:Nat->List Nd->Prop
 |nil:IsT 0 []
 |snoc {k:Nat} {xs:List Nd} (n:Nd) (h:IsT (k+yE4 n.kind) xs):IsT (k+1) (xs++ [n])
variable {k:Nat} {xs:List Nd}
theorem IsT.inv_snoc{ys:List Nd}{n:Nd}(h:IsT k ys)(e:ys=xs++ [n]):∃j,k=j+1/\IsT (j+yE4 n.kind) xs:=by
 cases h with
 |nil=>simp at e
 |snoc m h=>
  have:=append_inj' e rfl;obtain⟨rfl,h2⟩:=this;simp at h2;subst h2;exact⟨_,rfl,h⟩
theorem IsT.zero(h:IsT 0 xs):xs= []:=by
 cases h with
 |nil=>rfl
theorem IsT.len(h:IsT k xs):k<=xs.length:=by
 induction h with
 |nil=>exact Nat.le_refl _
 |snoc n h ih=>simp;omega
inductive Sc:Nat->List Nd->Prop
 |nil:Sc 1 []
 |cons {m:Nat} {ys:List Nd} (n:Nd) (h:Sc (m+1) ys):Sc (m+yE4 n.kind) (n::ys)
theorem Sc.inv{m:Nat}{n:Nd}{ys:List Nd}(h:Sc m (n::ys)):∃q,m=q+yE4 n.kind/\Sc (q+1) ys:=by
 cases h with
 |cons _ h=>exact⟨_,rfl,h⟩
theorem Sc.one:∀{ys:List Nd}{m k:Nat},Sc m ys->Sc k ys->m=k
 | [],_,_,.nil,.nil=>rfl
 |n::ys,m,k,h,g=>by
  obtain⟨a,rfl,ha⟩:=h.inv
  obtain⟨b,rfl,hb⟩:=g.inv
  have:=Sc.one ha hb
  omega
theorem Sc.tree:∀{ys:List Nd}{m:Nat},Sc m ys->∀{pre:List Nd},IsT m pre↔IsT 1 (pre++ys)
 | [],_,.nil,pre=>by simp
 |n::ys,m,h,pre=>by
  obtain⟨q,rfl,hq⟩:=h.inv
  have ih:=Sc.tree hq (pre:=pre++ [n])
  rw[append_assoc]at ih
  rw[show pre++n::ys=pre++([n]++ys)from rfl,<-ih]
  constructor
  .intro h;exact .snoc n h
  .intro h
   obtain⟨j,hj,h2⟩:=h.inv_snoc rfl
   rw[show q=j by omega];exact h2
variable {j:Nat}
theorem IsT.sc{b:List Nd}(h:IsT j b):∀{m:Nat}{ys:List Nd},Sc (m+j) ys->Sc m (b++ys):=by
 induction h with
 |nil=>intro m ys h;exact h
 | @snoc k xs n h ih=>
   intro m ys hs;rw[append_assoc];apply ih;show Sc (m+(k+yE4 n.kind)) (n::ys);rw[<-Nat.add_assoc];exact .cons n hs
theorem IsT.sc0{b:List Nd}(h:IsT 1 b):Sc 0 b:=by have:=h.sc (m:=0) (ys:= []) .nil;simpa using this
theorem yLx{i:Nat}(hi:IsT 1 (xs.drop i))(hj:IsT 1 (xs.drop j))(hij:i<=j)(hjl:j<=xs.length):i=j:=by
 have h0:=hj.sc0;have e:xs.drop i=(xs.drop i).take (j-i)++xs.drop j:=by
  conv=>lhs;rw[<-take_append_drop (j-i) (xs.drop i)]
  rw[drop_drop,show i+(j-i)=j by omega]
 rw[e]at hi;have h1:=(h0.tree.2 hi).zero;have h2:=congrArg List.length h1;simp at h2;omega
theorem yYk:∀{i m:Nat},Sc (m+1) (xs.drop i)->∀j,i<=j->j<=xs.length->¬IsT 1 (xs.drop j):=by
 intro i m h j y a0 ht;obtain⟨d,rfl⟩:∃d,j=i+d:=⟨j-i,by omega⟩;clear y;induction d generalizing i m with
 |zero=>have:=h.one ht.sc0;omega
 |succ d ih=>
  rw[drop_eq_getElem_cons (by omega)]at h;obtain⟨q,_,hq⟩:=h.inv;exact ih (i:=i+1) (m:=q) hq (by omega) (by rw[show i+1+d=i+(d+1)by omega];exact ht)
structure yHe where
 valid:Bool
 kind:Int
 nest:Nat
variable (G:Nd->Bool)
end
abbrev Ent.five(e:Ent):List Value:= [.string e.row,.string e.fam,.string e.qual,.int .u64 e.ts,.string e.val]
abbrev Ent.c(e:Ent):Value:=.agg #[.string e.row,.string e.fam,.string e.qual,.int .u64 e.ts,.string e.val]
def yBg(es:List Ent):List Value:=es.flatMap Ent.five
theorem yJ9(e:Ent)(es:List Ent):yBg (e::es)=e.five++yBg es:=by simp[yBg]
theorem yCq(es fs:List Ent):yBg (es++fs)=yBg es++yBg fs:=by simp[yBg]
theorem yCo(es:List Ent):(yBg es).length=es.length*5:=by
 induction es with
 |nil=>rfl
 |cons e es ih=>rw[yJ9,length_append,ih];simp;omega
theorem yLr(es:List Ent):∀(k:Nat)(e:Ent),es[k]?=some e->∀j,j<5->(yBg es)[k*5+j]?=e.five[j]?:=by
 induction es with
 |nil=>intro k e h;simp at h
 |cons f es ih=>
  intro k e h j hj;rw[yJ9];cases k with
  |zero=>
   simp at h;subst h;rw[getElem?_append_left (by show 0*5+j<5;omega)];simp
  |succ k=>
   simp at h;rw[getElem?_append_right (by show 5<=(k+1)*5+j;omega)];have:(k+1)*5+j-f.five.length=k*5+j:=by show(k+1)*5+j-5=_;omega
   rw[this];exact ih k e h j hj
def yBd(w:World)(b off:Nat)(es:List Ent):Prop:=
 ∀i e,es[i]?=some e->w.cell? ⟨b,off+i*5,none⟩=some (.string e.row)/\w.cell? ⟨b,off+i*5+1,none⟩=some (.string e.fam)/\w.cell? ⟨b,off+i*5+2,none⟩=some (.string e.qual)/\
  w.cell? ⟨b,off+i*5+3,none⟩=some (.int .u64 e.ts)/\w.cell? ⟨b,off+i*5+4,none⟩=some (.string e.val)
variable {w:World} {es:List Ent}
theorem yBd.below{B:Nat}{w':World}{b off:Nat}(h:yBd w b off es)(hb:Below B w w')(hlt:b<B):yBd w' b off es:=by
 intro i e he;have:=h i e he;refine⟨?_,?_,?_,?_,?_⟩;all_goals rw[hb.cell (by exact hlt)]
 .exact this.1
 .exact this.2.1
 .exact this.2.2.1
 .exact this.2.2.2.1
 .exact this.2.2.2.2
def OwnC(w:World)(base g cap:Nat)(es:List Ent):Prop:=w.ownsRow base 73 5 (.slice (some ⟨g,0,none⟩) es.length cap) es.length (yBg es)
variable {base g cap:Nat}
theorem OwnC.at(h:OwnC w base g cap es):yBd w g 0 es:=by
 intro i e he;have hi:i<es.length:=(List.getElem?_eq_some_iff.1 he).1;have c:=λj (hj:j<5)=>(World.ownsRow.cellAt h (i*5+j) (by omega)).trans (yLr es i e he j hj);refine⟨?_,?_,?_,?_,?_⟩
 .simpa using c 0 (by omega)
 .simpa using c 1 (by omega)
 .simpa using c 2 (by omega)
 .simpa using c 3 (by omega)
 .simpa using c 4 (by omega)
theorem OwnC.lt(h:OwnC w base g cap es):base<=g/\g<w.heap.size:=World.ownsRow.lt h g rfl
theorem OwnC.below{B:Nat}{w':World}(h:OwnC w base g cap es)(hb:Below B w w')(hg:g<B):OwnC w' base g cap es:=by exact yS8
theorem OwnC.mono{base':Nat}(h:OwnC w base g cap es)(hb:base'<=base):OwnC w base' g cap es:=by exact yM5
variable {R:List Ent}
theorem OwnC.caps{cp:Nat}(h:OwnC w base g cp R):R.length<=cp/\cp<=maxLen:=by exact zzQ8
theorem yMb(w:World):OwnC (w.alloc (Obj.cells #[] 73)) w.heap.size w.heap.size 0 []:=World.ownsRow_made w #[] 0 (Nat.le_refl _) (zero_le _) (by simp)
theorem Tryz.infoCel:(prog.info? 73).map (λi=>(i.zero,i.size,i.bytes))=some (some (.agg #[.string ⟨#[]⟩,.string ⟨#[]⟩,.string ⟨#[]⟩,.int .u64 0,.string ⟨#[]⟩]),5,72):=by kernel_rfl
theorem yH5(wx:World)(f:Ent):yBd (wx.alloc (Obj.cells #[.string f.row,.string f.fam,.string f.qual,.int .u64 f.ts,.string f.val] 73)) wx.heap.size 0 [f]:=by exact yS5
theorem yHl{ops:Array Oper}{rest:List Oper}{o:Oper}{a:Act}{Q:Exit->Act->World->Prop}(w:World)(hgd:o.guard=none)(s x:Operand)
  (ho:o.op=.call {callee:=.builtin .append,args:=#[s,x],argTypes:=#[37,37]})
  (base g cp n blk:Nat) (fs:List Ent) (e:Ent) (hs:a.eval s=.slice (some ⟨g,0,none⟩) n cp) (hx:a.eval x=.slice (some ⟨blk,0,none⟩) 1 1) (hn:n=fs.length) (hO:OwnC w base g cp fs)
  (hc:yBd w blk 0 [e]) (hlen:fs.length<=2^30) (hbase:base<=w.heap.size)
  (h:∀g' cp' w',OwnC w' base g' cp' (fs++ [e])->w.grownBy w' (some g)->wpList prog ops Q rest (a.put o.dst (.slice (some ⟨g',0,none⟩) (n+1) cp')) w'):wpList prog ops Q (o::rest) a w:=by
 obtain⟨i,hi,a4,a3,a0⟩:=info_parts Tryz.infoCel;subst hn;obtain⟨c0,c1,c2,c3,c4⟩:=hc 0 e rfl;refine wpList_append_own w hgd s x 37 ho base 73 i _ 5 72 underlying37 hi a4 a3 a0 rfl (by decide) (.slice (some ⟨g,0,none⟩) fs.length cp) fs.length (yBg fs) hs hO ⟨blk,0,none⟩ 1 1 (yBg [e]) hx rfl ?_ ?_ ?_ ?_ hbase ?_
 .exact xA8
 .intro u hu;simp[yBg]at hu;rcases hu with rfl|rfl|rfl|rfl|rfl<;>rfl
 .unfold maxLen;omega
 .omega
 .intro v' w' y a7 a5;rw[<-yCq]at y;have a6:(fs++ [e]).length=fs.length+1:=by simp
  rcases y.2 with⟨hv,_⟩|⟨g',a8,cur,hv,h1,h2,h3⟩
  .have:=(a5.1 hv).1;simp at this
  .subst hv;exact h g' a8 w' (by unfold OwnC;rw[a6];exact y) a7
theorem yNh(e:Ent)(w:World):
  Calls prog 113 #[e.v] w λr w'=>r=.returned e.c/\Below w.heap.size w w':=by
 unfold Ent.v;go_enter func113,ntmps113;go_wp2;refine bodyPost_ret (v:=e.c) (by simp[results,results113,go_sem]) rfl ⟨rfl,?_⟩;exact(qB).alloc (by simp) _
theorem yIc(e:Ent)(w:World):
  Calls prog 154 #[e.v] w λr w'=>r=.returned e.c/\Below w.heap.size w w':=by
 unfold Ent.v;go_enter func154,ntmps154;go_wp2;refine bodyPost_ret (v:=e.c) (by simp[results,results154,go_sem]) rfl ⟨rfl,?_⟩;exact(qB).alloc (by simp) _
theorem yJ3(wx:World)(f:Ent):yAe (wx.alloc (Obj.cells #[.string f.row,.string f.fam,.string f.qual,.int .u64 f.ts,.int .i64 f.kind,.string f.val] 64)) wx.heap.size 0 [f]:=by exact yS5
theorem OwnE.setBelow(h:OwnE w base g cap es)(a:Addr)(ha:a.block<base)(u:Value):OwnE (w.setCell a u) base g cap es:=ownsRow_setCell_below h ha u
def yBu(ws:List Ent)(e:Ent)(j:Nat):Prop:=∀i v,i<j->ws[i]?=some v->v.kind=2->yAm v e=true->v.ts<=e.ts
variable {ws:List Ent} {j:Nat}
theorem yMl(h:yBu ws e j)(hj:ws.length<=j):yKe ws e:=by intro v hv h1 h2;obtain⟨i,hi⟩:=getElem?_of_mem hv;exact h i v (by have:=(List.getElem?_eq_some_iff.1 hi).1;omega) hi h1 h2
theorem yEo{v:Ent}(h:yBu ws e j)(hv:ws[j]?=some v)(hk:v.kind=2->yAm v e=true->v.ts<=e.ts):yBu ws e (j+1):=by
 intro i u hi hu h1 h2;by_cases e1:i=j
 .subst e1;rw[hv]at hu;simp at hu;subst hu;exact hk h1 h2
 .exact h i u (by omega) hu h1 h2
variable {k:Nat}
theorem yMm{v:Ent}(hv:ws[j]?=some v)(h1:v.kind=2)(h2:yAm v e=true)(h3:¬v.ts<=e.ts)(hk:j<k):¬yBu ws e k:=λh=>h3 (h j v hk hv h1 h2)
theorem yEp(h:yBu ws e k)(hj:j<=k):yBu ws e j:=λi v hi=>h i v (by omega)
theorem yKn(b off cap:Nat)(ws:List Ent)(w:World)(hE:yAe w b off ws)(hok:∀e∈ws,e.ok)(hB:b<w.heap.size)(hlen:ws.length<=1048576):
  Calls prog 97 #[.slice (some ⟨b,off,none⟩) ws.length cap] w λr w'=>
   ∃(g cp:Nat)(R:List Ent),r=.returned (.agg #[.slice (some ⟨g,0,none⟩) R.length cp])/\OwnE w' w.heap.size g cp R/\Below w.heap.size w w'/\R.length<=ws.length/\(yEt ws->Kept ws ws.length R)/\(¬yEt ws->R= []):=by
 have HE:Hid (yAe w b off ws):=hE;have HO:Hid (∀e∈ws,e.ok):=hok;clear hE hok;obtain⟨W0,a3⟩:=qE ((w.alloc (Obj.cells #[.slice none 0 0] 60)).alloc (Obj.cells #[] 64):World);have ac:Below w.heap.size w W0:=by rw[a3];exact(qB).alloc (by simp) _
 have aw:w.heap.size+1<W0.heap.size:=by rw[a3];simp
 have ca:W0.cell? ⟨w.heap.size,0,none⟩=some (.slice none 0 0):=by rw[a3];simp
 have cf:W0.frozen? ⟨w.heap.size,0,none⟩=false:=by rw[a3];simp
 have HS:Hid (OwnE W0 (w.heap.size+1) (w.heap.size+1) 0 []):=by
  show OwnE W0 (w.heap.size+1) (w.heap.size+1) 0 [];have h:=World.ownsRow_made (base:=w.heap.size+1) (e:=64) (size:=6) (w.alloc (Obj.cells #[.slice none 0 0] 60)) #[] 0 (by simp) (zero_le _) (by simp);rw[a3];have h3:((w.alloc (Obj.cells #[.slice none 0 0] 60)).alloc (Obj.cells #[] 64)).ownsRow (w.heap.size+1) 64 6 (.slice (some ⟨w.heap.size+1,0,none⟩) 0 0) 0 []:=by simpa using h
  exact h3
 have aj:Hid (yAe W0 b off ws):=HE.below ac hB;go_enter func97,ntmps97;go_wp2_with fail;rw[<-a3];clear a3;refine(yFr b off cap ws _ aj.out HO.out (by omega) hlen).mono ?_;rintro e w1 ⟨r,rfl,hr,hb1⟩;have HR:Hid (r=true↔yEt ws):=hr;clear hr;have aA:=hb1.size;have ad:w1.cell? ⟨w.heap.size,0,none⟩=some (.slice none 0 0):=by rw[hb1.cell (p:=⟨w.heap.size,0,none⟩) (by show w.heap.size<_;omega)];exact ca
 have an:w1.frozen? ⟨w.heap.size,0,none⟩=false:=by rw[hb1.frozen (p:=⟨w.heap.size,0,none⟩) (by show w.heap.size<_;omega)];exact cf
 have af:Hid (OwnE w1 (w.heap.size+1) (w.heap.size+1) 0 []):=HS.below hb1 (by omega);have au:Hid (yAe w1 b off ws):=aj.below hb1 (by omega);have k1:Below w.heap.size w w1:=ac.trans (hb1.mono (by omega));cases r
 .have HN:Hid (¬yEt ws):=λh=>Bool.noConfusion (HR.2 h);go_wp2_with fail;refine bodyPost_ret (v:=.agg #[.slice (some ⟨w.heap.size+1,0,none⟩) 0 0]) (by simp[results,results97,go_sem,ad]) rfl ⟨_,_,[],rfl,?_,k1.setCell (by show w.heap.size<=w.heap.size;omega) _,by simp,λh=>absurd h HN.out,λ_=>rfl⟩;exact(af.setBelow ⟨w.heap.size,0,none⟩ (by show w.heap.size<_;omega) _).mono (by omega)
 have HG:Hid (yEt ws):=HR.1 rfl;clear HR;go_wp2_with fail;go_loopw[3,4] (λo i wr=>∃(k g cp:Nat)(R:List Ent),k<=ws.length/\i=.int .i64 k/\o=.slice (some ⟨g,0,none⟩) R.length cp/\OwnE wr (w.heap.size+1) g cp R/\Kept ws k R/\R.length<=k/\Below w1.heap.size w1 wr) (λ_ i _=>ws.length-(intOf i).toNat);case atStart=>exact⟨0,_,0,[],zero_le _,rfl,rfl,af.out,yUt ws,Nat.le_refl _,Below.refl _ _⟩
 case round=>
  obtain⟨k,g,cp,R,hk,rfl,rfl,hO,hK,aC,hb⟩:=hrel;obtain⟨wo,rfl⟩:=qE (wr:World);have HK:Hid (OwnE wo (w.heap.size+1) g cp R/\Kept ws k R):=⟨hO,hK⟩;have hg:=hO.lt;have hs:=hb.size;clear hO hK;by_cases hlt:k<ws.length
  .obtain⟨e,he⟩:∃e,ws[k]?=some e:=⟨_,getElem?_eq_getElem hlt⟩;have ah:Hid (yAe wo b off ws):=au.below hb (by omega);obtain⟨c0,c1,c2,c3,c4,c5⟩:=ah.out k e he;have a5:Hid (ws[k]?=some e):=he;clear he;obtain⟨W1,a0⟩:=qE (wo.alloc (Obj.cells #[.string e.row,.string e.fam,.string e.qual,.int .u64 e.ts,.int .i64 e.kind,.string e.val] 64):World);have a4:Below wo.heap.size wo W1:=by rw[a0];exact qB
   have av:wo.heap.size<W1.heap.size:=by rw[a0];simp
   have a9:Hid (yAe W1 wo.heap.size 0 [e]):=by show yAe W1 wo.heap.size 0 [e];rw[a0];exact yJ3 wo e
   have ai:Hid (yAe W1 b off ws):=ah.below a4 (by omega);cases g2:(e.kind != 2)
   .have ab:e.kind=2:=by simpa using g2
    have a6:Hid (e.kind=2):=ab;clear ab;go_wp2_with fail;rw[<-a0];clear a0 c0 c1 c2 c3 c4 c5;go_loopw[6,7] (λl i wr=>∃(j:Nat)(lb:Bool),j<=ws.length/\i=.int .i64 j/\l=.bool lb/\(lb=true↔yBu ws e j)/\Below W1.heap.size W1 wr) (λ_ i _=>ws.length-(intOf i).toNat);case atStart=>exact⟨0,true,zero_le _,rfl,rfl,iffT (λi v hi=>by omega),Below.refl _ _⟩
    case round=>
     obtain⟨j,lb,hj,rfl,rfl,hl,y⟩:=hrel;have HL:Hid (lb=true↔yBu ws e j):=hl;clear hl;have ax:=y.size;have ak:wo.heap.size<wr.heap.size:=by omega
     by_cases hjl:j<ws.length
     .obtain⟨v,hv⟩:∃v,ws[j]?=some v:=⟨_,getElem?_eq_getElem hjl⟩;obtain⟨c0,c1,c2,c3,c4,c5⟩:=ai.below y (by omega) j v hv;obtain⟨d0,d1,d2,d3,d4,d5⟩:=a9.below y (by omega) 0 e rfl;simp only[Nat.zero_add,Nat.zero_mul]at d0 d1 d2 d3 d4 d5;have a7:Hid (ws[j]?=some v):=hv;clear hv;have hb7:Below W1.heap.size W1 (wr.alloc (Obj.cells #[.string v.row,.string v.fam,.string v.qual,.int .u64 v.ts,.int .i64 v.kind,.string v.val] 64)):=y.alloc y.size _;cases gv:(v.kind==2)
      .have HL':Hid (lb=true↔yBu ws e (j+1)):=⟨λh=>yEo (HL.1 h) a7.out (λq=>by simp at gv;exact absurd q gv),λh=>HL.2 (yEp h (by omega))⟩;go_wp2_with fail;go_roundw;case rel=>exact⟨j+1,lb,by omega,by go_num,rfl,HL'.out,hb7⟩
       case measure=>go_light;simp[intOf];omega
      .have aq:Hid (v.kind=2):=by show v.kind=2;simpa using gv
       go_wp2_with fail;refine(yB1 v e _).mono ?_;rintro e' w8 ⟨rfl,a8⟩;have hb9:=hb7.trans (a8.mono (by simp;omega));obtain⟨am,aB⟩:=ySy a8;have ay:=a8.size;have cw:∀o,w8.cell? ⟨wo.heap.size,o,none⟩=wr.cell? ⟨wo.heap.size,o,none⟩:=λo=>by rw[am _ _ (by simp;omega),World.cell?_alloc_past _ _ _ ak]
       cases hsc:yAm v e
       .have HL':Hid (lb=true↔yBu ws e (j+1)):=⟨λh=>yEo (HL.1 h) a7.out (λ_ q=>by rw[hsc]at q;cases q),λh=>HL.2 (yEp h (by omega))⟩;exact yZv
       .by_cases ht:e.ts<v.ts
        .have HL':Hid (false=true↔yBu ws e (j+1)):=iffF (yMm a7.out aq.out hsc (by omega) (by omega));go_wp2_with fail;go_roundw;case rel=>exact⟨j+1,false,by omega,by go_num,rfl,HL'.out,hb9⟩
         case measure=>go_light;simp[intOf];omega
        .have HL':Hid (lb=true↔yBu ws e (j+1)):=⟨λh=>yEo (HL.1 h) a7.out (λ_ _=>by omega),λh=>HL.2 (yEp h (by omega))⟩;exact yZv
     .have ag:Hid (lb=true↔yKe ws e):=⟨λh=>yMl (HL.1 h) (by omega),λh=>HL.2 (λi v hi hv=>h v (mem_of_getElem? hv))⟩;have hb3:Below w1.heap.size w1 wr:=(hb.trans (a4.mono (by omega))).trans (y.mono (by omega));have HK3:Hid (OwnE wr (w.heap.size+1) g cp R):=(HK.1.below a4 hg.2).below y (by omega);cases lb
      .have HS':Hid (Kept ws (k+1) R):=yOa HK.2 a5.out (λh=>by
        rcases h with h|h
        .exact h.1 a6.out
        .exact Bool.noConfusion (ag.2 h.2))
       exact xAa
      .have HS':Hid (Kept ws (k+1) (into R e)):=yO HG.2 HK.2 a5.out (.inr ⟨a6.out,ag.1 rfl⟩);obtain⟨d0,d1,d2,d3,d4,d5⟩:=a9.below y (by omega) 0 e rfl;simp only[Nat.zero_add,Nat.zero_mul]at d0 d1 d2 d3 d4 d5;go_wp2_with fail;refine(yJy g 0 cp R e _ HK3.at (by have:=HK3.lt;omega) (by omega)).mono ?_;rintro e' w3 ⟨g',cp',rfl,hO',hb4⟩;have HO':Hid (OwnE w3 wr.heap.size g' cp' (into R e)):=hO';exact xAz
   .have a6:Hid (¬e.kind=2):=by show¬e.kind=2;simpa using g2
    go_wp2_with fail;rw[<-a0];clear a0 c0 c1 c2 c3 c4 c5;refine(yPe b off cap ws k e _ ai.out (by omega) a5.out hlen).mono ?_;rintro e' w2 ⟨s,rfl,aa,hb2⟩;have ae:Hid (s=true↔yO5 ws k):=aa;clear aa;have az:=hb2.size;have hb3:Below w1.heap.size w1 w2:=(hb.trans (a4.mono (by omega))).trans (hb2.mono (by omega));have HK3:Hid (OwnE w2 (w.heap.size+1) g cp R):=(HK.1.below a4 hg.2).below hb2 (by omega);cases s
    .have HS':Hid (Kept ws (k+1) R):=yOa HK.2 a5.out (λh=>by
      rcases h with h|h
      .exact Bool.noConfusion (ae.2 h.2)
      .exact a6.out h.1)
     exact xAa
    .have HS':Hid (Kept ws (k+1) (into R e)):=yO HG.2 HK.2 a5.out (.inl ⟨a6.out,ae.1 rfl⟩);obtain⟨d0,d1,d2,d3,d4,d5⟩:=a9.below hb2 (by omega) 0 e rfl;simp only[Nat.zero_add,Nat.zero_mul]at d0 d1 d2 d3 d4 d5;go_wp2_with fail;refine(yJy g 0 cp R e _ HK3.at (by have:=HK3.lt;omega) (by omega)).mono ?_;rintro e' w3 ⟨g',cp',rfl,hO',hb4⟩;have HO':Hid (OwnE w3 w2.heap.size g' cp' (into R e)):=hO';exact xAz
  .have al:k=ws.length:=by omega
   have ao:wo.cell? ⟨w.heap.size,0,none⟩=some (.slice none 0 0):=by rw[hb.cell (p:=⟨w.heap.size,0,none⟩) (by show w.heap.size<_;omega)];exact ad
   have aD:wo.frozen? ⟨w.heap.size,0,none⟩=false:=by rw[hb.frozen (p:=⟨w.heap.size,0,none⟩) (by show w.heap.size<_;omega)];exact an
   have ar:Hid (Kept ws ws.length R):=by show Kept ws ws.length R;rw[<-al];exact HK.2
   go_wp2_with fail;refine bodyPost_ret (v:=.agg #[.slice (some ⟨g,0,none⟩) R.length cp]) (by simp[results,results97,go_sem,ao]) rfl ⟨_,_,R,rfl,?_,(k1.trans (hb.mono (by omega))).setCell (by show w.heap.size<=w.heap.size;omega) _,by omega,λ_=>ar.out,λh=>absurd HG.out h⟩;exact(HK.1.setBelow ⟨w.heap.size,0,none⟩ (by show w.heap.size<_;omega) _).mono (by omega)
theorem yYy:laidOutB prog=true:=by kernel_rfl
def Rh:Value->Option (DataW Value×List MemPlace):=λv=>some (.held v,[])
theorem xC0{v:Value}{x:DataW Value}{ps:List MemPlace}(h:Rh v=some (x,ps)):x=.held v/\ps= []:=by unfold Rh at h;simp at h;exact⟨h.1.symm,h.2⟩
theorem yK9:∀(q:List Ent)(v:Ent),v∈q->v.kind=2->∃d∈q,d.kind=2/\yAm d v=true/\v.ts<=d.ts/\∀u∈q,u.kind=2->yAm u v=true->u.ts<=d.ts
 | [],v,hv,_=>by simp at hv
 |a::q,v,hv,hk=>by
  have hvv:yAm v v=true:=by rw[yAz];exact⟨rfl,rfl,rfl⟩
  by_cases hq:∃u∈q,u.kind=2/\yAm u v=true
  .obtain⟨u,hu,a6,y⟩:=hq
   obtain⟨d,hd,a9,a3,aa,a7⟩:=yK9 q u hu a6
   have a8:yAm d v=true:=by rw[yAz]at*;exact⟨a3.1.trans y.1,a3.2.1.trans y.2.1,a3.2.2.trans y.2.2⟩
   have a0:∀x∈q,x.kind=2->yAm x v=true->x.ts<=d.ts:=λx hx h2 h3=>a7 x hx h2 (by rw[yAz]at*;exact⟨h3.1.trans y.1.symm,h3.2.1.trans y.2.1.symm,h3.2.2.trans y.2.2.symm⟩)
   by_cases ha:a.kind=2/\yAm a v=true/\d.ts<a.ts
   .refine⟨a,by simp,ha.1,ha.2.1,?_,λx hx h2 h3=>?_⟩
    .rcases mem_cons.1 hv with rfl|hv
     .exact Int.le_refl _
     .have:=a0 v hv hk hvv;omega
    .rcases mem_cons.1 hx with rfl|hx
     .exact Int.le_refl _
     .have:=a0 x hx h2 h3;omega
   .have a4:a.kind=2->yAm a v=true->a.ts<=d.ts:=λh1 h2=>by
     by_cases h3:d.ts<a.ts
     .exact absurd ⟨h1,h2,h3⟩ ha
     .omega
    refine⟨d,mem_cons_of_mem _ hd,a9,a8,?_,λx hx h2 h3=>?_⟩
    .rcases mem_cons.1 hv with rfl|hv
     .exact a4 hk hvv
     .exact a0 v hv hk hvv
    .rcases mem_cons.1 hx with rfl|hx
     .exact a4 h2 h3
     .exact a0 x hx h2 h3
  .have a5:v=a:=by
    rcases mem_cons.1 hv with h|h
    .exact h
    .exact absurd ⟨v,h,hk,hvv⟩ hq
   subst a5
   refine⟨v,by simp,hk,hvv,Int.le_refl _,λx hx h2 h3=>?_⟩
   rcases mem_cons.1 hx with rfl|hx
   .exact Int.le_refl _
   .exact absurd ⟨x,hx,h2,h3⟩ hq
theorem yN7{v:Ent}:yA6 v e=true↔yAm v e=true/\((v.kind=2/\e.ts<=v.ts)\/(¬v.kind=2/\v.ts=e.ts)):=by unfold yA6;by_cases h:v.kind=2<;>simp[h]
theorem yGs{a c:Ent}(h:yAm a b=true)(k:yAm b c=true):yAm a c=true:=by rw[yAz]at*;exact⟨h.1.trans k.1,h.2.1.trans k.2.1,h.2.2.trans k.2.2⟩
variable {p:List Ent}
theorem yWv(hk:Kept p p.length R){v x:Ent}(hv:v∈p)(h2:v.kind=2)(hx:yA6 v x=true):∃d∈R,yA6 d x=true:=by
 obtain⟨d,hd,a0,y,a5,a3⟩:=yK9 p v hv h2;obtain⟨i,hi⟩:=getElem?_of_mem hd;have a4:=(List.getElem?_eq_some_iff.1 hi).1;refine⟨d,(hk.2 d).2 ⟨i,a4,hi,.inr ⟨a0,λu hu hu2 hud=>a3 u hu hu2 (yGs hud y)⟩⟩,?_⟩;rw[yN7]at hx|-;rcases hx.2 with⟨_,h⟩|⟨h,_⟩
 .exact⟨yGs y hx.1,.inl ⟨a0,by omega⟩⟩
 .exact absurd h2 h
theorem yFb(hk:Kept p k R):∀x∈R,x∈p:=λx hx=>by
 obtain⟨i,_,hi,_⟩:=(hk.2 x).1 hx
 exact mem_of_getElem? hi
theorem yMo(hk:Kept p p.length R)(hp:0<p.length):0<R.length:=by
 obtain⟨v,hv⟩:∃v,p[p.length-1]?=some v:=⟨_,getElem?_eq_getElem (by omega)⟩;by_cases h2:v.kind=2
 .obtain⟨d,hd,_⟩:=yWv (x:=v) hk (mem_of_getElem? hv) h2 (by rw[yN7,yAz];exact⟨⟨rfl,rfl,rfl⟩,.inl ⟨h2,Int.le_refl _⟩⟩);exact List.length_pos_of_mem hd
 .have:v∈R:=(hk.2 v).2 ⟨p.length-1,by omega,hv,.inl ⟨h2,λj u e h1 h3 _=>by have:=(List.getElem?_eq_some_iff.1 h3).1;omega⟩⟩;exact List.length_pos_of_mem this
theorem yUu(hg:yEt p)(hk:Kept p p.length R)(hl:R.length<=p.length):yAp R:=by
 refine⟨⟨Nat.le_trans hl hg.1,λx hx=>hg.2 x (yFb hk x hx)⟩,λi a b ha hb=>?_⟩;have a3:=yJo hk.1 (Nat.lt_succ_self i) ha hb;unfold yA3;simp only[a3,Bool.and_eq_true,Bool.not_eq_true',beq_iff_eq,true_and];cases hq:((a.kind==2) && ((b.kind==2) && yAm a b))with
 |false=>rfl
 |true=>
  exfalso;simp only[Bool.and_eq_true,beq_iff_eq]at hq;obtain⟨a0,hb2,y⟩:=hq;obtain⟨_,_,_,ka⟩:=(hk.2 a).1 (mem_of_getElem? ha);obtain⟨_,_,_,kb⟩:=(hk.2 b).1 (mem_of_getElem? hb);have la:yKe p a:=by rcases ka with⟨h,_⟩|⟨_,h⟩;exact absurd a0 h;exact h
  have lb:yKe p b:=by rcases kb with⟨h,_⟩|⟨_,h⟩;exact absurd hb2 h;exact h
  have h1:=la b (yFb hk b (mem_of_getElem? hb)) hb2 (by rw[yNo];exact y);have h2:=lb a (yFb hk a (mem_of_getElem? ha)) a0 y;rw[yAz]at y;have:yAc a b=0:=yBw.2 ⟨y.1,y.2.1,y.2.2,by simp[a0,hb2],by omega⟩;omega
abbrev ptB(b:Nat):Value:=.pointer (some ⟨b,0,none⟩)
abbrev mvW(w:World)(a:Option Addr)(n c mb:Nat)(ca:Option Addr)(cn cc:Nat)(h:Bool):World:=
 ((w.alloc (Obj.cells #[.slice a n c,ptB mb] 137)).alloc (Obj.cells #[.slice ca cn cc] 37)).alloc (Obj.cells #[.bool h] 4)
theorem yR6(w:World)(a:Option Addr)(c mb:Nat)(ca:Option Addr)(cn cc:Nat)(h:Bool):
  Calls prog 87 #[.agg #[.slice a 0 c,ptB mb],.slice ca cn cc,.bool h] w λe w'=>e=.returned (.func (Fn.func 147) #[] #[ptB (w.heap.size+1),ptB w.heap.size,ptB (w.heap.size+1+1)])/\w'=mvW w a 0 c mb ca cn cc h:=by
 go_enter func87,ntmps87;go_wp2_with fail;go_ret;exact⟨rfl,rfl⟩
theorem u8lt(x:UInt8):x.toNat<256:=UInt8.toNat_lt x
abbrev ub(x:UInt8):Value:=.int .u8 (x.toNat:Int)
theorem yN0(b off cap b' off' cap':Nat)(es:List Ent)(w:World)(hE:yBd w b off es)(hE':yBd w b' off' es)(hB:b<w.heap.size)(hB':b'<w.heap.size)(hlen:es.length<=maxLen):
  Calls prog 11 #[.slice (some ⟨b,off,none⟩) es.length cap,.slice (some ⟨b',off',none⟩) es.length cap'] w λe w'=>e=.returned (.bool true)/\Below w.heap.size w w':=by
 have HE:Hid (yBd w b off es/\yBd w b' off' es):=⟨hE,hE'⟩;clear hE hE';unfold maxLen at hlen;go_enter func11,ntmps11;go_wp2;go_loopw[5] (λi wr=>∃(k:Nat),k<=es.length/\i=.int .i64 k/\Below w.heap.size w wr) (λi _=>es.length-(intOf i).toNat);case atStart=>exact⟨0,zero_le _,rfl,Below.refl _ _⟩
 case round=>
  obtain⟨k,hk,rfl,hb⟩:=hrel;have y:=hb.size;by_cases hlt:k<es.length
  .obtain⟨e,he⟩:∃e,es[k]?=some e:=⟨_,getElem?_eq_getElem hlt⟩;obtain⟨c0,c1,c2,c3,c4⟩:=HE.1.below hb hB k e he;obtain⟨d0,d1,d2,d3,d4⟩:=HE.2.below hb hB' k e he;clear he;go_upto_region 6 with fail;go_cut[25] (λs wx=>s=.bool false/\Below w.heap.size w wx);case first=>
    have z2:(k:Int)<(es.length:Int):=by omega
    go_region;all_goals go_wp2_with fail
    all_goals go_meet
    all_goals exact⟨rfl,hb.drew⟩
   case rest=>
   obtain⟨rfl,h3⟩:=hcut;clear c0 c1 c2 c3 c4 d0 d1 d2 d3 d4;go_wp2_with fail;go_roundw;case rel=>exact⟨k+1,by omega,by go_num,h3⟩
   case measure=>simp[intOf];omega
  .go_wp2_with fail;go_ret;exact⟨rfl,hb⟩
theorem yPt{cp base' g' cp':Nat}(h:OwnC w base g cp es)(h':OwnC w base' g' cp' es):
  Calls prog 11 #[.slice (some ⟨g,0,none⟩) es.length cp,.slice (some ⟨g',0,none⟩) es.length cp'] w λe w'=>e=.returned (.bool true)/\Below w.heap.size w w':=
 yN0 g 0 cp g' 0 cp' es w h.at h'.at h.lt.2 h'.lt.2 (Nat.le_trans h.caps.1 h.caps.2)
end Go.Proofs.YtehfleefkdojpaaGreatDoor
