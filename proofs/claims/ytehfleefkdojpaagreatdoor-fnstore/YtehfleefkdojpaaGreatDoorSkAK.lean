import Derived.Test.YtehfleefkdojpaaGreatDoorSkAH
import Derived.Test.YtehfleefkdojpaaGreatDoorSkAJ
import Derived.Test.YtehfleefkdojpaaGreatDoorSkAI
namespace Go.Proofs.YtehfleefkdojpaaGreatDoor
open _root_.List _root_.Nat Go.ChangeShapes Go.WideShapes Go.ChangeAt Go.RowKit Go.Deep Go.Proofs.Tryz
set_option linter.unusedVariables false
set_option linter.unusedSimpArgs false
set_option maxRecDepth 100000
set_option maxHeartbeats 16000000
def Sh:List (List Ent)->Ent->Prop
 | [],_=>False
 |es::rs,x=>x∈es\/((∀d∈es,yA6 d x=false)/\Sh rs x)
variable {es:List Ent} {rs:List (List Ent)} {x:Ent}
theorem yLd{i:Nat}:yGh (es::rs) (i+1) x↔(∃d∈es,yA6 d x=true)\/yGh rs i x:=by
 constructor
 .rintro⟨m,ds,d,h1,h2,h3,h4⟩;cases m with
  |zero=>simp at h2;subst h2;exact .inl ⟨d,h3,h4⟩
  |succ m=>exact .inr ⟨m,ds,d,by omega,by simpa using h2,h3,h4⟩
 .rintro(⟨d,h3,h4⟩|⟨m,ds,d,h1,h2,h3,h4⟩)
  .exact⟨0,es,d,by omega,rfl,h3,h4⟩
  .exact⟨m+1,ds,d,by omega,by simpa using h2,h3,h4⟩
theorem yXg:∀(rs:List (List Ent)),(∃i j,At rs i j x/\¬yGh rs i x)↔Sh rs x
 | []=>⟨fun⟨i,j,⟨es,h,_⟩,_⟩=>by simp at h,λh=>h.elim⟩
 |es::rs=>by
  unfold Sh
  rw[<-yXg rs]
  constructor
  .rintro⟨i,j,⟨fs,h1,h2⟩,hn⟩
   cases i with
   |zero=>simp at h1;subst h1;exact .inl (mem_of_getElem? h2)
   |succ i=>
    rw[yLd]at hn
    refine .inr ⟨λd hd=>?_,i,j,⟨fs,by simpa using h1,h2⟩,λq=>hn (.inr q)⟩
    cases hq:yA6 d x with
    |false=>rfl
    |true=>exact absurd (.inl ⟨d,hd,hq⟩) hn
  .rintro(h|⟨hk,i,j,⟨fs,h1,h2⟩,hn⟩)
   .obtain⟨j,hj⟩:=getElem?_of_mem h
    exact⟨0,j,⟨es,rfl,hj⟩,yLc _ _⟩
   .refine⟨i+1,j,⟨fs,by simpa using h1,h2⟩,?_⟩
    rw[yLd]
    rintro(⟨d,hd,q⟩|q)
    .rw[hk d hd]at q;cases q
    .exact hn q
variable {inr:ByteArray->Bool} {L:List Ent}
theorem yGd(h:Mrg rs inr L)(x:Ent):x∈L↔x.kind=0/\inr x.row=true/\Sh rs x:=by rw[h.2 x,<-yXg];exact⟨fun⟨i,j,a,b,c,d⟩=>⟨b,c,i,j,a,d⟩,fun⟨b,c,i,j,a,d⟩=>⟨i,j,a,b,c,d⟩⟩
theorem yN6{d:Ent}(h:yA6 d x=true):d.row=x.row:=by unfold yA6 at h;exact(yAz.1 (Bool.and_eq_true_iff.1 h).1).1
theorem yKw:∀{rs:List (List Ent)},Sh rs x->∃es∈rs,x∈es
 | [],h=>h.elim
 |es::rs,h=>by
  rcases h with h|⟨_,h⟩
  .exact⟨es,by simp,h⟩
  .obtain⟨fs,h1,h2⟩:=yKw h;exact⟨fs,by simp[h1],h2⟩
theorem yNm:∀(a b:List (List Ent)),Sh (a++b) x↔Sh a x\/((∀ds∈a,∀d∈ds,yA6 d x=false)/\Sh b x)
 | [],b=>by simp[Sh]
 |es::a,b=>by
  simp only[cons_append,Sh,yNm a b,List.forall_mem_cons]
  constructor
  .rintro(h|⟨h,h2|⟨h2,h3⟩⟩)
   .exact .inl (.inl h)
   .exact .inl (.inr ⟨h,h2⟩)
   .exact .inr ⟨⟨h,h2⟩,h3⟩
  .rintro((h|⟨h,h2⟩)|⟨⟨h,h2⟩,h3⟩)
   .exact .inl h
   .exact .inr ⟨h,.inl h2⟩
   .exact .inr ⟨h,.inr ⟨h2,h3⟩⟩
variable {hi:ByteArray} {hh:Bool}
theorem yEn{lo:ByteArray}:x∈inP lo hh hi es↔x∈es/\inR lo hh hi x.row=true:=by unfold inP;exact List.mem_filter
theorem yTr{lo hi:ByteArray}{hh:Bool}{x:Ent}:∀(rs:List (List Ent)),Sh (yA0 lo hh hi rs) x↔Sh rs x/\inR lo hh hi x.row=true
 | []=>by simp[yA0,Sh]
 |es::rs=>by
  have ih:=yTr (lo:=lo) (hi:=hi) (hh:=hh) (x:=x) rs
  have e:yA0 lo hh hi (es::rs)=if 0<(inP lo hh hi es).length then inP lo hh hi es::yA0 lo hh hi rs else yA0 lo hh hi rs:=by unfold yA0;rw[map_cons,List.filter_cons];simp
  rw[e]
  have hk:inR lo hh hi x.row=true->((∀d∈inP lo hh hi es,yA6 d x=false)↔∀d∈es,yA6 d x=false):=λhx=>by
   refine⟨λh d hd=>?_,λh d hd=>h d (yEn.1 hd).1⟩;cases hq:yA6 d x with
   |false=>rfl
   |true=>rw[<-hq];exact h d (yEn.2 ⟨hd,by rw[yN6 hq];exact hx⟩)
  split
  .simp only[Sh,ih];constructor
   .rintro(h1|⟨h1,h2,h3⟩)
    .exact⟨.inl (yEn.1 h1).1,(yEn.1 h1).2⟩
    .exact⟨.inr ⟨(hk h3).1 h1,h2⟩,h3⟩
   .rintro⟨h1|⟨h1,h2⟩,h3⟩
    .exact .inl (yEn.2 ⟨h1,h3⟩)
    .exact .inr ⟨(hk h3).2 h1,h2,h3⟩
  .rename_i hz;have y:inP lo hh hi es= []:=List.eq_nil_of_length_eq_zero (by omega);rw[ih];simp only[Sh];constructor
   .rintro⟨h1,h2⟩;exact⟨.inr ⟨(hk h2).1 (by rw[y];simp),h1⟩,h2⟩
   .rintro⟨h1|⟨h1,h2⟩,h3⟩
    .have:=yEn.2 ⟨h1,h3⟩;rw[y]at this;simp at this
    .exact⟨h2,h3⟩
def Sees(ts:List Tb)(x:Ent):Prop:=∃t∈ts,Sh t.rs x
def yHf(inr:ByteArray->Bool):List Tb->List Ent->Prop
 | [],L=>L= []
 |t::ts,L=>∃M N,yBo t.rs inr M/\yHf inr ts N/\L=M++N
variable {t:Tb}
theorem yHq{M:List Ent}(hM:yBo t.rs inr M):∀{ts:List Tb}{L:List Ent},yHf inr ts L->yHf inr (ts++ [t]) (L++M)
 | [],L,h=>by rw[show L= []from h];exact⟨M,[],hM,rfl,by simp⟩
 |a::ts,L,h=>by
  obtain⟨A,N,h1,h2,rfl⟩:=h
  exact⟨A,N++M,h1,yHq hM h2,by simp⟩
def CTs(ts:List Tb):Prop:=∀i t,ts[i]?=some t->yIp ts i t
def OkT(t:Tb):Prop:=t.lo.size<=64/\yAl t.rs
theorem yOk(t:Tb)(ts:List Tb)(i:Nat):hasN (t::ts) (i+1)=hasN ts i:=by unfold hasN;simp
theorem yQ3(t:Tb)(ts:List Tb)(i:Nat):hiN (t::ts) (i+1)=hiN ts i:=by unfold hiN;simp
theorem yIf:CTs [t]↔OkT t/\RowsIn t.lo false ⟨#[]⟩ t.rs:=by
 constructor
 .intro h;have:=h 0 t rfl;exact⟨⟨this.size,this.runs⟩,this.rows⟩
 .rintro⟨h1,h2⟩ i x hx;cases i with
  |zero=>simp at hx;subst hx;exact⟨h1.1,λp hp=>by omega,h1.2,h2⟩
  |succ i=>simp at hx
theorem yDo{n:Tb}{r:List Tb}:CTs (t::n::r)↔OkT t/\Op.bytesLess t.lo.toList n.lo.toList=true/\RowsIn t.lo true n.lo t.rs/\CTs (n::r):=by
 constructor
 .intro h;have h0:=h 0 t rfl;refine⟨⟨h0.size,h0.runs⟩,(h 1 n rfl).up t (by omega) rfl,h0.rows,λi x hx=>?_⟩;have hi:=h (i+1) x (by simpa using hx);refine⟨hi.size,λp hp hq=>hi.up p (by omega) ?_,hi.runs,?_⟩
  .cases i with
   |zero=>omega
   |succ i=>simpa using hq
  .have:=hi.rows;rwa [yOk,yQ3]at this
 .rintro⟨h1,h2,h3,h4⟩ i x hx;cases i with
  |zero=>simp at hx;subst hx;exact⟨h1.1,λp hp=>by omega,h1.2,h3⟩
  |succ i=>
   have hi:=h4 i x (by simpa using hx);refine⟨hi.size,λp hp hq=>?_,hi.runs,by rw[yOk,yQ3];exact hi.rows⟩;cases i with
   |zero=>simp at hq hx;subst hq;subst hx;exact h2
   |succ i=>exact hi.up p (by omega) (by simpa using hq)
theorem yP8{ts:List Tb}(h:CTs (t::ts)):CTs ts:=by
 cases ts with
 |nil=>intro i x hx;simp at hx
 |cons n r=>exact(yDo.1 h).2.2.2
theorem yOp:∀(pre:List Tb){l:List Tb},CTs (pre++l)->CTs l
 | [],l,h=>h
 |p::pre,l,h=>yOp pre (yP8 h)
variable {post:List Tb}
theorem yLi{a b:Tb}{R:List Tb}(hR:CTs (b::R))(hlo:b.lo=a.lo):∀(pre:List Tb),CTs (pre++a::post)->CTs (pre++b::R)
 | [],_=>hR
 | [p],h=>by
   have:=yDo.1 h
   exact yDo.2 ⟨this.1,by rw[hlo];exact this.2.1,by rw[hlo];exact this.2.2.1,hR⟩
 |p::q::pre,h=>by
  have:=yDo.1 h
  exact yDo.2 ⟨this.1,this.2.1,this.2.2.1,yLi hR hlo (q::pre) this.2.2.2⟩
theorem yK7{a b c:ByteArray}(h1:Op.bytesLess a.toList b.toList=true)(h2:Op.bytesLess c.toList b.toList=false):Op.bytesLess c.toList a.toList=false:=by
 cases hq:Op.bytesLess c.toList a.toList with
 |false=>rfl
 |true=>have:=yEy hq h1;rw[this]at h2;cases h2
theorem yY0{a b c:ByteArray}(h1:Op.bytesLess a.toList b.toList=true)(h2:Op.bytesLess c.toList b.toList=false):Op.bytesLess a.toList c.toList=true:=by
 rw[yAv]at h1|-;have h3:cB c b≠ -1:=λq=>by rw[(yAv c b).2 q]at h2;cases h2
 rcases yCr b c with q|q|q
 .exact yH h1 q
 .exact(yKa a b c).2.2.1 h1 q
 .exact absurd (by rw[yE3,q]) h3
theorem yZb:∀{r:List Tb}{n:Tb},CTs (n::r)->∀t∈n::r,∀es∈t.rs,∀e∈es,Op.bytesLess e.row.toList n.lo.toList=false
 | [],n,h,t,ht,es,hes,e,he=>by
   simp at ht;subst ht
   have:=((yIf.1 h).2 es hes).2 e he
   unfold inR at this;simpa using (Bool.and_eq_true_iff.1 this).1
 |m::r,n,h,t,ht,es,hes,e,he=>by
  obtain⟨h1,h2,h3,h4⟩:=yDo.1 h
  rcases mem_cons.1 ht with rfl|ht
  .have:=(h3 es hes).2 e he
   unfold inR at this;simpa using (Bool.and_eq_true_iff.1 this).1
  .exact yK7 h2 (yZb h4 t ht es hes e he)
theorem xC{n:Tb}{r:List Tb}(h:CTs (t::n::r)):∀es∈t.rs,∀e∈es,Op.bytesLess e.row.toList n.lo.toList=true:=λes hes e he=>by
 have:=((yDo.1 h).2.2.1 es hes).2 e he
 unfold inR at this;simpa using (Bool.and_eq_true_iff.1 this).2
theorem yJw{a b:Ent}(h:Op.bytesLess a.row.toList b.row.toList=true):yAc a b= -1:=by unfold yAc;rw[(yAv a.row b.row).1 h];rfl
theorem yL{a b:Ent}(h:yAc a b= -1):Op.bytesLess b.row.toList a.row.toList=false:=by
 cases hq:Op.bytesLess b.row.toList a.row.toList with
 |false=>rfl
 |true=>have:=yJw hq;rw[yBm,h]at this;cases this
theorem yL6:∀{ts:List Tb}{L:List Ent},CTs ts->yHf inr ts L->Ord L/\∀x,x∈L↔x.kind=0/\inr x.row=true/\Sees ts x
 | [],L,_,h=>by
   rw[show L= []from h]
   exact⟨List.Pairwise.nil,λx=>⟨λq=>by simp at q,fun⟨_,_,t,ht,_⟩=>by simp at ht⟩⟩
 |t::ts,L,hc,h=>by
  obtain⟨M,N,h1,h2,rfl⟩:=h
  obtain⟨i1,i2⟩:=yL6 (yP8 hc) h2
  have hm:=h1.1 (hc 0 t rfl).runs
  refine⟨List.pairwise_append.2 ⟨hm.1,i1,λa ha b hb=>?_⟩,λx=>?_⟩
  .obtain⟨_,_,s,hs,hb2⟩:=(i2 b).1 hb
   obtain⟨es,e1,e2⟩:=yKw ((yGd hm a).1 ha).2.2
   obtain⟨fs,f1,f2⟩:=yKw hb2
   cases ts with
   |nil=>simp at hs
   |cons n r=>exact yJw (yY0 (xC hc es e1 a e2) (yZb (yP8 hc) s hs fs f1 b f2))
  .rw[List.mem_append,yGd hm,i2 x]
   unfold Sees
   simp only[mem_cons,exists_eq_or_imp]
   constructor
   .rintro(⟨a,b,c⟩|⟨a,b,c⟩)
    .exact⟨a,b,.inl c⟩
    .exact⟨a,b,.inr c⟩
   .rintro⟨a,b,c|c⟩
    .exact .inl ⟨a,b,c⟩
    .exact .inr ⟨a,b,c⟩
def yHg(us ts:List Tb):Prop:=∀x:Ent,x.kind=0->(Sees us x↔Sees ts x)
theorem yNn{ts us:List Tb}{M:List Ent}(h1:CTs ts)(h2:CTs us)(hs:yHg us ts)(hL:yHf inr ts L)(hM:yHf inr us M):M=L:=by obtain⟨a1,a2⟩:=yL6 h1 hL;obtain⟨b1,b2⟩:=yL6 h2 hM;exact yMc b1 a1 (λx=>by rw[a2,b2];exact⟨fun⟨h,q,r⟩=>⟨h,q,(hs x h).1 r⟩,fun⟨h,q,r⟩=>⟨h,q,(hs x h).2 r⟩⟩)
variable {pre l m:List Tb}
theorem yWc(h:Sees m x↔Sees l x):Sees (pre++m++post) x↔Sees (pre++l++post) x:=by unfold Sees at h|-;simp only[List.mem_append,or_and_right,exists_or]at h|-;rw[h]
theorem less_lt'{x a:ByteArray}(h1:Op.bytesLess x.toList hi.toList=true)(h2:Op.bytesLess x.toList a.toList=false):Op.bytesLess a.toList hi.toList=true:=by
 rw[yAv]at h1|-;have h3:cB x a≠ -1:=λq=>by rw[(yAv x a).2 q]at h2;cases h2
 rcases yCr a x with q|q|q
 .exact yH q h1
 .exact(yKa a x hi).2.2.2 q h1
 .exact absurd (by rw[yE3,q]) h3
theorem yXi{hi:ByteArray}{hh:Bool}:∀{es:List Ent},Ord es->∃C,es=es.filter (λx=> !hh || Op.bytesLess x.row.toList hi.toList)++C
 | [],_=>⟨[],rfl⟩
 |a::r,h=>by
  have hp:=List.pairwise_cons.1 h
  cases hq:(!hh || Op.bytesLess a.row.toList hi.toList)with
  |true=>
   obtain⟨C,hC⟩:=yXi (hi:=hi) (hh:=hh) hp.2
   exact⟨C,by rw[List.filter_cons,if_pos hq,cons_append,<-hC]⟩
  |false=>
   have:(a::r).filter (λx=> !hh || Op.bytesLess x.row.toList hi.toList)= []:=by
    refine List.filter_eq_nil_iff.2 (λx hx q=>?_);simp only[Bool.or_eq_false_iff]at hq;rcases mem_cons.1 hx with rfl|hx
    .simp[hq.1,hq.2]at q
    .have hr:=yL (hp.1 x hx);have h3:Op.bytesLess x.row.toList hi.toList=true:=by simpa [hq.1]using q
     rw[less_lt' h3 hr]at hq;cases hq.2
   exact⟨a::r,by rw[this];rfl⟩
theorem yXh{lo:ByteArray}:∀{es:List Ent},Ord es->∃A,es=A++es.filter (λx=> !Op.bytesLess x.row.toList lo.toList)
 | [],_=>⟨[],rfl⟩
 |a::r,h=>by
  have hp:=List.pairwise_cons.1 h
  cases hq:Op.bytesLess a.row.toList lo.toList with
  |true=>
   obtain⟨A,hA⟩:=yXh (lo:=lo) hp.2
   exact⟨a::A,by rw[List.filter_cons,if_neg (by simp[hq]),cons_append,<-hA]⟩
  |false=>
   refine⟨[],?_⟩
   rw[nil_append]
   refine(List.filter_eq_self.2 (λx hx=>?_)).symm
   rcases mem_cons.1 hx with rfl|hx
   .simp[hq]
   .have hr:=yL (hp.1 x hx)
    cases hz:Op.bytesLess x.row.toList lo.toList with
    |false=>rfl
    |true=>rw[less_lt' hz hr]at hq;cases hq
theorem yP6{A B:List Ent}(h:yAp (A++B)):yAp B:=by
 refine⟨⟨?_,λe he=>h.1.2 e (List.mem_append_right _ he)⟩,λi p e hp he=>h.2 (A.length+i) p e ?_ ?_⟩
 .have:=h.1.1;simp at this;omega
 .rw[getElem?_append_right (by omega)];simpa using hp
 .rw[getElem?_append_right (by omega),show A.length+i+1-A.length=i+1 by omega];exact he
theorem ySk{B C:List Ent}(h:yAp (B++C)):yAp B:=by
 refine⟨⟨?_,λe he=>h.1.2 e (mem_append_left _ he)⟩,λi p e hp he=>h.2 i p e ?_ ?_⟩
 .have:=h.1.1;simp at this;omega
 .rw[getElem?_append_left (List.getElem?_eq_some_iff.1 hp).1];exact hp
 .rw[getElem?_append_left (List.getElem?_eq_some_iff.1 he).1];exact he
theorem yU6{lo:ByteArray}(h:yAp es):yAp (inP lo hh hi es):=by
 obtain⟨A,hA⟩:=yXh (lo:=lo) (yB8 h);have h1:yAp (es.filter (λx=> !Op.bytesLess x.row.toList lo.toList)):=yP6 (A:=A) (by rw[<-hA];exact h);obtain⟨C,hC⟩:=yXi (hi:=hi) (hh:=hh) (yB8 h1);have h2:=ySk (C:=C) (by rw[<-hC];exact h1);have e:inP lo hh hi es=(es.filter (λx=> !Op.bytesLess x.row.toList lo.toList)).filter (λx=> !hh || Op.bytesLess x.row.toList hi.toList):=by unfold inP;rw[List.filter_filter];congr 1;funext x;unfold inR;rw[Bool.and_comm]
 rw[e];exact h2
theorem yFd{lo:ByteArray}(h:yAl rs):yAl (yA0 lo hh hi rs):=by
 unfold yA0;refine⟨?_,λes he=>?_⟩
 .have:=List.length_filter_le (λe:List Ent=>decide (0<e.length)) (rs.map (inP lo hh hi));have:=h.1;simp only[length_map]at*;omega
 .obtain⟨fs,h1,rfl⟩:=List.mem_map.1 (List.mem_filter.1 he).1;exact yU6 (h.2 fs h1)
theorem yWw{lo:ByteArray}(h:es∈yA0 lo hh hi rs):es≠ []/\∃fs∈rs,es=inP lo hh hi fs:=by unfold yA0 at h;obtain⟨h1,h2⟩:=List.mem_filter.1 h;obtain⟨fs,h3,h4⟩:=List.mem_map.1 h1;exact⟨λq=>by subst q;simp at h2,fs,h3,h4.symm⟩
theorem yJz{lo row:ByteArray}:inR lo hh hi row=true↔Op.bytesLess row.toList lo.toList=false/\(hh=true->Op.bytesLess row.toList hi.toList=true):=by unfold inR;cases hh<;>simp
theorem yIv{ts:List Tb}(h:GoodS ts):CTs ts:=h.tabs
variable {a:Tb}
theorem yU3{R:List Tb}{b:Tb}(h:GoodS (pre++a::post))(hR:CTs (b::R))(hlo:b.lo=a.lo)(hn:(pre++b::R).length<=100):GoodS (pre++b::R):=by
 refine⟨by simp;omega,hn,λt ht=>?_,yLi hR hlo pre h.tabs⟩;cases pre with
 |nil=>simp at ht;subst ht;rw[hlo];exact h.first a rfl
 |cons p pre=>exact h.first t (by simpa using ht)
theorem yIz{ts:List Tb}{i:Nat}(ha:ts[i]?=some a):ts=ts.take i++a::ts.drop (i+1):=by exact yZ7
theorem yJl{b:Tb}{l' m':List Tb}(hl:l=a::l')(hm:m=b::m')(h:GoodS (pre++l++post))(hc:CTs (a::(l'++post))->CTs (b::(m'++post))/\yHg m l)(hlo:b.lo=a.lo)(hn:(pre++m++post).length<=100):
  GoodS (pre++m++post)/\yHg (pre++m++post) (pre++l++post):=by
 subst hl;subst hm;simp only[append_assoc,cons_append]at h hn|-;obtain⟨h1,h2⟩:=hc (yOp pre h.tabs);refine⟨yU3 h h1 hlo hn,λx hx=>?_⟩;have:=yWc (pre:=pre) (post:=post) (h2 x hx);simpa only[append_assoc,cons_append]using this
theorem yGt{lo lo2 hi2:ByteArray}{hh2:Bool}(h:RowsIn lo hh hi rs)(k:∀row,inR lo hh hi row=true->inR lo2 hh2 hi2 row=true->inR lo2 hh2 hi2 row=true)(l3 h3:ByteArray)(hh3:Bool)(q:∀row,inR lo hh hi row=true->inR lo2 hh2 hi2 row=true->inR l3 hh3 h3 row=true):RowsIn l3 hh3 h3 (yA0 lo2 hh2 hi2 rs):=by intro es y;obtain⟨h1,fs,h2,rfl⟩:=yWw y;refine⟨h1,λe he=>?_⟩;obtain⟨h4,h5⟩:=yEn.1 he;exact q _ ((h fs h2).2 e h4) h5
variable {out:List Tb}
theorem yIs{ts:List Tb}{row:ByteArray}(hg:GoodS ts)(h:SplT ts row out):GoodS out/\yHg out ts:=by
 have a0:GoodS ts/\yHg ts ts:=⟨hg,λ_ _=>Iff.rfl⟩;by_cases hl:64<row.size
 .rw[h.long hl];exact a0
 by_cases hf:ts.length=100
 .rw[h.full hf];exact a0
 obtain⟨i,hi⟩:=yB9 hg row;have ha:=getElem?_eq_getElem hi.1;generalize ts[i]'hi.1=a at ha;by_cases hs:a.lo=row
 .rw[h.same hg i a hi ha hs];exact a0
 rw[h.done hg (by omega) hf i a hi ha hs];have e:=yIz ha;have e2:ts=ts.take i++ [a]++ts.drop (i+1):=by simpa using e
 unfold cutT;have a3:Op.bytesLess row.toList a.lo.toList=false:=(hi.2 i a ha).1 (Nat.le_refl _);have a4:Op.bytesLess a.lo.toList row.toList=true:=by
  rw[yAv];rcases yCr a.lo row with q|q|q
  .exact q
  .exact absurd (yBn.1 q) hs
  .exfalso;have:=(yAv row a.lo).2 (by rw[yE3,q]);rw[this]at a3;cases a3
 have a5:∀n,ts[i+1]?=some n->Op.bytesLess row.toList n.lo.toList=true:=λn hn=>by
  cases hq:Op.bytesLess row.toList n.lo.toList with
  |true=>rfl
  |false=>have:=(hi.2 (i+1) n hn).2 hq;omega
 have a6:(ts.take i++ [(⟨a.lo,yA0 ⟨#[]⟩ true row a.rs⟩:Tb),⟨row,yA0 row false ⟨#[]⟩ a.rs⟩]++ts.drop (i+1)).length<=100:=by have h1:=congrArg List.length e2;have h2:=hg.le;simp only[length_append,length_cons,length_nil]at h1|-;omega
 have a7:∀x:Ent,∀(y:ByteArray),Op.bytesLess y.toList (⟨#[]⟩:ByteArray).toList=false:=λx y=>yK8 y ⟨#[]⟩ rfl;have key:=yJl (pre:=ts.take i) (l:= [a]) (m:= [⟨a.lo,yA0 ⟨#[]⟩ true row a.rs⟩,⟨row,yA0 row false ⟨#[]⟩ a.rs⟩]) (post:=ts.drop (i+1)) rfl rfl (by rw[<-e2];exact hg) (λhc=>?_) rfl a6
 .rw[<-e2]at key;exact key
 .refine⟨?_,λx hx0=>?_⟩
  .simp only[nil_append,cons_append]at hc|-;generalize hd:ts.drop (i+1)=post at hc;cases post with
   |nil=>
    obtain⟨⟨o1,o2⟩,o3⟩:=yIf.1 hc;refine yDo.2 ⟨⟨o1,yFd o2⟩,a4,?_,yIf.2 ⟨⟨by show row.size<=64;omega,yFd o2⟩,?_⟩⟩
    .refine yGt o3 (λ_ _ q=>q) _ _ _ (λr h1 h2=>?_);rw[yJz]at h1 h2|-;exact⟨h1.1,h2.2⟩
    .refine yGt o3 (λ_ _ q=>q) _ _ _ (λr h1 h2=>h2)
   |cons n r=>
    have hn:ts[i+1]?=some n:=by have:=congrArg (λl=>l[0]?) hd;simpa using this
    obtain⟨⟨o1,o2⟩,o4,o3,o5⟩:=yDo.1 hc;refine yDo.2 ⟨⟨o1,yFd o2⟩,a4,?_,yDo.2 ⟨⟨by show row.size<=64;omega,yFd o2⟩,a5 n hn,?_,o5⟩⟩
    .refine yGt o3 (λ_ _ q=>q) _ _ _ (λr h1 h2=>?_);rw[yJz]at h1 h2|-;exact⟨h1.1,h2.2⟩
    .refine yGt o3 (λ_ _ q=>q) _ _ _ (λr h1 h2=>?_);rw[yJz]at h1 h2|-;exact⟨h2.1,h1.2⟩
  .unfold Sees;simp only[mem_cons,not_mem_nil,or_false,exists_eq_or_imp,exists_eq_left,yTr,yJz];constructor
   .rintro(⟨q,_⟩|⟨q,_⟩)<;>exact q
   .intro q;cases hx:Op.bytesLess x.row.toList row.toList with
    |true=>exact .inl ⟨q,a7 x _,λ_=>rfl⟩
    |false=>exact .inr ⟨q,rfl,λz=>by cases z⟩
theorem yGy{ts:List Tb}{row:ByteArray}(hg:GoodS ts)(h:MrgT ts row out):GoodS out/\yHg out ts:=by
 have y:GoodS ts/\yHg ts ts:=⟨hg,λ_ _=>Iff.rfl⟩;obtain⟨i,hi⟩:=yB9 hg row;by_cases hl:i+1=ts.length
 .rw[h.last hg i hi hl];exact y
 have ha:=getElem?_eq_getElem hi.1;have hb:=getElem?_eq_getElem (show i+1<ts.length by have:=hi.1;omega);generalize ts[i]'hi.1=a at ha;generalize ts[i+1]'(by have:=hi.1;omega)=b at hb;by_cases hf:50<a.rs.length+b.rs.length
 .rw[h.full hg i a b hi ha hb hf];exact y
 rw[h.done hg i a b hi ha hb (by omega)];have e2:ts=ts.take i++ [a,b]++ts.drop (i+2):=by simpa using yJ ha hb
 have a3:(ts.take i++ [(⟨a.lo,a.rs++b.rs⟩:Tb)]++ts.drop (i+2)).length<=100:=by have h1:=congrArg List.length e2;have h2:=hg.le;simp only[length_append,length_cons,length_nil]at h1|-;omega
 have key:=yJl (pre:=ts.take i) (l:= [a,b]) (m:= [⟨a.lo,a.rs++b.rs⟩]) (post:=ts.drop (i+2)) rfl rfl (by rw[<-e2];exact hg) (λhc=>?_) rfl a3
 .rw[<-e2]at key;exact key
 .obtain⟨⟨o1,o2⟩,o4,o3,o5⟩:=yDo.1 hc;refine⟨?_,λx hx0=>?_⟩
  .simp only[nil_append,cons_append]at o5|-;have a0:∀(p2:yAl b.rs),yAl (a.rs++b.rs):=λp2=>⟨by simp;omega,λes he=>by
    rcases List.mem_append.1 he with he|he
    .exact o2.2 es he
    .exact p2.2 es he⟩
   have hr:∀(hh:Bool)(hi:ByteArray),RowsIn b.lo hh hi b.rs->(hh=true->Op.bytesLess b.lo.toList hi.toList=true)->RowsIn a.lo hh hi (a.rs++b.rs):=λhh hi p3 hbh es he=>by
    rcases List.mem_append.1 he with he|he
    .refine⟨(o3 es he).1,λe q=>?_⟩;have:=(o3 es he).2 e q;rw[yJz]at this|-;exact⟨this.1,λz=>yEy (this.2 rfl) (hbh z)⟩
    .refine⟨(p3 es he).1,λe q=>?_⟩;have:=(p3 es he).2 e q;rw[yJz]at this|-;exact⟨yK7 o4 this.1,this.2⟩
   generalize ts.drop (i+2)=post at o5;cases post with
   |nil=>
    obtain⟨⟨p1,p2⟩,p3⟩:=yIf.1 o5;exact yIf.2 ⟨⟨o1,a0 p2⟩,hr _ _ p3 (λz=>by cases z)⟩
   |cons n r=>
    obtain⟨⟨p1,p2⟩,p4,p3,p5⟩:=yDo.1 o5;exact yDo.2 ⟨⟨o1,a0 p2⟩,yEy o4 p4,hr _ _ p3 (λ_=>p4),p5⟩
  .unfold Sees;simp only[mem_cons,not_mem_nil,or_false,exists_eq_or_imp,exists_eq_left,yNm];constructor
   .rintro(q|⟨_,q⟩)
    .exact .inl q
    .exact .inr q
   .rintro(q|q)
    .exact .inl q
    .refine .inr ⟨λds hds d hd=>?_,q⟩;cases hk:yA6 d x with
     |false=>rfl
     |true=>
      exfalso;obtain⟨fs,f1,f2⟩:=yKw q;have h1:=yZb o5 b (by simp) fs f1 x f2;have h2:=xC hc ds hds d hd;rw[yN6 hk,h1]at h2;cases h2
theorem yWj(hg:yAl rs)(h:yBo rs allR L)(hn:L.length<=10000):yAl (yBi L)/\(∀x:Ent,x.kind=0->(Sh (yBi L) x↔Sh rs x))/\∀es∈yBi L,es≠ []/\∀e∈es,∃fs∈rs,e∈fs:=by
 have hm:=h.1 hg;have hk:∀x∈L,x.kind=0:=λx hx=>((yGd hm x).1 hx).1;have hs:∀x:Ent,x.kind=0->(x∈L↔Sh rs x):=λx hx=>by rw[yGd hm x];exact⟨λq=>q.2.2,λq=>⟨hx,yY2 _,q⟩⟩
 unfold yBi;rw[yJj hk];split
 .rename_i hz;have:L= []:=List.eq_nil_of_length_eq_zero hz;subst this;refine⟨⟨by simp,λes he=>by simp at he⟩,λx hx=>?_,λes he=>by simp at he⟩;rw[<-hs x hx];simp[Sh]
 .rename_i hz;refine⟨ySj (yP4 hg hm hn),λx hx=>?_,λes he=>?_⟩
  .rw[<-hs x hx];simp[Sh]
  .simp at he;subst he;exact⟨λq=>hz (by rw[q];rfl),λe he=>yKw ((yGd hm e).1 he).2.2⟩
theorem yIy{ts:List Tb}{row:ByteArray}(hg:GoodS ts)(h:CmsT ts row out):GoodS out/\yHg out ts:=by
 have y:GoodS ts/\yHg ts ts:=⟨hg,λ_ _=>Iff.rfl⟩;rcases h with⟨h,_⟩|⟨i,a,L,_,hi,ha,hm,⟨_,rfl⟩|⟨hL,rfl⟩⟩
 .exact absurd hg h
 .exact y
 have e2:ts=ts.take i++ [a]++ts.drop (i+1):=by simpa using yIz ha
 have a0:(ts.take i++ [(⟨a.lo,yBi L⟩:Tb)]++ts.drop (i+1)).length<=100:=by have h1:=congrArg List.length e2;have h2:=hg.le;simp only[length_append,length_cons,length_nil]at h1|-;omega
 obtain⟨k1,k2,k3⟩:=yWj (hg.tabs i a ha).runs hm hL;unfold yNr;have key:=yJl (pre:=ts.take i) (l:= [a]) (m:= [⟨a.lo,yBi L⟩]) (post:=ts.drop (i+1)) rfl rfl (by rw[<-e2];exact hg) (λhc=>?_) rfl a0
 .rw[<-e2]at key;exact key
 .refine⟨?_,λx hx0=>?_⟩
  .simp only[nil_append,cons_append]at hc|-;have hr:∀(hh:Bool)(hi:ByteArray),RowsIn a.lo hh hi a.rs->RowsIn a.lo hh hi (yBi L):=λhh hi p es he=>by obtain⟨q1,q2⟩:=k3 es he;refine⟨q1,λe q=>?_⟩;obtain⟨fs,f1,f2⟩:=q2 e q;exact(p fs f1).2 e f2
   generalize ts.drop (i+1)=post at hc;cases post with
   |nil=>
    obtain⟨⟨o1,o2⟩,o3⟩:=yIf.1 hc;exact yIf.2 ⟨⟨o1,k1⟩,hr _ _ o3⟩
   |cons n r=>
    obtain⟨⟨o1,o2⟩,o4,o3,o5⟩:=yDo.1 hc;exact yDo.2 ⟨⟨o1,k1⟩,o4,hr _ _ o3,o5⟩
  .unfold Sees;simp only[mem_cons,not_mem_nil,or_false,exists_eq_left];exact k2 x hx0
theorem yYa{ts:List Tb}{ws:List Ent}(hg:GoodS ts)(h:WrT ts ws out):GoodS out:=by
 rcases h with⟨_,rfl⟩|⟨_,hw,⟨_,rfl⟩|⟨hf,hl,h⟩⟩
 .exact hg
 .exact hg
 have a0:∀i o,out[i]?=some o->∃a,ts[i]?=some a/\TabW (yJm ts i a ws) a o:=λi o ho=>by have:=(List.getElem?_eq_some_iff.1 ho).1;have ha:=getElem?_eq_getElem (show i<ts.length by omega);exact⟨_,ha,h i _ o ha ho⟩
 have y:∀(i:Nat)(o a:Tb),out[i]?=some o->ts[i]?=some a->o.lo=a.lo:=λi o a ho ha=>by
  obtain⟨a',a4,ht⟩:=a0 i o ho;rw[ha]at a4;cases a4
  rcases ht with⟨_,rfl⟩|⟨_,R,_,rfl⟩<;>rfl
 have hN:∀i,hasN out i=hasN ts i:=λi=>by unfold hasN;rw[hl]
 have hH:∀i,hiN out i=hiN ts i:=λi=>by
  unfold hiN;by_cases hi:i+1<ts.length
  .have h1:=getElem?_eq_getElem hi;have h2:=getElem?_eq_getElem (show i+1<out.length by omega);rw[h1,h2];exact y (i+1) _ _ h2 h1
  .rw[getElem?_eq_none (by omega),getElem?_eq_none (by omega)]
 refine⟨by rw[hl];exact hg.ne,by rw[hl];exact hg.le,λt ht=>?_,λi o ho=>?_⟩
 .obtain⟨a,ha,_⟩:=a0 0 t ht;rw[y 0 t a ht ha];exact hg.first a ha
 .obtain⟨a,ha,ht⟩:=a0 i o ho;have hG:=hg.tabs i a ha;refine⟨by rw[y i o a ho ha];exact hG.size,λp hp hq=>?_,?_,?_⟩
  .obtain⟨q,a3,_⟩:=a0 (i-1) p hq;rw[y (i-1) p q hq a3,y i o a ho ha];exact hG.up q hp a3
  .rcases ht with⟨_,rfl⟩|⟨h0,R,hR,rfl⟩
   .exact hG.runs
   .have a5:a.rs.length≠50:=λq=>hf ⟨i,a,ha,h0,q⟩;refine⟨by have:=hG.runs.1;simp;omega,λes he=>?_⟩;rcases mem_cons.1 he with rfl|he
    .refine yUu ⟨Nat.le_trans (List.length_filter_le _ _) hw.1,λe he=>hw.2 e (yEn.1 he).1⟩ hR (yBr (yEw hR.1) (λx hx=>yFb hR x hx))
    .exact hG.runs.2 es he
  .rw[hN,hH];rcases ht with⟨_,rfl⟩|⟨h0,R,hR,rfl⟩
   .exact hG.rows
   .intro es he;rcases mem_cons.1 he with rfl|he
    .have:=yMo hR h0;exact⟨λq=>by rw[q]at this;simp at this,λe he=>(yEn.1 (yFb hR e he)).2⟩
    .exact hG.rows es he
def yAt(ts:List Tb):List Ent:=ts.flatMap λt=>t.rs.flatten
def Less(out ts:List Tb):Prop:=(yAt out).length<=(yAt ts).length/\∀e∈yAt out,e∈yAt ts
theorem Less.refl(ts:List Tb):Less ts ts:=⟨Nat.le_refl _,λ_ h=>h⟩
theorem yDe(a b:List Tb):yAt (a++b)=yAt a++yAt b:=by unfold yAt;exact flatMap_append
theorem yMi(h:Less m l):Less (pre++m++post) (pre++l++post):=by
 unfold Less at h|-;simp only[yDe,length_append,List.mem_append];refine⟨by omega,λe he=>?_⟩;rcases he with(he|he)|he
 .exact .inl (.inl he)
 .exact .inl (.inr (h.2 e he))
 .exact .inr he
theorem yOb{lo:ByteArray}:∀(rs:List (List Ent)),(yA0 lo hh hi rs).flatten=rs.flatten.filter (λx=>inR lo hh hi x.row)
 | []=>by simp[yA0]
 |es::rs=>by
  have e:yA0 lo hh hi (es::rs)=if 0<(inP lo hh hi es).length then inP lo hh hi es::yA0 lo hh hi rs else yA0 lo hh hi rs:=by unfold yA0;rw[map_cons,List.filter_cons];simp
  have h1:inP lo hh hi es=es.filter (λx=>inR lo hh hi x.row):=rfl
  rw[e,flatten_cons,List.filter_append,<-yOb rs,<-h1]
  split
  .rw[flatten_cons]
  .rename_i hz;rw[show inP lo hh hi es= []from List.eq_nil_of_length_eq_zero (by omega),nil_append]
theorem yI4{p q:Ent->Bool}(h:∀x,p x=true->q x=true->False):∀(l:List Ent),(l.filter p).length+(l.filter q).length<=l.length
 | []=>Nat.le_refl _
 |x::l=>by
  have ih:=yI4 h l
  rw[List.filter_cons,List.filter_cons]
  cases hp:p x<;>cases hq:q x
  .simp;omega
  .simp;omega
  .simp;omega
  .exact absurd (h x hp hq) id
theorem yQm{ts:List Tb}{row:ByteArray}(hg:GoodS ts)(h:SplT ts row out):Less out ts:=by
 by_cases hl:64<row.size
 .rw[h.long hl];exact .refl _
 by_cases hf:ts.length=100
 .rw[h.full hf];exact .refl _
 obtain⟨i,hi⟩:=yB9 hg row;have ha:=getElem?_eq_getElem hi.1;generalize ts[i]'hi.1=a at ha;by_cases hs:a.lo=row
 .rw[h.same hg i a hi ha hs];exact .refl _
 rw[h.done hg (by omega) hf i a hi ha hs];have e2:ts=ts.take i++ [a]++ts.drop (i+1):=by simpa using yIz ha
 unfold cutT;have key:=yMi (pre:=ts.take i) (l:= [a]) (m:= [⟨a.lo,yA0 ⟨#[]⟩ true row a.rs⟩,⟨row,yA0 row false ⟨#[]⟩ a.rs⟩]) (post:=ts.drop (i+1)) ?_
 .rw[<-e2]at key;exact key
 .unfold Less yAt;simp only[flatMap_cons,List.flatMap_nil,append_nil,yOb,length_append,List.mem_append,List.mem_filter];refine⟨yI4 (λx h1 h2=>?_) _,λe he=>?_⟩
  .rw[yJz]at h1 h2;rw[h1.2 rfl]at h2;cases h2.1
  .rcases he with he|he<;>exact he.1
theorem yQw{ts:List Tb}{row:ByteArray}(hg:GoodS ts)(h:MrgT ts row out):Less out ts:=by
 obtain⟨i,hi⟩:=yB9 hg row;by_cases hl:i+1=ts.length
 .rw[h.last hg i hi hl];exact .refl _
 have ha:=getElem?_eq_getElem hi.1;have hb:=getElem?_eq_getElem (show i+1<ts.length by have:=hi.1;omega);generalize ts[i]'hi.1=a at ha;generalize ts[i+1]'(by have:=hi.1;omega)=b at hb;by_cases hf:50<a.rs.length+b.rs.length
 .rw[h.full hg i a b hi ha hb hf];exact .refl _
 rw[h.done hg i a b hi ha hb (by omega)];have e2:ts=ts.take i++ [a,b]++ts.drop (i+2):=by simpa using yJ ha hb
 have key:=yMi (pre:=ts.take i) (l:= [a,b]) (m:= [⟨a.lo,a.rs++b.rs⟩]) (post:=ts.drop (i+2)) ?_
 .rw[<-e2]at key;exact key
 .unfold Less yAt;simp
theorem yQ8{ts:List Tb}{row:ByteArray}(hg:GoodS ts)(h:CmsT ts row out):Less out ts:=by
 rcases h with⟨h,_⟩|⟨i,a,L,_,hi,ha,hm,⟨_,rfl⟩|⟨hL,rfl⟩⟩
 .exact absurd hg h
 .exact .refl _
 have e2:ts=ts.take i++ [a]++ts.drop (i+1):=by simpa using yIz ha
 have hM:=hm.1 (hg.tabs i a ha).runs;have hk:∀x∈L,x.kind=0:=λx hx=>((yGd hM x).1 hx).1;unfold yNr;have key:=yMi (pre:=ts.take i) (l:= [a]) (m:= [⟨a.lo,yBi L⟩]) (post:=ts.drop (i+1)) ?_
 .rw[<-e2]at key;exact key
 .have hf:(yBi L).flatten=L:=by
   unfold yBi;rw[yJj hk];split
   .rename_i hz;rw[List.eq_nil_of_length_eq_zero hz];rfl
   .simp
  unfold Less yAt;simp only[flatMap_cons,List.flatMap_nil,append_nil,hf];exact⟨yBr (yEw hM.1) (yMe hM),yMe hM⟩
theorem yY{ts:List Tb}{ws:List Ent}(h:WrT ts ws out):(yAt out).length<=(yAt ts).length+ts.length*ws.length/\(∀e∈yAt out,e∈yAt ts\/e∈ws)/\out.length=ts.length:=by
 have y:(yAt ts).length<=(yAt ts).length+ts.length*ws.length/\(∀e∈yAt ts,e∈yAt ts\/e∈ws)/\ts.length=ts.length:=⟨Nat.le_add_right _ _,λe he=>.inl he,rfl⟩;rcases h with⟨_,rfl⟩|⟨_,hw,⟨_,rfl⟩|⟨hf,hl,h⟩⟩
 .exact y
 .exact y
 have a0:∀(k:Nat),k<=ts.length->(yAt (out.take k)).length<=(yAt (ts.take k)).length+k*ws.length/\∀e∈yAt (out.take k),e∈yAt (ts.take k)\/e∈ws:=by
  intro k;induction k with
  |zero=>intro _;simp[yAt]
  |succ k ih=>
   intro hk;obtain⟨i1,i2⟩:=ih (by omega);have ha:=getElem?_eq_getElem (show k<ts.length by omega);have ho:=getElem?_eq_getElem (show k<out.length by omega);generalize ts[k]'(by omega)=a at ha;generalize out[k]'(by omega)=o at ho;have ht:=h k a o ha ho;rw[take_add_one,take_add_one,ha,ho,yDe,yDe];have a3:(yAt [o]).length<=(yAt [a]).length+ws.length/\∀e∈yAt [o],e∈yAt [a]\/e∈ws:=by
    rcases ht with⟨_,rfl⟩|⟨h0,R,hR,rfl⟩
    .exact⟨by omega,λe he=>.inl he⟩
    .have h1:R.length<=(inP a.lo (hasN ts k) (hiN ts k) ws).length:=yBr (yEw hR.1) (λx hx=>yFb hR x hx);have h2:(inP a.lo (hasN ts k) (hiN ts k) ws).length<=ws.length:=List.length_filter_le _ _;unfold yAt;simp only[flatMap_cons,List.flatMap_nil,append_nil,flatten_cons,length_append,List.mem_append];refine⟨by omega,λe he=>?_⟩;rcases he with he|he
     .exact .inr (yEn.1 (yFb hR e he)).1
     .exact .inl he
   simp only[Option.toList_some,length_append,List.mem_append,Nat.succ_mul];refine⟨by omega,λe he=>?_⟩;rcases he with he|he
   .rcases i2 e he with q|q
    .exact .inl (.inl q)
    .exact .inr q
   .rcases a3.2 e he with q|q
    .exact .inl (.inr q)
    .exact .inr q
 obtain⟨m1,m2⟩:=a0 ts.length (Nat.le_refl _);rw[take_of_length_le (by omega),take_of_length_le (Nat.le_refl _)]at m1 m2;exact⟨m1,m2,hl⟩
theorem yYh{ts:List Tb}{row:ByteArray}(hg:GoodS ts)(h:SplT ts row out):out.length<=ts.length+1:=by
 by_cases hl:64<row.size
 .rw[h.long hl];omega
 by_cases hf:ts.length=100
 .rw[h.full hf];omega
 obtain⟨i,hi⟩:=yB9 hg row;have ha:=getElem?_eq_getElem hi.1;generalize ts[i]'hi.1=a at ha;by_cases hs:a.lo=row
 .rw[h.same hg i a hi ha hs];omega
 rw[h.done hg (by omega) hf i a hi ha hs];exact Nat.le_of_eq (yZa ha).2.1
def capV:Value->Nat
 | .slice _ _ c=>c
 |_=>0
def blkV:Value->Nat
 | .slice (some p) _ _=>p.block
 |_=>0
def offV:Value->Nat
 | .slice (some p) _ _=>p.off
 |_=>0
def adrV:Value->Option Addr
 | .slice a _ _=>a
 |_=>none
def Rw.rm(r:Rw):Rm:=⟨blkV r.u,0,capV r.u,r.es⟩
def Tx.tm(t:Tx):Tm:=⟨t.lo,blkV t.v,0,capV t.v,t.rs.map Rw.rm⟩
theorem Tx.tm_tb(t:Tx):t.tm.tb=t.tb:=by simp[Tx.tm,Tm.tb,Tx.tb,Rw.rm,Function.comp_def]
variable {w:World} {base:Nat}
theorem OwnK.rm{r:Rw}(h:OwnK w base r)(hne:r.es≠ []):r.rm.u=r.u/\r.rm.at w:=by
 rcases h with⟨_,h,_⟩|⟨g,cp,_,hu,hO⟩
 .exact absurd h hne
 .have hc:=yAn.caps hO;unfold Rw.rm Rm.u;rw[hu];exact⟨rfl,⟨hO.at,hO.lt.2,hc.1,hc.2⟩⟩
theorem yAn.tm{t:Tx}(h:yAn w base t.v t.rs)(hk:∀r∈t.rs,OwnK w base r)(hne:∀r∈t.rs,r.es≠ []):t.tm.u=t.v/\t.tm.at w:=by
 unfold Tx.tm Tm.u;obtain⟨g,cp,hv,hO⟩:=h
 .have hc:=yAn.caps hO;rw[hv];refine⟨by simp[blkV,capV],⟨λi r hr=>?_,(World.ownsRow.lt hO g rfl).2,by simpa [capV]using hc.1,hc.2⟩⟩;rw[getElem?_map]at hr;cases hp:t.rs[i]? with
  |none=>rw[hp]at hr;cases hr
  |some p=>
   rw[hp]at hr;simp at hr;subst hr;have hm:=mem_of_getElem? hp;obtain⟨h1,h2⟩:=(hk p hm).rm (hne p hm);have hl:=(List.getElem?_eq_some_iff.1 hp).1;have:=World.ownsRow.cellAt hO i (by omega);rw[getElem?_map,hp]at this;rw[h1];refine⟨?_,h2⟩;show w.cell? ⟨g,0+i,none⟩=_;rw[Nat.zero_add];exact this
def StAt(w:World)(v:Value)(tb:List Tb):Prop:=∃(g cp:Nat)(ts:List Tm),v=.slice (some ⟨g,0,none⟩) ts.length cp/\yA2 w g 0 ts/\tbs ts=tb/\g<w.heap.size/\ts.length<=cp/\cp<=maxLen
theorem StAt.below{w':World}{v:Value}{tb:List Tb}(h:StAt w v tb)(hb:Below w.heap.size w w'):StAt w' v tb:=by obtain⟨g,cp,ts,h1,h2,h3,h4,h5,h6⟩:=h;exact⟨g,cp,ts,h1,h2.below hb h4,h3,by have:=hb.size;omega,h5,h6⟩
theorem yBs.st{v:Value}{xs:List Tx}(h:yBs w base v xs)(hg:GoodS (xs.map Tx.tb)):StAt w v (xs.map Tx.tb):=by
 have y:∀t∈xs,∀r∈t.rs,r.es≠ []:=λt ht r hr q=>by obtain⟨i,hi⟩:=getElem?_of_mem ht;have:=((hg.tabs i t.tb (by rw[getElem?_map,hi];rfl)).rows r.es (List.mem_map.2 ⟨r,hr,rfl⟩)).1;exact this q
 rcases h.row with⟨q,_⟩|⟨g,cp,hv,hO⟩
 .have:=hg.ne;rw[q]at this;simp at this
 .have a0:w.ownsRow base 56 2 (.slice (some ⟨g,0,none⟩) xs.length cp) xs.length (yAs (xs.map Tx.pr)):=by have:=hO;unfold OwnP at this;rw[length_map]at this;exact this
  have hc:=yAn.caps a0;refine⟨g,cp,xs.map Tx.tm,by rw[length_map];exact hv,λi t ht=>?_,?_,hO.lt.2,by rw[length_map];exact hc.1,hc.2⟩
  .rw[getElem?_map]at ht;cases hp:xs[i]? with
   |none=>rw[hp]at ht;cases ht
   |some p=>
    rw[hp]at ht;simp at ht;subst ht;have hm:=mem_of_getElem? hp;obtain⟨c0,c1⟩:=hO.cells (p:=p.pr) (i:=i) (by rw[getElem?_map,hp];rfl);obtain⟨k1,k2⟩:=(h.runs p hm).tm (h.ents p hm) (y p hm);rw[Nat.zero_add];exact⟨c0,by rw[k1];exact c1,k2⟩
  .unfold tbs;rw[map_map];exact map_congr_left λt _=>t.tm_tb
structure yCa(tb:List Tb):Prop where
 good:GoodS tb
 small:∀e∈yAt tb,e.ok
 cnt:(yAt tb).length<=9000
theorem yCa.oks{tb:List Tb}(h:yCa tb){ts:List Tm}(ht:tbs ts=tb):okTs ts:=by
 intro t hm;have h1:t.tb∈tb:=by rw[<-ht];exact List.mem_map.2 ⟨t,hm,rfl⟩
 obtain⟨i,hi⟩:=getElem?_of_mem h1;have hG:=h.good.tabs i t.tb hi;refine⟨λr hr e he=>h.small e ?_,?_,?_⟩
 .unfold yAt;exact mem_flatMap.2 ⟨t.tb,h1,List.mem_flatten.2 ⟨r.es,List.mem_map.2 ⟨r,hr,rfl⟩,he⟩⟩
 .have h2:(t.tb.rs).length=t.l.length:=by simp[Tm.tb]
  have:=hG.runs.1;omega
 .have:t.tb.lo.size<=64:=hG.size;have h2:t.tb.lo=t.lo:=rfl;rw[h2]at this;unfold maxLen;omega
theorem yN:∀(l:List Rm),totM l=(esM l).flatten.length
 | []=>rfl
 |r::l=>by simp[totM,yN l]
theorem yU9{tb:List Tb}(h:t∈tb):t.rs.flatten.length<=(yAt tb).length:=by obtain⟨x,y,rfl⟩:=List.append_of_mem h;unfold yAt;simp only[flatMap_append,flatMap_cons,length_append];omega
theorem yCa.sizes{tb:List Tb}(h:yCa tb){ts:List Tm}(ht:tbs ts=tb):ts.length<=100/\∀t∈ts,t.l.length<=50/\totM t.l<=9000:=by
 refine⟨?_,λt hm=>?_⟩
 .have:=h.good.le;rw[<-ht,yAy]at this;exact this
 .have h1:t.tb∈tb:=by rw[<-ht];exact List.mem_map.2 ⟨t,hm,rfl⟩
  obtain⟨i,hi⟩:=getElem?_of_mem h1;have h2:(t.tb.rs).length=t.l.length:=by simp[Tm.tb]
  have h3:=(h.good.tabs i t.tb hi).runs.1;have h4:=yU9 h1;have h5:=h.cnt;have h6:totM t.l=t.tb.rs.flatten.length:=yN t.l;exact⟨by omega,by omega⟩
theorem yCa.less{ts:List Tb}(h:yCa ts)(hg:GoodS out)(hl:Less out ts):yCa out:=
 ⟨hg,λe he=>h.small e (hl.2 e he),by have:=h.cnt;have:=hl.1;omega⟩
variable {n:Nat}
theorem RowC.lens{a:Option Addr}{c:Nat}(h:RowC w base (.slice a n c) es):n=es.length/\n<=c:=by
 rcases h.cases with⟨q,rfl⟩|⟨g,cp,q,hO⟩
 .cases q;exact⟨rfl,Nat.le_refl _⟩
 .cases q;exact⟨rfl,hO.caps.1⟩
theorem RowC.low{base':Nat}{v:Value}(h:RowC w base v es)(hb:base'<=base):RowC w base' v es:=by exact yM5
theorem yEb{ops:Array Oper}{rest:List Oper}{o:Oper}{a:Act}{Q:Exit->Act->World->Prop}(w:World)(hgd:o.guard=none)(s x:Operand)
  (ho:o.op=.call {callee:=.builtin .append,args:=#[s,x],argTypes:=#[37,37]})
  (base base':Nat) (a0:Option Addr) (n c0:Nat) (a1:Option Addr) (m c1:Nat) (fs es:List Ent) (hs:a.eval s=.slice a0 n c0) (hx:a.eval x=.slice a1 m c1) (hO:RowC w base (.slice a0 n c0) fs) (hE:RowC w base' (.slice a1 m c1) es)
  (hlen:fs.length+es.length<=2^30) (hbase:base<=w.heap.size)
  (h:∀a' c' w',RowC w' base (.slice a' (n+m) c') (fs++es)->Chg (λk=>(Value.slice a0 n c0).ownBlock=some k) w w'->wpList prog ops Q rest (a.put o.dst (.slice a' (n+m) c')) w'):wpList prog ops Q (o::rest) a w:=by
 obtain⟨i,hi,a5,a4,a3⟩:=info_parts Tryz.infoCel;have hl:=hO.lens;rcases hE.cases with⟨q,rfl⟩|⟨g,cp,q,hC⟩
 .cases q
  have hr:=run_append_nothing (P:=prog) w 37 37 o.type 73 i underlying37 hi a0 n c0 hl.2 (.slice none 0 0) (Src.ofNil w underlying37 0);refine Go.Lib.wpList_append_run w hgd s x _ _ ho _ _ hs hx _ _ hr ?_;exact h a0 c0 w (by rw[append_nil];exact hO) (Chg.refl _ _)
 .cases q
  have hl1:=hl.1;subst hl1;refine wpList_append_own_at w hgd s x 37 ho base 73 i _ 5 72 underlying37 hi a5 a4 a3 rfl (by decide) (.slice a0 fs.length c0) fs.length (yBg fs) hs hO ⟨g,0,none⟩ es.length _ (yBg es) hx (yCo es) (λj u hu=>by rw[Addr.add_mid];exact hC.at.flat j u hu) (yMt es) ?_ ?_ hbase ?_
  .unfold maxLen;omega
  .omega
  .intro v' w' a7 a6 a8 a9;have y:(fs++es).length=fs.length+es.length:=by simp
   have hR:RowC w' base v' (fs++es):=by unfold RowC;rw[y,yCq];exact a7
   obtain⟨a',c',rfl⟩:∃a' c',v'=.slice a' (fs.length+es.length) c':=by
    rcases hR.cases with⟨q,q2⟩|⟨g,cp,q,_⟩
    .have h9:(fs++es).length=0:=by rw[q2];rfl
     rw[y]at h9;exact⟨none,0,by rw[h9];exact q⟩
    .exact⟨_,_,by rw[<-y];exact q⟩
   exact h a' c' w' hR (Chg.of_grown a6 (λk hk=>hk))
theorem yQ5(hG:yAl rs)(h:Mrg rs inr L)(hn:L.length<=10000):yAp (L.map putE):=by rw[yJj (λx hx=>by obtain⟨_,_,_,hg⟩:=(h.2 x).1 hx;exact hg.1)];exact xA3
theorem yQx(hG:yAl rs)(h:yBo rs inr L):L.length<=rs.flatten.length:=yBr (yEw (h.1 hG).1) (yMe (h.1 hG))
structure TabG(t:Tm):Prop where
 ok:OkTm t
 good:yAl (esM t.l)
 cnt:(esM t.l).flatten.length<=9000
variable {t:Tm}
theorem TabG.len(h:TabG t)(hL:yBo (esM t.l) inr L):L.length<=9000:=Nat.le_trans (yQx h.good hL) h.cnt
theorem TabG.oks(h:TabG t)(hL:yBo (esM t.l) inr L):∀e∈L,e.ok:=λe he=>by
 obtain⟨es,h1,h2⟩:=yKw ((yGd (hL.1 h.good) e).1 he).2.2
 obtain⟨r,hr,rfl⟩:=List.mem_map.1 h1
 exact h.ok.ents r hr e h2
def TabP(l:List Rm)(inr:ByteArray->Bool)(w:World)(e:Ending)(w':World):Prop:=∃a n c,e=.returned (.agg #[.bool true,.slice a n c,.int .i64 (n:Int)])/\Hid (∃L,yBo (esM l) inr L/\n=L.length/\RowC w' w.heap.size (.slice a n c) L/\Below w.heap.size w w')
structure TbJ(w:World)(g cp:Nat)(t:Tm)(lo:ByteArray)(hh:Bool)(hi:ByteArray)(wr:World):Prop where
 flt:yA wr w.heap.size 25 1 w.heap.size [.slice (some ⟨g,0,none⟩) 1 cp]
 tab:yA wr w.heap.size 56 2 (w.heap.size+1) [.string t.lo,t.u]
 rng:yA wr w.heap.size 30 3 (w.heap.size+1+1) [.string lo,.bool hh,.string hi]
 res:yA wr w.heap.size 39 3 (w.heap.size+1+1+1) [.bool false,.slice none 0 0,.int .i64 0]
 below:Below w.heap.size w wr
variable {g cp:Nat} {W:World}
theorem TbJ.on{lo:ByteArray}{wr:World}(h:TbJ w g cp t lo hh hi wr)(hb:Below wr.heap.size wr W):TbJ w g cp t lo hh hi W:=⟨h.flt.below hb,h.tab.below hb,h.rng.below hb,h.res.below hb,h.below.trans (hb.mono h.below.size)⟩
theorem yH0(w:World)(c1 c2 c3 c4:Array Value)(t1 t2 t3 t4:Nat):yA ((((w.alloc (.cells c1 t1)).alloc (.cells c2 t2)).alloc (.cells c3 t3)).alloc (.cells c4 t4)) w.heap.size t1 c1.size w.heap.size c1.toList/\yA ((((w.alloc (.cells c1 t1)).alloc (.cells c2 t2)).alloc (.cells c3 t3)).alloc (.cells c4 t4)) w.heap.size t2 c2.size (w.heap.size+1) c2.toList/\yA ((((w.alloc (.cells c1 t1)).alloc (.cells c2 t2)).alloc (.cells c3 t3)).alloc (.cells c4 t4)) w.heap.size t3 c3.size (w.heap.size+1+1) c3.toList/\yA ((((w.alloc (.cells c1 t1)).alloc (.cells c2 t2)).alloc (.cells c3 t3)).alloc (.cells c4 t4)) w.heap.size t4 c4.size (w.heap.size+1+1+1) c4.toList/\Below w.heap.size w ((((w.alloc (.cells c1 t1)).alloc (.cells c2 t2)).alloc (.cells c3 t3)).alloc (.cells c4 t4)):=by
 obtain⟨A,hA⟩:=qE (w.alloc (.cells c1 t1):World);obtain⟨B,hB⟩:=qE (A.alloc (.cells c2 t2):World);obtain⟨C,hC⟩:=qE (B.alloc (.cells c3 t3):World);obtain⟨D,hD⟩:=qE (C.alloc (.cells c4 t4):World);have zA:A.heap.size=w.heap.size+1:=by rw[hA];simp
 have zB:B.heap.size=w.heap.size+1+1:=by rw[hB];simp[zA]
 have zC:C.heap.size=w.heap.size+1+1+1:=by rw[hC];simp[zB]
 have kA:Below w.heap.size w A:=by rw[hA];exact qB
 have kB:Below A.heap.size A B:=by rw[hB];exact qB
 have kC:Below B.heap.size B C:=by rw[hC];exact qB
 have kD:Below C.heap.size C D:=by rw[hD];exact qB
 have bA:yA A w.heap.size t1 c1.size w.heap.size c1.toList:=by rw[hA];exact yAa w _ (Nat.le_refl _) rfl
 have bB:yA B w.heap.size t2 c2.size (w.heap.size+1) c2.toList:=by rw[hB,<-zA];exact yAa A _ (by omega) rfl
 have bC:yA C w.heap.size t3 c3.size (w.heap.size+1+1) c3.toList:=by rw[hC,<-zB];exact yAa B _ (by omega) rfl
 have bD:yA D w.heap.size t4 c4.size (w.heap.size+1+1+1) c4.toList:=by rw[hD,<-zC];exact yAa C _ (by omega) rfl
 rw[<-hA,<-hB,<-hC,<-hD];exact⟨((bA.below kB).below kC).below kD,(bB.below kC).below kD,bC.below kD,bD,((kA.trans (kB.mono (by omega))).trans (kC.mono (by omega))).trans (kD.mono (by omega))⟩
theorem yW(h:yAj w base g cp [ndP])(hc:cp<=281474976710656)(t:Tm)(ht:t.at w)(hg:TabG t)(lo hi:ByteArray)(hh:Bool):Calls prog 28 #[.agg #[.slice (some ⟨g,0,none⟩) 1 cp],.agg #[.string t.lo,t.u],.agg #[.string lo,.bool hh,.string hi]] w (TabP t.l (inR lo hh hi) w):=by
 have ah:=h.lt.2;obtain⟨tl,a0⟩:=qE t.l.length;obtain⟨W0,a8⟩:=qE (((((w.alloc (.cells #[.slice (some ⟨g,0,none⟩) 1 cp] 25)).alloc (.cells #[.string t.lo,.slice (some ⟨t.b,t.off,none⟩) tl t.cap] 56)).alloc (.cells #[.string lo,.bool hh,.string hi] 30)).alloc (.cells #[.bool false,.slice none 0 0,.int .i64 0] 39)):World);have H0:Hid (TbJ w g cp t lo hh hi W0):=by obtain⟨b1,b2,b3,b4,b5⟩:=yH0 w #[.slice (some ⟨g,0,none⟩) 1 cp] #[.string t.lo,.slice (some ⟨t.b,t.off,none⟩) tl t.cap] #[.string lo,.bool hh,.string hi] #[.bool false,.slice none 0 0,.int .i64 0] 25 56 30 39;rw[<-a8]at b1 b2 b3 b4 b5;rw[a0]at b2;exact⟨b1,b2,b3,b4,b5⟩
 have HO:Hid (∀wx,Below w.heap.size w wx->yAj wx base g cp [ndP]):=λwx hx=>h.below hx ah;have HT:Hid (∀wx,Below w.heap.size w wx->Calls prog 60 #[.slice (some ⟨t.b,t.off,none⟩) tl t.cap,.agg #[.string lo,.bool hh,.string hi]] wx λr w'=>∃(g cp:Nat)(L:List Ent),r=.returned (.slice (some ⟨g,0,none⟩) L.length cp)/\OwnC w' wx.heap.size g cp L/\Below wx.heap.size wx w'/\L.length<=500000/\yBo (esM t.l) (inR lo hh hi) L):=λwx hx=>by have h9:=ht.below hx;rw[a0];exact yEl t.b t.off t.cap t.l lo hi hh wx h9.rms hg.ok.ents h9.lt hg.ok.runs
 have a6:Hid (∀X:World,TbJ w g cp t lo hh hi X->(λw':World=>w'.cell? ⟨w.heap.size,0,none⟩=some (.slice (some ⟨g,0,none⟩) 1 cp)/\w'.cell? ⟨w.heap.size+1,0,none⟩=some (.string t.lo)/\w'.cell? ⟨w.heap.size+1,1,none⟩=some (.slice (some ⟨t.b,t.off,none⟩) tl t.cap)/\w'.cell? ⟨w.heap.size+1+1,0,none⟩=some (.string lo)/\w'.cell? ⟨w.heap.size+1+1,1,none⟩=some (.bool hh)/\w'.cell? ⟨w.heap.size+1+1,2,none⟩=some (.string hi)) X):=λX h=>⟨h.flt.cell (j:=0) rfl,h.tab.cell (j:=0) rfl,by rw[a0];exact h.tab.cell (j:=1) rfl,h.rng.cell (j:=0) rfl,h.rng.cell (j:=1) rfl,h.rng.cell (j:=2) rfl⟩;show Calls prog 28 #[.agg #[.slice (some ⟨g,0,none⟩) 1 cp],.agg #[.string t.lo,.slice (some ⟨t.b,t.off,none⟩) t.l.length t.cap],.agg #[.string lo,.bool hh,.string hi]] w (TabP t.l (inR lo hh hi) w);rw[<-a0];clear h ht a0;go_enter func28,ntmps28;go_upto_region 1 with fail;rw[<-a8];clear a8;have HD:Hid (TbJ w g cp t lo hh hi W0.drew):=H0.on ((Below.refl _ _).drew);have y:=a6.out _ HD.out;refine yAq 99 (λw':World=>w'.cell? ⟨w.heap.size,0,none⟩=some (.slice (some ⟨g,0,none⟩) 1 cp)/\w'.cell? ⟨w.heap.size+1,0,none⟩=some (.string t.lo)/\w'.cell? ⟨w.heap.size+1,1,none⟩=some (.slice (some ⟨t.b,t.off,none⟩) tl t.cap)/\w'.cell? ⟨w.heap.size+1+1,0,none⟩=some (.string lo)/\w'.cell? ⟨w.heap.size+1+1,1,none⟩=some (.bool hh)/\w'.cell? ⟨w.heap.size+1+1,2,none⟩=some (.string hi)) (by kernel_rfl) ?_;generalize W0.drew=WD at HD y|-;refine tk6a 0 y ?_;refine tk6a 3 y ?_;refine tk6b y ?_;refine tk6b y ?_;refine qO 1 rfl λK hK=>?_;go_simp;go_at_call 63;refine(yNf (HO.out _ HD.below) hc).mono ?_;rintro e w1 ⟨g1,c1,rfl,ag,hb1⟩;have H1:Hid (TbJ w g cp t lo hh hi w1):=HD.on hb1;have ad:=a6.out _ H1.out;refine hK.out _ _ (.inr ad) (tkS ?_);clear hK y;refine qO 2 rfl λK hK=>?_;go_simp;go_at_call 62;refine(yL5 ag).mono ?_;rintro e w2 ⟨ga,gi,ci,rfl,ae,hb2⟩;have H2:Hid (TbJ w g cp t lo hh hi w2):=H1.on hb2;have ac:=a6.out _ H2.out;refine hK.out _ _ (.inr ac) (tkS ?_);clear hK ad ag;refine qO 6 rfl λK hK=>?_;go_simp;go_at_call 60;refine(HT.out _ H2.below).mono ?_;rintro e w3 ⟨g3,c3,L,rfl,af,hb3,hl3,a3⟩;have H3:Hid (TbJ w g cp t lo hh hi w3):=H2.on hb3;have ab:=a6.out _ H3.out;obtain⟨M,hM⟩:=qE L.length;have HR:Hid (Calls prog 61 #[.agg #[.slice (some ⟨ga,0,none⟩) 0 0,.slice (some ⟨gi,0,none⟩) 1 ci,.int .i64 0],.slice (some ⟨g3,0,none⟩) M c3,.bool true] w3 (RnPP L w3)):=yTn (ae.below hb3) af (hg.oks a3) (yQ5 hg.good (a3.1 hg.good) (by have:=hg.len a3;omega)) hM;have HM:Hid (yBo (esM t.l) (inR lo hh hi) L/\M=L.length):=⟨a3,hM⟩;rw[<-hM];refine hK.out _ _ (.inr ab) (tkS ?_);clear hK ac ae af hl3 a3 hM hb1 hb2 hb3;refine qO 7 rfl λK hK=>?_;go_simp;go_at_call 61;refine HR.mono ?_;rintro e w4 ⟨a4,c4,rfl,H4⟩;rw[<-HM.2]at H4|-;have H5:Hid (TbJ w g cp t lo hh hi w4/\RowC w4 w.heap.size (.slice a4 M c4) L):=⟨H3.on H4.2,H4.1.low H3.below.size⟩;have a9:=a6.out _ H5.1;refine hK.out _ _ (.inr a9) (tkS ?_);clear hK ab HR H4;obtain⟨v0,v1,v2⟩:=H5.1.res.c3;obtain⟨f0,f1,f2⟩:=H5.1.res.f3;obtain⟨W9,a5⟩:=qE (set3 w4 (w.heap.size+1+1+1) (.bool true) (.slice a4 M c4) (.int .i64 (M:Int)):World);have H9:Hid (yA W9 w.heap.size 39 3 (w.heap.size+1+1+1) [.bool true,.slice a4 M c4,.int .i64 (M:Int)]/\TabP t.l (inR lo hh hi) w (.returned (.agg #[.bool true,.slice a4 M c4,.int .i64 (M:Int)])) W9/\TbJ w g cp t lo hh hi w4/\Chg (λk=>k=w.heap.size+1+1+1) w4 W9):=by
  have a7:Chg (λk=>k=w.heap.size+1+1+1) w4 W9:=by rw[a5];exact((Chg.of_set (S:=λk=>k=w.heap.size+1+1+1) _ _ _ _ rfl).trans (Chg.of_set (S:=λk=>k=w.heap.size+1+1+1) _ _ _ _ rfl)).trans (Chg.of_set (S:=λk=>k=w.heap.size+1+1+1) _ _ _ _ rfl)
  refine⟨by rw[a5];exact H5.1.res.set3 _ _ _,⟨_,_,_,rfl,L,HM.1,HM.2,H5.2.chg a7 (λk hk z=>yAb H5.2 H5.1.res (by decide) _ hk (by rw[z];rfl)),Chg.below H5.1.below a7 H5.1.below.size (λk z=>by omega)⟩,H5.1,a7⟩
 unfold set3 at a5;have aa:(λw':World=>w'.cell? ⟨w.heap.size,0,none⟩=some (.slice (some ⟨g,0,none⟩) 1 cp)/\w'.cell? ⟨w.heap.size+1,0,none⟩=some (.string t.lo)/\w'.cell? ⟨w.heap.size+1,1,none⟩=some (.slice (some ⟨t.b,t.off,none⟩) tl t.cap)/\w'.cell? ⟨w.heap.size+1+1,0,none⟩=some (.string lo)/\w'.cell? ⟨w.heap.size+1+1,1,none⟩=some (.bool hh)/\w'.cell? ⟨w.heap.size+1+1,2,none⟩=some (.string hi)) W9:=by obtain⟨d0,d1,d2,d3,d4,d5⟩:=a9;have hs:=H9.2.2.1.res.lt.2;have hq:=H9.2.2.2;exact⟨by rw[hq.cell (p:=⟨w.heap.size,0,none⟩) (by show w.heap.size<_;omega) (by show¬w.heap.size=_;omega)];exact d0,by rw[hq.cell (p:=⟨w.heap.size+1,0,none⟩) (by show w.heap.size+1<_;omega) (by show¬w.heap.size+1=_;omega)];exact d1,by rw[hq.cell (p:=⟨w.heap.size+1,1,none⟩) (by show w.heap.size+1<_;omega) (by show¬w.heap.size+1=_;omega)];exact d2,by rw[hq.cell (p:=⟨w.heap.size+1+1,0,none⟩) (by show w.heap.size+1+1<_;omega) (by show¬w.heap.size+1+1=_;omega)];exact d3,by rw[hq.cell (p:=⟨w.heap.size+1+1,1,none⟩) (by show w.heap.size+1+1<_;omega) (by show¬w.heap.size+1+1=_;omega)];exact d4,by rw[hq.cell (p:=⟨w.heap.size+1+1,2,none⟩) (by show w.heap.size+1+1<_;omega) (by show¬w.heap.size+1+1=_;omega)];exact d5⟩
 refine qO 8 rfl λK hK=>?_;go_simp;rw[<-a5];refine hK.out _ _ (.inr aa) (tkS ?_);clear hK a5 a9 aa v0 v1 v2 f0 f1 f2;refine qD ?_;obtain⟨q0,q1,q2⟩:=H9.1.c3;go_wp2_with fail;exact bodyPost_ret (v:=.agg #[.bool true,.slice a4 M c4,.int .i64 (M:Int)]) (by simp[results,results28,go_sem,q0,q1,q2]) rfl H9.2.1
structure ScS(w:World)(b cap:Nat)(ts:List Tm):Prop where
 at_:yA2 w b 0 ts
 lt:b<w.heap.size
 cap:ts.length<=cap/\cap<=maxLen
 tab:∀t∈ts,TabG t
 len:ts.length<=100
 good:GoodS (tbs ts)
 cnt:(yAt (tbs ts)).length<=9000
variable {b cap:Nat}
theorem ScS.below{w':World}{ts:List Tm}(h:ScS w b cap ts)(hb:Below w.heap.size w w'):ScS w' b cap ts:={h with at_:=h.at_.below hb h.lt,lt:=Nat.lt_of_lt_of_le h.lt hb.size}
theorem ScS.oks{ts:List Tm}(h:ScS w b cap ts):okTs ts:=λt ht=>(h.tab t ht).ok
theorem StAt.sc{v:Value}{tb:List Tb}(h:StAt w v tb)(hd:yCa tb):∃b cap ts,v=.slice (some ⟨b,0,none⟩) ts.length cap/\ScS w b cap ts/\tbs ts=tb:=by
 obtain⟨g,cp,ts,rfl,h1,h2,h3,h4,h5⟩:=h;have hs:=hd.sizes h2;refine⟨g,cp,ts,rfl,⟨h1,h3,⟨h4,h5⟩,λt ht=>?_,hs.1,by rw[h2];exact hd.good,by rw[h2];exact hd.cnt⟩,h2⟩;have h6:t.tb∈tb:=by rw[<-h2];exact List.mem_map.2 ⟨t,ht,rfl⟩
 obtain⟨i,hi⟩:=getElem?_of_mem h6;exact⟨hd.oks h2 t ht,(hd.good.tabs i t.tb hi).runs,by have h7:=yU9 h6;have:=hd.cnt;have h8:t.tb.rs=esM t.l:=rfl;rw[h8]at h7;omega⟩
theorem yCi(w:World)(c1 c2:Array Value)(t1 t2:Nat):yA ((w.alloc (.cells c1 t1)).alloc (.cells c2 t2)) w.heap.size t1 c1.size w.heap.size c1.toList/\yA ((w.alloc (.cells c1 t1)).alloc (.cells c2 t2)) w.heap.size t2 c2.size (w.heap.size+1) c2.toList/\Below w.heap.size w ((w.alloc (.cells c1 t1)).alloc (.cells c2 t2)):=by
 obtain⟨A,hA⟩:=qE (w.alloc (.cells c1 t1):World);obtain⟨B,hB⟩:=qE (A.alloc (.cells c2 t2):World);have zA:A.heap.size=w.heap.size+1:=by rw[hA];simp
 have kA:Below w.heap.size w A:=by rw[hA];exact qB
 have kB:Below A.heap.size A B:=by rw[hB];exact qB
 have bA:yA A w.heap.size t1 c1.size w.heap.size c1.toList:=by rw[hA];exact yAa w _ (Nat.le_refl _) rfl
 have bB:yA B w.heap.size t2 c2.size (w.heap.size+1) c2.toList:=by rw[hB,<-zA];exact yAa A _ (by omega) rfl
 rw[<-hA,<-hB];exact⟨bA.below kB,bB,kA.trans (kB.mono (by omega))⟩
structure SmJ(w:World)(b n cap:Nat)(lo:ByteArray)(hh:Bool)(hi:ByteArray)(wr:World):Prop where
 sto:yA wr w.heap.size 28 1 w.heap.size [.slice (some ⟨b,0,none⟩) n cap]
 rng:yA wr w.heap.size 30 3 (w.heap.size+1) [.string lo,.bool hh,.string hi]
 below:Below w.heap.size w wr
theorem SmJ.on{lo:ByteArray}{wr:World}(h:SmJ w b n cap lo hh hi wr)(hb:Below wr.heap.size wr W):SmJ w b n cap lo hh hi W:=⟨h.sto.below hb,h.rng.below hb,h.below.trans (hb.mono h.below.size)⟩
theorem yYj{ts:List Tm}(h:ScS w b cap ts)(lo hi:ByteArray)(hh:Bool):Calls prog 27 #[.agg #[.slice (some ⟨b,0,none⟩) ts.length cap],.agg #[.string lo,.bool hh,.string hi]] w λe w'=>e=.returned (.bool true)/\Below w.heap.size w w':=by
 obtain⟨n,hn⟩:=qE ts.length;have a8:=h.lt;have ab:n<=cap:=by have:=h.cap.1;omega
 have HS:Hid (ScS w b cap ts/\n=ts.length):=⟨h,hn⟩;obtain⟨W0,a3⟩:=qE ((w.alloc (.cells #[.slice (some ⟨b,0,none⟩) n cap] 28)).alloc (.cells #[.string lo,.bool hh,.string hi] 30):World);have H0:Hid (SmJ w b n cap lo hh hi W0):=by obtain⟨b1,b2,b3⟩:=yCi w #[.slice (some ⟨b,0,none⟩) n cap] #[.string lo,.bool hh,.string hi] 28 30;rw[<-a3]at b1 b2 b3;exact⟨b1,b2,b3⟩
 have a6:n<=100:=by have:=h.len;omega
 rw[<-hn];clear h hn;go_enter func27,ntmps27;go_upto_region 1 with fail;rw[<-a3];clear a3;go_wp2_with fail;go_loopw[5] (λiv wr=>∃i:Nat,i<=n/\iv=.int .i64 (i:Int)/\Hid (SmJ w b n cap lo hh hi wr)) (λiv _=>n-(intOf iv).toNat);case atStart=>exact⟨0,zero_le _,rfl,H0⟩
 case round=>
  clear H0;obtain⟨i,a9,rfl,HJ⟩:=hrel;have c0:=HJ.sto.cell (j:=0) rfl;by_cases hin:i<n
  .have z:(i:Int)<(n:Int):=by omega
   obtain⟨t,ht⟩:∃t,ts[i]?=some t:=⟨_,getElem?_eq_getElem (by have:=HS.2;omega)⟩;have hG:=HS.1.tab t (mem_of_getElem? ht);obtain⟨tl,a4⟩:=qE t.l.length;have HT:Hid (∀wx,Below w.heap.size w wx->(Calls prog 60 #[.slice (some ⟨t.b,t.off,none⟩) tl t.cap,.agg #[.string lo,.bool hh,.string hi]] wx λr w'=>∃(g cp m:Nat),r=.returned (.slice (some ⟨g,0,none⟩) m cp)/\m<=9000/\Below wx.heap.size wx w')/\wx.cell? ⟨b,i*2+1,none⟩=some (.slice (some ⟨t.b,t.off,none⟩) tl t.cap)):=λwx hx=>by obtain⟨_,h1,h2⟩:=(HS.1.below hx).at_ i t ht;rw[Nat.zero_add]at h1;rw[a4];refine⟨(yEl t.b t.off t.cap t.l lo hi hh wx h2.rms hG.ok.ents h2.lt hG.ok.runs).mono ?_,h1⟩;rintro r w' ⟨g,cp,L,rfl,_,hb,_,hm⟩;exact⟨g,cp,_,rfl,hG.len hm,hb⟩
   have a5:Hid (∀X:World,SmJ w b n cap lo hh hi X->(λw':World=>w'.cell? ⟨w.heap.size,0,none⟩=some (.slice (some ⟨b,0,none⟩) n cap)/\w'.cell? ⟨b,i*2+1,none⟩=some (.slice (some ⟨t.b,t.off,none⟩) tl t.cap)/\w'.cell? ⟨w.heap.size+1,0,none⟩=some (.string lo)/\w'.cell? ⟨w.heap.size+1,1,none⟩=some (.bool hh)/\w'.cell? ⟨w.heap.size+1,2,none⟩=some (.string hi)) X):=λX h=>⟨h.sto.cell (j:=0) rfl,(HT.out X h.below).2,h.rng.cell (j:=0) rfl,h.rng.cell (j:=1) rfl,h.rng.cell (j:=2) rfl⟩;have HD:Hid (SmJ w b n cap lo hh hi wr.drew):=HJ.on ((Below.refl _ _).drew);have a0:=a5.out _ HD.out;clear ht hG a4;go_upto_region 4 with fail;refine yAq 99 (λw':World=>w'.cell? ⟨w.heap.size,0,none⟩=some (.slice (some ⟨b,0,none⟩) n cap)/\w'.cell? ⟨b,i*2+1,none⟩=some (.slice (some ⟨t.b,t.off,none⟩) tl t.cap)/\w'.cell? ⟨w.heap.size+1,0,none⟩=some (.string lo)/\w'.cell? ⟨w.heap.size+1,1,none⟩=some (.bool hh)/\w'.cell? ⟨w.heap.size+1,2,none⟩=some (.string hi)) (by kernel_rfl) ?_;generalize wr.drew=WD at HD a0|-;refine tk5a 0 a0 ?_;iterate 6 refine tk5b a0 ?_
   refine qO 7 rfl λK hK=>?_;go_simp;go_at_call 60;refine(HT.out WD HD.below).1.mono ?_;rintro e w2 ⟨g2,c2,m2,rfl,a7,hb2⟩;have H2:Hid (SmJ w b n cap lo hh hi w2):=HD.on hb2;have y:=a5.out _ H2.out;refine hK.out _ _ (.inr y) (tkS ?_);clear hK a0 hb2;have zm:¬(10000:Int)<(m2:Int):=by omega
   refine tk5b y ?_;refine tk5b y ?_;refine qD ?_;clear y c0 HJ HD;have aa:decide ((10000:Int)<(m2:Int))=false:=by simpa using zm
   go_wp2_with fail;go_roundw;case rel=>exact⟨i+1,by omega,by go_num,H2⟩
   case measure=>simp[intOf];omega
  .have z:¬(i:Int)<(n:Int):=by omega
   go_wp2_with fail;go_ret;exact⟨rfl,HJ.below⟩
section
def ScP(inr:ByteArray->Bool)(tb:List Tb)(w:World)(e:Ending)(w':World):Prop:=∃a n c,e=.returned (.agg #[.bool true,.slice a n c,.int .i64 (n:Int)])/\Hid (∃L,yHf inr tb L/\n=L.length/\RowC w' w.heap.size (.slice a n c) L/\Below w.heap.size w w')
theorem yJi:∀{tb:List Tb}{L:List Ent},(∀t∈tb,yAl t.rs)->yHf inr tb L->L.length<=(yAt tb).length
 | [],L,_,h=>by rw[show L= []from h];simp
 |t::ts,L,hg,h=>by
  obtain⟨M,N,h1,h2,rfl⟩:=h
  have a:=yQx (hg t (by simp)) h1
  have b:=yJi (λx hx=>hg x (by simp[hx])) h2
  have hc:(yAt (t::ts)).length=t.rs.flatten.length+(yAt ts).length:=by unfold yAt;simp
  rw[length_append,hc];omega
theorem yLf(tb:List Tb)(i:Nat):(yAt (tb.take i)).length<=(yAt tb).length:=by
 have h:yAt tb=yAt (tb.take i)++yAt (tb.drop i):=by rw[<-yDe,take_append_drop]
 rw[h,length_append];omega
structure ScJ(w:World)(g cp b n cap:Nat)(lo:ByteArray)(hh:Bool)(hi:ByteArray)(ob:Nat)(tb:List Tb)(a:Option Addr)(m c:Nat)(L:List Ent)(wr:World):Prop where
 flt:yA wr w.heap.size 25 1 w.heap.size [.slice (some ⟨g,0,none⟩) 1 cp]
 sto:yA wr w.heap.size 28 1 (w.heap.size+1) [.slice (some ⟨b,0,none⟩) n cap]
 rng:yA wr w.heap.size 30 3 (w.heap.size+1+1) [.string lo,.bool hh,.string hi]
 res:yA wr w.heap.size 39 3 (w.heap.size+1+1+1) [.bool false,.slice none 0 0,.int .i64 0]
 obx:yA wr w.heap.size 39 3 ob [.bool true,.slice a m c,.int .i64 (m:Int)]
 row:RowC wr w.heap.size (.slice a m c) L
 scan:yHf (inR lo hh hi) tb L
 ne:w.heap.size+1+1+1<ob
 below:Below w.heap.size w wr
section
variable {w:World} {g cp b n cap:Nat} {lo:ByteArray} {hh:Bool} {hi:ByteArray} {ob:Nat} {tb:List Tb} {a:Option Addr} {m c:Nat} {L:List Ent} {wr W:World}
theorem ScJ.on(h:ScJ w g cp b n cap lo hh hi ob tb a m c L wr)(hb:Below wr.heap.size wr W):ScJ w g cp b n cap lo hh hi ob tb a m c L W:=
 {h with flt:=h.flt.below hb,sto:=h.sto.below hb,rng:=h.rng.below hb,res:=h.res.below hb,obx:=h.obx.below hb,row:=h.row.below hb,below:=h.below.trans (hb.mono h.below.size)}
variable {a':Option Addr} {c':Nat}
theorem ScJ.put{m':Nat}{L':List Ent}{tb':List Tb}{W1:World}(h:ScJ w g cp b n cap lo hh hi ob tb a m c L wr)(hc1:Chg (λk=>(Value.slice a m c).ownBlock=some k) wr W1)(hr:RowC W1 w.heap.size (.slice a' m' c') L')(hs:yHf (inR lo hh hi) tb' L')(hc:Chg (λk=>k=ob) W1 W)(hb:yA W w.heap.size 39 3 ob [.bool true,.slice a' m' c',.int .i64 (m':Int)]):ScJ w g cp b n cap lo hh hi ob tb' a' m' c' L' W:=by
 have y:=h.ne;have o1:=h.obx.chg hc1 (λq=>yAb h.row h.obx (by decide) _ q rfl);have b1:Below w.heap.size w W1:=Chg.below h.below hc1 h.below.size (λq z=>(h.row.blk z).1)
 exact {h with
  flt:=(h.flt.chg hc1 (λq=>yAb h.row h.flt (by decide) _ q rfl)).chg hc (by omega)
  sto:=(h.sto.chg hc1 (λq=>yAb h.row h.sto (by decide) _ q rfl)).chg hc (by omega)
  rng:=(h.rng.chg hc1 (λq=>yAb h.row h.rng (by decide) _ q rfl)).chg hc (by omega)
  res:=(h.res.chg hc1 (λq=>yAb h.row h.res (by decide) _ q rfl)).chg hc (by omega)
  obx:=hb
  row:=hr.chg hc (λq hq z=>yAb hr o1 (by decide) _ hq (by rw[z];rfl))
  scan:=hs
  below:=Chg.below b1 hc b1.size (λq z=>by omega)}
end
structure ScQ(w:World)(g cp b n cap:Nat)(lo:ByteArray)(hh:Bool)(hi:ByteArray)(ob:Nat)(tb:List Tb)(a:Option Addr)(m c:Nat)(L:List Ent)(l:List Rm)(P:Nat)(a2:Option Addr)(n2 c2:Nat)(wr:World):Prop where
 sc:ScJ w g cp b n cap lo hh hi ob tb a m c L wr
 box:yA wr w.heap.size 39 3 P [.bool true,.slice a2 n2 c2,.int .i64 (n2:Int)]
 mrg:∃L2,yBo (esM l) (inR lo hh hi) L2/\n2=L2.length/\RowC wr w.heap.size (.slice a2 n2 c2) L2
 lt:ob<P
variable {a:Option Addr}
theorem ScJ.put3{lo:ByteArray}{ob:Nat}{tb:List Tb}{m c:Nat}{l:List Rm}{P:Nat}{a2:Option Addr}{n2 c2:Nat}{vs:List Value}(h:ScJ w g cp b n cap lo hh hi ob tb a m c L W)(hb:yA W w.heap.size 39 3 P vs)(hm:∃L2,yBo (esM l) (inR lo hh hi) L2/\n2=L2.length/\RowC W w.heap.size (.slice a2 n2 c2) L2)(hP:ob<P):ScQ w g cp b n cap lo hh hi ob tb a m c L l P a2 n2 c2 (set3 W P (.bool true) (.slice a2 n2 c2) (.int .i64 (n2:Int))):=by have y:=h.ne;have hc:Chg (λk=>k=P) W (set3 W P (.bool true) (.slice a2 n2 c2) (.int .i64 (n2:Int))):=((Chg.of_set (S:=λk=>k=P) _ _ _ _ rfl).trans (Chg.of_set (S:=λk=>k=P) _ _ _ _ rfl)).trans (Chg.of_set (S:=λk=>k=P) _ _ _ _ rfl);obtain⟨L2,q1,q2,q3⟩:=hm;exact⟨{h with flt:=h.flt.chg hc (by omega),sto:=h.sto.chg hc (by omega),rng:=h.rng.chg hc (by omega),res:=h.res.chg hc (by omega),obx:=h.obx.chg hc (by omega),row:=h.row.chg hc (λq hq z=>yAb h.row hb (by decide) _ hq (by rw[z];rfl)),below:=Chg.below h.below hc h.below.size (λq z=>by omega)},hb.set3 _ _ _,⟨L2,q1,q2,q3.chg hc (λq hq z=>yAb q3 hb (by decide) _ hq (by rw[z];rfl))⟩,hP⟩
theorem zYk {p:Prop} (h:p:=by
 obtain⟨v0,v1,v2⟩:=H3.2.1.c3;obtain⟨f0,f1,f2⟩:=H3.2.1.f3;obtain⟨W4,hW4⟩:=qE (set3 W3 P (.bool true) (.slice a2 n2 c2) (.int .i64 (n2:Int)):World);have H4:Hid (ScQ w g cp b n cap lo hh hi ob ((tbs ts).take i) a m c L t.l P a2 n2 c2 W4):=by rw[hW4];exact H3.1.put3 H3.2.1 H3.2.2.1 H3.2.2.2
 have hS4:=HSS.out _ H4.sc;unfold set3 at hW4;refine qO 9 rfl λK hK=>?_;exact yZ0):p:=h
theorem yRr(h:yAj w base g cp [ndP])(hc:cp<=281474976710656){ts:List Tm}(hS:ScS w b cap ts)(lo hi:ByteArray)(hh:Bool):Calls prog 7 #[.agg #[.slice (some ⟨g,0,none⟩) 1 cp],.agg #[.slice (some ⟨b,0,none⟩) ts.length cap],.agg #[.string lo,.bool hh,.string hi]] w (ScP (inR lo hh hi) (tbs ts) w):=by
 have ai:=h.lt.2;obtain⟨n,hn⟩:=qE ts.length;have av:n<=cap:=by have:=hS.cap.1;omega
 have az:=hS.lt;have au:n<=100:=by have:=hS.len;omega
 have HS:Hid (∀wx,Below w.heap.size w wx->yAj wx base g cp [ndP]/\ScS wx b cap ts):=λwx hx=>⟨h.below hx ai,hS.below hx⟩;have HN:Hid (n=ts.length/\ts.length<=100/\(∀t∈ts,TabG t)/\(yAt (tbs ts)).length<=9000):=⟨hn,hS.len,hS.tab,hS.cnt⟩;obtain⟨W0,aa⟩:=qE (((((w.alloc (.cells #[.slice (some ⟨g,0,none⟩) 1 cp] 25)).alloc (.cells #[.slice (some ⟨b,0,none⟩) n cap] 28)).alloc (.cells #[.string lo,.bool hh,.string hi] 30)).alloc (.cells #[.bool false,.slice none 0 0,.int .i64 0] 39)):World);have H0:Hid (yA W0 w.heap.size 25 1 w.heap.size [.slice (some ⟨g,0,none⟩) 1 cp]/\yA W0 w.heap.size 28 1 (w.heap.size+1) [.slice (some ⟨b,0,none⟩) n cap]/\yA W0 w.heap.size 30 3 (w.heap.size+1+1) [.string lo,.bool hh,.string hi]/\yA W0 w.heap.size 39 3 (w.heap.size+1+1+1) [.bool false,.slice none 0 0,.int .i64 0]/\Below w.heap.size w W0):=by have h9:=yH0 w #[.slice (some ⟨g,0,none⟩) 1 cp] #[.slice (some ⟨b,0,none⟩) n cap] #[.string lo,.bool hh,.string hi] #[.bool false,.slice none 0 0,.int .i64 0] 25 28 30 39;rw[<-aa]at h9;exact h9
 have HF:Hid (Calls prog 26 #[.agg #[.slice (some ⟨g,0,none⟩) 1 cp]] W0 λe w'=>e=.returned (.bool true)/\Below W0.heap.size W0 w'):=yEe (h.below H0.2.2.2.2 ai);have HV:Hid (∀wx,Below w.heap.size w wx->Calls prog 5 #[.agg #[.slice (some ⟨b,0,none⟩) n cap]] wx λe w'=>e=.returned (.bool true)/\Below wx.heap.size wx w'):=λwx hx=>by have h9:=(HS.out wx hx).2;rw[hn];refine(yA4 b 0 cap ts wx h9.at_ h9.oks h9.lt (by have:=h9.len;omega)).mono ?_;rintro e w' ⟨r,rfl,hr,hb⟩;rw[hr.2 h9.good];exact⟨rfl,hb⟩
 have ao:Hid (∀wx,Below w.heap.size w wx->Calls prog 27 #[.agg #[.slice (some ⟨b,0,none⟩) n cap],.agg #[.string lo,.bool hh,.string hi]] wx λe w'=>e=.returned (.bool true)/\Below wx.heap.size wx w'):=λwx hx=>by rw[hn];exact yYj (HS.out wx hx).2 lo hi hh
 rw[<-hn];clear h hS hn;have c0:=H0.1.cell (j:=0) rfl;go_enter func7,ntmps7;go_upto_region 1 with fail;rw[<-aa];clear aa;go_wp2_with fail;refine HF.mono ?_;rintro e w1 ⟨rfl,hb1⟩;have H1:Hid (yA w1 w.heap.size 25 1 w.heap.size [.slice (some ⟨g,0,none⟩) 1 cp]/\yA w1 w.heap.size 28 1 (w.heap.size+1) [.slice (some ⟨b,0,none⟩) n cap]/\yA w1 w.heap.size 30 3 (w.heap.size+1+1) [.string lo,.bool hh,.string hi]/\yA w1 w.heap.size 39 3 (w.heap.size+1+1+1) [.bool false,.slice none 0 0,.int .i64 0]/\Below w.heap.size w w1):=by obtain⟨h1,h2,h3,h4,h5⟩:=H0.out;exact⟨h1.below hb1,h2.below hb1,h3.below hb1,h4.below hb1,h5.trans (hb1.mono h5.size)⟩
 clear H0 HF hb1 c0;have c0:=H1.2.1.cell (j:=0) rfl;have an:Hid (Calls prog 5 #[.agg #[.slice (some ⟨b,0,none⟩) n cap]] w1 λe w'=>e=.returned (.bool true)/\Below w1.heap.size w1 w'):=HV.out w1 H1.2.2.2.2;go_wp2_with fail;refine an.mono ?_;rintro e w2 ⟨rfl,hb2⟩;have H2:Hid (yA w2 w.heap.size 25 1 w.heap.size [.slice (some ⟨g,0,none⟩) 1 cp]/\yA w2 w.heap.size 28 1 (w.heap.size+1) [.slice (some ⟨b,0,none⟩) n cap]/\yA w2 w.heap.size 30 3 (w.heap.size+1+1) [.string lo,.bool hh,.string hi]/\yA w2 w.heap.size 39 3 (w.heap.size+1+1+1) [.bool false,.slice none 0 0,.int .i64 0]/\Below w.heap.size w w2):=by obtain⟨h1,h2,h3,h4,h5⟩:=H1.out;exact⟨h1.below hb2,h2.below hb2,h3.below hb2,h4.below hb2,h5.trans (hb2.mono h5.size)⟩
 clear H1 an HV hb2 c0;have c0:=H2.2.1.cell (j:=0) rfl;obtain⟨d0,d1,d2⟩:=H2.2.2.1.c3;have am:Hid (Calls prog 27 #[.agg #[.slice (some ⟨b,0,none⟩) n cap],.agg #[.string lo,.bool hh,.string hi]] w2 λe w'=>e=.returned (.bool true)/\Below w2.heap.size w2 w'):=ao.out w2 H2.2.2.2.2;go_wp2_with fail;refine am.mono ?_;rintro e w3 ⟨rfl,hb3⟩;clear am ao c0 d0 d1 d2;obtain⟨W4,hW4⟩:=qE (w3.alloc (.cells #[.bool true,.slice none 0 0,.int .i64 0] 39):World);obtain⟨ob,a4⟩:=qE w3.heap.size;have H4:Hid (ScJ w g cp b n cap lo hh hi ob [] none 0 0 [] W4):=by
  obtain⟨h1,h2,h3,h4,h5⟩:=H2.out;have k5:Below w.heap.size w w3:=h5.trans (hb3.mono h5.size);have k4:Below w3.heap.size w3 W4:=by rw[hW4];exact qB
  exact⟨(h1.below hb3).below k4,(h2.below hb3).below k4,(h3.below hb3).below k4,(h4.below hb3).below k4,by rw[hW4,a4];exact yAa w3 _ k5.size rfl,yIt _ _,rfl,by rw[a4];exact(h4.below hb3).lt.2,k5.trans (k4.mono k5.size)⟩
 go_upto_region 4 with fail;rw[<-hW4,<-a4];clear hW4 a4 H2 hb3;go_wp2_with fail;go_loopw[8] (λiv wr=>∃(i:Nat)(a:Option Addr)(m c:Nat),i<=n/\iv=.int .i64 (i:Int)/\Hid (∃L,ScJ w g cp b n cap lo hh hi ob ((tbs ts).take i) a m c L wr)) (λiv _=>n-(intOf iv).toNat);case atStart=>exact⟨0,none,0,0,zero_le _,rfl,[],H4.out⟩
 case round=>
  clear H4;obtain⟨i,a,m,c,ay,rfl,aq⟩:=hrel;obtain⟨L,hJ⟩:=aq.out;have HJ:Hid (ScJ w g cp b n cap lo hh hi ob ((tbs ts).take i) a m c L wr):=hJ;have aw:m<=9000:=by
   have h1:=yJi (λt ht=>by
    have h2:=List.mem_of_mem_take ht
    obtain⟨x,hx,rfl⟩:=List.mem_map.1 h2
    exact(HN.2.2.1 x hx).good) hJ.scan
   have h3:=yLf (tbs ts) i;have h4:=HN.2.2.2;have h5:=hJ.row.lens.1;omega
  clear hJ aq;have c0:=HJ.sto.cell (j:=0) rfl;by_cases hin:i<n
  .have z:(i:Int)<(n:Int):=by omega
   obtain⟨t,ht⟩:∃t,ts[i]?=some t:=⟨_,getElem?_eq_getElem (by have:=HN.1;omega)⟩;have hG:=HN.2.2.1 t (mem_of_getElem? ht);have HG:Hid (TabG t):=hG;have HX:Hid ((tbs ts).take (i+1)=(tbs ts).take i++ [t.tb]):=by show _=_;rw[take_add_one,show(tbs ts)[i]?=some t.tb from by unfold tbs;rw[getElem?_map,ht];rfl];rfl
   obtain⟨tl,ad⟩:=qE t.l.length;have HT:Hid (∀wx,Below w.heap.size w wx->(Calls prog 28 #[.agg #[.slice (some ⟨g,0,none⟩) 1 cp],.agg #[.string t.lo,.slice (some ⟨t.b,t.off,none⟩) tl t.cap],.agg #[.string lo,.bool hh,.string hi]] wx (TabP t.l (inR lo hh hi) wx))/\wx.cell? ⟨b,i*2,none⟩=some (.string t.lo)/\wx.cell? ⟨b,i*2+1,none⟩=some (.slice (some ⟨t.b,t.off,none⟩) tl t.cap)):=λwx hx=>by obtain⟨h0,h1,h2⟩:=(HS.out wx hx).2.at_ i t ht;rw[Nat.zero_add]at h0 h1;rw[ad];exact⟨yW (HS.out wx hx).1 hc t h2 hG lo hi hh,h0,h1⟩
   have HSS:Hid (∀X:World,ScJ w g cp b n cap lo hh hi ob ((tbs ts).take i) a m c L X->(λw':World=>w'.cell? ⟨w.heap.size,0,none⟩=some (.slice (some ⟨g,0,none⟩) 1 cp)/\w'.cell? ⟨w.heap.size+1,0,none⟩=some (.slice (some ⟨b,0,none⟩) n cap)/\w'.cell? ⟨b,i*2,none⟩=some (.string t.lo)/\w'.cell? ⟨b,i*2+1,none⟩=some (.slice (some ⟨t.b,t.off,none⟩) tl t.cap)/\w'.cell? ⟨w.heap.size+1+1,0,none⟩=some (.string lo)/\w'.cell? ⟨w.heap.size+1+1,1,none⟩=some (.bool hh)/\w'.cell? ⟨w.heap.size+1+1,2,none⟩=some (.string hi)/\w'.cell? ⟨w.heap.size,0,none⟩=some (.slice (some ⟨g,0,none⟩) 1 cp)) X):=λX h=>⟨h.flt.cell (j:=0) rfl,h.sto.cell (j:=0) rfl,(HT.out X h.below).2.1,(HT.out X h.below).2.2,h.rng.cell (j:=0) rfl,h.rng.cell (j:=1) rfl,h.rng.cell (j:=2) rfl,h.flt.cell (j:=0) rfl⟩;have HD:Hid (ScJ w g cp b n cap lo hh hi ob ((tbs ts).take i) a m c L wr.drew):=HJ.on ((Below.refl _ _).drew);have a0:=HSS.out _ HD.out;clear ht hG ad;go_upto_region 7 with fail;go_cut[9] (λpv wx=>∃(P:Nat)(a2:Option Addr)(n2 c2:Nat),pv=.pointer (some ⟨P,0,none⟩)/\Hid (ScQ w g cp b n cap lo hh hi ob ((tbs ts).take i) a m c L t.l P a2 n2 c2 wx));case first=>
    refine yAq 99 (λw':World=>w'.cell? ⟨w.heap.size,0,none⟩=some (.slice (some ⟨g,0,none⟩) 1 cp)/\w'.cell? ⟨w.heap.size+1,0,none⟩=some (.slice (some ⟨b,0,none⟩) n cap)/\w'.cell? ⟨b,i*2,none⟩=some (.string t.lo)/\w'.cell? ⟨b,i*2+1,none⟩=some (.slice (some ⟨t.b,t.off,none⟩) tl t.cap)/\w'.cell? ⟨w.heap.size+1+1,0,none⟩=some (.string lo)/\w'.cell? ⟨w.heap.size+1+1,1,none⟩=some (.bool hh)/\w'.cell? ⟨w.heap.size+1+1,2,none⟩=some (.string hi)/\w'.cell? ⟨w.heap.size,0,none⟩=some (.slice (some ⟨g,0,none⟩) 1 cp)) (by kernel_rfl) ?_;generalize wr.drew=WD at HD a0|-;refine tk8a 0 a0 ?_;iterate 6 refine tk8b a0 ?_
    refine yD (i:=7) (j:=8) (by kernel_rfl) rfl rfl (λK hK=>?_) (λK hK=>?_)
    .go_simp;go_at_call 28;refine(HT.out WD HD.below).1.mono ?_;rintro e w2 ⟨a2,n2,c2,rfl,y⟩;have H2:Hid (ScJ w g cp b n cap lo hh hi ob ((tbs ts).take i) a m c L w2):=by obtain⟨L2,_,_,_,hb⟩:=y.out;exact HD.on hb
     have ak:=HSS.out _ H2.out;refine hK.out _ _ (.inr ak) (tkS ?_);clear hK a0;obtain⟨W3,a7⟩:=qE (w2.alloc (.cells #[.bool false,.slice none 0 0,.int .i64 0] 39):World);obtain⟨P,hP⟩:=qE w2.heap.size;have H3:Hid (ScJ w g cp b n cap lo hh hi ob ((tbs ts).take i) a m c L W3/\yA W3 w.heap.size 39 3 P [.bool false,.slice none 0 0,.int .i64 0]/\(∃L2,yBo (esM t.l) (inR lo hh hi) L2/\n2=L2.length/\RowC W3 w.heap.size (.slice a2 n2 c2) L2)/\ob<P):=by
      have k3:Below w2.heap.size w2 W3:=by rw[a7];exact qB
      obtain⟨L2,q1,q2,q3,q4⟩:=y.out;exact⟨H2.on k3,by rw[a7,hP];exact yAa w2 _ H2.below.size rfl,⟨L2,q1,q2,(q3.low HD.below.size).below k3⟩,by rw[hP];exact H2.obx.lt.2⟩
     have ab:=HSS.out _ H3.1;refine qO 8 rfl λK hK=>?_;go_simp;rw[<-a7,<-hP];refine hK.out _ _ (.inr ab) (tkS ?_);clear hK a7 hP ak H2 y;exact zYk
    .obtain⟨W1,a8⟩:=qE (WD.alloc (.cells #[.bool false,.slice none 0 0,.int .i64 0] 39):World);obtain⟨P,hP⟩:=qE WD.heap.size;have H1:Hid (ScJ w g cp b n cap lo hh hi ob ((tbs ts).take i) a m c L W1/\yA W1 w.heap.size 39 3 P [.bool false,.slice none 0 0,.int .i64 0]/\ob<P):=by
      have k3:Below WD.heap.size WD W1:=by rw[a8];exact qB
      exact⟨HD.on k3,by rw[a8,hP];exact yAa WD _ HD.below.size rfl,by rw[hP];exact HD.obx.lt.2⟩
     have al:=HSS.out _ H1.1;go_simp;rw[<-a8,<-hP];refine hK.out _ _ (.inr al) (tkS ?_);clear hK a8 hP a0;refine qO 7 rfl λK hK=>?_;go_simp;go_at_call 28;refine(HT.out W1 H1.1.below).1.mono ?_;rintro e W3 ⟨a2,n2,c2,rfl,y⟩;have H3:Hid (ScJ w g cp b n cap lo hh hi ob ((tbs ts).take i) a m c L W3/\yA W3 w.heap.size 39 3 P [.bool false,.slice none 0 0,.int .i64 0]/\(∃L2,yBo (esM t.l) (inR lo hh hi) L2/\n2=L2.length/\RowC W3 w.heap.size (.slice a2 n2 c2) L2)/\ob<P):=by obtain⟨L2,q1,q2,q3,q4⟩:=y.out;exact⟨H1.1.on q4,H1.2.1.below q4,⟨L2,q1,q2,q3.low H1.1.below.size⟩,H1.2.2⟩
     have ab:=HSS.out _ H3.1;refine hK.out _ _ (.inr ab) (tkS ?_);clear hK al H1 y;exact zYk
   case rest=>
   obtain⟨P,a2,n2,c2,rfl,HQ⟩:=hcut;clear a0 HD HJ HSS HT c0;obtain⟨L2,a9,ag,af⟩:=HQ.mrg;have y:Hid (yBo (esM t.l) (inR lo hh hi) L2/\n2=L2.length/\RowC wc w.heap.size (.slice a2 n2 c2) L2/\L.length+L2.length<=2^30):=⟨a9,ag,af,by have:=HQ.sc.row.lens.1;have:=HG.len a9;omega⟩;clear a9 ag af;have o1:=HQ.sc.obx.cell (j:=1) rfl;have o2:=HQ.sc.obx.cell (j:=2) rfl;have p1:=HQ.box.cell (j:=1) rfl;have p2:=HQ.box.cell (j:=2) rfl;go_wp2_with (at_builtin;refine yEb _ rfl _ _ rfl w.heap.size w.heap.size a m c a2 n2 c2 L L2 rfl rfl HQ.sc.row y.2.2.1 y.2.2.2 HQ.sc.below.size ?_);intro a3 c3 w3 ac a5;obtain⟨m3,ah⟩:=qE (m+n2);rw[<-ah]at ac|-
   have H3:Hid (yA w3 w.heap.size 39 3 ob [.bool true,.slice a m c,.int .i64 (m:Int)]/\yA w3 w.heap.size 39 3 P [.bool true,.slice a2 n2 c2,.int .i64 (n2:Int)]/\RowC w3 w.heap.size (.slice a3 m3 c3) (L++L2)/\Chg (λk=>(Value.slice a m c).ownBlock=some k) wc w3):=
    ⟨HQ.sc.obx.chg a5 (λq=>yAb HQ.sc.row HQ.sc.obx (by decide) _ q rfl),HQ.box.chg a5 (λq=>yAb HQ.sc.row HQ.box (by decide) _ q rfl),ac,a5⟩
   clear ac a5 o1 o2 p1 p2;have o1:=H3.1.cell (j:=1) rfl;have o2:=H3.1.cell (j:=2) rfl;have g1:=H3.1.frozen 1;have g2:=H3.1.frozen 2;have p2:=H3.2.1.cell (j:=2) rfl;have ar:=HQ.lt;have hz:(m:Int)+(n2:Int)=(m3:Int):=by omega
   have ax:m3<=20000:=by have:=HG.len y.1;have:=y.2.1;omega
   obtain⟨W5,hW5⟩:=qE ((w3.setCell ⟨ob,1,none⟩ (.slice a3 m3 c3)).setCell ⟨ob,2,none⟩ (.int .i64 (m3:Int)):World);have H5:Hid (∃L,ScJ w g cp b n cap lo hh hi ob ((tbs ts).take (i+1)) a3 m3 c3 L W5):=by refine⟨L++L2,?_⟩;rw[HX.out];refine HQ.sc.put H3.2.2.2 H3.2.2.1 (yHq y.1 HQ.sc.scan) (by rw[hW5];exact(Chg.of_set (S:=λk=>k=ob) _ _ _ _ rfl).trans (Chg.of_set (S:=λk=>k=ob) _ _ _ _ rfl)) ?_;rw[hW5];exact(H3.1.set 1 _).set 2 _
   clear ah y HQ H3;exact yZy
  .have z:¬(i:Int)<(n:Int):=by omega
   obtain⟨t0,t1,t2⟩:=HJ.obx.c3;obtain⟨v0,v1,v2⟩:=HJ.res.c3;obtain⟨f0,f1,f2⟩:=HJ.res.f3;obtain⟨W9,a6⟩:=qE (set3 wr (w.heap.size+1+1+1) (.bool true) (.slice a m c) (.int .i64 (m:Int)):World);have H9:Hid (yA W9 w.heap.size 39 3 (w.heap.size+1+1+1) [.bool true,.slice a m c,.int .i64 (m:Int)]/\ScP (inR lo hh hi) (tbs ts) w (.returned (.agg #[.bool true,.slice a m c,.int .i64 (m:Int)])) W9):=by
    have aj:Chg (λk=>k=w.heap.size+1+1+1) wr W9:=by rw[a6];exact((Chg.of_set (S:=λk=>k=w.heap.size+1+1+1) _ _ _ _ rfl).trans (Chg.of_set (S:=λk=>k=w.heap.size+1+1+1) _ _ _ _ rfl)).trans (Chg.of_set (S:=λk=>k=w.heap.size+1+1+1) _ _ _ _ rfl)
    have ae:=HJ.scan;rw[take_of_length_le (by rw[yAy];have:=HN.1;omega)]at ae;exact⟨by rw[a6];exact HJ.res.set3 _ _ _,⟨_,_,_,rfl,L,ae,HJ.row.lens.1,HJ.row.chg aj (λq hq z=>yAb HJ.row HJ.res (by decide) _ hq (by rw[z];rfl)),Chg.below HJ.below aj HJ.below.size (λk q=>by omega)⟩⟩
   unfold set3 at a6;go_wp2_with fail;rw[<-a6];obtain⟨q0,q1,q2⟩:=H9.1.c3;exact bodyPost_ret (v:=.agg #[.bool true,.slice a m c,.int .i64 (m:Int)]) (by simp[results,results7,go_sem,q0,q1,q2]) rfl H9.2
end
theorem yR0(t:Tm)(ht:t.at w)(hg:TabG t)(lo hi:ByteArray)(hh:Bool):Calls prog 66 #[.agg #[.string t.lo,.slice (some ⟨t.b,t.off,none⟩) t.l.length t.cap],.agg #[.string lo,.bool hh,.string hi]] w λe w'=>e=.returned (.bool false)/\Below w.heap.size w w':=by
 refine(yGw t.lo t.b t.off t.cap t.l lo hi hh w ht.rms hg.ok.ents ht.lt hg.ok.runs (λr hr=>hg.good.2 r.es (List.mem_map.2 ⟨r,hr,rfl⟩))).mono ?_;rintro e w' ⟨r,rfl,_,hr,hb⟩;cases r
 .exact⟨rfl,hb⟩
 .obtain⟨L,h1,h2⟩:=hr rfl;have:=hg.len h1;omega
theorem yPk{ts:List Tm}(h:ScS w b cap ts)(lo hi:ByteArray)(hh:Bool):Calls prog 37 #[.agg #[.slice (some ⟨b,0,none⟩) ts.length cap],.agg #[.string lo,.bool hh,.string hi]] w λe w'=>e=.returned (.bool true)/\Below w.heap.size w w':=by
 obtain⟨n,hn⟩:=qE ts.length;have a5:=h.lt;have a7:n<=cap:=by have:=h.cap.1;omega
 have HS:Hid (ScS w b cap ts/\n=ts.length):=⟨h,hn⟩;obtain⟨W0,a3⟩:=qE ((w.alloc (.cells #[.slice (some ⟨b,0,none⟩) n cap] 28)).alloc (.cells #[.string lo,.bool hh,.string hi] 30):World);have H0:Hid (SmJ w b n cap lo hh hi W0):=by obtain⟨b1,b2,b3⟩:=yCi w #[.slice (some ⟨b,0,none⟩) n cap] #[.string lo,.bool hh,.string hi] 28 30;rw[<-a3]at b1 b2 b3;exact⟨b1,b2,b3⟩
 have a4:n<=100:=by have:=h.len;omega
 have HV:Hid (Calls prog 6 #[.agg #[.slice (some ⟨b,0,none⟩) n cap]] W0 λe w'=>e=.returned (.bool true)/\Below W0.heap.size W0 w'):=by have h9:=h.below H0.below;rw[hn];refine(yBf b 0 cap ts W0 h9.at_ h9.oks h9.lt (by have:=h9.len;omega)).mono ?_;rintro e w' ⟨r,rfl,hr,hb⟩;rw[hr.2 h9.good];exact⟨rfl,hb⟩
 rw[<-hn];clear h hn;go_enter func37,ntmps37;go_upto_region 1 with fail;rw[<-a3];clear a3;have c0:=H0.sto.cell (j:=0) rfl;go_wp2_with fail;refine HV.mono ?_;rintro e w1 ⟨rfl,hb1⟩;have H1:Hid (SmJ w b n cap lo hh hi w1):=H0.on hb1;clear H0 HV hb1 c0;have c0:=H1.sto.cell (j:=0) rfl;go_wp2_with fail;go_loopw[13] (λiv wr=>∃i:Nat,i<=n/\iv=.int .i64 (i:Int)/\Hid (SmJ w b n cap lo hh hi wr)) (λiv _=>n-(intOf iv).toNat);case atStart=>exact⟨0,zero_le _,rfl,H1⟩
 case round=>
  clear H1 c0;obtain⟨i,a6,rfl,HJ⟩:=hrel;by_cases hin:i<n
  .have z:(i:Int)<(n:Int):=by omega
   obtain⟨t,ht⟩:∃t,ts[i]?=some t:=⟨_,getElem?_eq_getElem (by have:=HS.2;omega)⟩;have hG:=HS.1.tab t (mem_of_getElem? ht);obtain⟨tl,a0⟩:=qE t.l.length;have hS:=HS.1.below HJ.below;obtain⟨e0,e2,_⟩:=hS.at_ i t ht;rw[Nat.zero_add]at e0 e2;have e1:wr.cell? ⟨b,i*2+1,none⟩=some (.slice (some ⟨t.b,t.off,none⟩) tl t.cap):=by rw[a0];exact e2
   clear e2;have a8:=hS.lt;obtain⟨W1,y⟩:=qE (wr.alloc (.cells #[.string t.lo,.slice (some ⟨t.b,t.off,none⟩) tl t.cap] 56):World);have k1:Below wr.heap.size wr W1:=by rw[y];exact qB
   have H1:Hid (SmJ w b n cap lo hh hi W1/\yA W1 w.heap.size 56 2 wr.heap.size [.string t.lo,.slice (some ⟨t.b,t.off,none⟩) tl t.cap]):=⟨HJ.on k1,by rw[y];exact yAa wr _ HJ.below.size rfl⟩;have HC:Hid (Calls prog 66 #[.agg #[.string t.lo,.slice (some ⟨t.b,t.off,none⟩) tl t.cap],.agg #[.string lo,.bool hh,.string hi]] W1 λe w'=>e=.returned (.bool false)/\Below W1.heap.size W1 w'):=by obtain⟨_,_,h2⟩:=(HS.1.below H1.1.below).at_ i t ht;rw[a0];exact yR0 t h2 hG lo hi hh
   clear ht hG a0 hS k1;go_upto_region 6 with fail;rw[<-y];clear y;obtain⟨t0,t1⟩:=H1.2.c2;obtain⟨r0,r1,r2⟩:=H1.1.rng.c3;go_wp2_with fail;refine HC.mono ?_;rintro e w2 ⟨rfl,hb2⟩;have H2:Hid (SmJ w b n cap lo hh hi w2):=H1.1.on hb2;clear H1 HC HJ t0 t1 r0 r1 r2 hb2 e0 e1;go_wp2_with fail;go_roundw;case rel=>exact⟨i+1,by omega,by go_num,H2⟩
   case measure=>simp[intOf];omega
  .have z:¬(i:Int)<(n:Int):=by omega
   go_wp2_with fail;go_ret;exact⟨rfl,HJ.below⟩
theorem yWs(v:Value)(n k:Nat)(w:World)(h:yDl w v n)(hk:k<=1000):∃x:Nat,x<256/\∀wx,Below w.heap.size w wx->Calls prog 9 #[v,.int .i64 k] wx λe w'=>e=.returned (.int .i64 (x:Int))/\w'=wx:=by
 by_cases hlt:k<n
 .obtain⟨hn,hh⟩:=h;rcases hh with⟨_,_,_,rfl⟩|⟨b,off,cap,rfl,hb,hc⟩
  .omega
  obtain⟨y,hx,a3,a0⟩:=hc k hlt;obtain⟨x,rfl⟩:∃x:Nat,y=(x:Int):=⟨y.toNat,by omega⟩;refine⟨x,by omega,λwx hb2=>?_⟩;have hx:wx.cell? ⟨b,off+k,none⟩=some (.int .u8 (x:Int)):=by rw[hb2.cell (by exact hb)];exact hx
  have z:(k:Int)<(n:Int):=by omega
  clear hc hb2;go_enter func9,ntmps9;go_wp2_with fail;go_ret;exact⟨rfl,rfl⟩
 .obtain⟨a,cap,rfl⟩:=h.slice;have z:¬(k:Int)<(n:Int):=by omega
  clear h;obtain⟨y,hy⟩:∃y:Int,((k:Int)*37+11)%256=y:=⟨_,rfl⟩;obtain⟨x,rfl⟩:∃x:Nat,y=(x:Int):=⟨y.toNat,by omega⟩;refine⟨x,by omega,λwx hb2=>?_⟩;clear hb2;go_enter func9,ntmps9;go_wp2_with fail;go_ret;exact⟨rfl,rfl⟩
theorem yI(a a':Option Addr)(c c':Nat)(w:World):Calls prog 11 #[.slice a 0 c,.slice a' 0 c'] w λe w'=>e=.returned (.bool true)/\Below w.heap.size w w':=by
 go_enter func11,ntmps11;go_wp2;go_loopw[5] (λi wr=>i=.int .i64 0/\wr=w) (λ_ _=>0);case atStart=>exact⟨rfl,rfl⟩
 case round=>exact yXt
theorem yJr{base':Nat}{a a':Option Addr}{c n' c':Nat}(h:RowC w base (.slice a n c) es)(h':RowC w base' (.slice a' n' c') es):Calls prog 11 #[.slice a n c,.slice a' n' c'] w λe w'=>e=.returned (.bool true)/\Below w.heap.size w w':=by
 have l1:=h.lens.1;have l2:=h'.lens.1;rcases h.cases with⟨_,q⟩|⟨g,cp,q,hC⟩
 .rw[q]at l1 l2;subst l1 l2;exact yI _ _ _ _ _
 .rcases h'.cases with⟨_,q'⟩|⟨g',cp',q',y⟩
  .rw[q']at l1 l2;subst l1 l2;exact yI _ _ _ _ _
  .cases q;cases q';exact yPt hC y
theorem StAt.shape{v:Value}{tb:List Tb}(h:StAt w v tb):∃g cp,v=.slice (some ⟨g,0,none⟩) tb.length cp/\g<w.heap.size/\tb.length<=cp/\∀i t,tb[i]?=some t->w.cell? ⟨g,i*2,none⟩=some (.string t.lo)/\∃a c,w.cell? ⟨g,i*2+1,none⟩=some (.slice a t.rs.length c):=by obtain⟨g,cp,ts,rfl,h1,rfl,h3,h4,h5⟩:=h;refine⟨g,cp,by rw[yAy],h3,by rw[yAy];exact h4,λi t ht=>?_⟩;unfold tbs at ht;rw[getElem?_map]at ht;obtain⟨m,hm,rfl⟩:=Option.map_eq_some_iff.1 ht;obtain⟨q1,q2,_⟩:=h1 i m hm;rw[Nat.zero_add]at q1 q2;exact⟨q1,some ⟨m.b,m.off,none⟩,m.cap,by rw[q2];simp[Tm.u,Tm.tb,esM]⟩
theorem yPl{a a':Option Addr}{c n' c':Nat}{tb:List Tb}(h:StAt w (.slice a n c) tb)(h':StAt w (.slice a' n' c') tb)(hn:tb.length<=100):Calls prog 12 #[.agg #[.slice a n c],.agg #[.slice a' n' c']] w λe w'=>e=.returned (.bool true)/\Below w.heap.size w w':=by
 obtain⟨g,cp,q,hg,hc,hA⟩:=h.shape;obtain⟨g',cp',q',a4,a5,a3⟩:=h'.shape;cases q
 cases q'
 obtain⟨m,hm⟩:=qE tb.length;rw[<-hm]at hc a5 hn|-;have HA:Hid (∀i,i<m->∃lo k a1 c1 a2 c2,w.cell? ⟨g,i*2,none⟩=some (.string lo)/\w.cell? ⟨g,i*2+1,none⟩=some (.slice a1 k c1)/\w.cell? ⟨g',i*2,none⟩=some (.string lo)/\w.cell? ⟨g',i*2+1,none⟩=some (.slice a2 k c2)):=λi hi=>by obtain⟨t,ht⟩:∃t,tb[i]?=some t:=⟨_,getElem?_eq_getElem (by omega)⟩;obtain⟨x1,a1,c1,x2⟩:=hA i t ht;obtain⟨y1,a2,c2,y2⟩:=a3 i t ht;exact⟨_,_,a1,c1,a2,c2,x1,x2,y1,y2⟩
 clear h h' hA a3 hm;obtain⟨W0,a0⟩:=qE ((w.alloc (.cells #[.slice (some ⟨g,0,none⟩) m c] 28)).alloc (.cells #[.slice (some ⟨g',0,none⟩) m c'] 28):World);have H0:Hid (yA W0 w.heap.size 28 1 w.heap.size [.slice (some ⟨g,0,none⟩) m c]/\yA W0 w.heap.size 28 1 (w.heap.size+1) [.slice (some ⟨g',0,none⟩) m c']/\Below w.heap.size w W0):=by have h9:=yCi w #[.slice (some ⟨g,0,none⟩) m c] #[.slice (some ⟨g',0,none⟩) m c'] 28 28;rw[<-a0]at h9;exact h9
 have H1:Hid (∀wx,Below W0.heap.size W0 wx->wx.cell? ⟨w.heap.size,0,none⟩=some (.slice (some ⟨g,0,none⟩) m c)/\wx.cell? ⟨w.heap.size+1,0,none⟩=some (.slice (some ⟨g',0,none⟩) m c')/\Below w.heap.size w wx):=λwx hx=>⟨(H0.1.below hx).cell (j:=0) rfl,(H0.2.1.below hx).cell (j:=0) rfl,H0.2.2.trans (hx.mono H0.2.2.size)⟩;go_enter func12,ntmps12;go_upto_region 1 with fail;rw[<-a0];clear a0 H0;obtain⟨c0,c1,_⟩:=H1.out W0 (Below.refl _ _);go_wp2_with fail;clear c0 c1;go_loopw[5] (λi wr=>∃(k:Nat),k<=m/\i=.int .i64 k/\Below W0.heap.size W0 wr) (λi _=>m-(intOf i).toNat);case atStart=>exact⟨0,zero_le _,rfl,Below.refl _ _⟩
 case round=>
  obtain⟨k,hk,rfl,hb⟩:=hrel;obtain⟨c0,c1,y⟩:=H1.out wr hb;by_cases hlt:k<m
  .obtain⟨lo,len,a1,k1,a2,k2,d0,d1,d2,d3⟩:=HA.out k hlt;rw[<-y.cell (by exact hg)]at d0 d1;rw[<-y.cell (by exact a4)]at d2 d3;have z2:(k:Int)<(m:Int):=by omega
   go_upto_region 6 with fail;go_cut[49] (λs wx=>s=.bool false/\Below W0.heap.size W0 wx);case first=>
    go_region;all_goals go_wp2_with fail
    all_goals go_meet
    all_goals exact⟨rfl,hb.drew⟩
   case rest=>
   obtain⟨rfl,h3⟩:=hcut;clear c0 c1 d0 d1 d2 d3 hb y;go_wp2_with fail;go_roundw;case rel=>exact⟨k+1,by omega,by go_num,h3⟩
   case measure=>simp[intOf];omega
  .have z2:¬(k:Int)<(m:Int):=by omega
   go_wp2_with fail;go_ret;exact⟨rfl,y⟩
end Go.Proofs.YtehfleefkdojpaaGreatDoor
