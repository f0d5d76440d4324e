import Derived.Test.YtehfleefkdojpaaGreatDoorSkAB
import Derived.Test.YtehfleefkdojpaaGreatDoorSkAC
import Derived.Test.YtehfleefkdojpaaGreatDoorSkAD
namespace Go.Proofs.YtehfleefkdojpaaGreatDoor
open _root_.List _root_.Nat Go.ChangeShapes Go.WideShapes Go.ChangeAt Go.RowKit Go.Deep Go.Maps Go.Proofs.Tryz
set_option linter.unusedVariables false
set_option linter.unusedSimpArgs false
set_option maxRecDepth 100000
set_option maxHeartbeats 16000000
structure Cu where
 blk:Nat
 r:Rm
 pos:Nat
 age:Nat
instance:Inhabited Cu:=⟨⟨0,⟨0,0,0,[]⟩,0,0⟩⟩
def Cu.head(c:Cu):Ent:=c.r.es[c.pos]?.getD yGi
def Cu.rest(c:Cu):List Ent:=c.r.es.drop c.pos
theorem Cu.head_get{c:Cu}(h:c.pos<c.r.es.length):c.r.es[c.pos]?=some c.head:=by unfold Cu.head;rw[getElem?_eq_getElem h];rfl
theorem Cu.rest_cons{c:Cu}(h:c.pos<c.r.es.length):c.rest=c.head::c.r.es.drop (c.pos+1):=by unfold Cu.rest;obtain⟨h1,h2⟩:=List.getElem?_eq_some_iff.1 (Cu.head_get h);rw[<-h2];exact drop_eq_getElem_cons h1
def yC1(a b:Cu):Bool:=if yAc a.head b.head=0 then decide (a.age<b.age)else decide (yAc a.head b.head<0)
def gtC(a b:Cu):Bool:=yC1 b a
theorem yN4{a b:Cu}:yC1 a b=true↔Lt2 (a.age,a.head) (b.age,b.head):=by unfold yC1 Lt2;rcases yBe a.head b.head with h|h|h<;>simp[h]
theorem yGe{a b:Cu}:yC1 a b=false↔¬Lt2 (a.age,a.head) (b.age,b.head):=by rw[<-yN4];simp
theorem yMh{p q r:Nat×Ent}(h:¬Lt2 p q)(k:¬Lt2 q r):¬Lt2 p r:=by
 intro hr;by_cases hpq:p.1=q.1
 .have h2:=yBm p.2 q.2;rcases yBe p.2 q.2 with c|c|c
  .exact h (.inl c)
  .have e:=yDb c (c:=r.2);refine k ?_;rcases hr with g|⟨g,g'⟩
   .exact .inl (by omega)
   .exact .inr ⟨by omega,by omega⟩
  .exact k (yFq (.inl (by omega)) hr)
 .rcases yN1 hpq with g|g
  .exact h g
  .exact k (yFq g hr)
theorem yLz:Go.Sort.SWO gtC where
 irrefl:=λx=>yGe.2 (yK6 _)
 trans:=λx y z h k=>by
  unfold gtC at*
  rw[yN4]at*
  exact yFq k h
 ntrans:=λx y z h k=>by
  unfold gtC at*
  rw[yGe]at*
  exact yMh k h
def sumL(l:List (Nat×List Ent)):Nat:=(l.map λp=>p.2.length).sum
structure Flow(A:Nat->Ent->Prop)(N:Nat)(P:List (Nat×Ent))(l:List (Nat×List Ent)):Prop where
 sorted:P.Pairwise Lt2
 ahead:∀p∈P,∀c∈l,∀x∈c.2,Lt2 p (c.1,x)
 all:∀a x,A a x↔(a,x)∈P\/∃c∈l,c.1=a/\x∈c.2
 ages:l.Pairwise λc c'=>c.1≠c'.1
 ord:∀c∈l,Ord c.2
 count:P.length+sumL l=N
variable {A:Nat->Ent->Prop} {N:Nat} {P:List (Nat×Ent)} {l:List (Nat×List Ent)}
theorem Flow.perm{m:List (Nat×List Ent)}(h:Flow A N P l)(hp:l.Perm m):Flow A N P m where
 sorted:=h.sorted
 ahead:=λp hp' c hc=>h.ahead p hp' c (hp.mem_iff.2 hc)
 all:=λa x=>(h.all a x).trans (by
  constructor
  .rintro(k|⟨c,hc,k⟩)
   .exact .inl k
   .exact .inr ⟨c,hp.mem_iff.1 hc,k⟩
  .rintro(k|⟨c,hc,k⟩)
   .exact .inl k
   .exact .inr ⟨c,hp.mem_iff.2 hc,k⟩)
 ages:=(hp.pairwise_iff (λh=>Ne.symm h)).1 h.ages
 ord:=λc hc=>h.ord c (hp.mem_iff.2 hc)
 count:=by have:sumL m=sumL l:=((hp.map (λp:Nat×List Ent=>p.2.length)).sum_nat).symm;rw[this];exact h.count
theorem Flow.done(h:Flow A N P []):∀a x,(a,x)∈P↔A a x:=λa x=>by rw[h.all];simp
variable {a:Nat}
theorem Flow.next{e:Ent}{r:List Ent}(h:Flow A N P ((a,e::r)::l)):∀p∈P,Lt2 p (a,e):=
 λp hp=>h.ahead p hp (a,e::r) (by simp) e (by simp)
theorem Flow.step{e:Ent}{r:List Ent}(h:Flow A N P ((a,e::r)::l))
  (hm:∀c∈l,∃y ys,c.2=y::ys/\¬Lt2 (c.1,y) (a,e)):Flow A N (P++ [(a,e)]) ((a,r)::l) where
 sorted:=List.pairwise_append.2 ⟨h.sorted,by simp,λp hp q hq=>by simp at hq;subst hq;exact h.next p hp⟩
 ahead:=λp hp c hc x hx=>by
  rcases List.mem_append.1 hp with hp|hp
  .rcases mem_cons.1 hc with rfl|hc
   .exact h.ahead p hp (a,e::r) (by simp) x (mem_cons_of_mem _ hx)
   .exact h.ahead p hp c (mem_cons_of_mem _ hc) x hx
  .simp at hp
   subst hp
   have ho:=List.pairwise_cons.1 (h.ord (a,e::r) (by simp))
   rcases mem_cons.1 hc with rfl|hc
   .exact .inl (ho.1 x hx)
   .obtain⟨y,ys,e1,e2⟩:=hm c hc
    have hne:¬a=c.1:=(List.pairwise_cons.1 h.ages).1 c hc
    have h1:Lt2 (a,e) (c.1,y):=(yN1 (p:=(a,e)) (q:=(c.1,y)) hne).resolve_right e2
    rw[e1]at hx
    rcases mem_cons.1 hx with rfl|hx
    .exact h1
    .have ho':=h.ord c (mem_cons_of_mem _ hc)
     rw[e1]at ho'
     exact yFq h1 (.inl ((List.pairwise_cons.1 ho').1 x hx))
 all:=λb x=>(h.all b x).trans (by
  constructor
  .rintro(k|⟨c,hc,k1,k2⟩)
   .exact .inl (mem_append_left _ k)
   .rcases mem_cons.1 hc with rfl|hc
    .rcases mem_cons.1 k2 with rfl|k2
     .left;simp at k1;subst k1;simp
     .exact .inr ⟨(a,r),by simp,k1,k2⟩
    .exact .inr ⟨c,mem_cons_of_mem _ hc,k1,k2⟩
  .rintro(k|⟨c,hc,k1,k2⟩)
   .rcases List.mem_append.1 k with k|k
    .exact .inl k
    .simp at k
     exact .inr ⟨(a,e::r),by simp,k.1.symm,by simp[k.2]⟩
   .rcases mem_cons.1 hc with rfl|hc
    .exact .inr ⟨(a,e::r),by simp,k1,mem_cons_of_mem _ k2⟩
    .exact .inr ⟨c,mem_cons_of_mem _ hc,k1,k2⟩)
 ages:=List.pairwise_cons.2 ⟨λc hc=>(List.pairwise_cons.1 h.ages).1 c hc,(List.pairwise_cons.1 h.ages).2⟩
 ord:=λc hc=>by
  rcases mem_cons.1 hc with rfl|hc
  .exact(List.pairwise_cons.1 (h.ord (a,e::r) (by simp))).2
  .exact h.ord c (mem_cons_of_mem _ hc)
 count:=by have:=h.count;simp[sumL]at this|-;omega
theorem Flow.drop(h:Flow A N P ((a,[])::l)):Flow A N P l where
 sorted:=h.sorted
 ahead:=λp hp c hc=>h.ahead p hp c (mem_cons_of_mem _ hc)
 all:=λb x=>(h.all b x).trans (by simp)
 ages:=(List.pairwise_cons.1 h.ages).2
 ord:=λc hc=>h.ord c (mem_cons_of_mem _ hc)
 count:=by have:=h.count;simp[sumL]at this|-;omega
structure Nd.ok(e:Nd):Prop where
 s:e.s.size<=maxLen
 t:e.t.size<=maxLen
 kind:(Lit.int .i64 e.kind).wf=true
 lo:(Lit.int .u64 e.lo).wf=true
 up:(Lit.int .u64 e.up).wf=true
 n:(Lit.int .i64 e.n).wf=true
abbrev Nd.seven(e:Nd):List Value:= [.int .i64 e.kind,.string e.s,.bool e.hi,.string e.t,.int .u64 e.lo,.int .u64 e.up,.int .i64 e.n]
abbrev Nd.v(e:Nd):Value:=.agg #[.int .i64 e.kind,.string e.s,.bool e.hi,.string e.t,.int .u64 e.lo,.int .u64 e.up,.int .i64 e.n]
def yV5:Nd:=⟨0,⟨#[]⟩,false,⟨#[]⟩,0,0,0⟩
def yCv(es:List Nd):List Value:=es.flatMap Nd.seven
theorem yD5(e:Nd)(es:List Nd):yCv (e::es)=e.seven++yCv es:=by simp[yCv]
theorem yF(es:List Nd):(yCv es).length=es.length*7:=by
 induction es with
 |nil=>rfl
 |cons e es ih=>rw[yD5,length_append,ih];simp;omega
theorem yLn(es:List Nd):∀(k:Nat)(e:Nd),es[k]?=some e->∀j,j<7->(yCv es)[k*7+j]?=e.seven[j]?:=by
 induction es with
 |nil=>intro k e h;simp at h
 |cons f es ih=>
  intro k e h j hj;rw[yD5];cases k with
  |zero=>
   simp at h;subst h;rw[getElem?_append_left (by show 0*7+j<7;omega)];simp
  |succ k=>
   simp at h;rw[getElem?_append_right (by show 7<=(k+1)*7+j;omega)];have:(k+1)*7+j-f.seven.length=k*7+j:=by show(k+1)*7+j-7=_;omega
   rw[this];exact ih k e h j hj
theorem ySu(es:List Nd):∀(k:Nat)(e e':Nd)(u:Value)(j:Nat),es[k]?=some e->j<7->e'.seven=e.seven.set j u->(yCv es).set (k*7+j) u=yCv (es.set k e'):=by
 induction es with
 |nil=>intro k e e' u j h;simp at h
 |cons f es ih=>
  intro k e e' u j h hj hc;rw[yD5];cases k with
  |zero=>
   simp at h;subst h;rw[set_append_left _ _ (by show 0*7+j<7;omega),set_cons_zero,yD5,hc];simp
  |succ k=>
   simp at h;rw[set_append_right _ _ (by show 7<=(k+1)*7+j;omega),set_cons_succ,yD5];have:(k+1)*7+j-f.seven.length=k*7+j:=by show(k+1)*7+j-7=_;omega
   rw[this,ih k e e' u j h hj hc]
def yC(w:World)(b off:Nat)(es:List Nd):Prop:=
 ∀i e,es[i]?=some e->w.cell? ⟨b,off+i*7,none⟩=some (.int .i64 e.kind)/\w.cell? ⟨b,off+i*7+1,none⟩=some (.string e.s)/\w.cell? ⟨b,off+i*7+2,none⟩=some (.bool e.hi)/\w.cell? ⟨b,off+i*7+3,none⟩=some (.string e.t)/\w.cell? ⟨b,off+i*7+4,none⟩=some (.int .u64 e.lo)/\w.cell? ⟨b,off+i*7+5,none⟩=some (.int .u64 e.up)/\w.cell? ⟨b,off+i*7+6,none⟩=some (.int .i64 e.n)
variable {B b off:Nat} {w w':World} {es:List Nd}
theorem yC.below(h:yC w b off es)(hb:Below B w w')(hlt:b<B):yC w' b off es:=by
 intro i e he;have:=h i e he;refine⟨?_,?_,?_,?_,?_,?_,?_⟩;all_goals rw[hb.cell (by exact hlt)]
 .exact this.1
 .exact this.2.1
 .exact this.2.2.1
 .exact this.2.2.2.1
 .exact this.2.2.2.2.1
 .exact this.2.2.2.2.2.1
 .exact this.2.2.2.2.2.2
def yAj(w:World)(base g cap:Nat)(es:List Nd):Prop:=w.ownsRow base 35 7 (.slice (some ⟨g,0,none⟩) es.length cap) es.length (yCv es)
variable {base g cap:Nat}
theorem yAj.at(h:yAj w base g cap es):yC w g 0 es:=by
 intro i e he;have hi:i<es.length:=(List.getElem?_eq_some_iff.1 he).1;have c:=λj (hj:j<7)=>(World.ownsRow.cellAt h (i*7+j) (by omega)).trans (yLn es i e he j hj);refine⟨?_,?_,?_,?_,?_,?_,?_⟩
 .simpa using c 0 (by omega)
 .simpa using c 1 (by omega)
 .simpa using c 2 (by omega)
 .simpa using c 3 (by omega)
 .simpa using c 4 (by omega)
 .simpa using c 5 (by omega)
 .simpa using c 6 (by omega)
theorem yAj.lt(h:yAj w base g cap es):base<=g/\g<w.heap.size:=World.ownsRow.lt h g rfl
theorem yAj.below(h:yAj w base g cap es)(hb:Below B w w')(hg:g<B):yAj w' base g cap es:=by exact yS8
theorem yAj.mono{base':Nat}(h:yAj w base g cap es)(hb:base'<=base):yAj w base' g cap es:=by exact yM5
variable {cp:Nat}
theorem yAj.caps{R:List Nd}(h:yAj w base g cp R):R.length<=cp/\cp<=maxLen:=by exact zzQ8
theorem yAj.set(h:yAj w base g cap es)(k j:Nat)(e e':Nd)(u:Value)(hk:es[k]?=some e)(hj:j<7)(hc:e'.seven=e.seven.set j u):
  yAj (w.setCell ⟨g,k*7+j,none⟩ u) base g cap (es.set k e'):=by
 have:=(World.ownsRow.stored h (k*7+j) u).1;rw[ySu es k e e' u j hk hj hc]at this;unfold yAj;rw[length_set];exact this
theorem Tryz.infoNd:(prog.info? 35).map (λi=>(i.zero,i.size,i.bytes))=some (some (.agg #[.int .i64 0,.string ⟨#[]⟩,.bool false,.string ⟨#[]⟩,.int .u64 0,.int .u64 0,.int .i64 0]),7,72):=by kernel_rfl
theorem yAj.put(h:yAj w base g cap es)(k:Nat)(f e:Nd)(hk:es[k]?=some f):
  yAj (((((((w.setCell ⟨g,k*7,none⟩ (.int .i64 e.kind)).setCell ⟨g,k*7+1,none⟩ (.string e.s)).setCell ⟨g,k*7+2,none⟩ (.bool e.hi)).setCell ⟨g,k*7+3,none⟩ (.string e.t)).setCell ⟨g,k*7+4,none⟩ (.int .u64 e.lo)).setCell ⟨g,k*7+5,none⟩ (.int .u64 e.up)).setCell ⟨g,k*7+6,none⟩ (.int .i64 e.n)) base g cap (es.set k e):=by
 have y:k<es.length:=(List.getElem?_eq_some_iff.1 hk).1;have g1:=h.set k 0 f ({f with kind:=e.kind}) (.int .i64 e.kind) hk (by omega) rfl;have g2:=g1.set k 1 ({f with kind:=e.kind}) ({f with kind:=e.kind,s:=e.s}) (.string e.s) (by simp[y]) (by omega) rfl;have g3:=g2.set k 2 ({f with kind:=e.kind,s:=e.s}) ({f with kind:=e.kind,s:=e.s,hi:=e.hi}) (.bool e.hi) (by simp[y]) (by omega) rfl;have g4:=g3.set k 3 ({f with kind:=e.kind,s:=e.s,hi:=e.hi}) ({f with kind:=e.kind,s:=e.s,hi:=e.hi,t:=e.t}) (.string e.t) (by simp[y]) (by omega) rfl;have g5:=g4.set k 4 ({f with kind:=e.kind,s:=e.s,hi:=e.hi,t:=e.t}) ({f with kind:=e.kind,s:=e.s,hi:=e.hi,t:=e.t,lo:=e.lo}) (.int .u64 e.lo) (by simp[y]) (by omega) rfl;have g6:=g5.set k 5 ({f with kind:=e.kind,s:=e.s,hi:=e.hi,t:=e.t,lo:=e.lo}) ({f with kind:=e.kind,s:=e.s,hi:=e.hi,t:=e.t,lo:=e.lo,up:=e.up}) (.int .u64 e.up) (by simp[y]) (by omega) rfl;have g7:=g6.set k 6 ({f with kind:=e.kind,s:=e.s,hi:=e.hi,t:=e.t,lo:=e.lo,up:=e.up}) e (.int .i64 e.n) (by simp[y]) (by omega) rfl;simpa only[set_set,Nat.add_zero]using g7
theorem yIa(k:Int)(w:World):Calls prog 170 #[.int .i64 k] w λe w'=>e=.returned (.int .i64 (yE4 k:Int))/\w'=w:=by
 by_cases h14:k=14
 .subst h14;exact yXs
 by_cases h15:k=15
 .subst h15;exact yXs
 by_cases h16:k=16
 .subst h16;exact yXs
 have a3:(k==14)=false:=by simpa using h14
 have a0:(k==15)=false:=by simpa using h15
 have y:(k==16)=false:=by simpa using h16
 have H:Hid (yE4 k=0):=by show yE4 k=0;unfold yE4;rw[if_neg (by omega),if_neg h16]
 go_enter func170,ntmps170;go_wp2_with fail;go_ret;exact⟨by rw[H.out];rfl,rfl⟩
structure Win(w:World)(b off cap:Nat)(xs:List Nd):Prop where
 at_:yC w b off xs
 lt:b<w.heap.size
 len:xs.length<=cap
 cap:cap<=9223372036854775807
 sm:xs.length<=281474976710656
variable {xs:List Nd}
theorem Win.below(h:Win w b off cap xs)(hb:Below w.heap.size w w'):Win w' b off cap xs:=
 ⟨h.at_.below hb h.lt,by have:=hb.size;have:=h.lt;omega,h.len,h.cap,h.sm⟩
variable {e:Nd}
theorem Win.kind(h:Win w b off cap xs){i:Nat}(he:xs[i]?=some e):w.cell? ⟨b,off+i*7,none⟩=some (.int .i64 e.kind):=(h.at_ i e he).1
theorem yFw(h:Win w b off cap (xs++ [e])):Calls prog 108 #[.slice (some ⟨b,off,none⟩) (xs.length+1) cap] w λr w'=>r=.returned (.int .i64 e.kind)/\w'=w:=by have hk:=h.kind (i:=xs.length) (e:=e) (by simp);obtain⟨n,hn⟩:=qE xs.length;have h1:=h.len;have h2:=h.cap;rw[length_append,length_singleton]at h1;rw[<-hn]at hk h1|-;clear h hn;go_enter func108,ntmps108;go_wp2_with fail;go_ret;exact⟨rfl,rfl⟩
def yRk(xs:List Nd)(w:World)(r:Ending)(w':World):Prop:=w'=w/\((∃i:Nat,r=.returned (.int .i64 (i:Int))/\i<=xs.length/\IsT 1 (xs.drop i))\/(r=.returned (.int .i64 (-1))/\∀j,j<=xs.length->¬IsT 1 (xs.drop j)))
theorem yJu(h:Win w b off cap xs):Calls prog 107 #[.slice (some ⟨b,off,none⟩) xs.length cap] w (yRk xs w):=by
 have HW:Hid (Win w b off cap xs):=h;have h1:=h.len;have h2:=h.cap;have h3:=h.sm;obtain⟨n,hn⟩:=qE xs.length;have HN:Hid (n=xs.length):=hn;rw[<-hn]at h1 h3|-;clear h hn;go_enter func107,ntmps107;go_wp2_with fail;go_loopw[3,4] (λnv iv wr=>∃(i m:Nat),iv=.int .i64 (i:Int)/\nv=.int .i64 (m:Int)/\i<=n/\m<=1+3*(n-i)/\Sc m (xs.drop i)/\wr=w) (λ_ iv _=>(intOf iv).toNat);case atStart=>exact⟨n,1,rfl,rfl,Nat.le_refl _,by omega,by rw[HN.out,drop_length];exact .nil,rfl⟩
 case round=>
  obtain⟨i,m,rfl,rfl,hi,hm,hS,rfl⟩:=hrel;have HS:Hid (Sc m (xs.drop i)):=hS;clear hS;by_cases hm0:m=0
  .subst hm0;go_wp2_with fail;go_ret;refine⟨rfl,.inl ⟨i,rfl,by have:=HN.out;omega,?_⟩⟩;have:=HS.tree (pre:= []);exact this.1 .nil
  .obtain⟨m',rfl⟩:∃m',m=m'+1:=⟨m-1,by omega⟩;have zm:(0:Int)<(m':Int)+1:=by omega
   by_cases hi0:i=0
   .subst hi0;go_wp2_with fail;go_ret;exact⟨rfl,.inr ⟨rfl,λj hj=>yYk HS.out j (zero_le _) hj⟩⟩
   .obtain⟨i',rfl⟩:∃i',i=i'+1:=⟨i-1,by omega⟩;obtain⟨e,he⟩:∃e,xs[i']?=some e:=⟨_,getElem?_eq_getElem (by have:=HN.out;omega)⟩;have hk:=HW.kind he;have y:i'<xs.length:=by have:=HN.out;omega
    have a3:Hid (Sc (m'+yE4 e.kind) (xs.drop i')):=by show Sc _ _;rw[drop_eq_getElem_cons y,show xs[i']=e from Option.some.inj ((getElem?_eq_getElem y).symm.trans he)];exact .cons e HS.out
    have ha:=yRd e.kind;have zi:¬(i':Int)<0:=by omega
    clear he y;go_wp2_with fail;refine(yIa e.kind _).mono ?_;rintro r w2 ⟨rfl,a0⟩;rw[a0];clear a0;go_wp2_with fail;go_roundw;case rel=>exact⟨i',m'+yE4 e.kind,by go_num,by go_num,by omega,by omega,a3.out,by first|rfl|trivial⟩
    case measure=>simp[intOf]<;>omega
theorem yPw(h:Win w b off cap xs):Calls prog 58 #[.slice (some ⟨b,off,none⟩) xs.length cap] w λr w'=>w'=w/\((r=.returned (.bool true)/\IsT 1 xs)\/(r=.returned (.bool false)/\¬IsT 1 xs)):=by
 have HW:Hid (Win w b off cap xs):=h;have h1:=h.len;have h2:=h.cap;have h3:=h.sm;obtain⟨n,hn⟩:=qE xs.length;have HN:Hid (n=xs.length):=hn;have HF:Hid (Calls prog 107 #[.slice (some ⟨b,off,none⟩) n cap] w (yRk xs w)):=by rw[hn];exact yJu h
 rw[<-hn]at h1 h3|-;clear h hn;by_cases hn0:n=0
 .subst hn0;have HE:Hid (¬IsT 1 xs):=λq=>by have:=q.len;have:=HN.out;omega
  go_enter func58,ntmps58;go_wp2_with fail;go_ret;exact⟨rfl,.inr ⟨rfl,HE.out⟩⟩
 .have zn:(0:Int)<(n:Int):=by omega
  go_enter func58,ntmps58;go_wp2_with fail;refine HF.mono ?_;rintro r w2 ⟨y,(⟨i,rfl,hi,hT⟩|⟨rfl,hT⟩)⟩
  .rw[y];clear y;have HT:Hid (i<=xs.length/\IsT 1 (xs.drop i)):=⟨hi,hT⟩;clear hi hT;by_cases hi0:i=0
   .subst hi0;go_wp2_with fail;go_ret;exact⟨rfl,.inl ⟨rfl,by simpa using HT.2⟩⟩
   .have zi:((i:Int)==0)=false:=by simpa using hi0
    go_wp2_with fail;go_ret;refine⟨rfl,.inr ⟨rfl,λq=>hi0 ?_⟩⟩;exact(yLx (xs:=xs) (i:=0) (j:=i) (by simpa using q) HT.2 (zero_le _) HT.1).symm
  .rw[y];clear y;have HT:Hid (¬IsT 1 xs):=λq=>hT 0 (zero_le _) (by simpa using q);clear hT;go_wp2_with fail;go_ret;exact⟨rfl,.inr ⟨rfl,HT.out⟩⟩
def OwnV(w:World)(base g cp:Nat)(us:List Value):Prop:=w.ownsRow base 23 1 (.slice (some ⟨g,0,none⟩) us.length cp) us.length us
variable {us:List Value}
theorem OwnV.lt(h:OwnV w base g cp us):base<=g/\g<w.heap.size:=World.ownsRow.lt h g rfl
theorem OwnV.below(h:OwnV w base g cp us)(hb:Below w.heap.size w w'):OwnV w' base g cp us:=yAg h (Chg.of_below hb) (S:=λ_=>False) (λk q z=>z)
theorem OwnV.cell(h:OwnV w base g cp us){j:Nat}{v:Value}(hv:us[j]?=some v):w.cell? ⟨g,j,none⟩=some v:=by have hj:=(List.getElem?_eq_some_iff.1 hv).1;rw[World.ownsRow.cellAt h j (by omega),hv]
theorem OwnV.caps(h:OwnV w base g cp us):us.length<=cp/\cp<=maxLen:=by exact zzQ8
theorem yQs(w:World)(hb:base<=w.heap.size):OwnV (w.alloc (Obj.cells #[] 23)) base w.heap.size 0 []:=
 World.ownsRow_made w #[] 0 hb (zero_le _) (by simp)
theorem yMa(w:World)(hb:base<=w.heap.size)(v:Value):OwnV (w.alloc (Obj.cells #[v] 23)) base w.heap.size 1 [v]:=
 World.ownsRow_lit w #[v] 1 hb (by decide) rfl
theorem Tryz.infoNds:(prog.info? 23).map (λi=>(i.zero,i.size,i.bytes))=some (some (.slice none 0 0),1,24):=by kernel_rfl
theorem yCw{ops:Array Oper}{rest:List Oper}{oo:Oper}{a:Act}{Q:Exit->Act->World->Prop}(w:World)(hgd:oo.guard=none)(s x:Operand)
  (ho:oo.op=.call {callee:=.builtin .append,args:=#[s,x],argTypes:=#[171,171]})
  (base gq cp n b m cx:Nat) (us vs:List Value) (hs:a.eval s=.slice (some ⟨gq,0,none⟩) n cp) (hx:a.eval x=.slice (some ⟨b,0,none⟩) m cx) (hn:n=us.length) (hm:m=vs.length) (hO:OwnV w base gq cp us)
  (hc:∀(j:Nat) v,vs[j]?=some v->w.cell? ⟨b,j,none⟩=some v) (hy:∀v∈vs,v.oneCell'=true) (hlen:us.length+vs.length<=1000) (hbase:base<=w.heap.size)
  (h:∀g' cp' w',OwnV w' base g' cp' (us++vs)->w.grownBy w' (some gq)->(g'=gq\/g'=w.heap.size)->wpList prog ops Q rest (a.put oo.dst (.slice (some ⟨g',0,none⟩) (n+m) cp')) w'):wpList prog ops Q (oo::rest) a w:=by
 subst hn hm;obtain⟨i,hi,a5,a4,a3⟩:=info_parts Tryz.infoNds;refine wpList_append_own_at w hgd s x 171 ho base 23 i _ 1 24 underlying171 hi a5 a4 a3 rfl (by decide) (.slice (some ⟨gq,0,none⟩) us.length cp) us.length us hs hO ⟨b,0,none⟩ vs.length cx vs hx (by simp) ?_ hy ?_ ?_ hbase ?_
 .intro j u hu;rw[Addr.add_mid,Nat.zero_add];exact hc j u hu
 .unfold maxLen;omega
 .omega
 .intro v' w' a0 a7 a6 y;rcases a0.2 with⟨h0,_⟩|⟨g',a8,cur,hv,_,_,hn,a9,_,_⟩
  .have:=(a6.1 h0).1;cases this
  .subst hv;refine h g' a8 w' ?_ a7 ?_
   .unfold OwnV;rw[length_append];exact a0
   .simp[Value.ownBlock]at y;exact y
def yN9(b:Nat):Nat->Nat->List (List Nd)->List Value
 |_,_,[]=> []
 |o,cap,k::ks=>.slice (some ⟨b,o,none⟩) k.length cap::yN9 b (o+k.length*7) (cap-k.length) ks
theorem yJv(b:Nat):∀(o cap:Nat)(ks:List (List Nd)),(yN9 b o cap ks).length=ks.length
 |_,_,[]=>rfl
 |o,cap,k::ks=>by simp[yN9,yJv]
theorem yN8(b:Nat):∀(o cap:Nat)(ks:List (List Nd)),∀v∈yN9 b o cap ks,v.oneCell'=true
 |_,_,[],v,h=>by cases h
 |o,cap,k::ks,v,h=>by
  rcases mem_cons.1 h with rfl|h
  .rfl
  .exact yN8 b _ _ ks v h
theorem yC.part{o:Nat}{ys:List Nd}(h:yC w b o (xs++ys)):yC w b o xs/\yC w b (o+xs.length*7) ys:=by refine⟨λi e he=>h i e (by rw[getElem?_append_left (List.getElem?_eq_some_iff.1 he).1];exact he),λi e he=>?_⟩;have:=h (xs.length+i) e (by rw[getElem?_append_right (by omega),Nat.add_sub_cancel_left];exact he);rw[Nat.add_mul,<-Nat.add_assoc]at this;exact this
structure KiJ(w:World)(b o cap:Nat)(pre suf:List (List Nd))(g cp:Nat)(wr:World):Prop where
 own:OwnV wr w.heap.size g cp (yN9 b (o+pre.flatten.length*7) (cap-pre.flatten.length) suf)
 below:Below w.heap.size w wr
theorem yFa{o:Nat}{ks:List (List Nd)}(h:Win w b o cap (ks.flatten++ [e]))(hk:ks.length=yE4 e.kind)(hT:∀k∈ks,IsT 1 k):
  Calls prog 109 #[.slice (some ⟨b,o,none⟩) (ks.flatten.length+1) cap] w λr w'=>∃g cp,r=.returned (.slice (some ⟨g,0,none⟩) ks.length cp)/\OwnV w' w.heap.size g cp (yN9 b o cap ks)/\Below w.heap.size w w':=by
 have HW:Hid (Win w b o cap (ks.flatten++ [e])/\∀k∈ks,IsT 1 k):=⟨h,hT⟩;have ac:=h.kind (i:=ks.flatten.length) (e:=e) (by simp);have h1:=h.len;have h2:=h.cap;have h3:=h.sm;obtain⟨n,hn⟩:=qE ks.flatten.length;have HN:Hid (n=ks.flatten.length):=hn;rw[length_append,length_singleton]at h1 h3;rw[<-hn]at ac h1 h3|-;have ha:=yRd e.kind;have HA:Hid (ks.length=yE4 e.kind):=hk;obtain⟨W0,ag⟩:=qE (w.alloc (Obj.cells #[] 23):World);have ai:Hid (KiJ w b o cap ks [] w.heap.size 0 W0):=by rw[ag];exact⟨yQs w (Nat.le_refl _),qB⟩
 have av:W0.cell? ⟨b,o+n*7,none⟩=some (.int .i64 e.kind):=by rw[(Chg.of_below ai.below (S:=λ_=>False)).cell (p:=⟨b,o+n*7,none⟩) h.lt (λq=>q)];exact ac
 obtain⟨a,a6⟩:=qE (yE4 e.kind);have aq:Hid (Calls prog 170 #[.int .i64 e.kind] W0 λr w'=>r=.returned (.int .i64 (a:Int))/\w'=W0):=by rw[a6];exact yIa e.kind W0
 have ay:Hid (ks.length=a):=by rw[a6];exact hk
 rw[hk,<-a6];rw[<-a6]at ha;clear h hn hT hk ac HA a6;go_enter func109,ntmps109;go_upto_region 3 with fail;rw[<-ag];clear ag;go_wp2_with fail;refine aq.mono ?_;rintro r w1 ⟨rfl,ak⟩;rw[ak];clear ak av aq;go_wp2_with fail;go_loopw[3,4,5] (λrv ov kv wr=>∃(c m g cp:Nat)(pre suf:List (List Nd)),ks=pre++suf/\pre.length=c/\suf.length+c=a/\m=pre.flatten.length/\m<=n/\kv=.int .i64 (c:Int)/\rv=.slice (some ⟨b,o,none⟩) m cap/\ov=.slice (some ⟨g,0,none⟩) suf.length cp/\KiJ w b o cap pre suf g cp wr) (λ_ _ kv _=>(intOf kv).toNat);case atStart=>exact⟨a,n,_,0,ks,[],by simp,ay.out,by simp,HN.out,Nat.le_refl _,rfl,rfl,rfl,ai.out⟩
 case round=>
  obtain⟨c,m,g,cp,pre,suf,ao,am,ar,hm,aA,rfl,rfl,rfl,hJ⟩:=hrel;have HJ:Hid (KiJ w b o cap pre suf g cp wr/\ks=pre++suf/\m=pre.flatten.length/\pre.length=c):=⟨hJ,ao,hm,am⟩;have aC:=hJ.own.lt;have al:=hJ.below.size;clear hJ ao hm am ai;obtain⟨q,hq⟩:=qE suf.length;have HQ:Hid (q=suf.length):=hq;rw[<-hq]at ar|-;clear hq;by_cases hc0:c=0
  .subst hc0;have HF:Hid (pre= []/\q=a):=⟨length_eq_zero_iff.1 HJ.2.2.2,by omega⟩;go_wp2_with fail;go_ret;have hp:=HF.1;have hj:=HJ.1.own;have hs:=HJ.2.1;rw[hp]at hj hs;simp at hj hs;refine⟨g,cp,by rw[<-HF.2];rfl,by rw[hs];exact hj,HJ.1.below⟩
  .obtain⟨c',rfl⟩:∃c',c=c'+1:=⟨c-1,by omega⟩;have zc:(0:Int)<(c':Int)+1:=by omega
   obtain⟨y,k,a0⟩:∃y k,pre=y++ [k]:=by
    rcases eq_nil_or_concat pre with h|⟨p',k,h⟩
    .have:=HJ.2.2.2;rw[h]at this;simp at this
    .exact⟨p',k,by rw[h,concat_eq_append]⟩
   obtain⟨m',a3⟩:=qE y.flatten.length;have an:m=m'+k.length:=by rw[HJ.2.2.1,a0,a3];simp
   have a4:IsT 1 k:=HW.2 k (by rw[HJ.2.1,a0];simp);have aw:=a4.len;have aj:Win wr b o cap pre.flatten:=by have hw:=HW.1;rw[HJ.2.1]at hw;simp only[flatten_append,append_assoc]at hw;have h8:=hw.len;have h9:=hw.sm;simp only[length_append]at h8 h9;exact Win.below ⟨hw.at_.part.1,hw.lt,by omega,hw.cap,by omega⟩ HJ.1.below
   have HC:Hid (Calls prog 107 #[.slice (some ⟨b,o,none⟩) m cap] wr λr w'=>r=.returned (.int .i64 (m':Int))/\w'=wr):=by
    have hf:=yJu aj;rw[<-HJ.2.2.1]at hf;refine hf.mono ?_;have ae:pre.flatten.drop m'=k:=by rw[a0,a3];simp
    rintro r w2 ⟨a9,(⟨i,rfl,hi,aa⟩|⟨rfl,aa⟩)⟩
    .refine⟨?_,a9⟩;have au:m'<=pre.flatten.length:=by rw[a0,a3];simp
     have:i=m':=by
      rcases Nat.le_total i m' with ab|ab
      .exact yLx aa (by rw[ae];exact a4) ab au
      .exact(yLx (by rw[ae];exact a4) aa ab hi).symm
     rw[this]
    .exact absurd (by rw[ae];exact a4) (aa m' (by rw[a0,a3];simp))
   have HP:Hid (pre=y++ [k]/\m'=y.flatten.length/\IsT 1 k/\m=m'+k.length):=⟨a0,a3,a4,an⟩;have aB:m'<=m:=by omega
   have z1:(m':Int)<=(m:Int):=by omega
   have z2:(m:Int)<=(cap:Int):=by omega
   have z3:(m':Int)<=(cap:Int):=by omega
   clear aj a4 a0 a3 an aw;go_wp2_with fail;refine HC.mono ?_;rintro r w2 ⟨rfl,a9⟩;rw[a9];clear a9 HC;obtain⟨W5,a5⟩:=qE (wr.alloc (Obj.cells #[.slice (some ⟨b,o+m'*7,none⟩) (m-m') (cap-m')] 23):World);have af:Below wr.heap.size wr W5:=by rw[a5];exact qB
   have az:W5.heap.size=wr.heap.size+1:=by rw[a5];simp
   have ah:Hid (OwnV W5 w.heap.size wr.heap.size 1 [.slice (some ⟨b,o+m'*7,none⟩) (m-m') (cap-m')]/\OwnV W5 w.heap.size g cp (yN9 b (o+pre.flatten.length*7) (cap-pre.flatten.length) suf)/\Below w.heap.size w W5):=by refine⟨?_,HJ.1.own.below af,HJ.1.below.trans (af.mono al)⟩;rw[a5];exact yMa wr al _
   go_wp2_with (at_builtin;rw[<-a5];refine yCw _ rfl _ _ rfl w.heap.size wr.heap.size 1 1 g q cp [.slice (some ⟨b,o+m'*7,none⟩) (m-m') (cap-m')] (yN9 b (o+pre.flatten.length*7) (cap-pre.flatten.length) suf) rfl rfl rfl ?hm ?hO ?hc ?hy ?hl ?hb ?_);case hm=>rw[yJv];exact HQ.out
   case hO=>exact ah.1
   case hc=>exact λj v hv=>ah.2.1.cell hv
   case hy=>exact yN8 _ _ _ _
   case hl=>rw[yJv,<-HQ.out];simp;omega
   case hb=>omega
   intro g' cp' w' a7 ad ax;rw[<-a5]at ad;have a8:Hid (KiJ w b o cap y (k::suf) g' cp' w'/\ks=y++(k::suf)/\y.length=c'/\(k::suf).length=q+1):=by
    have hP:=HP.out;refine⟨⟨?_,ah.2.2.grown ad (by omega) (λj hj=>by cases hj;omega)⟩,by rw[HJ.2.1,hP.1];simp,?_,by rw[HQ.out];rfl⟩
    .have e1:(List.map List.length pre).sum=m'+k.length:=by rw[<-length_flatten,<-HJ.2.2.1];exact hP.2.2.2
     rw[e1]at a7;have e2:m-m'=k.length:=by omega
     rw[e2]at a7;have e3:o+(m'+k.length)*7=o+m'*7+k.length*7:=by omega
     have e4:cap-(m'+k.length)=cap-m'-k.length:=by omega
     rw[e3,e4]at a7;rw[<-hP.2.1];exact a7
    .have:=HJ.2.2.2;rw[hP.1]at this;simpa using this
   clear a7 ad ax a5 af;go_wp2_with fail;go_roundw;case rel=>exact⟨c',m',g',cp',y,k::suf,a8.2.1,a8.2.2.1,by have:=a8.2.2.2;omega,HP.2.1,by omega,by go_num,rfl,by rw[a8.2.2.2];go_num,a8.1⟩
   case measure=>simp[intOf]<;>omega
def yXb(w:World)(v:Value)(es:List Nd):Prop:=
 (∃a cap,v=.slice a 0 cap/\es= [])\/
 ∃b off cap,v=.slice (some ⟨b,off,none⟩) es.length cap/\yC w b off es/\b<w.heap.size/\es.length<=cap/\cap<=maxLen
section
variable (G:Nd->Bool)
end
structure Ix where
 op:Int
 a:Int
 b:Int
 free:Bool
 leaf:Nd
abbrev Ix.ten(e:Ix):List Value:= [.int .i64 e.op,.int .i64 e.a,.int .i64 e.b,.bool e.free,.int .i64 e.leaf.kind,.string e.leaf.s,.bool e.leaf.hi,.string e.leaf.t,.int .u64 e.leaf.lo,.int .u64 e.leaf.up,.int .i64 e.leaf.n]
abbrev Ix.v(e:Ix):Value:=.agg #[.int .i64 e.op,.int .i64 e.a,.int .i64 e.b,.bool e.free,.int .i64 e.leaf.kind,.string e.leaf.s,.bool e.leaf.hi,.string e.leaf.t,.int .u64 e.leaf.lo,.int .u64 e.leaf.up,.int .i64 e.leaf.n]
def yCu(es:List Ix):List Value:=es.flatMap Ix.ten
theorem yJ8(e:Ix)(es:List Ix):yCu (e::es)=e.ten++yCu es:=by simp[yCu]
theorem yE8(es:List Ix):(yCu es).length=es.length*11:=by
 induction es with
 |nil=>rfl
 |cons e es ih=>rw[yJ8,length_append,ih];simp;omega
theorem yLl(es:List Ix):∀(k:Nat)(e:Ix),es[k]?=some e->∀j,j<11->(yCu es)[k*11+j]?=e.ten[j]?:=by
 induction es with
 |nil=>intro k e h;simp at h
 |cons f es ih=>
  intro k e h j hj;rw[yJ8];cases k with
  |zero=>
   simp at h;subst h;rw[getElem?_append_left (by show 0*11+j<11;omega)];simp
  |succ k=>
   simp at h;rw[getElem?_append_right (by show 11<=(k+1)*11+j;omega)];have:(k+1)*11+j-f.ten.length=k*11+j:=by show(k+1)*11+j-11=_;omega
   rw[this];exact ih k e h j hj
def yHh(w:World)(b off:Nat)(es:List Ix):Prop:=
 ∀i e,es[i]?=some e->w.cell? ⟨b,off+i*11,none⟩=some (.int .i64 e.op)/\w.cell? ⟨b,off+i*11+1,none⟩=some (.int .i64 e.a)/\w.cell? ⟨b,off+i*11+2,none⟩=some (.int .i64 e.b)/\w.cell? ⟨b,off+i*11+3,none⟩=some (.bool e.free)/\w.cell? ⟨b,off+i*11+4,none⟩=some (.int .i64 e.leaf.kind)/\w.cell? ⟨b,off+i*11+5,none⟩=some (.string e.leaf.s)/\w.cell? ⟨b,off+i*11+6,none⟩=some (.bool e.leaf.hi)/\w.cell? ⟨b,off+i*11+7,none⟩=some (.string e.leaf.t)/\w.cell? ⟨b,off+i*11+8,none⟩=some (.int .u64 e.leaf.lo)/\w.cell? ⟨b,off+i*11+9,none⟩=some (.int .u64 e.leaf.up)/\w.cell? ⟨b,off+i*11+10,none⟩=some (.int .i64 e.leaf.n)
variable {es:List Ix}
theorem yHh.below(h:yHh w b off es)(hb:Below B w w')(hlt:b<B):yHh w' b off es:=by
 intro i e he;have:=h i e he;refine⟨?_,?_,?_,?_,?_,?_,?_,?_,?_,?_,?_⟩;all_goals rw[hb.cell (by exact hlt)]
 .exact this.1
 .exact this.2.1
 .exact this.2.2.1
 .exact this.2.2.2.1
 .exact this.2.2.2.2.1
 .exact this.2.2.2.2.2.1
 .exact this.2.2.2.2.2.2.1
 .exact this.2.2.2.2.2.2.2.1
 .exact this.2.2.2.2.2.2.2.2.1
 .exact this.2.2.2.2.2.2.2.2.2.1
 .exact this.2.2.2.2.2.2.2.2.2.2
theorem yHh.chg{S:Nat->Prop}(h:yHh w b off es)(hb:Chg S w w')(hlt:b<w.heap.size)(hn:¬S b):yHh w' b off es:=by
 intro i e he;have:=h i e he;refine⟨?_,?_,?_,?_,?_,?_,?_,?_,?_,?_,?_⟩;all_goals rw[hb.cell (by exact hlt) (by exact hn)]
 .exact this.1
 .exact this.2.1
 .exact this.2.2.1
 .exact this.2.2.2.1
 .exact this.2.2.2.2.1
 .exact this.2.2.2.2.2.1
 .exact this.2.2.2.2.2.2.1
 .exact this.2.2.2.2.2.2.2.1
 .exact this.2.2.2.2.2.2.2.2.1
 .exact this.2.2.2.2.2.2.2.2.2.1
 .exact this.2.2.2.2.2.2.2.2.2.2
def OwnX(w:World)(base g cap:Nat)(es:List Ix):Prop:=w.ownsRow base 210 11 (.slice (some ⟨g,0,none⟩) es.length cap) es.length (yCu es)
theorem OwnX.at(h:OwnX w base g cap es):yHh w g 0 es:=by
 intro i e he;have hi:i<es.length:=(List.getElem?_eq_some_iff.1 he).1;have c:=λj (hj:j<11)=>(World.ownsRow.cellAt h (i*11+j) (by omega)).trans (yLl es i e he j hj);refine⟨?_,?_,?_,?_,?_,?_,?_,?_,?_,?_,?_⟩
 .simpa using c 0 (by omega)
 .simpa using c 1 (by omega)
 .simpa using c 2 (by omega)
 .simpa using c 3 (by omega)
 .simpa using c 4 (by omega)
 .simpa using c 5 (by omega)
 .simpa using c 6 (by omega)
 .simpa using c 7 (by omega)
 .simpa using c 8 (by omega)
 .simpa using c 9 (by omega)
 .simpa using c 10 (by omega)
theorem OwnX.lt(h:OwnX w base g cap es):base<=g/\g<w.heap.size:=World.ownsRow.lt h g rfl
theorem OwnX.caps{R:List Ix}(h:OwnX w base g cp R):R.length<=cp/\cp<=maxLen:=by exact zzQ8
theorem Tryz.infoX:(prog.info? 210).map (λi=>(i.zero,i.size,i.bytes))=some (some (.agg #[.int .i64 0,.int .i64 0,.int .i64 0,.bool false,.int .i64 0,.string ⟨#[]⟩,.bool false,.string ⟨#[]⟩,.int .u64 0,.int .u64 0,.int .i64 0]),11,104):=by kernel_rfl
theorem yW4(w:World)(e:Ent):yAe (w.alloc (Obj.cells #[.string e.row,.string e.fam,.string e.qual,.int .u64 e.ts,.int .i64 e.kind,.string e.val] 64)) w.heap.size 0 [e]:=by exact yS5
def putE(x:Ent):Ent:={x with kind:=0}
theorem yPh(e:Ent)(w:World):
  Calls prog 131 #[.agg #[.string e.row,.string e.fam,.string e.qual,.int .u64 e.ts,.string e.val]] w λr w'=>r=.returned (putE e).v/\Below w.heap.size w w':=by
 go_enter func131,ntmps131;go_wp2;refine bodyPost_ret (v:=(putE e).v) (by simp[results,results131,go_sem,putE]) rfl ⟨rfl,?_⟩;exact(qB).alloc (by simp) _
theorem yC3(e:Ent)(w:World):
  Calls prog 128 #[.agg #[.string e.row,.string e.fam,.string e.qual,.int .u64 e.ts,.string e.val]] w λr w'=>r=.returned (putE e).v/\Below w.heap.size w w':=by
 go_enter func128,ntmps128;go_wp2;refine bodyPost_ret (v:=(putE e).v) (by simp[results,results128,go_sem,putE]) rfl ⟨rfl,?_⟩;exact(qB).alloc (by simp) _
theorem yI8{ops:Array Oper}{o:Oper}{a:Act}{K:Act->World->Prop}{Q:Exit->Act->World->Prop}{E:Prop}(w:World)(hgd:o.guard=none)(s x:Operand)
  (ho:o.op=.call {callee:=.builtin .append,args:=#[s,x],argTypes:=#[58,58]})
  (base g cp n blk:Nat) (fs:List Ent) (e:Ent) (hn:n=fs.length) (hs:a.eval s=.slice (some ⟨g,0,none⟩) n cp) (hx:a.eval x=.slice (some ⟨blk,0,none⟩) 1 1) (hO:OwnE w base g cp fs)
  (hc:yAe w blk 0 [e]) (hlen:fs.length<=2^30) (hbase:base<=w.heap.size)
  (h:∀g' cp' w',OwnE w' base g' cp' (fs++ [e])->w.grownBy w' (some g)->(g=g'\/g'=w.heap.size)->K (a.put o.dst (.slice (some ⟨g',0,none⟩) (n+1) cp')) w'):if Region.wanted o (yielded ops a.tmps)=true then Oper.wp prog o a w K Q else E:=by
 subst hn;obtain⟨i,hi,a3,a0,y⟩:=info_parts Tryz.infoEnt;obtain⟨c0,c1,c2,c3,c4,c5⟩:=hc 0 e rfl;refine step_append_lies w hgd s x 58 ho base 64 i _ 6 80 underlying58 hi a3 a0 y rfl (by decide) (.slice (some ⟨g,0,none⟩) fs.length cp) fs.length (yBa fs) hs hO ⟨blk,0,none⟩ 1 1 (yBa [e]) hx rfl ?_ ?_ (by decide) ?_ ?_ hbase w.heap.size rfl ?_
 .exact xBa
 .intro u hu;simp[yBa]at hu;rcases hu with rfl|rfl|rfl|rfl|rfl|rfl<;>rfl
 .unfold maxLen;omega
 .omega
 .intro g' cp' w' a5 a4 hat a6;refine h g' cp' w' ?_ a4 ?_
  .unfold OwnE;rw[length_append,yDv];exact a5
  .exact yXv
def yB2(L:List Ent)(m:Nat):List Ent:=(L.take m).map putE
variable {L:List Ent} {m:Nat}
theorem yJk{x:Ent}(h:L[m]?=some x):yB2 L (m+1)=yB2 L m++ [putE x]:=by unfold yB2;rw[take_add_one,h];simp
theorem yKx(h:m<=L.length):(yB2 L m).length=m:=by simp[yB2];omega
theorem yKy(h:L.length<=m):yB2 L m=L.map putE:=by unfold yB2;rw[take_of_length_le h]
structure PInv(w:World)(ov:Nat)(L:List Ent)(m g5 cp5:Nat)(wr:World):Prop where
 hdr:wr.cell? ⟨ov,0,none⟩=some (.slice (some ⟨g5,0,none⟩) m cp5)
 free:wr.frozen? ⟨ov,0,none⟩=false
 lt:ov<wr.heap.size
 own:w.heap.size<ov
 row:OwnE wr w.heap.size g5 cp5 (yB2 L m)
 ne:¬g5=ov
 new:w.heap.size<g5
 res:wr.cell? ⟨w.heap.size,0,none⟩=some (.slice none 0 0)
 rfree:wr.frozen? ⟨w.heap.size,0,none⟩=false
 below:Below w.heap.size w wr
theorem PInv.step{ov:Nat}{g5 cp5:Nat}{wr:World}(h:PInv w ov L m g5 cp5 wr)(hb:Below wr.heap.size wr w'):PInv w ov L m g5 cp5 w' where
 hdr:=by rw[hb.cell (p:=⟨ov,0,none⟩) h.lt];exact h.hdr
 free:=by rw[hb.frozen (p:=⟨ov,0,none⟩) h.lt];exact h.free
 lt:=by have:=hb.size;have:=h.lt;omega
 own:=h.own
 row:=h.row.below hb h.row.lt.2
 ne:=h.ne
 new:=h.new
 res:=by rw[hb.cell (p:=⟨w.heap.size,0,none⟩) (by have:=h.own;have:=h.lt;show w.heap.size<wr.heap.size;omega)];exact h.res
 rfree:=by rw[hb.frozen (p:=⟨w.heap.size,0,none⟩) (by have:=h.own;have:=h.lt;show w.heap.size<wr.heap.size;omega)];exact h.rfree
 below:=h.below.trans (hb.mono h.below.size)
theorem PInv.push{ov:Nat}{g5 cp5:Nat}{wA w7:World}(h:PInv w ov L m g5 cp5 wA){x:Ent}(hx:L[m]?=some x){g7 cp7:Nat}(hO:OwnE w7 w.heap.size g7 cp7 (yB2 L m++ [putE x]))(hgr:wA.grownBy w7 (some g5))(hgg:g5=g7\/g7=wA.heap.size):
  PInv w ov L (m+1) g7 cp7 (w7.setCell ⟨ov,0,none⟩ (.slice (some ⟨g7,0,none⟩) (m+1) cp7))/\w7.cell? ⟨ov,0,none⟩=some (.slice (some ⟨g5,0,none⟩) m cp5)/\w7.frozen? ⟨ov,0,none⟩=false:=by
 have y:Chg (λk=>k=g5) wA w7:=Chg.of_grown hgr (λk hk=>by cases hk;rfl);have a0:Chg (λk=>k=ov) w7 (w7.setCell ⟨ov,0,none⟩ (.slice (some ⟨g7,0,none⟩) (m+1) cp7)):=Chg.of_set _ _ _ _ rfl;have s7:=y.size;have s8:=a0.size;have hl:=h.lt;have ho:=h.own;have hn:=h.new;have c7:w7.cell? ⟨ov,0,none⟩=some (.slice (some ⟨g5,0,none⟩) m cp5):=by rw[y.cell (p:=⟨ov,0,none⟩) hl (λq=>h.ne q.symm)];exact h.hdr
 have f7:w7.frozen? ⟨ov,0,none⟩=false:=by rw[y.frozen (p:=⟨ov,0,none⟩) hl (λq=>h.ne q.symm)];exact h.free
 have a3:¬g7=ov:=by
  rcases hgg with q|q
  .rw[<-q];exact h.ne
  .omega
 refine⟨?_,c7,f7⟩
 exact {
  hdr:=World.cell?_setCell_same _ _ _ c7
  free:=by rw[World.frozen?_setCell];exact f7
  lt:=by omega
  own:=ho
  row:=by
   rw[yJk hx]
   exact World.ownsRow.kept hO (yAk w7 ov 0 _) (.inr (λq=>a3 (Option.some.inj q)))
  ne:=a3
  new:=by
   rcases hgg with q|q
   .rw[<-q];exact hn
   .omega
  res:=by
   rw[a0.cell (p:=⟨w.heap.size,0,none⟩) (by show w.heap.size<w7.heap.size;omega) (by show¬w.heap.size=ov;omega),y.cell (p:=⟨w.heap.size,0,none⟩) (by show w.heap.size<wA.heap.size;omega) (by show¬w.heap.size=g5;omega)]
   exact h.res
  rfree:=by
   rw[a0.frozen (p:=⟨w.heap.size,0,none⟩) (by show w.heap.size<w7.heap.size;omega) (by show¬w.heap.size=ov;omega),y.frozen (p:=⟨w.heap.size,0,none⟩) (by show w.heap.size<wA.heap.size;omega) (by show¬w.heap.size=g5;omega)]
   exact h.rfree
  below:=Chg.below (Chg.below h.below y h.below.size (λk q=>by omega)) a0 (by omega) (λk q=>by omega)}
theorem yNq(g cap:Nat)(L:List Ent)(base:Nat)(w:World)(hC:OwnC w base g cap L)(hn:L.length<=1048576):
  Calls prog 72 #[.slice (some ⟨g,0,none⟩) L.length cap] w λr w'=>
   ∃g' cp,r=.returned (.agg #[.slice (some ⟨g',0,none⟩) L.length cp])/\OwnE w' w.heap.size g' cp (L.map putE)/\Below w.heap.size w w':=by
 have HC:Hid (OwnC w base g cap L):=hC;have ad:=hC.lt.2;clear hC;obtain⟨Wa,a3⟩:=qE (w.alloc (Obj.cells #[.slice none 0 0] 60):World);have ag:Below w.heap.size w Wa:=by rw[a3];exact qB
 have aa:Wa.heap.size=w.heap.size+1:=by rw[a3];simp
 obtain⟨Wb,a4⟩:=qE (Wa.alloc (Obj.cells #[] 64):World);have af:Below Wa.heap.size Wa Wb:=by rw[a4];exact qB
 have a7:Wb.heap.size=w.heap.size+1+1:=by rw[a4];simp[aa]
 obtain⟨Wc,a0⟩:=qE (Wb.alloc (Obj.cells #[.slice (some ⟨w.heap.size+1,0,none⟩) 0 0] 60):World);have a8:Below Wb.heap.size Wb Wc:=by rw[a0];exact qB
 have au:Wc.heap.size=w.heap.size+1+1+1:=by rw[a0];simp[a7]
 have HP:Hid (PInv w (w.heap.size+1+1) L 0 (w.heap.size+1) 0 Wc):=by
  have k1:Below Wa.heap.size Wa Wc:=af.trans (a8.mono (by omega))
  exact {
   hdr:=by rw[a0,<-a7];simp
   free:=by
    rw[a0,<-a7]
    exact World.ownsRow.frozenAt (World.ownsRow_lit (base:=0) (e:=60) (size:=1) Wb #[.slice (some ⟨w.heap.size+1,0,none⟩) 0 0] 1 (zero_le _) (by decide) rfl) 0
   lt:=by omega
   own:=by omega
   row:=by
    have h0:OwnE Wb w.heap.size (w.heap.size+1) 0 []:=by
     rw[a4,<-aa]
     exact World.ownsRow_made Wa #[] 0 (by omega) (zero_le _) (by simp)
    exact h0.below a8 (by omega)
   ne:=by omega
   new:=by omega
   res:=by rw[k1.cell (p:=⟨w.heap.size,0,none⟩) (by show w.heap.size<Wa.heap.size;omega),a3];simp
   rfree:=by
    rw[k1.frozen (p:=⟨w.heap.size,0,none⟩) (by show w.heap.size<Wa.heap.size;omega),a3]
    exact World.ownsRow.frozenAt (World.ownsRow_lit (base:=0) (e:=60) (size:=1) w #[.slice none 0 0] 1 (zero_le _) (by decide) rfl) 0
   below:=ag.trans (k1.mono (by omega))}
 go_enter func72,ntmps72;go_wp2_with fail;rw[<-a3,<-a4,<-a0];clear a3 a4 a0 ag af a8;generalize w.heap.size+1+1=ov at*;generalize w.heap.size+1=g0 at*;go_loopw[4] (λi wr=>∃(m g5 cp5:Nat),m<=L.length/\i=.int .i64 m/\PInv w ov L m g5 cp5 wr) (λi _=>L.length-(intOf i).toNat);case atStart=>exact⟨0,_,_,zero_le _,rfl,HP.out⟩
 case round=>
  obtain⟨m,g5,cp5,hm,rfl,hI⟩:=hrel;have HI:Hid (PInv w ov L m g5 cp5 wr):=hI;have a6:=hI.below;have aj:=a6.size;have h0:=hI.hdr;have ax:=hI.free;have am:=hI.row.lt.2;have al:=hI.lt;clear hI HP;by_cases hlt:m<L.length
  .obtain⟨x,hx⟩:∃x,L[m]?=some x:=⟨_,getElem?_eq_getElem hlt⟩;obtain⟨c0,c1,c2,c3,c4⟩:=(HC.below a6 ad).at m x hx;simp only[Nat.zero_add,Nat.zero_mul]at c0 c1 c2 c3 c4;have HX:Hid (L[m]?=some x/\yBd wr g 0 L):=⟨hx,(HC.below a6 ad).at⟩;have ai:Hid (m=(yB2 L m).length):=(yKx hm).symm;have ak:(yB2 L m).length<=2^30:=by rw[<-ai.out];omega
   clear hx;have zm:(m:Int)<(L.length:Int):=by omega
   have aq:g≠ov:=by have:=HI.own;omega
   have aw:g<wr.heap.size:=by omega
   go_upto_region 5 with fail
   go_region_law ((first
        |(go_simp;go_at_call 131;refine(yPh x _).mono ?_;rintro e' w6 ⟨rfl,an⟩;have y:Below wr.heap.size wr w6:=((Below.refl wr.heap.size wr).drew).trans an;have m6:=(HI.step y).hdr;have ar:∀o,(w6.alloc o).cell? ⟨ov,0,none⟩=some (.slice (some ⟨g5,0,none⟩) m cp5):=λo=>by {rw[((Below.refl w6.heap.size w6).alloc (Nat.le_refl _) o).cell (p:=⟨ov,0,none⟩) (Nat.lt_of_lt_of_le al y.size)];exact m6})
        |(refine yI8 _ (by rfl) _ _ (by rfl) w.heap.size g5 cp5 m w6.heap.size (yB2 L m) (putE x) ai.out (by rfl) (by rfl) ?hO ?hc ak ?hb ?_
          case hO=>exact(HI.step y).row.below (qB) (Nat.lt_of_lt_of_le am y.size)
          case hc=>exact yW4 w6 (putE x)
          case hb=>exact Nat.le_trans aj (Nat.le_trans y.size (by simp))
          intro g7 a9 w7 ah ac ae
          have a5:=((HI.step y).step ((Below.refl w6.heap.size w6).alloc (Nat.le_refl _) (Obj.cells #[.string (putE x).row,.string (putE x).fam,.string (putE x).qual,.int .u64 (putE x).ts,.int .i64 (putE x).kind,.string (putE x).val] 64))).push HX.1 ah ac (by simpa using ae)
          have ao:Hid (PInv w ov L (m+1) g7 a9 (w7.setCell ⟨ov,0,none⟩ (.slice (some ⟨g7,0,none⟩) (m+1) a9))):=a5.1
          have m7:=a5.2.1
          have f7:=a5.2.2
          clear a5 ah ac ae)))
   all_goals go_wp2_with fail
   all_goals go_roundw
   all_goals first
    |exact⟨m+1,g7,a9,by omega,by go_num,ao.out⟩
    |(go_light;simp[intOf];omega)
  .have ab:m=L.length:=by omega
   have HF:Hid (OwnE wr w.heap.size g5 cp5 (L.map putE)):=by have:=HI.row;rw[yKy (by omega)]at this;exact this
   have r0:=HI.res;have rf:=HI.rfree;have HM:Hid (m=L.length):=ab;have zm:¬(m:Int)<(L.length:Int):=by omega
   have av:=HI.new;clear ab;go_wp2_with fail;refine bodyPost_ret (v:=.agg #[.slice (some ⟨g5,0,none⟩) m cp5]) (by simp[results,results72,go_sem,World.cell?_setCell_same _ _ _ r0]) rfl ⟨g5,cp5,by rw[HM.out],?_,?_⟩
   .exact World.ownsRow.kept HF.out (yAk wr w.heap.size 0 _) (.inr (λq=>by have h2:g5=w.heap.size:=Option.some.inj q;omega))
   .exact a6.setCell (Nat.le_refl _) _
def RowX(w:World)(base:Nat)(v:Value)(X:List Ix):Prop:=w.ownsRow base 210 11 v X.length (yCu X)
variable {X:List Ix}
theorem RowX.cases{v:Value}(h:RowX w base v X):(v=.slice none 0 0/\X= [])\/∃g cp,v=.slice (some ⟨g,0,none⟩) X.length cp/\OwnX w base g cp X:=by
 rcases h.2 with⟨h0,h1⟩|⟨g',y,cur,hv,rest⟩
 .refine .inl ⟨h0,?_⟩;have:X.length=0:=h1;exact length_eq_zero_iff.1 this
 .subst hv;exact .inr ⟨g',y,rfl,h⟩
theorem RowX.chg{S:Nat->Prop}{v:Value}(h:RowX w base v X)(hc:Chg S w w')(hn:∀k,v.ownBlock=some k->¬S k):RowX w' base v X:=yAg h hc hn
theorem RowX.below{v:Value}(h:RowX w base v X)(hb:Below w.heap.size w w'):RowX w' base v X:=h.chg (S:=λ_=>False) (Chg.of_below hb) (λ_ _ q=>q)
theorem yWe(w:World)(base:Nat):RowX w base (.slice none 0 0) []:=⟨rfl,.inl ⟨rfl,rfl⟩⟩
theorem RowX.blk{v:Value}(h:RowX w base v X){k:Nat}(hk:v.ownBlock=some k):base<=k/\k<w.heap.size:=by exact yZs
theorem RowX.slice{v:Value}(h:RowX w base v X):∃a c,v=.slice a X.length c:=by
 rcases h.cases with⟨rfl,rfl⟩|⟨g,cp,rfl,hO⟩
 .exact⟨_,_,rfl⟩
 .exact⟨_,_,rfl⟩
theorem yYn{e:Ent}(h:e.ok):(putE e).ok:=⟨h.row,h.fam,h.qual,h.val,h.ts,(show(Lit.int .i64 0).wf=true by decide)⟩
theorem yK3(a b:Ent):yA3 (putE a) (putE b)=(yAc (putE a) (putE b)== -1):=by unfold yA3 putE;simp
theorem yK(a b:Ent)(w:World):
  Calls prog 144 #[a.c,b.c] w λe w'=>e=.returned (.int .i64 (yAc (putE a) (putE b)))/\Below w.heap.size w w':=by
 unfold Ent.c;obtain⟨W0,y⟩:=qE ((w.alloc (Obj.cells #[.string a.row,.string a.fam,.string a.qual,.int .u64 a.ts,.string a.val] 73)).alloc (Obj.cells #[.string b.row,.string b.fam,.string b.qual,.int .u64 b.ts,.string b.val] 73):World);have a5:Below w.heap.size w W0:=by rw[y];exact(qB).alloc (by simp) _
 have a6:W0.heap.size=w.heap.size+2:=by rw[y];simp
 have HA:Hid (yBd W0 w.heap.size 0 [a]/\yBd W0 (w.heap.size+1) 0 [b]):=by rw[y];refine⟨(yH5 w a).below (qB) (by simp),?_⟩;have:=yH5 (w.alloc (Obj.cells #[.string a.row,.string a.fam,.string a.qual,.int .u64 a.ts,.string a.val] 73)) b;simpa using this
 have q:∀n:Out W0,yBd n.u w.heap.size 0 [a]/\yBd n.u (w.heap.size+1) 0 [b]:=λn=>⟨HA.1.below n.out (by omega),HA.2.below n.out (by omega)⟩;have a0:∀n:Out W0,n.u.cell? ⟨w.heap.size,0,none⟩=some (.string a.row):=λn=>by simpa using ((q n).1 0 a rfl).1
 have a1:∀n:Out W0,n.u.cell? ⟨w.heap.size,1,none⟩=some (.string a.fam):=λn=>by simpa using ((q n).1 0 a rfl).2.1
 have a2:∀n:Out W0,n.u.cell? ⟨w.heap.size,2,none⟩=some (.string a.qual):=λn=>by simpa using ((q n).1 0 a rfl).2.2.1
 have a3:∀n:Out W0,n.u.cell? ⟨w.heap.size,3,none⟩=some (.int .u64 a.ts):=λn=>by simpa using ((q n).1 0 a rfl).2.2.2.1
 have a4:∀n:Out W0,n.u.cell? ⟨w.heap.size,4,none⟩=some (.string a.val):=λn=>by simpa using ((q n).1 0 a rfl).2.2.2.2
 have b0:∀n:Out W0,n.u.cell? ⟨w.heap.size+1,0,none⟩=some (.string b.row):=λn=>by simpa using ((q n).2 0 b rfl).1
 have b1:∀n:Out W0,n.u.cell? ⟨w.heap.size+1,1,none⟩=some (.string b.fam):=λn=>by simpa using ((q n).2 0 b rfl).2.1
 have b2:∀n:Out W0,n.u.cell? ⟨w.heap.size+1,2,none⟩=some (.string b.qual):=λn=>by simpa using ((q n).2 0 b rfl).2.2.1
 have b3:∀n:Out W0,n.u.cell? ⟨w.heap.size+1,3,none⟩=some (.int .u64 b.ts):=λn=>by simpa using ((q n).2 0 b rfl).2.2.2.1
 have b4:∀n:Out W0,n.u.cell? ⟨w.heap.size+1,4,none⟩=some (.string b.val):=λn=>by simpa using ((q n).2 0 b rfl).2.2.2.2
 clear q HA;go_enter func144,ntmps144;go_upto_region 1 with fail;rw[<-y];clear y a6;have a7:Nonempty (Out W0):=⟨⟨W0,Below.refl _ _⟩⟩;refine yAf (by kernel_rfl) (by kernel_rfl) ?_;repeat (go_big_quiet_step ((first|(go_at_call 128;exact Calls.out_of (yC3 _ _))|(go_at_call 167;exact Calls.out_of (yC4 (putE a) (putE b) _)))))
 refine wpQuiet_nil ?_;rintro w1 ⟨⟨wx,hb1⟩,rfl⟩;go_wp2_with fail;go_ret;exact⟨rfl,a5.trans (hb1.mono a5.size)⟩
def yVt(P:Prop)(w:World)(e:Ending)(w':World):Prop:=∃r:Bool,e=.returned (.bool r)/\(r=true↔P)/\Below w.heap.size w w'
theorem yPo(es:List Ent):yCt es 1:=λi p e hi=>by omega
theorem yOm{i:Nat}{p c:Ent}(h:yAp (L.map putE))(hp:L[i]?=some p)(hc:L[i+1]?=some c):yAc (putE p) (putE c)= -1:=by have h1:=h.2 i (putE p) (putE c) (by rw[getElem?_map,hp];rfl) (by rw[getElem?_map,hc];rfl);rw[yK3]at h1;simpa using h1
theorem yKr(g cap:Nat)(L:List Ent)(base:Nat)(w:World)(hC:OwnC w base g cap L)(hok:∀e∈L,e.ok)(hn:L.length<=1048576):
  Calls prog 85 #[.slice (some ⟨g,0,none⟩) L.length cap] w (yVt (yAp (L.map putE)) w):=by
 have HC:Hid (OwnC w base g cap L/\∀e∈L,e.ok):=⟨hC,hok⟩;have ah:=hC.lt.2;clear hC hok;by_cases hbig:10000<L.length
 .have H:Hid (¬yAp (L.map putE)):=λh=>by have:=h.1.1;rw[length_map]at this;omega
  have z:(10000:Int)<(L.length:Int):=by omega
  go_enter func85,ntmps85;go_wp2_with fail;go_ret;exact⟨_,rfl,iffF H.out,Below.refl _ _⟩
 have z:¬(10000:Int)<(L.length:Int):=by omega
 go_enter func85,ntmps85;go_wp2_with fail;go_loopw[10] (λiv wr=>∃(k:Nat),k<=L.length/\iv=.int .i64 (k:Int)/\(∀x∈L.take k,(putE x).vld=true)/\yCt (L.map putE) k/\Below w.heap.size w wr) (λiv _=>L.length-(intOf iv).toNat);case atStart=>exact⟨0,zero_le _,rfl,by simp,λi p e hi=>by omega,Below.refl _ _⟩
 case round=>
  obtain⟨k,hk,rfl,hv,hP,hb⟩:=hrel;have HV:Hid ((∀x∈L.take k,(putE x).vld=true)/\yCt (L.map putE) k):=⟨hv,hP⟩;have hs:=hb.size;clear hv hP;by_cases hlt:k<L.length
  .obtain⟨c,hc⟩:∃c,L[k]?=some c:=⟨_,getElem?_eq_getElem hlt⟩;have y:Hid (L[k]?=some c/\c.ok):=⟨hc,HC.2 c (mem_of_getElem? hc)⟩;have HR:Hid (yBd wr g 0 L):=HC.1.at.below hb ah;obtain⟨c0,c1,c2,c3,c4⟩:=HR.out k c hc;simp only[Nat.zero_add]at c0 c1 c2 c3 c4;have zk:(k:Int)<(L.length:Int):=by omega
   obtain⟨W1,a5⟩:=qE (wr.alloc (Obj.cells #[.string c.row,.string c.fam,.string c.qual,.int .u64 c.ts,.string c.val] 73):World);have HW1:Hid (yBd W1 wr.heap.size 0 [c]/\yBd W1 g 0 L/\Below w.heap.size w W1/\W1.heap.size=wr.heap.size+1):=by
    have aa:Below wr.heap.size wr W1:=by rw[a5];exact qB
    refine⟨by rw[a5];exact yH5 wr c,HR.below aa (by omega),hb.trans (aa.mono hs),by rw[a5];simp⟩
   clear hc;go_upto_region 6 with fail;rw[<-a5];clear a5 c0 c1 c2 c3 c4 HR;have af:=HW1.2.2.2;have q:∀n:Out W1,yBd n.u wr.heap.size 0 [c]:=λn=>HW1.1.below n.out (by omega);have a0:∀n:Out W1,n.u.cell? ⟨wr.heap.size,0,none⟩=some (.string c.row):=λn=>by simpa using ((q n) 0 c rfl).1
   have a1:∀n:Out W1,n.u.cell? ⟨wr.heap.size,1,none⟩=some (.string c.fam):=λn=>by simpa using ((q n) 0 c rfl).2.1
   have a2:∀n:Out W1,n.u.cell? ⟨wr.heap.size,2,none⟩=some (.string c.qual):=λn=>by simpa using ((q n) 0 c rfl).2.2.1
   have a3:∀n:Out W1,n.u.cell? ⟨wr.heap.size,3,none⟩=some (.int .u64 c.ts):=λn=>by simpa using ((q n) 0 c rfl).2.2.2.1
   have a4:∀n:Out W1,n.u.cell? ⟨wr.heap.size,4,none⟩=some (.string c.val):=λn=>by simpa using ((q n) 0 c rfl).2.2.2.2
   clear q af;have ak:Nonempty (Out W1):=⟨⟨W1,Below.refl _ _⟩⟩;obtain⟨bv,a8⟩:=qE ((putE c).vld);have a6:Hid (∀n:Out W1,Calls prog 143 #[(putE c).v] n.u λe w'=>e=.returned (.bool bv)/\Below n.u.heap.size n.u w'):=λn=>by rw[a8];exact yF8 _ _ _ _ _ _ n.u y.2.row y.2.fam y.2.qual y.2.val
   have ae:Hid ((putE c).vld=bv):=a8.symm;clear a8;cases bv
   .have HF:Hid (¬yAp (L.map putE)):=λh=>by have:=h.1.2 (putE c) (List.mem_map.2 ⟨c,mem_of_getElem? y.1,rfl⟩);rw[ae.out]at this;cases this
    refine yAf (by kernel_rfl) (by kernel_rfl) ?_;repeat (go_big_quiet_step ((first|(go_at_call 128;exact Calls.out_of (yC3 _ _))|(go_at_call 143;exact Calls.out_of (a6.out _)))))
    exact xA
   have ab:Hid (∀x∈L.take (k+1),(putE x).vld=true):=by
    intro x hx;rw[take_add_one,y.1]at hx;rcases List.mem_append.1 hx with hx|hx
    .exact HV.1 x hx
    .simp at hx;subst hx;exact ae.out
   by_cases hk0:k=0
   .subst hk0;refine yAf (by kernel_rfl) (by kernel_rfl) ?_;repeat (go_big_quiet_step ((first|(go_at_call 128;exact Calls.out_of (yC3 _ _))|(go_at_call 143;exact Calls.out_of (a6.out _)))))
    refine wpQuiet_nil ?_;rintro w2 ⟨⟨wx,hb2⟩,rfl⟩;go_wp2_with fail;go_roundw;case rel=>exact⟨1,by omega,by go_num,ab.out,yPo _,HW1.2.2.1.trans (hb2.mono HW1.2.2.1.size)⟩
    case measure=>simp[intOf];omega
   obtain⟨m,rfl⟩:∃m,k=m+1:=⟨k-1,by omega⟩;obtain⟨p,hp⟩:∃p,L[m]?=some p:=⟨_,getElem?_eq_getElem (by omega)⟩;have ac:Hid (L[m]?=some p):=hp;have q:∀n:Out W1,yBd n.u g 0 L:=λn=>HW1.2.1.below n.out (by have:=HW1.2.2.2;omega);have p0:∀n:Out W1,n.u.cell? ⟨g,m*5,none⟩=some (.string p.row):=λn=>by simpa using ((q n) m p hp).1
   have p1:∀n:Out W1,n.u.cell? ⟨g,m*5+1,none⟩=some (.string p.fam):=λn=>by simpa using ((q n) m p hp).2.1
   have p2:∀n:Out W1,n.u.cell? ⟨g,m*5+2,none⟩=some (.string p.qual):=λn=>by simpa using ((q n) m p hp).2.2.1
   have p3:∀n:Out W1,n.u.cell? ⟨g,m*5+3,none⟩=some (.int .u64 p.ts):=λn=>by simpa using ((q n) m p hp).2.2.2.1
   have p4:∀n:Out W1,n.u.cell? ⟨g,m*5+4,none⟩=some (.string p.val):=λn=>by simpa using ((q n) m p hp).2.2.2.2
   clear q hp;obtain⟨kc,a7⟩:=qE (yAc (putE p) (putE c));have ad:Hid (∀n:Out W1,Calls prog 144 #[p.c,c.c] n.u λe w'=>e=.returned (.int .i64 kc)/\Below n.u.heap.size n.u w'):=λn=>by rw[a7];exact yK p c n.u
   have a9:Hid (kc=yAc (putE p) (putE c)):=a7;have zm:(m:Int)<(L.length:Int):=by omega
   have aj:(0:Int)<(m:Int)+1:=by omega
   clear a7;by_cases hneg:0<=kc
   .have HF:Hid (¬yAp (L.map putE)):=λh=>by have:=yOm h ac.out y.1;rw[<-a9.out]at this;omega
    refine yAf (by kernel_rfl) (by kernel_rfl) ?_;repeat (go_big_quiet_step ((first|(go_at_call 128;exact Calls.out_of (yC3 _ _))|(go_at_call 143;exact Calls.out_of (a6.out _))|(go_at_call 144;exact Calls.out_of (ad.out _)))))
    exact xA
   .have ai:Hid (yCt (L.map putE) (m+1+1)):=by
     refine yEg HV.2 (p:=putE p) (e:=putE c) (by rw[getElem?_map,ac.out];rfl) (by rw[getElem?_map,y.1];rfl) ?_;rw[yK3];rcases yBe (putE p) (putE c)with h|h|h
     .rw[h];rfl
     .rw[a9.out,h]at hneg;omega
     .rw[a9.out,h]at hneg;omega
    refine yAf (by kernel_rfl) (by kernel_rfl) ?_;repeat (go_big_quiet_step ((first|(go_at_call 128;exact Calls.out_of (yC3 _ _))|(go_at_call 143;exact Calls.out_of (a6.out _))|(go_at_call 144;exact Calls.out_of (ad.out _)))))
    refine wpQuiet_nil ?_;rintro w2 ⟨⟨wx,hb2⟩,rfl⟩;go_wp2_with fail;go_roundw;case rel=>exact⟨m+1+1,by omega,by go_num,ab.out,ai.out,HW1.2.2.1.trans (hb2.mono HW1.2.2.1.size)⟩
    case measure=>simp[intOf];omega
  .have ag:k=L.length:=by omega
   have HF:Hid (yAp (L.map putE)):=by refine⟨⟨by rw[length_map];omega,λe he=>?_⟩,yGc HV.2 (by rw[length_map];omega)⟩;obtain⟨x,hx,rfl⟩:=List.mem_map.1 he;exact HV.1 x (by rw[take_of_length_le (by omega)];exact hx)
   have zk:¬(k:Int)<(L.length:Int):=by omega
   clear ag;go_wp2_with fail;go_ret;exact⟨_,rfl,iffT HF.out,hb⟩
theorem yKm(g cap:Nat)(L:List Ent)(base:Nat)(w:World)(hC:OwnC w base g cap L)(hok:∀e∈L,e.ok)(hn:L.length<=1048576):
  Calls prog 115 #[.slice (some ⟨g,0,none⟩) L.length cap] w (yVt (yAp (L.map putE)) w):=by
 have HC:Hid (OwnC w base g cap L/\∀e∈L,e.ok):=⟨hC,hok⟩;clear hC hok;go_enter func115,ntmps115;go_wp2_with fail;refine(yNq g cap L base w HC.1 hn).mono ?_;rintro e w1 ⟨g1,y,rfl,a0,hb1⟩;have HO:Hid (OwnE w1 w.heap.size g1 y (L.map putE)/\y<=maxLen/\L.length<=y):=by
  refine⟨a0,?_⟩;rcases a0.2 with⟨h0,_⟩|⟨g',a4,cur,hv,_,_,hn,a3,_,_⟩
  .cases h0
  .simp only[Value.slice.injEq,Option.some.injEq,Addr.mk.injEq,and_true,true_and]at hv;obtain⟨rfl,rfl⟩:=hv;rw[length_map]at hn;exact⟨a3,hn⟩
 have hl:L.length=(L.map putE).length:=(length_map ..).symm;have HV:Hid (Calls prog 54 #[.agg #[.slice (some ⟨g1,0,none⟩) L.length y]] w1 λe w'=>∃r:Bool,e=.returned (.bool r)/\(r=true↔yAp (L.map putE))/\Below w1.heap.size w1 w'):=by show Calls _ _ _ _ _;have:=yCx g1 0 y (L.map putE) w1 HO.1.at (λe he=>by obtain⟨x,hx,rfl⟩:=List.mem_map.1 he;exact yYn (HC.2 x hx)) HO.1.lt.2 (by rw[length_map];exact HO.2.2) HO.2.1;rw[length_map]at this;exact this
 clear a0 hl;go_wp2_with fail;refine HV.mono ?_;rintro e w2 ⟨r,rfl,hr,hb2⟩;have HR:Hid (r=true↔yAp (L.map putE)):=hr;clear hr;go_wp2_with fail;go_ret;exact⟨r,rfl,HR.out,hb1.trans (hb2.mono hb1.size)⟩
theorem xBt:(35:TypeId)<prog.types.size:=of_decide_eq_true (by kernel_rfl)
theorem xBh:(match prog.underlying 35 with|some (.array _ _)|some (.struct _)=>true|_=>false)=true:=by kernel_rfl
theorem xB2:Keyed prog 35:=Keyed.of_law (deep_law_laid yYy (m:=2) (by omega) xBt (by kernel_rfl) xBh)
def ndL(n:Nd):Lit:=.string (keyBytes [.int .i64 n.kind,.string n.s.data.toList,.bool n.hi,.string n.t.data.toList,.int .u64 n.lo,.int .u64 n.up,.int .i64 n.n])
theorem xB3{n:Nd}(h:n.ok):keyOf prog 35 n.v=some (ndL n):=by
 have h1:prog.keyType 35=true:=by kernel_rfl
 have h2:prog.cellsOf 35=7:=by kernel_rfl
 have h3:prog.cellsOf 2=1:=by kernel_rfl
 have h4:prog.cellsOf 33=1:=by kernel_rfl
 have h5:prog.cellsOf 4=1:=by kernel_rfl
 have h6:prog.cellsOf 9=1:=by kernel_rfl
 obtain⟨m,hm⟩:∃m,prog.types.size=m+1:=⟨prog.types.size-1,by have h:(35:Nat)<prog.types.size:=xBt;omega⟩;unfold keyOf;rw[underlying35];simp only[h1,Value.formed,underlying35,h2,hm];simp[Program.keyLits,underlying35,underlying9,underlying2,underlying33,underlying4,h2,h3,h4,h5,h6,Value.cells,h.s,h.t,h.kind,h.lo,h.up,h.n,ndL]
theorem xBg(w:World):(zeroValue 294).run prog w=.ok (.pointer none) w:=by kernel_rfl
def letB(x:Nat):ByteArray:=if x%2=1 then⟨[UInt8.ofNat (97+x%3),UInt8.ofNat (97+x/3%3)].toArray⟩else⟨[UInt8.ofNat (97+x%3)].toArray⟩
theorem yN3(x:Nat):(letB x).size<=2:=by unfold letB;split<;>simp[ByteArray.size]
theorem yH9(x:Int)(w:World)(h0:0<=x)(h1:x<256):
  Calls prog 29 #[.int .i64 x] w λe w'=>e=.returned (.string (letB x.toNat))/\Below w.heap.size w w':=by
 obtain⟨x,rfl⟩:=Int.eq_ofNat_of_zero_le h0;obtain⟨y,hy,a5⟩:∃y:UInt8,(97:Int)+(x:Int)%3=(y.toNat:Int)/\y=UInt8.ofNat (97+x%3):=⟨UInt8.ofNat (97+x%3),by rw[UInt8.toNat_ofNat'];omega,rfl⟩;have HY:Hid (y=UInt8.ofNat (97+x%3)):=a5;clear a5;obtain⟨z,hz,a4⟩:∃z:UInt8,(97:Int)+(x:Int)/3%3=(z.toNat:Int)/\z=UInt8.ofNat (97+x/3%3):=⟨UInt8.ofNat (97+x/3%3),by rw[UInt8.toNat_ofNat'];omega,rfl⟩;have aa:Hid (z=UInt8.ofNat (97+x/3%3)):=a4;clear a4;obtain⟨W1,a0⟩:=qE (w.alloc (Obj.cells #[.int .u8 (y.toNat:Int)] 5):World);have hb1:Below w.heap.size w W1:=by rw[a0];exact qB
 have HO:Hid (OwnB W1 w.heap.size w.heap.size 1 [y]):=by rw[a0];exact World.ownsRow_lit w #[.int .u8 (y.toNat:Int)] 1 (Nat.le_refl _) (by decide) rfl
 have ae:=u8lt y;have ac:=u8lt z;go_enter func29,ntmps29;go_upto_region 2 with fail;rw[<-a0];have s1:=hb1.size;have a3:W1.heap.size=w.heap.size+1:=by rw[a0];simp
 clear a0;by_cases hq:(x:Int)%2=1
 .have a8:((x:Int)%2==1)=true:=by rw[beq_iff_eq];exact hq
  have HZ:Hid ((97:Int)+(x:Int)/3%3=(z.toNat:Int)):=hz;have ad:Hid (W1.heap.size=w.heap.size+1):=a3;clear a3;go_wp2_with (at_builtin;refine yCg _ rfl _ _ rfl w.heap.size w.heap.size 1 _ _ [y] z rfl _ rfl rfl ?hO ?hc ?hl ?hb ?_);case hO=>exact yAg (S:=λ_=>False) HO.out (Chg.of_below (qB)) (λk _ q=>q)
  case hc=>simp
  case hl=>simp
  case hb=>simp;omega
  intro g' cp' w' a7 a6;have a9:(convert 22 9 (.slice (some ⟨g',0,none⟩) 2 cp')).run prog w'=.ok (.string ⟨([y]++ [z]).toArray⟩) w':=yIx a7;have ab:Hid (Below w.heap.size w w'):=(hb1.trans (((qB):Below W1.heap.size W1 _).mono s1)).grown a6 (by simp;omega) (λk hk=>by cases hk;omega);clear a7 a6;go_wp2_with fail;go_ret;exact⟨by unfold letB;rw[if_pos (by simp;omega),HY.out,aa.out];rfl,ab.out⟩
 .have a8:((x:Int)%2==1)=false:=by rw[beq_eq_false_iff_ne];exact hq
  have a9:(convert 22 9 (.slice (some ⟨w.heap.size,0,none⟩) 1 1)).run prog W1=.ok (.string ⟨[y].toArray⟩) W1:=yIx HO.out;clear a3;go_wp2_with fail;go_ret;exact⟨by unfold letB;rw[if_neg (by simp;omega),HY.out];rfl,hb1⟩
end Go.Proofs.YtehfleefkdojpaaGreatDoor
