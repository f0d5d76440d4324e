import Derived.Test.YtehfleefkdojpaaGreatDoorSkAA
namespace Go.Proofs.YtehfleefkdojpaaGreatDoor
open Go.ChangeShapes Go.WideShapes Go.ChangeAt Go.RowKit Go.Deep _root_.List _root_.Nat Go.Proofs.Tryz
set_option linter.unusedVariables false
set_option linter.unusedSimpArgs false
set_option maxRecDepth 100000
set_option maxHeartbeats 16000000
structure Chg(S:Nat->Prop)(w w':World):Prop where
 os:w'.os=w.os
 tape:w'.tape=w.tape
 output:w'.output=w.output
 size:w.heap.size<=w'.heap.size
 block:∀k,k<w.heap.size->¬S k->w'.heap[k]?=w.heap[k]?
theorem Chg.refl(S:Nat->Prop)(w:World):Chg S w w:=⟨rfl,rfl,rfl,Nat.le_refl _,λ_ _ _=>rfl⟩
variable {S:Nat->Prop}
theorem Chg.trans{a b c:World}(h:Chg S a b)(k:Chg S b c):Chg S a c:=
 ⟨k.os.trans h.os,k.tape.trans h.tape,k.output.trans h.output,Nat.le_trans h.size k.size,λi hi hn=>(k.block i (Nat.lt_of_lt_of_le hi h.size) hn).trans (h.block i hi hn)⟩
variable {T:Nat->Prop} {w w':World}
theorem Chg.mono(h:Chg S w w')(hs:∀k,S k->T k):Chg T w w':=⟨h.os,h.tape,h.output,h.size,λk hk hn=>h.block k hk (λq=>hn (hs k q))⟩
theorem Chg.of_below(h:Below w.heap.size w w'):Chg S w w':=⟨h.os,h.tape,h.output,h.size,λk hk _=>h.block k hk⟩
theorem Chg.of_grown{row:Option Nat}(h:w.grownBy w' row)(hs:∀k,row=some k->S k):Chg S w w':=
 ⟨h.os,h.tape,h.output,h.size,λk hk hn=>h.block k hk (λq=>hn (hs k q.symm))⟩
theorem Chg.of_set(w:World)(g o:Nat)(u:Value)(hs:S g):Chg S w (w.setCell ⟨g,o,none⟩ u):=Chg.of_grown (yAk w g o u) (λk hk=>by cases hk;exact hs)
variable {B:Nat}
theorem Chg.below{a:World}(h:Below B a w)(k:Chg S w w')(hB:B<=w.heap.size)(hs:∀k,S k->B<=k):Below B a w':=
 h.trans ⟨k.os,k.tape,k.output,k.size,λi hi=>k.block i (by omega) (λq=>by have:=hs i q;omega)⟩
theorem Chg.cell(h:Chg S w w'){p:Addr}(hp:p.block<w.heap.size)(hn:¬S p.block):w'.cell? p=w.cell? p:=World.cell?_of_block (w:=w) (h.block p.block hp hn)
theorem Chg.frozen(h:Chg S w w'){p:Addr}(hp:p.block<w.heap.size)(hn:¬S p.block):w'.frozen? p=w.frozen? p:=World.frozen?_of_block (w:=w) (h.block p.block hp hn)
theorem yAe.chg{b off:Nat}{es:List Ent}(h:yAe w b off es)(hb:Chg S w w')(hlt:b<w.heap.size)(hn:¬S b):yAe w' b off es:=by
 intro i e he;have:=h i e he;refine⟨?_,?_,?_,?_,?_,?_⟩;all_goals rw[hb.cell (by exact hlt) (by exact hn)]
 .exact this.1
 .exact this.2.1
 .exact this.2.2.1
 .exact this.2.2.2.1
 .exact this.2.2.2.2.1
 .exact this.2.2.2.2.2
variable {base e size n:Nat} {xs:List Value}
theorem yAb{v:Value}{base' e' size':Nat}{v':Value}{n':Nat}{xs':List Value}(h:w.ownsRow base e size v n xs)(h':w.ownsRow base' e' size' v' n' xs')(hne:e≠e'):∀k,v.ownBlock=some k->v'.ownBlock≠some k:=by
 intro k hk y;rcases h.2 with⟨rfl,_⟩|⟨g1,a5,cur,rfl,_,hc,_⟩
 .simp[Value.ownBlock]at hk
 .rcases h'.2 with⟨rfl,_⟩|⟨g2,a4,a3,rfl,_,a0,_⟩
  .simp[Value.ownBlock]at y
  .simp[Value.ownBlock]at hk y;subst hk y;rw[hc]at a0;simp at a0;exact hne a0.2
theorem yAg{v:Value}(h:w.ownsRow base e size v n xs)(hb:Chg S w w')(hn:∀k,v.ownBlock=some k->¬S k):w'.ownsRow base e size v n xs:=by
 refine⟨h.1,?_⟩;rcases h.2 with hz|⟨g,cap,cur,rfl,h1,hg,rest⟩
 .exact .inl hz
 .refine .inr ⟨g,cap,cur,rfl,h1,?_,rest⟩;have y:g<w.heap.size:=by
   rcases Nat.lt_or_ge g w.heap.size with q|q
   .exact q
   .rw[Array.getElem?_eq_none q]at hg;cases hg
  rw[hb.block g y (hn g rfl)];exact hg
def OwnU(w:World)(base:Nat)(u:Value)(R:List Ent):Prop:=(u=.slice none 0 0/\R= [])\/∃g cp,u=.slice (some ⟨g,0,none⟩) R.length cp/\OwnE w base g cp R
variable {g:Nat}
theorem OwnE.caps{cp:Nat}{R:List Ent}(h:OwnE w base g cp R):R.length<=cp/\cp<=maxLen:=by exact zzQ8
structure Rw where
 u:Value
 es:List Ent
 k:Option Nat
def OwnK(w:World)(base:Nat)(r:Rw):Prop:=
 (r.k=none/\r.es= []/\∃a c,r.u=.slice a 0 c)\/∃g cp,r.k=some g/\r.u=.slice (some ⟨g,0,none⟩) r.es.length cp/\OwnE w base g cp r.es
variable {r:Rw}
theorem OwnK.kept{row:Option Nat}(h:OwnK w base r)(hg:w.grownBy w' row)(hne:∀g,r.k=some g->row≠some g):OwnK w' base r:=by
 rcases h with h|⟨g,cp,hk,hu,hO⟩
 .exact .inl h
 .exact .inr ⟨g,cp,hk,hu,World.ownsRow.kept hO hg (.inr (λq=>hne g hk q.symm))⟩
theorem OwnK.below(h:OwnK w base r)(hb:Below w.heap.size w w'):OwnK w' base r:=by
 rcases h with h|⟨g,cp,hk,hu,hO⟩
 .exact .inl h
 .exact .inr ⟨g,cp,hk,hu,hO.below hb hO.lt.2⟩
theorem OwnK.key(h:OwnK w base r)(hg:r.k=some g):base<=g/\g<w.heap.size:=by
 rcases h with⟨h,_⟩|⟨g',cp,hk,hu,hO⟩
 .rw[h]at hg;cases hg
 .rw[hk]at hg;cases hg;exact hO.lt
theorem OwnK.chg(h:OwnK w base r)(hb:Chg S w w')(hne:∀g,r.k=some g->¬S g):OwnK w' base r:=by
 rcases h with h|⟨g,cp,hk,hu,hO⟩
 .exact .inl h
 .exact .inr ⟨g,cp,hk,hu,yAg hO hb (λk q=>by have:g=k:=Option.some.inj q;subst this;exact hne g hk)⟩
def yAn(w:World)(base:Nat)(v:Value)(rs:List Rw):Prop:=
 ∃g cp,v=.slice (some ⟨g,0,none⟩) rs.length cp/\w.ownsRow base 60 1 (.slice (some ⟨g,0,none⟩) rs.length cp) rs.length (rs.map Rw.u)
theorem yAn.caps{s:Nat}{cp:Nat}(h:w.ownsRow base e s (.slice (some ⟨g,0,none⟩) n cp) n xs):n<=cp/\cp<=maxLen:=by exact zzQ8
theorem yAn.kept{v:Value}{rs:List Rw}{row:Option Nat}(h:yAn w base v rs)(hg:w.grownBy w' row)(hne:∀g,v.ownBlock=some g->row≠some g):yAn w' base v rs:=by obtain⟨g,cp,hv,hO⟩:=h;exact⟨g,cp,hv,World.ownsRow.kept hO hg (.inr (λq=>hne g (by rw[hv];rfl) q.symm))⟩
theorem yAn.below{v:Value}{rs:List Rw}(h:yAn w base v rs)(hb:Below w.heap.size w w'):yAn w' base v rs:=by obtain⟨g,cp,hv,hO⟩:=h;exact⟨g,cp,hv,World.ownsRow.kept hO (yB3 hb none) (.inr (λq=>by cases q))⟩
def totW:List Rw->Nat
 | []=>0
 |r::rs=>r.es.length+totW rs
def yKf(rs:List Rw):Prop:=rs.Pairwise λa b=>∀k,a.k=some k->b.k≠some k
def xCi(rs:List Rw)(k:Nat):Prop:=∃r∈rs,r.k=some k
section
section
variable {P:Program} {ops:Array Oper} {Q:Exit->Act->World->Prop} {md:Region.Mode} {S:World->Prop} {L:Nat}
def AnyT(P:Program)(md:Region.Mode)(ops:Array Oper)(Q:Exit->Act->World->Prop)(S:World->Prop)(L:Nat):Nat->Array Bool->Act->World->Prop
 |0,listed,a,w=>Region.ready md ops listed= []/\Q .normal a w
 |fuel+1,listed,a,w=>
  (Region.ready md ops listed= []->Q .normal a w)/\
  ∀i∈Region.ready md ops listed,wpOp P ops Q i (λa' w'=>(i=L\/S w')/\AnyT P md ops Q S L fuel (listed.setIfInBounds i true) a' w') a w
theorem yRf:∀(fuel:Nat)(listed:Array Bool)(a:Act)(w:World),AnyT P md ops Q S L fuel listed a w->wpAny P md ops Q fuel listed a w
 |0,_,_,_,h=>h
 |fuel+1,_,_,_,h=>⟨h.1,λi hi=>wpOp_mono (λa' w' h'=>yRf fuel _ a' w' h'.2) (h.2 i hi)⟩
def yFk(md:Region.Mode)(ops:Array Oper)(L i:Nat):Bool:=((ops[L]?).map (λo=>o.after.any λe=>Region.binds md e && e.on==i)).getD false
variable {i:Nat} {oi:Oper}
theorem yS0{v:Value}(hi:ops[i]?=some oi)(hsel:∀(j:Nat)(o:Oper) cs b,ops[j]?=some o->o.op≠ .select cs b)
  (hQ:∀c a w,Q (.panic c) (a.put oi.dst v) w->Q (.panic c) a w) (hL:yFk md ops L i=true) (hne:i≠L):
  ∀(fuel:Nat)(listed:Array Bool)(a:Act)(w:World),
   (∀j oj,ops[j]?=some oj->j≠i->listed.getD j true=false->(∀e∈oj.after,Region.binds md e=true->e.on≠i)->oi.apart ops oj=true)->
   i∈Region.ready md ops listed->YieldsIf P ops S oi v a->S w->
   AnyT P md ops Q S L fuel (listed.setIfInBounds i true) (a.put oi.dst v) w->AnyT P md ops Q S L (fuel+1) listed a w:=by
 intro fuel;induction fuel with
 |zero=>
  intro listed a w _ hr hy hS H;refine⟨λh=>(by rw[h]at hr;cases hr),λj hj=>?_⟩;by_cases hji:j=i
  .subst hji;exact hy.wpOp hi hS ⟨.inr hS,H⟩
  .have:=ready_mono hj hji;rw[H.1]at this;cases this
 |succ fuel ih=>
  intro listed a w a4 hr hy hS H;refine⟨λh=>(by rw[h]at hr;cases hr),λj hj=>?_⟩;by_cases hji:j=i
  .subst hji;exact hy.wpOp hi hS ⟨.inr hS,H⟩
  .have h1:=H.2 j (ready_mono hj hji);obtain⟨a3,oj,y,a7⟩:=mem_ready.1 hj;have a0:∀e∈oj.after,Region.binds md e=true->e.on≠i:=λe he hb heq=>by
    have h1:=a7 e he hb;have h0:=(mem_ready.1 hr).1;rw[heq]at h1;rcases Nat.lt_or_ge i listed.size with h'|h'
    .simp[h']at h0 h1;rw[h0]at h1;cases h1
    .simp[Array.getElem?_eq_none h']at h1
   have a5:j≠L:=λq=>by subst q;unfold yFk at hL;rw[y]at hL;simp only[Option.map_some,Option.getD_some,Array.any_eq_true]at hL;obtain⟨k,hk,hb⟩:=hL;rw[Bool.and_eq_true,beq_iff_eq]at hb;exact a0 _ (Array.getElem_mem hk) hb.1 hb.2
   have h2:=wpOp_putIf y (a4 j oj y hji a3 a0) (λcs b=>hsel i oi cs b hi) (λcs b=>hsel j oj cs b y) hQ hy h1
   have a6:∀k ok,ops[k]?=some ok->k≠i->(listed.setIfInBounds j true).getD k true=false->
     (∀e∈ok.after,Region.binds md e=true->e.on≠i)->oi.apart ops ok=true:=λk ok hk hki hun hno=>by
    refine a4 k ok hk hki ?_ hno;by_cases hjk:j=k
    .subst hjk;exact a3
    .rw[getD_set_ne true hjk]at hun;exact hun
   refine wpOp_mono (λa' w' h3=>⟨h3.2.1,ih (listed.setIfInBounds j true) a' w' a6 (ready_mono hr (Ne.symm hji)) h3.1 (h3.2.1.resolve_left a5) ?_⟩) h2;rw[Array.setIfInBounds_comm _ _ hji];exact h3.2.2
variable {fuel:Nat} {a:Act}
theorem yBh{v:Value}{listed:Array Bool}(hi:ops[i]?=some oi)
  (hs:Region.noSelect ops=true) (hf:Region.free md ops listed i=true) (hr:(Region.ready md ops listed).contains i=true) (hL:yFk md ops L i=true) (hne:i≠L)
  (hQ:∀c a w,Q (.panic c) (a.put oi.dst v) w->Q (.panic c) a w) (hy:YieldsIf P ops S oi v a) (hS:S w)
  (h:AnyT P md ops Q S L fuel (listed.setIfInBounds i true) (a.put oi.dst v) w):AnyT P md ops Q S L (fuel+1) listed a w:=
 yS0 hi (Region.noSelect_spec hs) hQ hL hne fuel listed a w (Region.free_spec hi hf) (by simpa using hr) hy hS h
variable {o:Oper}
theorem yXa{listed:Array Bool}(hr:Region.ready md ops listed= [i])(ho:ops[i]?=some o)
  (h:∀K':Act->World->Prop,Shut (∀a w,(i=L\/S w)->AnyT P md ops Q S L fuel (listed.setIfInBounds i true) a w->K' a w)->if Region.wanted o (yielded ops a.tmps)=true then Oper.wp P o a w K' Q else K' (a.put o.dst undef) w):
  AnyT P md ops Q S L (fuel+1) listed a w:=by
 exact xAf
variable {j:Nat}
theorem yD{q:Oper}{listed:Array Bool}(hr:Region.ready md ops listed= [i,j])(ho:ops[i]?=some o)(hq:ops[j]?=some q)
  (h:∀K':Act->World->Prop,Shut (∀a w,(i=L\/S w)->AnyT P md ops Q S L fuel (listed.setIfInBounds i true) a w->K' a w)->if Region.wanted o (yielded ops a.tmps)=true then Oper.wp P o a w K' Q else K' (a.put o.dst undef) w)
  (h':∀K':Act->World->Prop,Shut (∀a w,(j=L\/S w)->AnyT P md ops Q S L fuel (listed.setIfInBounds j true) a w->K' a w)->if Region.wanted q (yielded ops a.tmps)=true then Oper.wp P q a w K' Q else K' (a.put q.dst undef) w):
  AnyT P md ops Q S L (fuel+1) listed a w:=by
 refine⟨λh0=>(by rw[hr]at h0;cases h0),λk hk=>?_⟩;rw[hr]at hk;simp at hk;rcases hk with rfl|rfl
 .exact wpOp_step ho (λK' hK=>h K' (λa w hS hW=>hK a w ⟨hS,hW⟩))
 .exact wpOp_step hq (λK' hK=>h' K' (λa w hS hW=>hK a w ⟨hS,hW⟩))
theorem yVr{listed:Array Bool}(hr:Region.ready md ops listed= [])(h:Q .normal a w):AnyT P md ops Q S L fuel listed a w:=by exact yXw
variable {id:Nat}
theorem yAq(L:Nat)(S:World->Prop)(hm:P.follows .mixedOrders=true)
  (h:AnyT P .any ops Q S L ops.size (Array.replicate ops.size false) a w.drew):(Code.region id ops true).wp P Q a w:=
 wp_region_any hm (yRf _ _ _ _ h)
end
end
structure Tx where
 lo:ByteArray
 v:Value
 rs:List Rw
def Tx.pr(t:Tx):Pr:=(t.lo,t.v)
def yBx(w:World)(base:Nat)(v:Value)(ts:List Tx):Prop:=
 (ts= []/\∃a c,v=.slice a 0 c)\/∃g cp,v=.slice (some ⟨g,0,none⟩) ts.length cp/\OwnP w base g cp (ts.map Tx.pr)
structure yBs(w:World)(base:Nat)(v:Value)(ts:List Tx):Prop where
 row:yBx w base v ts
 runs:∀t∈ts,yAn w base t.v t.rs
 ents:∀t∈ts,∀r∈t.rs,OwnK w base r
theorem yBx.kept{v:Value}{ts:List Tx}{row:Option Nat}(h:yBx w base v ts)(hg:w.grownBy w' row)(hne:∀g,v.ownBlock=some g->ts≠ []->row≠some g):yBx w' base v ts:=by
 rcases h with h|⟨g,cp,hv,hO⟩
 .exact .inl h
 .by_cases hr:ts= []
  .subst hr;exact .inl ⟨rfl,_,_,hv⟩
  .exact .inr ⟨g,cp,hv,World.ownsRow.kept hO hg (.inr (λq=>hne g (by rw[hv];rfl) hr q.symm))⟩
theorem yBx.below{v:Value}{ts:List Tx}(h:yBx w base v ts)(hb:Below w.heap.size w w'):yBx w' base v ts:=h.kept (yB3 hb none) (λ_ _ _ q=>by cases q)
theorem yBs.below{v:Value}{ts:List Tx}(h:yBs w base v ts)(hb:Below w.heap.size w w'):yBs w' base v ts:=
 ⟨h.row.below hb,λt ht=>(h.runs t ht).below hb,λt ht r hr=>(h.ents t ht r hr).below hb⟩
def xC2(v:Value)(ts:List Tx)(k:Nat):Prop:=(ts≠ []/\v.ownBlock=some k)\/∃t∈ts,xCi t.rs k
variable {k:Nat}
theorem yBs.key{v:Value}{ts:List Tx}(h:yBs w base v ts)(hk:xC2 v ts k):base<=k/\k<w.heap.size:=by
 rcases hk with⟨y,hv⟩|⟨t,ht,r,hr,hk⟩
 .rcases h.row with⟨h1,_⟩|⟨g,cp,rfl,hO⟩
  .exact absurd h1 y
  .have:g=k:=Option.some.inj hv;subst this;exact hO.lt
 .exact(h.ents t ht r hr).key hk
def yHi(ts:List Tx):Prop:=yKf (ts.flatMap Tx.rs)
def wx(t:Tx):Nat:=1+totW t.rs*6
theorem yBx.chg{v:Value}{ts:List Tx}(h:yBx w base v ts)(hc:Chg S w w')(hne:∀g,v.ownBlock=some g->ts≠ []->¬S g):yBx w' base v ts:=by
 rcases h with h|⟨g,cp,hv,hO⟩
 .exact .inl h
 .by_cases hr:ts= []
  .subst hr;exact .inl ⟨rfl,_,_,hv⟩
  .exact .inr ⟨g,cp,hv,yAg hO hc (λk q=>by have:g=k:=Option.some.inj q;subst this;exact hne g (by rw[hv];rfl) hr)⟩
theorem yAn.chg{v:Value}{ts:List Rw}(h:yAn w base v ts)(hc:Chg S w w')(hne:∀g,v.ownBlock=some g->¬S g):yAn w' base v ts:=by obtain⟨g,cp,hv,hO⟩:=h;exact⟨g,cp,hv,yAg hO hc (λk q=>by have:g=k:=Option.some.inj q;subst this;exact hne g (by rw[hv];rfl))⟩
theorem yBs.chg{v:Value}{ts:List Tx}(h:yBs w base v ts)(hc:Chg S w w')(hne:∀k,base<=k->k<w.heap.size->¬S k):yBs w' base v ts:=by
 refine⟨h.row.chg hc (λg hg hts=>?_),λt ht=>(h.runs t ht).chg hc (λg hg=>?_),λt ht r hr=>(h.ents t ht r hr).chg hc (λg hg=>hne g ((h.ents t ht r hr).key hg).1 ((h.ents t ht r hr).key hg).2)⟩
 .have:=h.key (.inl ⟨hts,hg⟩);exact hne g this.1 this.2
 .exact xAc
def yA(w:World)(base t sz g:Nat)(vs:List Value):Prop:=w.ownsRow base t sz (.slice (some ⟨g,0,none⟩) 1 1) 1 vs
variable {t sz:Nat} {vs:List Value}
theorem yA.len(h:yA w base t sz g vs):vs.length=sz:=by have:=h.1;omega
theorem yA.lt(h:yA w base t sz g vs):base<=g/\g<w.heap.size:=World.ownsRow.lt h g rfl
theorem yA.chg(h:yA w base t sz g vs)(hc:Chg S w w')(hn:¬S g):yA w' base t sz g vs:=yAg h hc (λk q=>by simp[Value.ownBlock]at q;subst q;exact hn)
theorem yA.below(h:yA w base t sz g vs)(hb:Below w.heap.size w w'):yA w' base t sz g vs:=h.chg (Chg.of_below hb) (S:=λ_=>False) (λq=>q)
theorem yA.cell(h:yA w base t sz g vs){j:Nat}{v:Value}(hv:vs[j]?=some v):w.cell? ⟨g,j,none⟩=some v:=by have hj:=(List.getElem?_eq_some_iff.1 hv).1;rw[World.ownsRow.cellAt h j (by have:=h.len;omega),hv]
theorem yA.frozen(h:yA w base t sz g vs)(j:Nat):w.frozen? ⟨g,j,none⟩=false:=World.ownsRow.frozenAt h j
theorem yA.set(h:yA w base t sz g vs)(j:Nat)(u:Value):yA (w.setCell ⟨g,j,none⟩ u) base t sz g (vs.set j u):=(World.ownsRow.stored h j u).1
theorem yA.beside(h:yA w base t sz g vs)(hk:¬g=k)(j:Nat)(u:Value):yA (w.setCell ⟨k,j,none⟩ u) base t sz g vs:=h.chg (Chg.of_set w k j u (S:=λq=>q=k) rfl) hk
theorem yAa(w:World)(cs:Array Value)(hb:base<=w.heap.size)(hs:cs.size=sz):yA (w.alloc (.cells cs t)) base t sz w.heap.size cs.toList:=
 World.ownsRow_lit w cs 1 hb (by decide) (by omega)
def set3(w:World)(g:Nat)(a b c:Value):World:=((w.setCell ⟨g,0,none⟩ a).setCell ⟨g,1,none⟩ b).setCell ⟨g,2,none⟩ c
theorem yA.set3(h:yA w base t 3 g vs)(a b c:Value):yA (set3 w g a b c) base t 3 g [a,b,c]:=by
 have h1:=((h.set 0 a).set 1 b).set 2 c;have hl:=h.len;match vs,hl with
 | [x,y,z],_=>exact h1
theorem yBb{a:World}(h:Below B a w)(hk:B<=k)(j:Nat)(u:Value):Below B a (w.setCell ⟨k,j,none⟩ u):=h.setCell (p:=⟨k,j,none⟩) hk u
theorem yH6{a:World}(h:Below B a w)(hk:B<=k)(x y z:Value):Below B a (set3 w k x y z):=yBb (yBb (yBb h hk 0 x) hk 1 y) hk 2 z
section
section
variable {P:Program} {ops:Array Oper} {Q:Exit->Act->World->Prop} {md:Region.Mode} {S:World->Prop} {L:Nat} {i:Nat} {oi:Oper}
theorem yQe{v:Value}(hi:ops[i]?=some oi)(hsel:∀(j:Nat)(o:Oper) cs b,ops[j]?=some o->o.op≠ .select cs b)
  (hQ:∀c a w,Q (.panic c) (a.put oi.dst v) w->Q (.panic c) a w) (hL:ops[L]?=none):
  ∀(fuel:Nat)(listed:Array Bool)(a:Act)(w:World),
   (∀j oj,ops[j]?=some oj->j≠i->listed.getD j true=false->(∀e∈oj.after,Region.binds md e=true->e.on≠i)->oi.apart ops oj=true)->
   i∈Region.ready md ops listed->YieldsIf P ops S oi v a->S w->
   AnyT P md ops Q S L fuel (listed.setIfInBounds i true) (a.put oi.dst v) w->AnyT P md ops Q S L (fuel+1) listed a w:=by
 intro fuel;induction fuel with
 |zero=>
  intro listed a w _ hr hy hS H;refine⟨λh=>(by rw[h]at hr;cases hr),λj hj=>?_⟩;by_cases hji:j=i
  .subst hji;exact hy.wpOp hi hS ⟨.inr hS,H⟩
  .have:=ready_mono hj hji;rw[H.1]at this;cases this
 |succ fuel ih=>
  intro listed a w a3 hr hy hS H;refine⟨λh=>(by rw[h]at hr;cases hr),λj hj=>?_⟩;by_cases hji:j=i
  .subst hji;exact hy.wpOp hi hS ⟨.inr hS,H⟩
  .have h1:=H.2 j (ready_mono hj hji);obtain⟨a0,oj,y,a7⟩:=mem_ready.1 hj;have a4:∀e∈oj.after,Region.binds md e=true->e.on≠i:=λe he hb heq=>by
    have h1:=a7 e he hb;have h0:=(mem_ready.1 hr).1;rw[heq]at h1;rcases Nat.lt_or_ge i listed.size with h'|h'
    .simp[h']at h0 h1;rw[h0]at h1;cases h1
    .simp[Array.getElem?_eq_none h']at h1
   have a5:j≠L:=λq=>by rw[q,hL]at y;cases y
   have h2:=wpOp_putIf y (a3 j oj y hji a0 a4) (λcs b=>hsel i oi cs b hi) (λcs b=>hsel j oj cs b y) hQ hy h1
   have a6:∀k ok,ops[k]?=some ok->k≠i->(listed.setIfInBounds j true).getD k true=false->
     (∀e∈ok.after,Region.binds md e=true->e.on≠i)->oi.apart ops ok=true:=λk ok hk hki hun hno=>by
    refine a3 k ok hk hki ?_ hno;by_cases hjk:j=k
    .subst hjk;exact a0
    .rw[getD_set_ne true hjk]at hun;exact hun
   refine wpOp_mono (λa' w' h3=>⟨h3.2.1,ih (listed.setIfInBounds j true) a' w' a6 (ready_mono hr (Ne.symm hji)) h3.1 (h3.2.1.resolve_left a5) ?_⟩) h2;rw[Array.setIfInBounds_comm _ _ hji];exact h3.2.2
variable {fuel:Nat} {a:Act}
theorem yH7{v:Value}{listed:Array Bool}(hi:ops[i]?=some oi)
  (hs:Region.noSelect ops=true) (hf:Region.free md ops listed i=true) (hr:(Region.ready md ops listed).contains i=true) (hL:ops[L]?=none)
  (hQ:∀c a w,Q (.panic c) (a.put oi.dst v) w->Q (.panic c) a w) (hy:YieldsIf P ops S oi v a) (hS:S w)
  (h:AnyT P md ops Q S L fuel (listed.setIfInBounds i true) (a.put oi.dst v) w):AnyT P md ops Q S L (fuel+1) listed a w:=
 yQe hi (Region.noSelect_spec hs) hQ hL fuel listed a w (Region.free_spec hi hf) (by simpa using hr) hy hS h
end
end
variable {v0 v1:Value} {r:List Value}
theorem yA.c2(h:yA w base t sz g (v0::v1::r)):w.cell? ⟨g,0,none⟩=some v0/\w.cell? ⟨g,1,none⟩=some v1:=
 ⟨h.cell (j:=0) rfl,h.cell (j:=1) rfl⟩
variable {v2:Value}
theorem yA.c3(h:yA w base t sz g (v0::v1::v2::r)):w.cell? ⟨g,0,none⟩=some v0/\w.cell? ⟨g,1,none⟩=some v1/\w.cell? ⟨g,2,none⟩=some v2:=
 ⟨h.cell (j:=0) rfl,h.cell (j:=1) rfl,h.cell (j:=2) rfl⟩
variable {v3:Value}
theorem yA.c4(h:yA w base t sz g (v0::v1::v2::v3::r)):w.cell? ⟨g,0,none⟩=some v0/\w.cell? ⟨g,1,none⟩=some v1/\w.cell? ⟨g,2,none⟩=some v2/\w.cell? ⟨g,3,none⟩=some v3:=
 ⟨h.cell (j:=0) rfl,h.cell (j:=1) rfl,h.cell (j:=2) rfl,h.cell (j:=3) rfl⟩
variable {v4:Value}
theorem yA.c5(h:yA w base t sz g (v0::v1::v2::v3::v4::r)):w.cell? ⟨g,0,none⟩=some v0/\w.cell? ⟨g,1,none⟩=some v1/\w.cell? ⟨g,2,none⟩=some v2/\w.cell? ⟨g,3,none⟩=some v3/\w.cell? ⟨g,4,none⟩=some v4:=
 ⟨h.cell (j:=0) rfl,h.cell (j:=1) rfl,h.cell (j:=2) rfl,h.cell (j:=3) rfl,h.cell (j:=4) rfl⟩
variable {v5:Value}
theorem yA.c6(h:yA w base t sz g (v0::v1::v2::v3::v4::v5::r)):w.cell? ⟨g,0,none⟩=some v0/\w.cell? ⟨g,1,none⟩=some v1/\w.cell? ⟨g,2,none⟩=some v2/\w.cell? ⟨g,3,none⟩=some v3/\w.cell? ⟨g,4,none⟩=some v4/\w.cell? ⟨g,5,none⟩=some v5:=
 ⟨h.cell (j:=0) rfl,h.cell (j:=1) rfl,h.cell (j:=2) rfl,h.cell (j:=3) rfl,h.cell (j:=4) rfl,h.cell (j:=5) rfl⟩
variable {v6:Value}
theorem yA.c7(h:yA w base t sz g (v0::v1::v2::v3::v4::v5::v6::r)):w.cell? ⟨g,0,none⟩=some v0/\w.cell? ⟨g,1,none⟩=some v1/\w.cell? ⟨g,2,none⟩=some v2/\w.cell? ⟨g,3,none⟩=some v3/\w.cell? ⟨g,4,none⟩=some v4/\w.cell? ⟨g,5,none⟩=some v5/\w.cell? ⟨g,6,none⟩=some v6:=
 ⟨h.cell (j:=0) rfl,h.cell (j:=1) rfl,h.cell (j:=2) rfl,h.cell (j:=3) rfl,h.cell (j:=4) rfl,h.cell (j:=5) rfl,h.cell (j:=6) rfl⟩
variable {v7:Value}
theorem yA.c8(h:yA w base t sz g (v0::v1::v2::v3::v4::v5::v6::v7::r)):w.cell? ⟨g,0,none⟩=some v0/\w.cell? ⟨g,1,none⟩=some v1/\w.cell? ⟨g,2,none⟩=some v2/\w.cell? ⟨g,3,none⟩=some v3/\w.cell? ⟨g,4,none⟩=some v4/\w.cell? ⟨g,5,none⟩=some v5/\w.cell? ⟨g,6,none⟩=some v6/\w.cell? ⟨g,7,none⟩=some v7:=
 ⟨h.cell (j:=0) rfl,h.cell (j:=1) rfl,h.cell (j:=2) rfl,h.cell (j:=3) rfl,h.cell (j:=4) rfl,h.cell (j:=5) rfl,h.cell (j:=6) rfl,h.cell (j:=7) rfl⟩
variable {v8:Value}
theorem yA.c9(h:yA w base t sz g (v0::v1::v2::v3::v4::v5::v6::v7::v8::r)):w.cell? ⟨g,0,none⟩=some v0/\w.cell? ⟨g,1,none⟩=some v1/\w.cell? ⟨g,2,none⟩=some v2/\w.cell? ⟨g,3,none⟩=some v3/\w.cell? ⟨g,4,none⟩=some v4/\w.cell? ⟨g,5,none⟩=some v5/\w.cell? ⟨g,6,none⟩=some v6/\w.cell? ⟨g,7,none⟩=some v7/\w.cell? ⟨g,8,none⟩=some v8:=
 ⟨h.cell (j:=0) rfl,h.cell (j:=1) rfl,h.cell (j:=2) rfl,h.cell (j:=3) rfl,h.cell (j:=4) rfl,h.cell (j:=5) rfl,h.cell (j:=6) rfl,h.cell (j:=7) rfl,h.cell (j:=8) rfl⟩
variable {v9:Value}
theorem yA.c10(h:yA w base t sz g (v0::v1::v2::v3::v4::v5::v6::v7::v8::v9::r)):w.cell? ⟨g,0,none⟩=some v0/\w.cell? ⟨g,1,none⟩=some v1/\w.cell? ⟨g,2,none⟩=some v2/\w.cell? ⟨g,3,none⟩=some v3/\w.cell? ⟨g,4,none⟩=some v4/\w.cell? ⟨g,5,none⟩=some v5/\w.cell? ⟨g,6,none⟩=some v6/\w.cell? ⟨g,7,none⟩=some v7/\w.cell? ⟨g,8,none⟩=some v8/\w.cell? ⟨g,9,none⟩=some v9:=
 ⟨h.cell (j:=0) rfl,h.cell (j:=1) rfl,h.cell (j:=2) rfl,h.cell (j:=3) rfl,h.cell (j:=4) rfl,h.cell (j:=5) rfl,h.cell (j:=6) rfl,h.cell (j:=7) rfl,h.cell (j:=8) rfl,h.cell (j:=9) rfl⟩
theorem yA.c11{v10:Value}(h:yA w base t sz g (v0::v1::v2::v3::v4::v5::v6::v7::v8::v9::v10::r)):w.cell? ⟨g,0,none⟩=some v0/\w.cell? ⟨g,1,none⟩=some v1/\w.cell? ⟨g,2,none⟩=some v2/\w.cell? ⟨g,3,none⟩=some v3/\w.cell? ⟨g,4,none⟩=some v4/\w.cell? ⟨g,5,none⟩=some v5/\w.cell? ⟨g,6,none⟩=some v6/\w.cell? ⟨g,7,none⟩=some v7/\w.cell? ⟨g,8,none⟩=some v8/\w.cell? ⟨g,9,none⟩=some v9/\w.cell? ⟨g,10,none⟩=some v10:=
 ⟨h.cell (j:=0) rfl,h.cell (j:=1) rfl,h.cell (j:=2) rfl,h.cell (j:=3) rfl,h.cell (j:=4) rfl,h.cell (j:=5) rfl,h.cell (j:=6) rfl,h.cell (j:=7) rfl,h.cell (j:=8) rfl,h.cell (j:=9) rfl,h.cell (j:=10) rfl⟩
theorem yA.c12{v10 v11:Value}(h:yA w base t sz g (v0::v1::v2::v3::v4::v5::v6::v7::v8::v9::v10::v11::r)):w.cell? ⟨g,0,none⟩=some v0/\w.cell? ⟨g,1,none⟩=some v1/\w.cell? ⟨g,2,none⟩=some v2/\w.cell? ⟨g,3,none⟩=some v3/\w.cell? ⟨g,4,none⟩=some v4/\w.cell? ⟨g,5,none⟩=some v5/\w.cell? ⟨g,6,none⟩=some v6/\w.cell? ⟨g,7,none⟩=some v7/\w.cell? ⟨g,8,none⟩=some v8/\w.cell? ⟨g,9,none⟩=some v9/\w.cell? ⟨g,10,none⟩=some v10/\w.cell? ⟨g,11,none⟩=some v11:=
 ⟨h.cell (j:=0) rfl,h.cell (j:=1) rfl,h.cell (j:=2) rfl,h.cell (j:=3) rfl,h.cell (j:=4) rfl,h.cell (j:=5) rfl,h.cell (j:=6) rfl,h.cell (j:=7) rfl,h.cell (j:=8) rfl,h.cell (j:=9) rfl,h.cell (j:=10) rfl,h.cell (j:=11) rfl⟩
theorem yA.f2(h:yA w base t sz g vs):w.frozen? ⟨g,0,none⟩=false/\w.frozen? ⟨g,1,none⟩=false:=⟨h.frozen 0,h.frozen 1⟩
theorem yA.f3(h:yA w base t sz g vs):w.frozen? ⟨g,0,none⟩=false/\w.frozen? ⟨g,1,none⟩=false/\w.frozen? ⟨g,2,none⟩=false:=⟨h.frozen 0,h.frozen 1,h.frozen 2⟩
theorem yA.f4(h:yA w base t sz g vs):w.frozen? ⟨g,0,none⟩=false/\w.frozen? ⟨g,1,none⟩=false/\w.frozen? ⟨g,2,none⟩=false/\w.frozen? ⟨g,3,none⟩=false:=⟨h.frozen 0,h.frozen 1,h.frozen 2,h.frozen 3⟩
theorem yA.f5(h:yA w base t sz g vs):w.frozen? ⟨g,0,none⟩=false/\w.frozen? ⟨g,1,none⟩=false/\w.frozen? ⟨g,2,none⟩=false/\w.frozen? ⟨g,3,none⟩=false/\w.frozen? ⟨g,4,none⟩=false:=⟨h.frozen 0,h.frozen 1,h.frozen 2,h.frozen 3,h.frozen 4⟩
theorem yA.f6(h:yA w base t sz g vs):w.frozen? ⟨g,0,none⟩=false/\w.frozen? ⟨g,1,none⟩=false/\w.frozen? ⟨g,2,none⟩=false/\w.frozen? ⟨g,3,none⟩=false/\w.frozen? ⟨g,4,none⟩=false/\w.frozen? ⟨g,5,none⟩=false:=⟨h.frozen 0,h.frozen 1,h.frozen 2,h.frozen 3,h.frozen 4,h.frozen 5⟩
theorem yA.f7(h:yA w base t sz g vs):w.frozen? ⟨g,0,none⟩=false/\w.frozen? ⟨g,1,none⟩=false/\w.frozen? ⟨g,2,none⟩=false/\w.frozen? ⟨g,3,none⟩=false/\w.frozen? ⟨g,4,none⟩=false/\w.frozen? ⟨g,5,none⟩=false/\w.frozen? ⟨g,6,none⟩=false:=⟨h.frozen 0,h.frozen 1,h.frozen 2,h.frozen 3,h.frozen 4,h.frozen 5,h.frozen 6⟩
theorem yA.f8(h:yA w base t sz g vs):w.frozen? ⟨g,0,none⟩=false/\w.frozen? ⟨g,1,none⟩=false/\w.frozen? ⟨g,2,none⟩=false/\w.frozen? ⟨g,3,none⟩=false/\w.frozen? ⟨g,4,none⟩=false/\w.frozen? ⟨g,5,none⟩=false/\w.frozen? ⟨g,6,none⟩=false/\w.frozen? ⟨g,7,none⟩=false:=⟨h.frozen 0,h.frozen 1,h.frozen 2,h.frozen 3,h.frozen 4,h.frozen 5,h.frozen 6,h.frozen 7⟩
theorem yA.f9(h:yA w base t sz g vs):w.frozen? ⟨g,0,none⟩=false/\w.frozen? ⟨g,1,none⟩=false/\w.frozen? ⟨g,2,none⟩=false/\w.frozen? ⟨g,3,none⟩=false/\w.frozen? ⟨g,4,none⟩=false/\w.frozen? ⟨g,5,none⟩=false/\w.frozen? ⟨g,6,none⟩=false/\w.frozen? ⟨g,7,none⟩=false/\w.frozen? ⟨g,8,none⟩=false:=⟨h.frozen 0,h.frozen 1,h.frozen 2,h.frozen 3,h.frozen 4,h.frozen 5,h.frozen 6,h.frozen 7,h.frozen 8⟩
section
variable {p:Prop}
theorem jS{q:Prop}(k:q)(h:q->p:=by intro z;(try simp only[qA,getElem_toArray,getElem_cons_zero,getElem_cons_succ]);exact z):p:=h k
theorem jz(h:p:=by intro z;(try simp only[qA,getElem_toArray,getElem_cons_zero,getElem_cons_succ]);exact z):p:=h
theorem jx(h:p:=by exact⟨rfl,by kernel_rfl,by kernel_rfl,by kernel_rfl,(by first|exact Or.inl (by rfl)|exact Or.inr ⟨by kernel_rfl,by decide⟩),λ_ _ _ h=>h⟩):p:=h
theorem jy0(h:p:=by first|exact Or.inr ⟨by rfl,rfl⟩|exact Or.inl ⟨by rfl,by (intro wz hSw;(try dsimp only at hSw);go_simp;(try with_reducible rfl))⟩):p:=h
theorem jy1(h:p:=by first|exact Or.inr ⟨by rfl,rfl⟩|exact Or.inl ⟨by rfl,by (intro wz hSw;go_simp;(try with_reducible rfl))⟩):p:=h
theorem jy2(h:p:=by first|exact Or.inr ⟨by rfl,rfl⟩|exact Or.inl ⟨by rfl,by (intro wz hSw;obtain⟨d0,d1,d2,d3,d4,d5,d6,d7,d8,d9,d10,d11⟩:=hSw;go_simp;(try with_reducible rfl))⟩):p:=h
theorem jy3(h:p:=by first|exact Or.inr ⟨by rfl,rfl⟩|exact Or.inl ⟨by rfl,by (intro wz hSw;obtain⟨d0,d1,d2,d3,d4,d5,d6⟩:=hSw;go_simp;(try with_reducible rfl))⟩):p:=h
def SW(S:World->Prop)(W:World):Prop:=S W
variable {S:World->Prop} {W:World}
theorem SWm(_:SW S W)(W2:World)(h:SW S W2):SW S W2:=h
variable {P:Program} {ops:Array Oper} {Q:Exit->Act->World->Prop} {id:Nat} {a:Act}
theorem wpR(L:Nat)(hS:SW S W)(h:AnyT P .any ops Q S L ops.size (Array.replicate ops.size false) a w.drew)(hm:P.follows .mixedOrders=true:=by kernel_rfl):(Code.region id ops true).wp P Q a w:=yAq L S hm h
section
variable {P:Program} {ops:Array Oper} {Q:Exit->Act->World->Prop} {md:Region.Mode} {S:World->Prop} {L j:Nat} {v:Value} {oi:Oper} {fuel:Nat} {listed:Array Bool} {a:Act} {w:World} {q:Prop}
abbrev VX(ops:Array Oper)(Q:Exit->Act->World->Prop)(md:Region.Mode)(L i:Nat)(v:Value)(oi:Oper)(listed:Array Bool):Prop:=ops[i]?=some oi/\Region.noSelect ops=true/\Region.free md ops listed i=true/\(Region.ready md ops listed).contains i=true/\(ops[L]?=none\/yFk md ops L i=true/\i≠L)/\∀c a w,Q (.panic c) (a.put oi.dst v) w->Q (.panic c) a w
variable {i:Nat}
theorem jT(hx:VX ops Q md L i v oi listed)(hy:YieldsIf P ops S oi v a)(hS:S w)(h:AnyT P md ops Q S L fuel (listed.setIfInBounds i true) (a.put oi.dst v) w):AnyT P md ops Q S L (fuel+1) listed a w:=hx.2.2.2.2.1.elim (λz=>yH7 hx.1 hx.2.1 hx.2.2.1 hx.2.2.2.1 z hx.2.2.2.2.2 hy hS h) (λz=>yBh hx.1 hx.2.1 hx.2.2.1 hx.2.2.2.1 z.1 z.2 hx.2.2.2.2.2 hy hS h)
theorem j0a(i:Nat)(hS:S w)(k:q)(hx:VX ops Q md L i v oi listed:=by exact jx)(hy:YieldsIf P ops S oi v a:=by exact jy0)(h:q->AnyT P md ops Q S L fuel (listed.setIfInBounds i true) (a.put oi.dst v) w:=by exact jz):AnyT P md ops Q S L (fuel+1) listed a w:=jT hx hy hS (h k)
theorem j0b(hS:S w)(k:q)(hx:VX ops Q md L (j+1) v oi (listed.setIfInBounds j true):=by exact jx)(hy:YieldsIf P ops S oi v a:=by exact jy0)(h:q->AnyT P md ops Q S L fuel ((listed.setIfInBounds j true).setIfInBounds (j+1) true) (a.put oi.dst v) w:=by exact jz):AnyT P md ops Q S L (fuel+1) (listed.setIfInBounds j true) a w:=jT hx hy hS (h k)
theorem j1a(i:Nat)(hS:S w)(k:q)(hx:VX ops Q md L i v oi listed:=by exact jx)(hy:YieldsIf P ops S oi v a:=by exact jy1)(h:q->AnyT P md ops Q S L fuel (listed.setIfInBounds i true) (a.put oi.dst v) w:=by exact jz):AnyT P md ops Q S L (fuel+1) listed a w:=jT hx hy hS (h k)
theorem j1b(hS:S w)(k:q)(hx:VX ops Q md L (j+1) v oi (listed.setIfInBounds j true):=by exact jx)(hy:YieldsIf P ops S oi v a:=by exact jy1)(h:q->AnyT P md ops Q S L fuel ((listed.setIfInBounds j true).setIfInBounds (j+1) true) (a.put oi.dst v) w:=by exact jz):AnyT P md ops Q S L (fuel+1) (listed.setIfInBounds j true) a w:=jT hx hy hS (h k)
theorem j2a(i:Nat)(hS:S w)(k:q)(hx:VX ops Q md L i v oi listed:=by exact jx)(hy:YieldsIf P ops S oi v a:=by exact jy2)(h:q->AnyT P md ops Q S L fuel (listed.setIfInBounds i true) (a.put oi.dst v) w:=by exact jz):AnyT P md ops Q S L (fuel+1) listed a w:=jT hx hy hS (h k)
theorem j2b(hS:S w)(k:q)(hx:VX ops Q md L (j+1) v oi (listed.setIfInBounds j true):=by exact jx)(hy:YieldsIf P ops S oi v a:=by exact jy2)(h:q->AnyT P md ops Q S L fuel ((listed.setIfInBounds j true).setIfInBounds (j+1) true) (a.put oi.dst v) w:=by exact jz):AnyT P md ops Q S L (fuel+1) (listed.setIfInBounds j true) a w:=jT hx hy hS (h k)
theorem j3a(i:Nat)(hS:S w)(k:q)(hx:VX ops Q md L i v oi listed:=by exact jx)(hy:YieldsIf P ops S oi v a:=by exact jy3)(h:q->AnyT P md ops Q S L fuel (listed.setIfInBounds i true) (a.put oi.dst v) w:=by exact jz):AnyT P md ops Q S L (fuel+1) listed a w:=jT hx hy hS (h k)
end
end
variable {P:Program} {ops:Array Oper} {Q:Exit->Act->World->Prop} {S:World->Prop} {L fuel:Nat} {oi:Oper} {a:Act}
theorem qT{md:Region.Mode}(i:Nat)(v:Value){listed:Array Bool}(hi:ops[i]?=some oi)
  (hy:∀w,S w->(execOp a.eval oi).run P w=.ok (.value v) w) (hS:S w)
  (h:AnyT P md ops Q S L fuel (listed.setIfInBounds i true) (a.put oi.dst v) w)
  (hs:Region.noSelect ops=true:=by kernel_rfl) (hf:Region.free md ops listed i=true:=by kernel_rfl) (hr:(Region.ready md ops listed).contains i=true:=by kernel_rfl) (hL:ops[L]?=none:=by rfl)
  (hQ:∀c a w,Q (.panic c) (a.put oi.dst v) w->Q (.panic c) a w:=by exact λ_ _ _ h=>h) (hw:Region.wanted oi (yielded ops a.tmps)=true:=by rfl):AnyT P md ops Q S L (fuel+1) listed a w:=
 yH7 hi hs hf hr hL hQ (Or.inl ⟨hw,hy⟩) hS h
theorem qU{md:Region.Mode}(i:Nat)(v:Value){listed:Array Bool}(hi:ops[i]?=some oi)
  (hy:∀w,S w->(execOp a.eval oi).run P w=.ok (.value v) w) (hS:S w)
  (h:AnyT P md ops Q S L fuel (listed.setIfInBounds i true) (a.put oi.dst v) w)
  (hs:Region.noSelect ops=true:=by kernel_rfl) (hf:Region.free md ops listed i=true:=by kernel_rfl) (hr:(Region.ready md ops listed).contains i=true:=by kernel_rfl) (hL:yFk md ops L i=true:=by kernel_rfl) (hne:i≠L:=by decide)
  (hQ:∀c a w,Q (.panic c) (a.put oi.dst v) w->Q (.panic c) a w:=by exact λ_ _ _ h=>h) (hw:Region.wanted oi (yielded ops a.tmps)=true:=by rfl):AnyT P md ops Q S L (fuel+1) listed a w:=
 yBh hi hs hf hr hL hne hQ (Or.inl ⟨hw,hy⟩) hS h
variable {o:Oper}
theorem qO{md:Region.Mode}(i:Nat){listed:Array Bool}(ho:ops[i]?=some o)
  (h:∀K':Act->World->Prop,Shut (∀a w,(i=L\/S w)->AnyT P md ops Q S L fuel (listed.setIfInBounds i true) a w->K' a w)->if Region.wanted o (yielded ops a.tmps)=true then Oper.wp P o a w K' Q else K' (a.put o.dst undef) w)
  (hr:Region.ready md ops listed= [i]:=by kernel_rfl):AnyT P md ops Q S L (fuel+1) listed a w:=yXa hr ho h
theorem qD{md:Region.Mode}{listed:Array Bool}(h:Q .normal a w)(hr:Region.ready md ops listed= []:=by kernel_rfl):AnyT P md ops Q S L fuel listed a w:=yVr hr h
section
variable {p:Prop}
theorem tkS{q:Prop}(k:q)(h:q->p:=by intro z;(try simp only[qA,getElem_toArray,getElem_cons_zero,getElem_cons_succ]);exact z):p:=h k
theorem tkz(h:p:=by intro z;(try simp only[qA,getElem_toArray,getElem_cons_zero,getElem_cons_succ]);exact z):p:=h
theorem tkx(h:p:=by exact⟨rfl,by kernel_rfl,by kernel_rfl,by kernel_rfl,(by first|exact Or.inl (by rfl)|exact Or.inr ⟨by kernel_rfl,by decide⟩),λ_ _ _ h=>h⟩):p:=h
theorem tky1(h:p:=by first|exact Or.inr ⟨by rfl,rfl⟩|exact Or.inl ⟨by rfl,by(intro wz hSw;go_simp;(try with_reducible rfl))⟩):p:=h
theorem tky2(h:p:=by first|exact Or.inr ⟨by rfl,rfl⟩|exact Or.inl ⟨by rfl,by(intro wz hSw;obtain⟨d0,d1⟩:=hSw;go_simp;(try with_reducible rfl))⟩):p:=h
theorem tky3(h:p:=by first|exact Or.inr ⟨by rfl,rfl⟩|exact Or.inl ⟨by rfl,by(intro wz hSw;obtain⟨d0,d1,d2⟩:=hSw;go_simp;(try with_reducible rfl))⟩):p:=h
theorem tky5(h:p:=by first|exact Or.inr ⟨by rfl,rfl⟩|exact Or.inl ⟨by rfl,by(intro wz hSw;obtain⟨d0,d1,d2,d3,d4⟩:=hSw;go_simp;(try with_reducible rfl))⟩):p:=h
theorem tky6(h:p:=by first|exact Or.inr ⟨by rfl,rfl⟩|exact Or.inl ⟨by rfl,by(intro wz hSw;obtain⟨d0,d1,d2,d3,d4,d5⟩:=hSw;go_simp;(try with_reducible rfl))⟩):p:=h
theorem tky8(h:p:=by first|exact Or.inr ⟨by rfl,rfl⟩|exact Or.inl ⟨by rfl,by(intro wz hSw;obtain⟨d0,d1,d2,d3,d4,d5,d6,d7⟩:=hSw;go_simp;(try with_reducible rfl))⟩):p:=h
theorem yYf(h:p:=by first|exact Or.inr ⟨by rfl,rfl⟩|exact Or.inl ⟨by rfl,by(intro wz hSw;obtain⟨d0,d1,d2,d3,d4,d5,d6,d7,d8,d9⟩:=hSw;go_simp;(try with_reducible rfl))⟩):p:=h
theorem xBo(h:p:=by first|exact Or.inr ⟨by rfl,rfl⟩|exact Or.inl ⟨by rfl,by(intro wz hSw;obtain⟨d0,d1,d2,d3,d4,d5,d6,d7,d8,d9,d10,d11,d12,d13,d14,d15,d16,d17⟩:=hSw;go_simp;(try with_reducible rfl))⟩):p:=h
section
variable {P:Program} {ops:Array Oper} {Q:Exit->Act->World->Prop} {md:Region.Mode} {S:World->Prop} {L j:Nat} {v:Value} {oi:Oper} {fuel:Nat} {listed:Array Bool} {a:Act} {w:World} {q:Prop}
abbrev TkX(ops:Array Oper)(Q:Exit->Act->World->Prop)(md:Region.Mode)(L i:Nat)(v:Value)(oi:Oper)(listed:Array Bool):Prop:=
 ops[i]?=some oi/\Region.noSelect ops=true/\Region.free md ops listed i=true/\(Region.ready md ops listed).contains i=true/\(ops[L]?=none\/yFk md ops L i=true/\i≠L)/\∀c a w,Q (.panic c) (a.put oi.dst v) w->Q (.panic c) a w
variable {i:Nat}
theorem tkT(hx:TkX ops Q md L i v oi listed)(hy:YieldsIf P ops S oi v a)(hS:S w)(h:AnyT P md ops Q S L fuel (listed.setIfInBounds i true) (a.put oi.dst v) w):AnyT P md ops Q S L (fuel+1) listed a w:=
 hx.2.2.2.2.1.elim (λz=>yH7 hx.1 hx.2.1 hx.2.2.1 hx.2.2.2.1 z hx.2.2.2.2.2 hy hS h) (λz=>yBh hx.1 hx.2.1 hx.2.2.1 hx.2.2.2.1 z.1 z.2 hx.2.2.2.2.2 hy hS h)
theorem tk1a(i:Nat)(hS:S w)(k:q)(hx:TkX ops Q md L i v oi listed:=by exact tkx)(hy:YieldsIf P ops S oi v a:=by exact tky1)(h:q->AnyT P md ops Q S L fuel (listed.setIfInBounds i true) (a.put oi.dst v) w:=by exact tkz):AnyT P md ops Q S L (fuel+1) listed a w:=tkT hx hy hS (h k)
theorem tk1b(hS:S w)(k:q)(hx:TkX ops Q md L (j+1) v oi (listed.setIfInBounds j true):=by exact tkx)(hy:YieldsIf P ops S oi v a:=by exact tky1)(h:q->AnyT P md ops Q S L fuel ((listed.setIfInBounds j true).setIfInBounds (j+1) true) (a.put oi.dst v) w:=by exact tkz):AnyT P md ops Q S L (fuel+1) (listed.setIfInBounds j true) a w:=tkT hx hy hS (h k)
theorem tk2a(i:Nat)(hS:S w)(k:q)(hx:TkX ops Q md L i v oi listed:=by exact tkx)(hy:YieldsIf P ops S oi v a:=by exact tky2)(h:q->AnyT P md ops Q S L fuel (listed.setIfInBounds i true) (a.put oi.dst v) w:=by exact tkz):AnyT P md ops Q S L (fuel+1) listed a w:=tkT hx hy hS (h k)
theorem tk2b(hS:S w)(k:q)(hx:TkX ops Q md L (j+1) v oi (listed.setIfInBounds j true):=by exact tkx)(hy:YieldsIf P ops S oi v a:=by exact tky2)(h:q->AnyT P md ops Q S L fuel ((listed.setIfInBounds j true).setIfInBounds (j+1) true) (a.put oi.dst v) w:=by exact tkz):AnyT P md ops Q S L (fuel+1) (listed.setIfInBounds j true) a w:=tkT hx hy hS (h k)
theorem tk3a(i:Nat)(hS:S w)(k:q)(hx:TkX ops Q md L i v oi listed:=by exact tkx)(hy:YieldsIf P ops S oi v a:=by exact tky3)(h:q->AnyT P md ops Q S L fuel (listed.setIfInBounds i true) (a.put oi.dst v) w:=by exact tkz):AnyT P md ops Q S L (fuel+1) listed a w:=tkT hx hy hS (h k)
theorem tk3b(hS:S w)(k:q)(hx:TkX ops Q md L (j+1) v oi (listed.setIfInBounds j true):=by exact tkx)(hy:YieldsIf P ops S oi v a:=by exact tky3)(h:q->AnyT P md ops Q S L fuel ((listed.setIfInBounds j true).setIfInBounds (j+1) true) (a.put oi.dst v) w:=by exact tkz):AnyT P md ops Q S L (fuel+1) (listed.setIfInBounds j true) a w:=tkT hx hy hS (h k)
theorem tk5a(i:Nat)(hS:S w)(k:q)(hx:TkX ops Q md L i v oi listed:=by exact tkx)(hy:YieldsIf P ops S oi v a:=by exact tky5)(h:q->AnyT P md ops Q S L fuel (listed.setIfInBounds i true) (a.put oi.dst v) w:=by exact tkz):AnyT P md ops Q S L (fuel+1) listed a w:=tkT hx hy hS (h k)
theorem tk5b(hS:S w)(k:q)(hx:TkX ops Q md L (j+1) v oi (listed.setIfInBounds j true):=by exact tkx)(hy:YieldsIf P ops S oi v a:=by exact tky5)(h:q->AnyT P md ops Q S L fuel ((listed.setIfInBounds j true).setIfInBounds (j+1) true) (a.put oi.dst v) w:=by exact tkz):AnyT P md ops Q S L (fuel+1) (listed.setIfInBounds j true) a w:=tkT hx hy hS (h k)
theorem tk6a(i:Nat)(hS:S w)(k:q)(hx:TkX ops Q md L i v oi listed:=by exact tkx)(hy:YieldsIf P ops S oi v a:=by exact tky6)(h:q->AnyT P md ops Q S L fuel (listed.setIfInBounds i true) (a.put oi.dst v) w:=by exact tkz):AnyT P md ops Q S L (fuel+1) listed a w:=tkT hx hy hS (h k)
theorem tk6b(hS:S w)(k:q)(hx:TkX ops Q md L (j+1) v oi (listed.setIfInBounds j true):=by exact tkx)(hy:YieldsIf P ops S oi v a:=by exact tky6)(h:q->AnyT P md ops Q S L fuel ((listed.setIfInBounds j true).setIfInBounds (j+1) true) (a.put oi.dst v) w:=by exact tkz):AnyT P md ops Q S L (fuel+1) (listed.setIfInBounds j true) a w:=tkT hx hy hS (h k)
theorem tk8a(i:Nat)(hS:S w)(k:q)(hx:TkX ops Q md L i v oi listed:=by exact tkx)(hy:YieldsIf P ops S oi v a:=by exact tky8)(h:q->AnyT P md ops Q S L fuel (listed.setIfInBounds i true) (a.put oi.dst v) w:=by exact tkz):AnyT P md ops Q S L (fuel+1) listed a w:=tkT hx hy hS (h k)
theorem tk8b(hS:S w)(k:q)(hx:TkX ops Q md L (j+1) v oi (listed.setIfInBounds j true):=by exact tkx)(hy:YieldsIf P ops S oi v a:=by exact tky8)(h:q->AnyT P md ops Q S L fuel ((listed.setIfInBounds j true).setIfInBounds (j+1) true) (a.put oi.dst v) w:=by exact tkz):AnyT P md ops Q S L (fuel+1) (listed.setIfInBounds j true) a w:=tkT hx hy hS (h k)
theorem xBq(i:Nat)(hS:S w)(k:q)(hx:TkX ops Q md L i v oi listed:=by exact tkx)(hy:YieldsIf P ops S oi v a:=by exact xBo)(h:q->AnyT P md ops Q S L fuel (listed.setIfInBounds i true) (a.put oi.dst v) w:=by exact tkz):AnyT P md ops Q S L (fuel+1) listed a w:=tkT hx hy hS (h k)
theorem xBp(hS:S w)(k:q)(hx:TkX ops Q md L (j+1) v oi (listed.setIfInBounds j true):=by exact tkx)(hy:YieldsIf P ops S oi v a:=by exact xBo)(h:q->AnyT P md ops Q S L fuel ((listed.setIfInBounds j true).setIfInBounds (j+1) true) (a.put oi.dst v) w:=by exact tkz):AnyT P md ops Q S L (fuel+1) (listed.setIfInBounds j true) a w:=tkT hx hy hS (h k)
end
end
def yEj(w:World)(base:Nat)(bv:Value)(n:Nat):Prop:=
 n<=1048576/\((∃a cap,bv=.slice a 0 cap/\n=0)\/∃b off cap,bv=.slice (some ⟨b,off,none⟩) n cap/\b<base/\∀k,k<n->∃x:Int,w.cell? ⟨b,off+k,none⟩=some (.int .u8 x)/\0<=x/\x<256)
def OwnL(w:World)(base cb:Nat)(vs:List Value):Prop:=w.ownsRow base 85 3 (.slice (some ⟨cb,0,none⟩) 1 1) 1 vs
structure yAd(base cb:Nat)(bv:Value)(n:Nat)(w:World):Prop where
 own:∃(i:Nat)(h:Int),i<=n/\OwnL w base cb [bv,.int .i64 i,.int .i64 h]
 code:yEj w base bv n
 base:base<=w.heap.size
theorem yXo(x:Int):0<=bits .and .i64 x 255/\bits .and .i64 x 255<256:=by
 have h:(BitVec.ofInt 64 x &&& BitVec.ofInt 64 255).toNat<=255:=by rw[BitVec.toNat_and];exact Nat.le_trans and_le_right (by decide)
 have e:bits .and .i64 x 255=IntKind.i64.wrap ((BitVec.ofInt 64 x &&& BitVec.ofInt 64 255).toNat:Int):=rfl;rw[e,IntKind.wrap_i64];omega
variable {bv:Value}
theorem yEj.chg(h:yEj w base bv n)(hc:Chg T w w')(hb:base<=w.heap.size)(hT:∀k,T k->base<=k):yEj w' base bv n:=by
 refine⟨h.1,?_⟩;rcases h.2 with h|⟨b,off,cap,hv,y,hx⟩
 .exact .inl h
 .refine .inr ⟨b,off,cap,hv,y,λk hk=>?_⟩;obtain⟨x,h1,h2⟩:=hx k hk;exact⟨x,by rw[hc.cell (p:=⟨b,off+k,none⟩) (by show b<w.heap.size;omega) (λq=>by have q1:base<=b:=hT _ q;omega)];exact h1,h2⟩
variable {cb:Nat}
theorem yAd.chg(h:yAd base cb bv n w)(hc:Chg T w w')(hn:¬T cb)(hT:∀k,T k->base<=k):yAd base cb bv n w':=by obtain⟨i,hh,h1,h2⟩:=h.own;exact⟨⟨i,hh,h1,yAg h2 hc (λk q=>by simp[Value.ownBlock]at q;subst q;exact hn)⟩,h.code.chg hc h.base hT,by have:=hc.size;have:=h.base;omega⟩
theorem yAd.below(h:yAd base cb bv n w)(hb:Below w.heap.size w w'):yAd base cb bv n w':=
 h.chg (T:=λ_=>False) (Chg.of_below hb) (λq=>q) (λk q=>q.elim)
theorem yAd.lt(h:yAd base cb bv n w):base<=cb/\cb<w.heap.size:=by obtain⟨i,hh,h1,h2⟩:=h.own;exact World.ownsRow.lt h2 cb rfl
variable {i:Nat}
theorem yAd.setH{hh:Int}(hi:i<=n)(h:OwnL w base cb [bv,.int .i64 i,.int .i64 hh])(hc:yEj w base bv n)(hb:base<=w.heap.size)(h':Int):yAd base cb bv n (w.setCell ⟨cb,2,none⟩ (.int .i64 h')):=by have hl:=World.ownsRow.lt h cb rfl;refine⟨⟨i,h',hi,(World.ownsRow.stored h 2 _).1⟩,hc.chg (Chg.of_set (S:=λk=>k=cb) w cb 2 _ rfl) hb (λk q=>by omega),?_⟩;have:=(Chg.of_set (S:=λk=>k=cb) w cb 2 (.int .i64 h') rfl).size;omega
theorem yAd.setI{hh:Int}(hi:i+1<=n)(h:OwnL w base cb [bv,.int .i64 i,.int .i64 hh])(hc:yEj w base bv n)(hb:base<=w.heap.size):yAd base cb bv n (w.setCell ⟨cb,1,none⟩ (.int .i64 (i+1:Nat))):=by have hl:=World.ownsRow.lt h cb rfl;refine⟨⟨i+1,hh,hi,(World.ownsRow.stored h 1 _).1⟩,hc.chg (Chg.of_set (S:=λk=>k=cb) w cb 1 _ rfl) hb (λk q=>by omega),?_⟩;have:=(Chg.of_set (S:=λk=>k=cb) w cb 1 (.int .i64 (i+1:Nat)) rfl).size;omega
theorem yHb(base cb:Nat)(bv:Value)(n:Nat)(w:World)(h:yAd base cb bv n w):
  Calls prog 92 #[.pointer (some ⟨cb,0,none⟩)] w λe w'=>∃x:Int,e=.returned (.int .i64 x)/\0<=x/\x<256/\yAd base cb bv n w'/\Chg (λk=>k=cb) w w':=by
 obtain⟨i,hh,a9,hO⟩:=h.own;have c0:w.cell? ⟨cb,0,none⟩=some bv:=World.ownsRow.cellAt hO 0 (by decide);have c1:w.cell? ⟨cb,1,none⟩=some (.int .i64 i):=World.ownsRow.cellAt hO 1 (by decide);have c2:w.cell? ⟨cb,2,none⟩=some (.int .i64 hh):=World.ownsRow.cellAt hO 2 (by decide);have f1:=World.ownsRow.frozenAt hO 1;have f2:=World.ownsRow.frozenAt hO 2;obtain⟨h1,a6⟩:=qE (wrap64 (wrap64 (hh*6364136223846793005)+1442695040888963407));obtain⟨W1,y⟩:=qE (w.setCell ⟨cb,2,none⟩ (.int .i64 h1):World);have a8:Chg (λk=>k=cb) w W1:=by rw[y];exact Chg.of_set _ _ _ _ rfl
 have a0:Hid (OwnL W1 base cb [bv,.int .i64 i,.int .i64 h1]):=by show OwnL W1 _ _ _;rw[y];exact(World.ownsRow.stored hO 2 _).1
 have a7:yAd base cb bv n W1:=by rw[y];exact yAd.setH a9 hO h.code h.base h1
 have HD:Hid (yAd base cb bv n W1/\Chg (λk=>k=cb) w W1):=⟨a7,a8⟩;clear a7 a8;have aa:=h.code;have hn:=aa.1;clear h hO;go_enter func92,ntmps92;go_upto_region 2 with fail;rw[<-a6,<-y];have d0:W1.cell? ⟨cb,0,none⟩=some bv:=World.ownsRow.cellAt a0.out 0 (by decide);have d1:W1.cell? ⟨cb,1,none⟩=some (.int .i64 i):=World.ownsRow.cellAt a0.out 1 (by decide);have d2:W1.cell? ⟨cb,2,none⟩=some (.int .i64 h1):=World.ownsRow.cellAt a0.out 2 (by decide);have e1:=World.ownsRow.frozenAt a0.out 1;clear a6 y c0 c1 c2 f1 f2;go_quiet (fail);obtain⟨x0,a4⟩:=qE (bits BinOp.and IntKind.i64 (bits BinOp.xor IntKind.i64 (h1/8589934592) (h1/35184372088832)) 255);have hx1:0<=x0/\x0<256:=by rw[a4];exact yXo _
 rw[<-a4];clear a4;rcases HD.1.code.2 with⟨a,cap,rfl,rfl⟩|⟨b,off,cap,rfl,ad,hx⟩
 .have z:¬(i:Int)<0:=by omega
  exact xAq
 .by_cases hi:i<n
  .obtain⟨x,hc,ac,ab⟩:=hx i hi;have z:(i:Int)<(n:Int):=by omega
   go_upto_region 3 with fail;go_quiet (fail);go_upto_region 4 with fail;go_quiet (fail);obtain⟨x2,a3⟩:=qE (bits BinOp.and IntKind.i64 (x0+x) 255);have a5:0<=x2/\x2<256:=by rw[a3];exact yXo _
   rw[<-a3];clear a3;go_wp2_with fail;go_ret;refine⟨x2,rfl,a5.1,a5.2,?_,?_⟩
   .have hb:=λq=>below_drewN (Below.refl W1.heap.size W1) q;exact yAd.setI (by omega) (yAg (S:=λ_=>False) a0.out (Chg.of_below (hb _)) (λk _ q=>q)) (HD.1.below (hb _)).code (HD.1.below (hb _)).base
   .exact(HD.2.trans (Chg.of_below (below_drewN (Below.refl _ _) _))).trans (Chg.of_set (S:=λk=>k=cb) _ _ _ _ rfl)
  .have z:¬(i:Int)<(n:Int):=by omega
   exact xAq
abbrev Drew(base cb:Nat)(bv:Value)(n:Nat)(w w':World):Prop:=yAd base cb bv n w'/\Chg (λk=>k=cb) w w'
theorem yAh(base cb:Nat)(bv:Value)(n:Nat)(m:Int)(w:World)(h:yAd base cb bv n w)(hm:1<=m)(hm2:m<=1048576):
  Calls prog 42 #[.pointer (some ⟨cb,0,none⟩),.int .i64 m] w λe w'=>∃x:Int,e=.returned (.int .i64 x)/\0<=x/\x<m/\Drew base cb bv n w w':=by
 have HD:Hid (yAd base cb bv n w):=h;clear h;by_cases hs:m<=256
 .go_enter func42,ntmps42;go_wp2_with fail;refine(yHb base cb bv n _ HD.out).mono ?_;rintro e w1 ⟨x,rfl,a9,a8,a0,a3⟩;have H1:Hid (yAd base cb bv n w1/\Chg (λk=>k=cb) w w1):=⟨a0,a3⟩;clear a0 a3;go_wp2;go_ret;exact⟨x%m,rfl,Int.emod_nonneg _ (by omega),Int.emod_lt_of_pos _ (by omega),H1.1,H1.2⟩
 .go_enter func42,ntmps42;go_wp2_with fail;refine(yHb base cb bv n _ HD.out).mono ?_;rintro e w1 ⟨x,rfl,a9,a8,a0,a3⟩;have H1:Hid (yAd base cb bv n w1/\Chg (λk=>k=cb) w w1):=⟨a0,a3⟩;clear a0 a3;go_wp2_with fail;refine(yHb base cb bv n _ H1.1).mono ?_;rintro e w2 ⟨y,rfl,ad,ac,a5,a7⟩;have H2:Hid (yAd base cb bv n w2/\Chg (λk=>k=cb) w w2):=⟨a5,H1.2.trans a7⟩;clear a5 a7;go_wp2_with fail;refine(yHb base cb bv n _ H2.1).mono ?_;rintro e w3 ⟨z,rfl,ab,aa,a4,a6⟩;have H3:Hid (yAd base cb bv n w3/\Chg (λk=>k=cb) w w3):=⟨a4,H2.2.trans a6⟩;clear a4 a6;go_wp2;go_ret;exact⟨(x*65536+y*256+z)%m,rfl,Int.emod_nonneg _ (by omega),Int.emod_lt_of_pos _ (by omega),H3.1,H3.2⟩
theorem yAx(base cb:Nat)(bv:Value)(n:Nat)(m:Int)(w:World)(h:yAd base cb bv n w)(hm:1<=m)(hm2:m<=1048576):
  Calls prog 16 #[.pointer (some ⟨cb,0,none⟩),.int .i64 m] w λe w'=>∃v:Value,e=.returned v/\(v=.bool true\/v=.bool false)/\Drew base cb bv n w w':=by
 have HD:Hid (yAd base cb bv n w):=h;clear h;go_enter func16,ntmps16;go_wp2_with fail;refine(yAh base cb bv n m _ HD.out hm hm2).mono ?_;rintro e w1 ⟨x,rfl,a4,a3,y,a0⟩;have H1:Hid (yAd base cb bv n w1/\Chg (λk=>k=cb) w w1):=⟨y,a0⟩;clear y a0;cases hx:(x==0)
 .go_wp2_with fail;go_ret;exact⟨_,rfl,.inr rfl,H1.1,H1.2⟩
 .go_wp2_with fail;go_ret;exact⟨_,rfl,.inl rfl,H1.1,H1.2⟩
variable {wr:World}
theorem Chg.grown_new{row:Option Nat}(h:Chg T w wr)(hg:wr.grownBy w' row)(hr:∀k,row=some k->w.heap.size<=k):Chg T w w':=
 ⟨hg.os.trans h.os,hg.tape.trans h.tape,hg.output.trans h.output,Nat.le_trans h.size hg.size,λk hk hn=>(hg.block k (Nat.lt_of_lt_of_le hk h.size) (λq=>by have:=hr k q.symm;omega)).trans (h.block k hk hn)⟩
theorem Chg.alloc_new(h:Chg T w wr)(o:Obj):Chg T w (wr.alloc o):=h.trans (Chg.of_below (qB))
abbrev u8v(z:UInt8):Value:=.int .u8 (z.toNat:Int)
def OwnB(w:World)(base g cap:Nat)(zs:List UInt8):Prop:=w.ownsRow base 5 1 (.slice (some ⟨g,0,none⟩) zs.length cap) zs.length (zs.map u8v)
theorem Tryz.infoU8:(prog.info? 5).map (λi=>(i.zero,i.size,i.bytes))=some (some (.int .u8 0),1,1):=by kernel_rfl
theorem yCg{rest:List Oper}(w:World)(hgd:o.guard=none)(s x:Operand)
  (ho:o.op=.call {callee:=.builtin .append,args:=#[s,x],argTypes:=#[22,22]})
  (base g cp n blk:Nat) (zs:List UInt8) (z:UInt8) (hs:a.eval s=.slice (some ⟨g,0,none⟩) n cp) (cx:Nat) (hx:a.eval x=.slice (some ⟨blk,0,none⟩) 1 cx) (hn:n=zs.length) (hO:OwnB w base g cp zs)
  (hc:w.cell? ⟨blk,0,none⟩=some (.int .u8 (z.toNat:Int))) (hlen:zs.length<=2^30) (hbase:base<=w.heap.size)
  (h:∀g' cp' w',OwnB w' base g' cp' (zs++ [z])->w.grownBy w' (some g)->wpList prog ops Q rest (a.put o.dst (.slice (some ⟨g',0,none⟩) (n+1) cp')) w'):wpList prog ops Q (o::rest) a w:=by
 obtain⟨i,hi,a3,a0,y⟩:=info_parts Tryz.infoU8;subst hn;refine wpList_append_lies w hgd s x 22 ho base 5 i _ 1 1 underlying22 hi a3 a0 y rfl (by decide) (.slice (some ⟨g,0,none⟩) zs.length cp) zs.length (zs.map u8v) hs hO ⟨blk,0,none⟩ 1 cx [u8v z] hx rfl ?_ ?_ (by decide) ?_ ?_ hbase w.heap.size rfl ?_
 .exact yZ9
 .intro u hu;simp at hu;subst hu;rfl
 .unfold maxLen;omega
 .omega
 .intro g' cp' w' a5 a4 a7 a6;refine h g' cp' w' ?_ a4;unfold OwnB;rw[length_append,map_append];exact a5
theorem yQt(w:World)(base:Nat)(hb:base<=w.heap.size):OwnB (w.alloc (Obj.cells #[] 5)) base w.heap.size 0 []:=World.ownsRow_made w #[] 0 hb (zero_le _) (by simp)
theorem yIx{cap:Nat}{zs:List UInt8}(h:OwnB w base g cap zs):(convert 22 9 (.slice (some ⟨g,0,none⟩) zs.length cap)).run prog w=.ok (.string ⟨zs.toArray⟩) w:=by refine run_convert_bytes_back (P:=prog) w 22 9 5 ⟨g,0,none⟩ cap zs underlying22 underlying5 underlying9 ?_;intro i hi;have:=World.ownsRow.cellAt h i (by omega);rw[Addr.add_mid,Nat.zero_add,this,getElem?_map,getElem?_eq_getElem hi];rfl
theorem yAu(base cb:Nat)(bv:Value)(n:Nat)(a b:Int)(w:World)(h:yAd base cb bv n w)(ha:0<=a)(hab:a<=b)(hb:b<=100):
  Calls prog 52 #[.pointer (some ⟨cb,0,none⟩),.int .i64 a,.int .i64 b] w λe w'=>∃s:ByteArray,e=.returned (.string s)/\s.size<=100/\Drew base cb bv n w w':=by
 have HD:Hid (yAd base cb bv n w):=h;have al:=h.base;have ak:=h.lt;clear h;go_enter func52,ntmps52;go_wp2_with fail;refine(yAh base cb bv n (b-a+1) _ HD.out (by omega) (by omega)).mono ?_;rintro e w1 ⟨x,rfl,ah,ag,ab,a6⟩;have s1:=a6.size;have H1:Hid (yAd base cb bv n w1/\Chg (λk=>k=cb) w w1):=⟨ab,a6⟩;clear ab a6;obtain⟨W2,a0⟩:=qE (w1.alloc (Obj.cells #[] 5):World);have hb2:Below w1.heap.size w1 W2:=by rw[a0];exact qB
 have a7:Hid (OwnB W2 w.heap.size w1.heap.size 0 []/\yAd base cb bv n W2/\Chg (λk=>k=cb) w W2):=by refine⟨?_,H1.1.below hb2,H1.2.trans (Chg.of_below hb2)⟩;rw[a0];exact yQt w1 w.heap.size s1
 obtain⟨m,hm⟩:∃m:Nat,a+x=(m:Int):=⟨(a+x).toNat,by omega⟩;have ai:m<=100:=by omega
 go_wp2_with fail;rw[<-a0];clear a0 hm hb2;go_loopw[8,9] (λo i wr=>∃(k g cp:Nat)(zs:List UInt8),k<=m/\i=.int .i64 k/\o=.slice (some ⟨g,0,none⟩) k cp/\zs.length=k/\OwnB wr w.heap.size g cp zs/\yAd base cb bv n wr/\Chg (λk=>k=cb) w wr) (λ_ i _=>m-(intOf i).toNat);case atStart=>exact⟨0,_,0,[],zero_le _,rfl,rfl,rfl,a7.1,a7.2.1,a7.2.2⟩
 case round=>
  obtain⟨k,g,cp,zs,hk,rfl,rfl,a8,hO,hD,hC⟩:=hrel;have HI:Hid (zs.length=k/\OwnB wr w.heap.size g cp zs/\yAd base cb bv n wr/\Chg (λk=>k=cb) w wr):=⟨a8,hO,hD,hC⟩;have aj:=World.ownsRow.lt hO g rfl;clear a8 hO hD hC;by_cases hlt:k<m
  .have zk:(k:Int)<(m:Int):=by omega
   go_wp2_with fail;refine(yAh base cb bv n 3 _ HI.2.2.1 (by omega) (by omega)).mono ?_;rintro e w3 ⟨y,rfl,af,ae,aa,a3⟩;have s3:=a3.size;have a4:Hid (OwnB w3 w.heap.size g cp zs/\yAd base cb bv n w3/\Chg (λk=>k=cb) w w3):=⟨yAg HI.2.1 a3 (λk q=>by simp[Value.ownBlock]at q;subst q;omega),aa,HI.2.2.2.trans a3⟩;clear aa a3;obtain⟨z,hz⟩:∃z:UInt8,(97:Int)+y=(z.toNat:Int):=⟨UInt8.ofNat (97+y.toNat),by rw[UInt8.toNat_ofNat'];omega⟩;have HZ:Hid ((97:Int)+y=(z.toNat:Int)):=hz;have ac:Hid (k=zs.length):=HI.1.symm;have s4:=a4.2.2.size;clear hz;go_wp2_with (at_builtin;refine yCg _ rfl _ _ rfl w.heap.size g cp _ _ zs z rfl _ rfl ac.out ?hO ?hc ?hl ?hb ?_);case hO=>exact yAg (S:=λ_=>False) a4.1 (Chg.of_below (qB)) (λk _ q=>q)
   case hc=>rw[<-HZ.out];simp
   case hl=>rw[<-ac.out];omega
   case hb=>simp;omega
   intro g' cp' w' a9 a5;have HN:Hid ((zs++ [z]).length=k+1/\OwnB w' w.heap.size g' cp' (zs++ [z])/\yAd base cb bv n w'/\Chg (λk=>k=cb) w w'):=by
    refine⟨by simp[HI.1],a9,?_,?_⟩
    .have hd:=a4.2.1.below ((Below.refl w3.heap.size w3).alloc (Nat.le_refl _) (Obj.cells #[.int .u8 (97+y)] 5));exact hd.chg (Chg.of_grown (S:=λk=>k=g) a5 (λk hk=>by cases hk;rfl)) (by omega) (λk q=>by omega)
    .exact Chg.grown_new (a4.2.2.alloc_new _) a5 (λk hk=>by cases hk;omega)
   clear a9 a5;go_wp2_with fail;go_roundw;case rel=>exact⟨k+1,g',cp',zs++ [z],by omega,by go_num,rfl,HN.1,HN.2.1,HN.2.2.1,HN.2.2.2⟩
   case measure=>go_light;simp[intOf];omega
  .have zk:¬(k:Int)<(m:Int):=by omega
   have ad:=yIx HI.2.1;rw[HI.1]at ad;have HS:Hid ((⟨zs.toArray⟩:ByteArray).size<=100):=by show(⟨zs.toArray⟩:ByteArray).size<=100;have:=HI.1;simp[ByteArray.size];omega
   go_wp2_with fail;go_ret;exact⟨_,rfl,HS.out,HI.2.2.1,HI.2.2.2⟩
section
section
variable {P:Program} {ops:Array Oper} {Q:Exit->Act->World->Prop} {md:Region.Mode} {S:World->Prop} {X:List Nat}
def AnyX(P:Program)(md:Region.Mode)(ops:Array Oper)(Q:Exit->Act->World->Prop)(S:World->Prop)(X:List Nat):Nat->Array Bool->Act->World->Prop
 |0,listed,a,w=>Region.ready md ops listed= []/\Q .normal a w
 |fuel+1,listed,a,w=>
  (Region.ready md ops listed= []->Q .normal a w)/\
  ∀i∈Region.ready md ops listed,wpOp P ops Q i (λa' w'=>(i∈X\/S w')/\AnyX P md ops Q S X fuel (listed.setIfInBounds i true) a' w') a w
theorem yRe:∀(fuel:Nat)(listed:Array Bool)(a:Act)(w:World),AnyX P md ops Q S X fuel listed a w->wpAny P md ops Q fuel listed a w
 |0,_,_,_,h=>h
 |fuel+1,_,_,_,h=>⟨h.1,λi hi=>wpOp_mono (λa' w' h'=>yRe fuel _ a' w' h'.2) (h.2 i hi)⟩
def yM6(md:Region.Mode)(ops:Array Oper)(Y:List Nat)(listed:Array Bool)(i:Nat):Bool:=Y.all λL=>listed.getD L true==false && (yFk md ops L i || Y.any λL'=>yFk md ops L L')
def cloX(md:Region.Mode)(ops:Array Oper)(listed:Array Bool):Nat->List Nat->List Nat
 |0,Y=>Y
 |n+1,Y=>cloX md ops listed n (Y++(List.range ops.size).filter λL=> !Y.contains L && listed.getD L true==false && Y.any λL'=>yFk md ops L L')
def yM7(md:Region.Mode)(ops:Array Oper)(X:List Nat)(listed:Array Bool)(i:Nat):Bool:=
 let Y:=(cloX md ops listed 6 [i]).erase i
 yM6 md ops Y listed i && X.all λL=>listed.getD L true || Y.contains L
theorem yGk(ho:ops[L]?=some o)(h:yFk md ops L i=true):∃e∈o.after,Region.binds md e=true/\e.on=i:=by unfold yFk at h;rw[ho]at h;simp only[Option.map_some,Option.getD_some,Array.any_eq_true]at h;obtain⟨k,hk,hb⟩:=h;rw[Bool.and_eq_true,beq_iff_eq]at hb;exact⟨_,Array.getElem_mem hk,hb.1,hb.2⟩
theorem ySz{v:Value}{Y:List Nat}(hi:ops[i]?=some oi)(hsel:∀(j:Nat)(o:Oper) cs b,ops[j]?=some o->o.op≠ .select cs b)
  (hQ:∀c a w,Q (.panic c) (a.put oi.dst v) w->Q (.panic c) a w):
  ∀(fuel:Nat)(listed:Array Bool)(a:Act)(w:World),yM6 md ops Y listed i=true->(∀L∈X,listed.getD L true=true\/L∈Y)->
   (∀j oj,ops[j]?=some oj->j≠i->listed.getD j true=false->(∀e∈oj.after,Region.binds md e=true->e.on≠i)->oi.apart ops oj=true)->
   i∈Region.ready md ops listed->YieldsIf P ops S oi v a->S w->
   AnyX P md ops Q S X fuel (listed.setIfInBounds i true) (a.put oi.dst v) w->AnyX P md ops Q S X (fuel+1) listed a w:=by
 intro fuel;induction fuel with
 |zero=>
  intro listed a w _ _ _ hr hy hS H;refine⟨λh=>(by rw[h]at hr;cases hr),λj hj=>?_⟩;by_cases hji:j=i
  .subst hji;exact hy.wpOp hi hS ⟨.inr hS,H⟩
  .have:=ready_mono hj hji;rw[H.1]at this;cases this
 |succ fuel ih=>
  intro listed a w hX a9 a8 hr hy hS H;refine⟨λh=>(by rw[h]at hr;cases hr),λj hj=>?_⟩;by_cases hji:j=i
  .subst hji;exact hy.wpOp hi hS ⟨.inr hS,H⟩
  .have h1:=H.2 j (ready_mono hj hji);obtain⟨a4,oj,a0,ab⟩:=mem_ready.1 hj;have y:∀k,listed.getD k true=false->∀e∈oj.after,Region.binds md e=true->e.on≠k:=λk h0 e he hb heq=>by
    have h1:=ab e he hb;rw[heq]at h1;rcases Nat.lt_or_ge k listed.size with h'|h'
    .simp[h']at h0 h1;rw[h0]at h1;cases h1
    .simp[Array.getElem?_eq_none h']at h1
   have a5:∀e∈oj.after,Region.binds md e=true->e.on≠i:=y i (mem_ready.1 hr).1;have a6:j∉Y:=λq=>by
    have h2:=all_eq_true.1 hX j q;rw[Bool.and_eq_true,Bool.or_eq_true]at h2;rcases h2.2 with h3|h3
    .obtain⟨e,he,hb,a3⟩:=yGk a0 h3;exact a5 e he hb a3
    .obtain⟨L',ae,h4⟩:=any_eq_true.1 h3;obtain⟨e,he,hb,a3⟩:=yGk a0 h4;have h5:=all_eq_true.1 hX L' ae;rw[Bool.and_eq_true]at h5;exact y L' (by simpa using h5.1) e he hb a3
   have a7:j∉X:=λq=>(a9 j q).elim (λz=>by rw[a4]at z;cases z) a6;have ac:∀L∈X,(listed.setIfInBounds j true).getD L true=true\/L∈Y:=λL hL=>(a9 L hL).imp (λz=>by rw[getD_set_ne true (λq:j=L=>a7 (by rw[q];exact hL))];exact z) (λz=>z)
   have h2:=wpOp_putIf a0 (a8 j oj a0 hji a4 a5) (λcs b=>hsel i oi cs b hi) (λcs b=>hsel j oj cs b a0) hQ hy h1
   have aa:∀k ok,ops[k]?=some ok->k≠i->(listed.setIfInBounds j true).getD k true=false->
     (∀e∈ok.after,Region.binds md e=true->e.on≠i)->oi.apart ops ok=true:=λk ok hk hki y hno=>by
    refine a8 k ok hk hki ?_ hno;by_cases hjk:j=k
    .subst hjk;exact a4
    .rw[getD_set_ne true hjk]at y;exact y
   have ad:yM6 md ops Y (listed.setIfInBounds j true) i=true:=by refine all_eq_true.2 λL hL=>?_;have h2:=all_eq_true.1 hX L hL;rw[getD_set_ne true (λq:j=L=>a6 (by rw[q];exact hL))];exact h2
   refine wpOp_mono (λa' w' h3=>⟨h3.2.1,ih (listed.setIfInBounds j true) a' w' ad ac aa (ready_mono hr (Ne.symm hji)) h3.1 (h3.2.1.resolve_left a7) ?_⟩) h2;rw[Array.setIfInBounds_comm _ _ hji];exact h3.2.2
theorem yF0{listed:Array Bool}(hr:Region.ready md ops listed= [i])(ho:ops[i]?=some o)
  (h:∀K':Act->World->Prop,Shut (∀a w,(i∈X\/S w)->AnyX P md ops Q S X fuel (listed.setIfInBounds i true) a w->K' a w)->if Region.wanted o (yielded ops a.tmps)=true then Oper.wp P o a w K' Q else K' (a.put o.dst undef) w):
  AnyX P md ops Q S X (fuel+1) listed a w:=by
 exact xAf
theorem yO1{listed:Array Bool}(hr:Region.ready md ops listed= [])(h:Q .normal a w):AnyX P md ops Q S X fuel listed a w:=by exact yXw
theorem yI0{id:Nat}(X:List Nat)(S:World->Prop)(hm:P.follows .mixedOrders=true)
  (h:AnyX P .any ops Q S X ops.size (Array.replicate ops.size false) a w.drew):(Code.region id ops true).wp P Q a w:=
 wp_region_any hm (yRe _ _ _ _ h)
end
variable {p:Prop}
theorem txx(h:p:=by exact⟨rfl,by kernel_rfl,by kernel_rfl,by kernel_rfl,by kernel_rfl,λ_ _ _ h=>h⟩):p:=h
theorem tyy9(h:p:=by first|exact Or.inr ⟨by rfl,rfl⟩|exact Or.inl ⟨by rfl,by(intro wz hSw;obtain⟨d0,d1,d2,d3,d4,d5,d6,d7,d8⟩:=hSw;go_simp;(try with_reducible rfl))⟩):p:=h
section
variable {P:Program} {ops:Array Oper} {Q:Exit->Act->World->Prop} {md:Region.Mode} {S:World->Prop} {X:List Nat} {j:Nat} {v:Value} {oi:Oper} {fuel:Nat} {listed:Array Bool} {a:Act} {w:World} {q:Prop}
abbrev TxX(ops:Array Oper)(Q:Exit->Act->World->Prop)(md:Region.Mode)(X:List Nat)(i:Nat)(v:Value)(oi:Oper)(listed:Array Bool):Prop:=
 ops[i]?=some oi/\Region.noSelect ops=true/\Region.free md ops listed i=true/\(Region.ready md ops listed).contains i=true/\yM7 md ops X listed i=true/\∀c a w,Q (.panic c) (a.put oi.dst v) w->Q (.panic c) a w
theorem txT(hx:TxX ops Q md X i v oi listed)(hy:YieldsIf P ops S oi v a)(hS:S w)(h:AnyX P md ops Q S X fuel (listed.setIfInBounds i true) (a.put oi.dst v) w):AnyX P md ops Q S X (fuel+1) listed a w:=
 ySz (Y:=(cloX md ops listed 6 [i]).erase i) hx.1 (Region.noSelect_spec hx.2.1) hx.2.2.2.2.2 fuel listed a w (by
  have h2:=hx.2.2.2.2.1
  unfold yM7 at h2
  rw[Bool.and_eq_true]at h2
  exact h2.1) (λL hL=>by
  have h2:=hx.2.2.2.2.1
  unfold yM7 at h2
  rw[Bool.and_eq_true]at h2
  simpa using all_eq_true.1 h2.2 L hL) (Region.free_spec hx.1 hx.2.2.1) (by simpa using hx.2.2.2.1) hy hS h
theorem tx9a(i:Nat)(hS:S w)(k:q)(hx:TxX ops Q md X i v oi listed:=by exact txx)(hy:YieldsIf P ops S oi v a:=by exact tyy9)(h:q->AnyX P md ops Q S X fuel (listed.setIfInBounds i true) (a.put oi.dst v) w:=by exact tkz):AnyX P md ops Q S X (fuel+1) listed a w:=txT hx hy hS (h k)
theorem tx9b(hS:S w)(k:q)(hx:TxX ops Q md X (j+1) v oi (listed.setIfInBounds j true):=by exact txx)(hy:YieldsIf P ops S oi v a:=by exact tyy9)(h:q->AnyX P md ops Q S X fuel ((listed.setIfInBounds j true).setIfInBounds (j+1) true) (a.put oi.dst v) w:=by exact tkz):AnyX P md ops Q S X (fuel+1) (listed.setIfInBounds j true) a w:=txT hx hy hS (h k)
theorem xCq(i:Nat)(hS:S w)(k:q)(hx:TxX ops Q md X i v oi listed:=by exact txx)(hy:YieldsIf P ops S oi v a:=by exact yYf)(h:q->AnyX P md ops Q S X fuel (listed.setIfInBounds i true) (a.put oi.dst v) w:=by exact tkz):AnyX P md ops Q S X (fuel+1) listed a w:=txT hx hy hS (h k)
theorem xBl(hS:S w)(k:q)(hx:TxX ops Q md X (j+1) v oi (listed.setIfInBounds j true):=by exact txx)(hy:YieldsIf P ops S oi v a:=by exact yYf)(h:q->AnyX P md ops Q S X fuel ((listed.setIfInBounds j true).setIfInBounds (j+1) true) (a.put oi.dst v) w:=by exact tkz):AnyX P md ops Q S X (fuel+1) (listed.setIfInBounds j true) a w:=txT hx hy hS (h k)
end
end
theorem yW6(c:UInt8)(w:World):∃cx w',(convert 9 22 (.string ⟨#[c]⟩)).run prog w=.ok (.slice (some ⟨w.heap.size,0,none⟩) 1 cx) w'/\Below w.heap.size w w'/\w'.cell? ⟨w.heap.size,0,none⟩=some (.int .u8 (c.toNat:Int)):=by
 refine⟨_,_,run_bytes_of_string (P:=prog) w 9 22 5 ⟨#[c]⟩ underlying9 underlying22 underlying5,((Below.refl _ _).drew).alloc (Nat.le_refl _) _,?_⟩;have hb:∀O:Obj,(w.drew.alloc O).heap[w.heap.size]?=some O:=λO=>by show(w.heap.push O)[w.heap.size]?=_;simp
 unfold World.cell?;rw[hb];simp[bytesRow];rw[Array.getElem?_append_left (by simp)];rfl
theorem yEx(c:UInt8)(m:Nat)(w:World)(hm:m<=1000):
  Calls prog 44 #[.string ⟨#[c]⟩,.int .i64 m] w λe w'=>∃s:ByteArray,e=.returned (.string s)/\s.size<=1000/\Below w.heap.size w w':=by
 obtain⟨W2,y⟩:=qE (w.alloc (Obj.cells #[] 5):World);have hb2:Below w.heap.size w W2:=by rw[y];exact qB
 have aa:Hid (OwnB W2 w.heap.size w.heap.size 0 []):=by show OwnB W2 _ _ _ _;rw[y];exact yQt w w.heap.size (Nat.le_refl _)
 go_enter func44,ntmps44;go_wp2_with fail;rw[<-y];clear y;go_loopw[5,6] (λo i wr=>∃(k g cp:Nat)(zs:List UInt8),k<=m/\i=.int .i64 k/\o=.slice (some ⟨g,0,none⟩) k cp/\zs.length=k/\OwnB wr w.heap.size g cp zs/\Below w.heap.size w wr) (λ_ i _=>m-(intOf i).toNat);case atStart=>exact⟨0,_,0,[],zero_le _,rfl,rfl,rfl,aa.out,hb2⟩
 case round=>
  obtain⟨k,g,cp,zs,hk,rfl,rfl,a0,hO,hb⟩:=hrel;have HI:Hid (zs.length=k/\OwnB wr w.heap.size g cp zs):=⟨a0,hO⟩;have ac:=World.ownsRow.lt hO g rfl;have hs:=hb.size;clear a0 hO;by_cases hlt:k<m
  .have zk:(k:Int)<(m:Int):=by omega
   have a5:Hid (k=zs.length):=HI.1.symm;obtain⟨cx,W3,a6,hb3,a8⟩:=yW6 c wr;have ab:=hb3.size;go_wp2_with (at_builtin;refine yCg _ rfl _ _ rfl w.heap.size g cp _ wr.heap.size zs c rfl cx rfl a5.out ?hO ?hc ?hl ?hb ?_);case hO=>exact yAg (S:=λ_=>False) HI.2 (Chg.of_below hb3) (λk _ q=>q)
   case hc=>exact a8
   case hl=>rw[<-a5.out];omega
   case hb=>omega
   intro g' cp' w' a4 a3;have HN:Hid ((zs++ [c]).length=k+1/\OwnB w' w.heap.size g' cp' (zs++ [c])):=⟨by simp[HI.1],a4⟩;have a9:Below w.heap.size w w':=(hb.trans (hb3.mono hs)).grown a3 (by omega) (λj hj=>by cases hj;omega);clear a4 a3 a6;go_wp2_with fail;go_roundw;case rel=>exact⟨k+1,g',cp',zs++ [c],by omega,by go_num,rfl,HN.1,HN.2,a9⟩
   case measure=>go_light;simp[intOf];omega
  .have zk:¬(k:Int)<(m:Int):=by omega
   have a7:=yIx HI.2;rw[HI.1]at a7;have HS:Hid ((⟨zs.toArray⟩:ByteArray).size<=1000):=by show(⟨zs.toArray⟩:ByteArray).size<=1000;have:=HI.1;simp[ByteArray.size];omega
   go_wp2_with fail;go_ret;exact⟨_,rfl,HS.out,hb⟩
theorem yD0(base cb:Nat)(bv:Value)(n blk nw:Nat)(w:World)(h:yAd base cb bv n w)(h1:1<=nw)(h2:nw<=100)(hne:¬blk=cb)(hlt:blk<w.heap.size)(hw:∀k,k<nw->∃s:ByteArray,w.cell? ⟨blk,k,none⟩=some (.string s)/\s.size<=1000):
  Calls prog 94 #[.pointer (some ⟨cb,0,none⟩),.slice (some ⟨blk,0,none⟩) nw nw] w λe w'=>∃s:ByteArray,e=.returned (.string s)/\s.size<=1000/\Drew base cb bv n w w':=by
 have HD:Hid (yAd base cb bv n w/\∀k,k<nw->∃s:ByteArray,w.cell? ⟨blk,k,none⟩=some (.string s)/\s.size<=1000):=⟨h,hw⟩;clear h hw;go_enter func94,ntmps94;go_wp2_with fail;refine(yAh base cb bv n (nw:Int) _ HD.1 (by omega) (by omega)).mono ?_;rintro e w1 ⟨x,rfl,a3,a5,a0,y⟩;obtain⟨k,rfl⟩:=Int.eq_ofNat_of_zero_le a3;obtain⟨s,hs,a4⟩:=HD.2 k (by omega);have c1:w1.cell? ⟨blk,k,none⟩=some (.string s):=by rw[y.cell (p:=⟨blk,k,none⟩) hlt hne];exact hs
 have H1:Hid (yAd base cb bv n w1/\Chg (λk=>k=cb) w w1):=⟨a0,y⟩;clear a0 y hs;go_wp2_with fail;go_ret;exact⟨s,rfl,a4,H1.1,H1.2⟩
theorem yQq(base cb:Nat)(bv:Value)(n:Nat)(w:World)(h:yAd base cb bv n w):
  Calls prog 46 #[.pointer (some ⟨cb,0,none⟩)] w λe w'=>∃s:ByteArray,e=.returned (.string s)/\s.size<=1000/\Drew base cb bv n w w':=by
 have HD:Hid (yAd base cb bv n w):=h;clear h;go_enter func46,ntmps46;go_wp2_with fail;refine(yAx base cb bv n 40 _ HD.out (by omega) (by omega)).mono ?_;rintro e w1 ⟨v,rfl,hv,a4,a6⟩;have H1:Hid (yAd base cb bv n w1/\Chg (λk=>k=cb) w w1):=⟨a4,a6⟩;clear a4 a6;rcases hv with rfl|rfl
 .go_wp2_with fail;refine(yEx 97 64 _ (by omega)).mono ?_;rintro e w2 ⟨s,rfl,hs,hb2⟩;have H2:Hid (yAd base cb bv n w2/\Chg (λk=>k=cb) w w2):=⟨H1.1.below hb2,H1.2.trans (Chg.of_below hb2)⟩;go_wp2_with fail;go_ret;exact⟨s,rfl,hs,H2.1,H2.2⟩
 .go_wp2_with fail;refine(yAx base cb bv n 25 _ H1.1 (by omega) (by omega)).mono ?_;rintro e w2 ⟨v,rfl,hv,a3,a5⟩;have H2:Hid (yAd base cb bv n w2/\Chg (λk=>k=cb) w w2):=⟨a3,H1.2.trans a5⟩;clear a3 a5;have a7:=H2.1.lt.2;rcases hv with rfl|rfl
  .go_wp2_with fail;refine(yD0 base cb bv n _ 6 _ (H2.1.below (qB)) (by omega) (by omega) (by omega) (by simp) ?_).mono ?_
   .exact yX6
   .rintro e w3 ⟨s,rfl,hs,y,a0⟩;have H3:Hid (yAd base cb bv n w3/\Chg (λk=>k=cb) w w3):=⟨y,(H2.2.alloc_new _).trans a0⟩;clear y a0;go_wp2_with fail;go_ret;exact⟨s,rfl,hs,H3.1,H3.2⟩
  .go_wp2_with fail;refine(yAu base cb bv n 1 2 _ H2.1 (by omega) (by omega) (by omega)).mono ?_;rintro e w3 ⟨s,rfl,hs,y,a0⟩;have H3:Hid (yAd base cb bv n w3/\Chg (λk=>k=cb) w w3):=⟨y,H2.2.trans a0⟩;clear y a0;go_wp2_with fail;go_ret;exact⟨s,rfl,by omega,H3.1,H3.2⟩
theorem yW2(base cb:Nat)(bv:Value)(n:Nat)(w:World)(h:yAd base cb bv n w):
  Calls prog 159 #[.pointer (some ⟨cb,0,none⟩)] w λe w'=>∃s:ByteArray,e=.returned (.string s)/\s.size<=1000/\Drew base cb bv n w w':=by
 have HD:Hid (yAd base cb bv n w):=h;clear h;go_enter func159,ntmps159;go_wp2_with fail;refine(yAx base cb bv n 3 _ HD.out (by omega) (by omega)).mono ?_;rintro e w1 ⟨v,rfl,hv,y,a0⟩;have H1:Hid (yAd base cb bv n w1/\Chg (λk=>k=cb) w w1):=⟨y,a0⟩;clear y a0;have a3:=H1.1.lt.2;rcases hv with rfl|rfl
 .go_wp2_with fail;go_ret;exact⟨_,rfl,by decide,H1.1,H1.2⟩
 .go_wp2_with fail;refine(yD0 base cb bv n _ 6 _ (H1.1.below (qB)) (by omega) (by omega) (by omega) (by simp) ?_).mono ?_
  .exact yX6
  .exact xAr
theorem yTu(base cb:Nat)(bv:Value)(n:Nat)(w:World)(h:yAd base cb bv n w):
  Calls prog 160 #[.pointer (some ⟨cb,0,none⟩)] w λe w'=>∃s:ByteArray,e=.returned (.string s)/\s.size<=1000/\Drew base cb bv n w w':=by
 have HD:Hid (yAd base cb bv n w):=h;clear h;go_enter func160,ntmps160;go_wp2_with fail;refine(yAx base cb bv n 12 _ HD.out (by omega) (by omega)).mono ?_;rintro e w1 ⟨v,rfl,hv,y,a0⟩;have H1:Hid (yAd base cb bv n w1/\Chg (λk=>k=cb) w w1):=⟨y,a0⟩;clear y a0;have a3:=H1.1.lt.2;rcases hv with rfl|rfl
 .go_wp2_with fail;refine(yD0 base cb bv n _ 4 _ (H1.1.below (qB)) (by omega) (by omega) (by omega) (by simp) ?_).mono ?_
  .exact xAn
  .exact xAr
 .go_wp2_with fail;refine(yAu base cb bv n 1 2 _ H1.1 (by omega) (by omega) (by omega)).mono ?_;exact yX1
theorem yYe(base cb:Nat)(bv:Value)(n:Nat)(w:World)(h:yAd base cb bv n w):
  Calls prog 161 #[.pointer (some ⟨cb,0,none⟩)] w λe w'=>∃t:Int,e=.returned (.int .u64 t)/\(0<=t/\t<=18446744073709551615)/\Drew base cb bv n w w':=by
 have HD:Hid (yAd base cb bv n w):=h;clear h;go_enter func161,ntmps161;go_wp2_with fail;refine(yAx base cb bv n 30 _ HD.out (by omega) (by omega)).mono ?_;rintro e w1 ⟨v,rfl,hv,a0,a4⟩;have H1:Hid (yAd base cb bv n w1/\Chg (λk=>k=cb) w w1):=⟨a0,a4⟩;clear a0 a4;rcases hv with rfl|rfl
 .go_wp2_with fail;go_ret;exact⟨_,rfl,⟨by omega,by omega⟩,H1.1,H1.2⟩
 .go_wp2_with fail;refine(yAh base cb bv n 6 _ H1.1 (by omega) (by omega)).mono ?_;rintro e w2 ⟨x,rfl,a6,a5,y,a3⟩;have H2:Hid (yAd base cb bv n w2/\Chg (λk=>k=cb) w w2):=⟨y,H1.2.trans a3⟩;clear y a3;go_wp2_with fail;go_ret;exact⟨x,rfl,⟨by omega,by omega⟩,H2.1,H2.2⟩
structure Ent.small(e:Ent):Prop where
 row:e.row.size<=1000
 fam:e.fam.size<=1000
 qual:e.qual.size<=1000
 val:e.val.size<=1000
 ts:0<=e.ts/\e.ts<=18446744073709551615
 kind:0<=e.kind/\e.kind<=3
theorem Ent.small.ok{e:Ent}(h:e.small):e.ok where
 row:=Nat.le_trans h.row (by decide)
 fam:=Nat.le_trans h.fam (by decide)
 qual:=Nat.le_trans h.qual (by decide)
 val:=Nat.le_trans h.val (by decide)
 ts:=by
  have:=h.ts;have h1:IntKind.u64.min=0:=by decide
  have h2:IntKind.u64.max=18446744073709551615:=by decide
  simp[Lit.wf,h1,h2];omega
 kind:=by
  have:=h.kind;have h1:IntKind.i64.min= -9223372036854775808:=by decide
  have h2:IntKind.i64.max=9223372036854775807:=by decide
  simp[Lit.wf,h1,h2];omega
structure WInv(base cb:Nat)(bv:Value)(n:Nat)(w:World)(eb rb:Nat)(f:Ent)(wr:World):Prop where
 e:OwnE wr w.heap.size eb 1 [f]
 r:OwnE wr w.heap.size rb 1 [yGi]
 ne:¬eb=rb
 d:yAd base cb bv n wr
 c:Chg (λk=>k=cb) w wr
 lt:cb<w.heap.size
 hb:base<=w.heap.size
variable {eb rb:Nat} {f:Ent}
theorem WInv.call{w1:World}(h:WInv base cb bv n w eb rb f wr)(hd:Drew base cb bv n wr w1):WInv base cb bv n w eb rb f w1:=
 ⟨yAg h.e hd.2 (λk q=>by simp[Value.ownBlock]at q;subst q;have:=h.e.lt.1;have:=h.lt;omega),yAg h.r hd.2 (λk q=>by simp[Value.ownBlock]at q;subst q;have:=h.r.lt.1;have:=h.lt;omega),h.ne,hd.1,h.c.trans hd.2,h.lt,h.hb⟩
theorem WInv.set(h:WInv base cb bv n w eb rb f wr)(j:Nat)(f':Ent)(u:Value)(hj:j<6)(hc:f'.cells=f.cells.set j u):WInv base cb bv n w eb rb f' (wr.setCell ⟨eb,j,none⟩ u):=by have h1:=h.e.set 0 j f f' u rfl hj hc;simp only[Nat.zero_mul,Nat.zero_add]at h1;have hl:=h.e.lt;have a0:=h.lt;have a3:=h.hb;have y:Chg (λk=>k=eb) wr (wr.setCell ⟨eb,j,none⟩ u):=Chg.of_set _ _ _ _ rfl;refine⟨h1,yAg h.r y (λk q=>by simp[Value.ownBlock]at q;subst q;exact λq=>h.ne q.symm),h.ne,h.d.chg y (by omega) (λk q=>by omega),?_,h.lt,h.hb⟩;exact Chg.grown_new h.c (yAk wr eb j u) (λk hk=>by cases hk;exact hl.1)
theorem WInv.cells(h:WInv base cb bv n w eb rb f wr):
  (wr.cell? ⟨eb,0,none⟩=some (.string f.row)/\wr.cell? ⟨eb,1,none⟩=some (.string f.fam)/\wr.cell? ⟨eb,2,none⟩=some (.string f.qual)/\wr.cell? ⟨eb,3,none⟩=some (.int .u64 f.ts)/\wr.cell? ⟨eb,4,none⟩=some (.int .i64 f.kind)/\wr.cell? ⟨eb,5,none⟩=some (.string f.val))/\∀j,wr.frozen? ⟨eb,j,none⟩=false:=by
 have:=h.e.at 0 f rfl;simp only[Nat.zero_add,Nat.zero_mul]at this;exact⟨this,λj=>World.ownsRow.frozenAt h.e j⟩
theorem WInv.back(h:WInv base cb bv n w eb rb f wr):
  (wr.cell? ⟨rb,0,none⟩=some (.string ⟨#[]⟩)/\wr.cell? ⟨rb,1,none⟩=some (.string ⟨#[]⟩)/\wr.cell? ⟨rb,2,none⟩=some (.string ⟨#[]⟩)/\wr.cell? ⟨rb,3,none⟩=some (.int .u64 0)/\wr.cell? ⟨rb,4,none⟩=some (.int .i64 0)/\wr.cell? ⟨rb,5,none⟩=some (.string ⟨#[]⟩))/\(∀j,wr.frozen? ⟨rb,j,none⟩=false)/\
  (∀W9,W9=((((((wr.setCell ⟨rb,0,none⟩ (.string f.row)).setCell ⟨rb,1,none⟩ (.string f.fam)).setCell ⟨rb,2,none⟩ (.string f.qual)).setCell ⟨rb,3,none⟩ (.int .u64 f.ts)).setCell ⟨rb,4,none⟩ (.int .i64 f.kind)).setCell ⟨rb,5,none⟩ (.string f.val))->
   (W9.cell? ⟨rb,0,none⟩=some (.string f.row)/\W9.cell? ⟨rb,1,none⟩=some (.string f.fam)/\W9.cell? ⟨rb,2,none⟩=some (.string f.qual)/\W9.cell? ⟨rb,3,none⟩=some (.int .u64 f.ts)/\W9.cell? ⟨rb,4,none⟩=some (.int .i64 f.kind)/\W9.cell? ⟨rb,5,none⟩=some (.string f.val))/\yAd base cb bv n W9/\Chg (λk=>k=cb) w W9):=by
 have h0:=h.r.at 0 yGi rfl;simp only[Nat.zero_add,Nat.zero_mul]at h0;refine⟨h0,λj=>World.ownsRow.frozenAt h.r j,λW9 hW=>?_⟩;have hp:=h.r.put 0 yGi f rfl;simp only[Nat.zero_mul,Nat.zero_add]at hp;have h1:=hp.at 0 f rfl;simp only[Nat.zero_add,Nat.zero_mul]at h1;have hl:=h.r.lt;have a3:=h.lt;have a4:=h.hb;have y:Chg (λk=>k=rb) wr W9:=by rw[hW];exact(((((Chg.of_set (S:=λk=>k=rb) _ _ _ _ rfl).trans (Chg.of_set (S:=λk=>k=rb) _ _ _ _ rfl)).trans (Chg.of_set (S:=λk=>k=rb) _ _ _ _ rfl)).trans (Chg.of_set (S:=λk=>k=rb) _ _ _ _ rfl)).trans (Chg.of_set (S:=λk=>k=rb) _ _ _ _ rfl)).trans (Chg.of_set (S:=λk=>k=rb) _ _ _ _ rfl)
 refine⟨by rw[hW];exact h1,h.d.chg y (by omega) (λk q=>by omega),?_⟩;have a0:Chg (λk=>k=cb) w W9:=⟨y.os.trans h.c.os,y.tape.trans h.c.tape,y.output.trans h.c.output,Nat.le_trans h.c.size y.size,λk hk hn=>(y.block k (Nat.lt_of_lt_of_le hk h.c.size) (by omega)).trans (h.c.block k hk hn)⟩;exact a0
theorem yGv(w:World)(base:Nat)(f:Ent)(hb:base<=w.heap.size):OwnE (w.alloc (Obj.cells #[.string f.row,.string f.fam,.string f.qual,.int .u64 f.ts,.int .i64 f.kind,.string f.val] 64)) base w.heap.size 1 [f]:=
 World.ownsRow_lit (base:=base) (e:=64) (size:=6) w #[.string f.row,.string f.fam,.string f.qual,.int .u64 f.ts,.int .i64 f.kind,.string f.val] 1 hb (by decide) rfl
theorem yRl(base cb:Nat)(bv:Value)(n:Nat)(w:World)(h:yAd base cb bv n w):
  Calls prog 98 #[.pointer (some ⟨cb,0,none⟩)] w λr w'=>∃e:Ent,r=.returned e.v/\e.small/\Drew base cb bv n w w':=by
 have aa:=h.lt;have ai:=h.base;obtain⟨Wa,a0⟩:=qE (w.alloc (Obj.cells #[.string ⟨#[]⟩,.string ⟨#[]⟩,.string ⟨#[]⟩,.int .u64 0,.int .i64 0,.string ⟨#[]⟩] 64):World);have a8:Below w.heap.size w Wa:=by rw[a0];exact qB
 have a9:Wa.heap.size=w.heap.size+1:=by rw[a0];simp
 obtain⟨Wb,a4⟩:=qE (Wa.alloc (Obj.cells #[.string ⟨#[]⟩,.string ⟨#[]⟩,.string ⟨#[]⟩,.int .u64 0,.int .i64 0,.string ⟨#[]⟩] 64):World);have a3:Below Wa.heap.size Wa Wb:=by rw[a4];exact qB
 have H0:Hid (WInv base cb bv n w (w.heap.size+1) w.heap.size yGi Wb):=by
  refine⟨?_,?_,by omega,(h.below a8).below a3,(Chg.of_below a8).trans (Chg.of_below a3),aa.2,ai⟩
  .rw[a4,<-a9];exact yGv Wa w.heap.size yGi (by omega)
  .have:OwnE Wa w.heap.size w.heap.size 1 [yGi]:=by rw[a0];exact yGv w w.heap.size yGi (Nat.le_refl _)
   exact this.below a3 (by omega)
 clear h aa;go_enter func98,ntmps98;go_wp2_with fail;rw[<-a0,<-a4];clear a0 a4 a8 a3 a9;generalize w.heap.size+1=eb at*;refine(yQq base cb bv n _ H0.d).mono ?_;rintro e w1 ⟨s1,rfl,a7,ag⟩;have h1:=H0.call ag;obtain⟨⟨c0,_⟩,f1⟩:=h1.cells;have am:=f1 0;have H1:Hid (WInv base cb bv n w eb w.heap.size {yGi with row:=s1} (w1.setCell ⟨eb,0,none⟩ (.string s1))):=h1.set 0 _ _ (by omega) rfl;clear h1 ag f1;go_wp2_with fail;refine(yW2 base cb bv n _ H1.d).mono ?_;rintro e w2 ⟨s2,rfl,a6,af⟩;have h2:=H1.call af;obtain⟨⟨_,c1,_⟩,f1⟩:=h2.cells;have al:=f1 1;have H2:Hid (WInv base cb bv n w eb w.heap.size {yGi with row:=s1,fam:=s2} (w2.setCell ⟨eb,1,none⟩ (.string s2))):=h2.set 1 _ _ (by omega) rfl;clear h2 af f1 c0 am;go_wp2_with fail;refine(yTu base cb bv n _ H2.d).mono ?_;rintro e w3 ⟨s3,rfl,a5,ae⟩;have h3:=H2.call ae;obtain⟨⟨_,_,c2,_⟩,f1⟩:=h3.cells;have ak:=f1 2;have H3:Hid (WInv base cb bv n w eb w.heap.size {yGi with row:=s1,fam:=s2,qual:=s3} (w3.setCell ⟨eb,2,none⟩ (.string s3))):=h3.set 2 _ _ (by omega) rfl;clear h3 ae f1 c1 al;go_wp2_with fail;refine(yYe base cb bv n _ H3.d).mono ?_;rintro e w4 ⟨t,rfl,ht,ad⟩;have h4:=H3.call ad;obtain⟨⟨_,_,_,c3,_⟩,f1⟩:=h4.cells;have aj:=f1 3;have H4:Hid (WInv base cb bv n w eb w.heap.size {yGi with row:=s1,fam:=s2,qual:=s3,ts:=t} (w4.setCell ⟨eb,3,none⟩ (.int .u64 t))):=h4.set 3 _ _ (by omega) rfl;clear h4 ad f1 c2 ak;go_wp2_with fail;refine(yAh base cb bv n 10 _ H4.d (by omega) (by omega)).mono ?_;rintro e w5 ⟨x,rfl,ao,an,ac⟩;have H5:Hid (WInv base cb bv n w eb w.heap.size {yGi with row:=s1,fam:=s2,qual:=s3,ts:=t} w5):=H4.call ac;clear ac c3 aj
 have fin:∀(f:Ent)(wr:World),WInv base cb bv n w eb w.heap.size f wr->f.small->∀W9,W9=((((((wr.setCell ⟨w.heap.size,0,none⟩ (.string f.row)).setCell ⟨w.heap.size,1,none⟩ (.string f.fam)).setCell ⟨w.heap.size,2,none⟩ (.string f.qual)).setCell ⟨w.heap.size,3,none⟩ (.int .u64 f.ts)).setCell ⟨w.heap.size,4,none⟩ (.int .i64 f.kind)).setCell ⟨w.heap.size,5,none⟩ (.string f.val))->
   ∃e:Ent,Ending.returned (Value.agg #[.string f.row,.string f.fam,.string f.qual,.int .u64 f.ts,.int .i64 f.kind,.string f.val])=.returned e.v/\e.small/\Drew base cb bv n w W9:=λf wr hw hf W9 hW=>⟨f,rfl,hf,(hw.back.2.2 W9 hW).2⟩
 have HF:Hid (∀(f:Ent)(wr:World),WInv base cb bv n w eb w.heap.size f wr->f.small->∀W9,W9=((((((wr.setCell ⟨w.heap.size,0,none⟩ (.string f.row)).setCell ⟨w.heap.size,1,none⟩ (.string f.fam)).setCell ⟨w.heap.size,2,none⟩ (.string f.qual)).setCell ⟨w.heap.size,3,none⟩ (.int .u64 f.ts)).setCell ⟨w.heap.size,4,none⟩ (.int .i64 f.kind)).setCell ⟨w.heap.size,5,none⟩ (.string f.val))->
   ∃e:Ent,Ending.returned (Value.agg #[.string f.row,.string f.fam,.string f.qual,.int .u64 f.ts,.int .i64 f.kind,.string f.val])=.returned e.v/\e.small/\Drew base cb bv n w W9):=fin
 clear fin;by_cases hx7:x<7
 .go_wp2_with fail;refine(yAu base cb bv n 0 3 _ H5.d (by omega) (by omega) (by omega)).mono ?_;rintro e w6 ⟨s6,rfl,aq,ab⟩;have h6:=H5.call ab;obtain⟨⟨_,_,_,_,_,c5⟩,f1⟩:=h6.cells;have ah:=f1 5;have H6:Hid (WInv base cb bv n w eb w.heap.size ⟨s1,s2,s3,t,0,s6⟩ (w6.setCell ⟨eb,5,none⟩ (.string s6))/\(⟨s1,s2,s3,t,0,s6⟩:Ent).small):=⟨h6.set 5 _ _ (by omega) rfl,⟨a7,a6,a5,by show s6.size<=1000;omega,ht,by simp⟩⟩;clear h6 ab f1;go_upto_region 12 with fail;obtain⟨W7,y⟩:=qE (w6.setCell ⟨eb,5,none⟩ (.string s6):World);rw[<-y];have H7:Hid (WInv base cb bv n w eb w.heap.size ⟨s1,s2,s3,t,0,s6⟩ W7/\(⟨s1,s2,s3,t,0,s6⟩:Ent).small):=by rw[y];exact H6.out
  clear y H6;obtain⟨⟨k0,k1,k2,k3,k4,k5⟩,_⟩:=H7.1.cells;obtain⟨⟨l0,l1,l2,l3,l4,l5⟩,lf,_⟩:=H7.1.back;simp only at k0 k1 k2 k3 k4 k5;obtain⟨W9,hW9⟩:=qE (((((((W7.setCell ⟨w.heap.size,0,none⟩ (.string (⟨s1,s2,s3,t,0,s6⟩:Ent).row)).setCell ⟨w.heap.size,1,none⟩ (.string (⟨s1,s2,s3,t,0,s6⟩:Ent).fam)).setCell ⟨w.heap.size,2,none⟩ (.string (⟨s1,s2,s3,t,0,s6⟩:Ent).qual)).setCell ⟨w.heap.size,3,none⟩ (.int .u64 (⟨s1,s2,s3,t,0,s6⟩:Ent).ts)).setCell ⟨w.heap.size,4,none⟩ (.int .i64 (⟨s1,s2,s3,t,0,s6⟩:Ent).kind)).setCell ⟨w.heap.size,5,none⟩ (.string (⟨s1,s2,s3,t,0,s6⟩:Ent).val)):World);obtain⟨⟨p0,p1,p2,p3,p4,p5⟩,_⟩:=H7.1.back.2.2 W9 hW9;have HR:=HF.out ⟨s1,s2,s3,t,0,s6⟩ W7 H7.1 H7.2 W9 hW9;exact yXy
 .cases hx7e:(x==7)
  .obtain⟨⟨_,_,_,_,c4,_⟩,f1⟩:=H5.cells;have ah:=f1 4;have H6:Hid (WInv base cb bv n w eb w.heap.size ⟨s1,s2,s3,t,1,⟨#[]⟩⟩ (w5.setCell ⟨eb,4,none⟩ (.int .i64 1))/\(⟨s1,s2,s3,t,1,⟨#[]⟩⟩:Ent).small):=⟨H5.set 4 _ _ (by omega) rfl,⟨a7,a6,a5,by show(0:Nat)<=1000;omega,ht,by simp⟩⟩;clear f1;go_upto_region 12 with fail;obtain⟨W7,y⟩:=qE (w5.setCell ⟨eb,4,none⟩ (.int .i64 1):World);rw[<-y];have H7:Hid (WInv base cb bv n w eb w.heap.size ⟨s1,s2,s3,t,1,⟨#[]⟩⟩ W7/\(⟨s1,s2,s3,t,1,⟨#[]⟩⟩:Ent).small):=by rw[y];exact H6.out
   clear y H6;obtain⟨⟨k0,k1,k2,k3,k4,k5⟩,_⟩:=H7.1.cells;obtain⟨⟨l0,l1,l2,l3,l4,l5⟩,lf,_⟩:=H7.1.back;simp only at k0 k1 k2 k3 k4 k5;obtain⟨W9,hW9⟩:=qE (((((((W7.setCell ⟨w.heap.size,0,none⟩ (.string (⟨s1,s2,s3,t,1,⟨#[]⟩⟩:Ent).row)).setCell ⟨w.heap.size,1,none⟩ (.string (⟨s1,s2,s3,t,1,⟨#[]⟩⟩:Ent).fam)).setCell ⟨w.heap.size,2,none⟩ (.string (⟨s1,s2,s3,t,1,⟨#[]⟩⟩:Ent).qual)).setCell ⟨w.heap.size,3,none⟩ (.int .u64 (⟨s1,s2,s3,t,1,⟨#[]⟩⟩:Ent).ts)).setCell ⟨w.heap.size,4,none⟩ (.int .i64 (⟨s1,s2,s3,t,1,⟨#[]⟩⟩:Ent).kind)).setCell ⟨w.heap.size,5,none⟩ (.string (⟨s1,s2,s3,t,1,⟨#[]⟩⟩:Ent).val)):World);obtain⟨⟨p0,p1,p2,p3,p4,p5⟩,_⟩:=H7.1.back.2.2 W9 hW9;have HR:=HF.out ⟨s1,s2,s3,t,1,⟨#[]⟩⟩ W7 H7.1 H7.2 W9 hW9;exact yXy
  .obtain⟨⟨_,_,_,_,c4,_⟩,f1⟩:=H5.cells;have ah:=f1 4;have H6:Hid (WInv base cb bv n w eb w.heap.size ⟨s1,s2,s3,t,2,⟨#[]⟩⟩ (w5.setCell ⟨eb,4,none⟩ (.int .i64 2))/\(⟨s1,s2,s3,t,2,⟨#[]⟩⟩:Ent).small):=⟨H5.set 4 _ _ (by omega) rfl,⟨a7,a6,a5,by show(0:Nat)<=1000;omega,ht,by simp⟩⟩;clear f1;go_upto_region 12 with fail;obtain⟨W7,y⟩:=qE (w5.setCell ⟨eb,4,none⟩ (.int .i64 2):World);rw[<-y];have H7:Hid (WInv base cb bv n w eb w.heap.size ⟨s1,s2,s3,t,2,⟨#[]⟩⟩ W7/\(⟨s1,s2,s3,t,2,⟨#[]⟩⟩:Ent).small):=by rw[y];exact H6.out
   clear y H6;obtain⟨⟨k0,k1,k2,k3,k4,k5⟩,_⟩:=H7.1.cells;obtain⟨⟨l0,l1,l2,l3,l4,l5⟩,lf,_⟩:=H7.1.back;simp only at k0 k1 k2 k3 k4 k5;obtain⟨W9,hW9⟩:=qE (((((((W7.setCell ⟨w.heap.size,0,none⟩ (.string (⟨s1,s2,s3,t,2,⟨#[]⟩⟩:Ent).row)).setCell ⟨w.heap.size,1,none⟩ (.string (⟨s1,s2,s3,t,2,⟨#[]⟩⟩:Ent).fam)).setCell ⟨w.heap.size,2,none⟩ (.string (⟨s1,s2,s3,t,2,⟨#[]⟩⟩:Ent).qual)).setCell ⟨w.heap.size,3,none⟩ (.int .u64 (⟨s1,s2,s3,t,2,⟨#[]⟩⟩:Ent).ts)).setCell ⟨w.heap.size,4,none⟩ (.int .i64 (⟨s1,s2,s3,t,2,⟨#[]⟩⟩:Ent).kind)).setCell ⟨w.heap.size,5,none⟩ (.string (⟨s1,s2,s3,t,2,⟨#[]⟩⟩:Ent).val)):World);obtain⟨⟨p0,p1,p2,p3,p4,p5⟩,_⟩:=H7.1.back.2.2 W9 hW9;have HR:=HF.out ⟨s1,s2,s3,t,2,⟨#[]⟩⟩ W7 H7.1 H7.2 W9 hW9;exact yXy
theorem yWk(bv:Value)(n:Nat)(w:World)(h:yEj w w.heap.size bv n):
  Calls prog 14 #[bv] w λe w'=>e=.returned (.pointer (some ⟨w.heap.size,0,none⟩))/\yAd w.heap.size w.heap.size bv n w'/\Below w.heap.size w w':=by
 have HC:Hid (yEj w w.heap.size bv n):=h;have hn:=h.1;have fin:∀x:Int,yAd w.heap.size w.heap.size bv n (w.alloc (Obj.cells #[bv,.int .i64 0,.int .i64 x] 85))/\Below w.heap.size w (w.alloc (Obj.cells #[bv,.int .i64 0,.int .i64 x] 85)):=λx=>by have hb:Below w.heap.size w (w.alloc (Obj.cells #[bv,.int .i64 0,.int .i64 x] 85)):=qB;refine⟨⟨⟨0,x,zero_le _,?_⟩,HC.chg (T:=λ_=>False) (Chg.of_below hb) (Nat.le_refl _) (λk q=>q.elim),hb.size⟩,hb⟩;exact World.ownsRow_lit (base:=w.heap.size) (e:=85) (size:=3) w #[bv,.int .i64 0,.int .i64 x] 1 (Nat.le_refl _) (by decide) rfl
 have HF:Hid (∀x:Int,yAd w.heap.size w.heap.size bv n (w.alloc (Obj.cells #[bv,.int .i64 0,.int .i64 x] 85))/\Below w.heap.size w (w.alloc (Obj.cells #[bv,.int .i64 0,.int .i64 x] 85))):=fin;clear fin;rcases h.2 with⟨a,cap,rfl,rfl⟩|⟨b,off,cap,rfl,a4,hx⟩
 .go_enter func14,ntmps14;go_wp2_with fail;go_loopw[3,4] (λh i wr=>(∃x:Int,h=.int .i64 x)/\i=.int .i64 0/\wr=w) (λ_ _ _=>0);case atStart=>exact⟨⟨_,rfl⟩,rfl,rfl⟩
  case round=>obtain⟨⟨x,rfl⟩,rfl,rfl⟩:=hrel;go_wp2_with fail;go_ret;exact⟨rfl,(HF.out x).1,(HF.out x).2⟩
 .have HX:Hid (∀k,k<n->∃x:Int,w.cell? ⟨b,off+k,none⟩=some (.int .u8 x)/\0<=x/\x<256):=hx;clear hx h;go_enter func14,ntmps14;go_wp2_with fail;go_loopw[3,4] (λh i wr=>∃(k:Nat)(x:Int),k<=n/\h=.int .i64 x/\i=.int .i64 k/\wr=w) (λ_ i _=>n-(intOf i).toNat);case atStart=>exact⟨0,_,zero_le _,rfl,rfl,rfl⟩
  case round=>
   obtain⟨k,x,hk,rfl,rfl,rfl⟩:=hrel;by_cases hkn:k<n
   .obtain⟨y,hc,a3,a0⟩:=HX.out k hkn;have zk:(k:Int)<(n:Int):=by omega
    go_wp2_with fail;go_roundw;case rel=>exact⟨k+1,_,by omega,rfl,by go_num,trivial⟩
    case measure=>go_light;simp[intOf];omega
   .have zk:¬(k:Int)<(n:Int):=by omega
    go_wp2_with fail;go_ret;exact⟨rfl,(HF.out x).1,(HF.out x).2⟩
def TxtP(base cb:Nat)(bv:Value)(n m:Nat)(w:World)(e:Ending)(w':World):Prop:=∃s:ByteArray,e=.returned (.string s)/\s.size<=m/\Drew base cb bv n w w'
def yS3(base cb:Nat)(bv:Value)(n d m:Nat):Prop:=∀w,yAd base cb bv n w->Calls prog 214 #[.pointer (some ⟨cb,0,none⟩),.int .i64 d] w (TxtP base cb bv n m w)
def yVw(base cb:Nat)(bv:Value)(n d m:Nat):Prop:=∀w,yAd base cb bv n w->Calls prog 243 #[.pointer (some ⟨cb,0,none⟩),.int .i64 d] w (TxtP base cb bv n m w)
theorem yDq(a b:ByteArray):(a++b).size=a.size+b.size:=ByteArray.size_append
theorem yL9(base cb:Nat)(bv:Value)(n d m:Nat)(hm:m<=100000)(hd:d<=5)(HT0:0<d->yS3 base cb bv n (d-1) m):yVw base cb bv n d (m+1002):=by
 intro w h;have HT:Hid (0<d->yS3 base cb bv n (d-1) m):=HT0;have HD:Hid (yAd base cb bv n w):=h;have a7:=h.lt.2;clear h HT0;go_enter func243,ntmps243;go_wp2_with fail;refine(yAh base cb bv n 14 _ HD.out (by omega) (by omega)).mono ?_;rintro e w1 ⟨x,rfl,a5,a4,y,a0⟩;have H1:Hid (yAd base cb bv n w1/\Chg (λk=>k=cb) w w1):=⟨y,a0⟩;have a8:=y.lt.2;clear y a0;by_cases hk:x<6\/d=0
 .have hq:Hid (x<6\/d=0):=hk;by_cases h6:x<6
  .go_wp2_with fail;refine(yAu base cb bv n 1 1 _ H1.1 (by omega) (by omega) (by omega)).mono ?_;exact yX1
  .obtain rfl:d=0:=by omega
   go_wp2_with fail;refine(yAu base cb bv n 1 1 _ H1.1 (by omega) (by omega) (by omega)).mono ?_;exact yX1
 have h6:¬x<6:=λq=>hk (.inl q);have a3:0<d:=Nat.pos_of_ne_zero λq=>hk (.inr q);have a6:((d:Int)==0)=false:=by rw[beq_eq_false_iff_ne];omega
 clear hk;by_cases h7:x=6
 .subst h7;go_wp2_with fail;go_ret;exact⟨_,rfl,by show 1<=_;omega,H1.1,H1.2⟩
 have b6:=qn h7
 by_cases h8:x=7
 .subst h8;go_wp2_with fail;refine(yD0 base cb bv n _ 6 _ ((H1.1).below (qB)) (by omega) (by omega) (by omega) (by simp) ?_).mono ?_
  .exact yX6
  .exact xAs
 have b7:=qn h8
 by_cases h9:x=8
 .subst h9;go_wp2_with fail;refine(yD0 base cb bv n _ 4 _ ((H1.1).below (qB)) (by omega) (by omega) (by omega) (by simp) ?_).mono ?_
  .exact xAn
  .exact xAs
 have b8:=qn h9
 have ed:Hid (((d:Int)-1)=((d-1:Nat):Int)):=by show(d:Int)-1=_;omega
 go_wp2_with fail;rw[ed.out];refine(HT.out a3 w1 H1.1).mono ?_;rintro e w3 ⟨s,rfl,hs,hD3,hC3⟩;have H3:Hid (yAd base cb bv n w3/\Chg (λk=>k=cb) w w3):=⟨hD3,H1.2.trans hC3⟩;clear hD3 hC3;go_wp2_with fail;go_ret;exact⟨_,rfl,by simp only[yDq];show 1+s.size+1<=_;omega,H3.1,H3.2⟩
theorem yL8(base cb:Nat)(bv:Value)(n d m:Nat)(hm:m<=100000)(hd:d<=5)(HP0:yVw base cb bv n d m):yS3 base cb bv n d (3*m+10):=by
 intro w h;have HP:Hid (yVw base cb bv n d m):=HP0;have HD:Hid (yAd base cb bv n w):=h;clear h HP0;go_enter func214,ntmps214;go_wp2_with fail;refine(yAh base cb bv n 4 _ HD.out (by omega) (by omega)).mono ?_;rintro e w1 ⟨y,rfl,aa,ac,a5,a7⟩;have H1:Hid (yAd base cb bv n w1/\Chg (λk=>k=cb) w w1):=⟨a5,a7⟩;clear a5 a7;obtain⟨q,rfl⟩:=Int.eq_ofNat_of_zero_le aa;go_wp2_with fail;go_loopw[5,7] (λo i wr=>∃(k:Nat)(s:ByteArray),k<=q/\i=.int .i64 k/\o=.string s/\Hid (s.size<=k*(m+2))/\Hid (yAd base cb bv n wr/\Chg (λk=>k=cb) w wr)) (λ_ i _=>q-(intOf i).toNat);case atStart=>exact⟨0,_,zero_le _,rfl,rfl,Nat.le_of_eq (by simp[ByteArray.size]),H1.out⟩
 case round=>
  obtain⟨k,s,hk,rfl,rfl,HS,HI⟩:=hrel;have ag:s.size<=400000:=by have a1:=HS.out;have a2:k*(m+2)<=3*(m+2):=mul_le_mul_right _ (by omega);omega
  by_cases hlt:k<q
  .have zk:(k:Int)<(q:Int):=by omega
   go_wp2_with fail;refine(HP.out _ HI.1).mono ?_;rintro e w2 ⟨t,rfl,ht,a0,a3⟩;have H2:Hid (yAd base cb bv n w2/\Chg (λk=>k=cb) w w2):=⟨a0,HI.2.trans a3⟩;have a8:Hid (t.size<=m):=ht;have af:t.size<=100000:=by omega
   have ah:(s++t).size<=500000:=by rw[yDq];omega
   clear a0 a3 ht;go_wp2_with fail;refine(yAh base cb bv n 9 _ H2.1 (by omega) (by omega)).mono ?_;rintro e w3 ⟨x,rfl,ae,ad,a4,a6⟩;have H3:Hid (yAd base cb bv n w3/\Chg (λk=>k=cb) w w3):=⟨a4,H2.2.trans a6⟩;clear a4 a6;have e1:Hid ((s++t).size<=(k+1)*(m+2)):=by show _<=_;have a1:=HS.out;have a2:=a8.out;rw[yDq,Nat.add_mul];omega
   have e2:Hid (∀c:UInt8,(s++t++(⟨#[c]⟩:ByteArray)).size<=(k+1)*(m+2)):=by intro c;have a1:=HS.out;have a2:=a8.out;rw[yDq,yDq,Nat.add_mul];show s.size+t.size+1<=_;omega
   by_cases h0:x=0
   .subst h0;go_wp2_with fail;go_roundw;case rel=>exact⟨k+1,_,by omega,by go_num,rfl,e2.out 42,H3.out⟩
    case measure=>go_light;simp[intOf];omega
   have b0:=qn h0
   by_cases h1:x=1
   .subst h1;go_wp2_with fail;go_roundw;case rel=>exact⟨k+1,_,by omega,by go_num,rfl,e2.out 43,H3.out⟩
    case measure=>go_light;simp[intOf];omega
   have b1:=qn h1
   by_cases h2:x=2
   .subst h2;go_wp2_with fail;go_roundw;case rel=>exact⟨k+1,_,by omega,by go_num,rfl,e2.out 63,H3.out⟩
    case measure=>go_light;simp[intOf];omega
   have b2:=qn h2
   by_cases h3:x=3
   .subst h3;by_cases hn:k+1<q
    .have ab:((k:Int)+1<(q:Int)):=by omega
     go_wp2_with fail;go_roundw;case rel=>exact⟨k+1,_,by omega,by go_num,rfl,e2.out 124,H3.out⟩
     case measure=>go_light;simp[intOf];omega
    .have ab:¬((k:Int)+1<(q:Int)):=by omega
     exact yZw
   have b3:=qn h3
   exact yZw
  .have zk:¬(k:Int)<(q:Int):=by omega
   have a9:Hid (s.size<=3*m+6):=by show _<=_;have a1:=HS.out;have a2:k*(m+2)<=3*(m+2):=mul_le_mul_right _ (by omega);omega
   go_wp2_with fail;refine(yAx base cb bv n 14 _ HI.1 (by omega) (by omega)).mono ?_;rintro e w2 ⟨v,rfl,hv,a0,a3⟩;have H2:Hid (yAd base cb bv n w2/\Chg (λk=>k=cb) w w2):=⟨a0,HI.2.trans a3⟩;clear a0 a3;rcases hv with rfl|rfl
   .go_wp2_with fail;go_ret;exact⟨_,rfl,by rw[yDq];have:=a9.out;show s.size+1<=_;omega,H2.out⟩
   .go_wp2_with fail;go_ret;exact⟨_,rfl,by have:=a9.out;omega,H2.out⟩
theorem yRy(base cb:Nat)(bv:Value)(n:Nat):yS3 base cb bv n 0 3016:=yL8 base cb bv n 0 1002 (by omega) (by omega) (yL9 base cb bv n 0 0 (by omega) (by omega) (λq=>absurd q (by omega)))
theorem yTx(base cb:Nat)(bv:Value)(n:Nat):yS3 base cb bv n 1 12064:=yL8 base cb bv n 1 4018 (by omega) (by omega) (yL9 base cb bv n 1 3016 (by omega) (by omega) (λ_=>yRy base cb bv n))
theorem yTw(base cb:Nat)(bv:Value)(n:Nat):yS3 base cb bv n 2 39208:=yL8 base cb bv n 2 13066 (by omega) (by omega) (yL9 base cb bv n 2 12064 (by omega) (by omega) (λ_=>yTx base cb bv n))
section
section
variable {F:Fence} {n:Nat} {P:Program} {ops:Array Oper} {Q:Exit->Act->World->Prop} {md:Region.Mode} {S:World->Prop} {X:List Nat}
def YifI(P:Program)(ops:Array Oper)(S:World->Prop)(o:Oper)(v:Value)(a:Act):Prop:=YieldsIf P ops S o v a/\∀w,o.about P w a.eval=none
theorem YifI.same{v:Value}{a':Act}(hy:YifI P ops S o v a)(he:execOp a'.eval o=execOp a.eval o)(hw:Region.wanted o (yielded ops a'.tmps)=Region.wanted o (yielded ops a.tmps))(hb:∀w,o.about P w a'.eval=o.about P w a.eval):YifI P ops S o v a':=
 ⟨hy.1.of_same he hw,λw=>(hb w).trans (hy.2 w)⟩
theorem YifI.op{v:Value}(hro:F.round=none)(hi:ops[i]?=some o)(hy:YifI P ops S o v a){K:Act->World->Prop}(hS:S w)(h:K (a.put o.dst v) w):wpOpIn F n P ops Q i K a w:=by
 unfold wpOpIn;simp only[hi];have y:∀f,o.about P w a.eval=some f->F.fn f:=λf hf=>by rw[hy.2 w]at hf;cases hf
 rcases hy.1 with⟨hw,hv⟩|⟨hw,rfl⟩
 .simp only[hw,if_true,Oper.wpIn,hro,Oper.semAt_none,hv w hS,Oper.uponIn];exact⟨y,h⟩
 .simp only[hw,Bool.false_eq_true,if_false];exact⟨y,h⟩
theorem yR1{j:Nat}{oj:Oper}{v:Value}(hro:F.round=none)(hj:ops[j]?=some oj)(hap:oi.apart ops oj=true)
  (hsi:∀cs b,oi.op≠ .select cs b) (hsj:∀cs b,oj.op≠ .select cs b)
  (hQ:∀c a w,Q (.panic c) (a.put oi.dst v) w->Q (.panic c) a w) {K:Act->World->Prop} {a:Act} {w:World}
  (hy:YifI P ops S oi v a) (h:wpOpIn F n P ops Q j K (a.put oi.dst v) w):wpOpIn F n P ops Q j (λa' w'=>YifI P ops S oi v a'/\K (a'.put oi.dst v) w') a w:=by
 obtain⟨h1,h2,h3⟩:=Oper.apart_spec hap;have kp:∀(b:Act),YifI P ops S oi v b->∀u,YifI P ops S oi v (b.put oj.dst u):=λb hb u=>hb.same (execOp_put oi hsi b oj.dst u h3) (wanted_put oi b oj.dst u h3) (λw=>about_put oi w b oj.dst u h3);have fin:∀(u:Value)(w':World),K ((a.put oi.dst v).put oj.dst u) w'->YifI P ops S oi v (a.put oj.dst u)/\K ((a.put oj.dst u).put oi.dst v) w':=λu w' hk=>⟨kp a hy u,by rw[<-Act.put_comm a v u h2];exact hk⟩;unfold wpOpIn at*;simp only[hj]at*;rw[wanted_put oj a oi.dst v h1,about_put oj w a oi.dst v h1]at h;by_cases hw:Region.wanted oj (yielded ops a.tmps)=true
 .rw[if_pos hw]at h|-;unfold Oper.wpIn at*;rw[about_put oj w a oi.dst v h1,hro,Oper.semAt_none,execOp_put oj hsj a oi.dst v h1]at h;rw[hro,Oper.semAt_none];refine⟨h.1,?_⟩;have hh:=h.2;generalize (execOp a.eval oj).run P w=r at*;cases r with
  |ok x w'=>
   cases x with
   |value u=>exact fin u w' hh
   |skip=>exact fin undef w' hh
   |defer d=>
    simp only[Oper.uponIn]at hh|-;refine⟨kp {a with defers:=d::a.defers} (hy.same rfl rfl (λ_=>rfl)) undef,?_⟩;rw[<-Act.put_comm _ v undef h2,<-Act.put_defers];exact hh
   |enter f args=>
    simp only[Oper.uponIn]at hh|-;refine⟨hh.1,CallsIn.mono hh.2 λe w'' he=>?_⟩;cases e with
    |returned u=>exact fin u w'' he
    |panicked c=>exact hQ _ _ _ he
    |outgrown=>exact he
   |row row args=>
    simp only[Oper.uponIn]at hh|-;exact⟨hh.1,RowsIn.mono hh.2 λu w'' he=>fin u w'' he⟩
   |round l f tmps assign body=>
    simp only[Oper.uponIn]at hh|-;refine⟨hh.1,RoundIn.mono hh.2 λe w'' he=>?_⟩;cases e with
    |returned u=>exact fin u w'' he
    |panicked c=>exact hQ _ _ _ he
    |outgrown=>exact he
   |_=>exact hh
  |halt x w'=>
   cases x with
   |panic u=>exact hQ _ _ _ hh
   |_=>exact hh
 .rw[if_neg hw]at h|-;exact⟨h.1,fin undef w h.2⟩
def AnyI(F:Fence)(n:Nat)(P:Program)(md:Region.Mode)(ops:Array Oper)(Q:Exit->Act->World->Prop)(S:World->Prop)(X:List Nat):Nat->Array Bool->Act->World->Prop
 |0,listed,a,w=>Region.ready md ops listed= []/\Q .normal a w
 |fuel+1,listed,a,w=>
  (Region.ready md ops listed= []->Q .normal a w)/\
  ∀i∈Region.ready md ops listed,wpOpIn F n P ops Q i (λa' w'=>(i∈X\/S w')/\AnyI F n P md ops Q S X fuel (listed.setIfInBounds i true) a' w') a w
theorem yRg:∀(fuel:Nat)(listed:Array Bool)(a:Act)(w:World),AnyI F n P md ops Q S X fuel listed a w->wpAnyIn F n P md ops Q fuel listed a w
 |0,_,_,_,h=>h
 |fuel+1,_,_,_,h=>⟨h.1,λi hi=>wpOpIn_mono (λa' w' h'=>yRg fuel _ a' w' h'.2) (h.2 i hi)⟩
theorem yS1{v:Value}{Y:List Nat}(hro:F.round=none)(hi:ops[i]?=some oi)(hsel:∀(j:Nat)(o:Oper) cs b,ops[j]?=some o->o.op≠ .select cs b)
  (hQ:∀c a w,Q (.panic c) (a.put oi.dst v) w->Q (.panic c) a w):
  ∀(fuel:Nat)(listed:Array Bool)(a:Act)(w:World),yM6 md ops Y listed i=true->(∀L∈X,listed.getD L true=true\/L∈Y)->
   (∀j oj,ops[j]?=some oj->j≠i->listed.getD j true=false->(∀e∈oj.after,Region.binds md e=true->e.on≠i)->oi.apart ops oj=true)->
   i∈Region.ready md ops listed->YifI P ops S oi v a->S w->
   AnyI F n P md ops Q S X fuel (listed.setIfInBounds i true) (a.put oi.dst v) w->AnyI F n P md ops Q S X (fuel+1) listed a w:=by
 intro fuel;induction fuel with
 |zero=>
  intro listed a w _ _ _ hr hy hS H;refine⟨λh=>(by rw[h]at hr;cases hr),λj hj=>?_⟩;by_cases hji:j=i
  .subst hji;exact hy.op hro hi hS ⟨.inr hS,H⟩
  .have:=ready_mono hj hji;rw[H.1]at this;cases this
 |succ fuel ih=>
  intro listed a w hX a9 a8 hr hy hS H;refine⟨λh=>(by rw[h]at hr;cases hr),λj hj=>?_⟩;by_cases hji:j=i
  .subst hji;exact hy.op hro hi hS ⟨.inr hS,H⟩
  .have h1:=H.2 j (ready_mono hj hji);obtain⟨a4,oj,a0,ab⟩:=mem_ready.1 hj;have y:∀k,listed.getD k true=false->∀e∈oj.after,Region.binds md e=true->e.on≠k:=λk h0 e he hb heq=>by
    have h1:=ab e he hb;rw[heq]at h1;rcases Nat.lt_or_ge k listed.size with h'|h'
    .simp[h']at h0 h1;rw[h0]at h1;cases h1
    .simp[Array.getElem?_eq_none h']at h1
   have a5:∀e∈oj.after,Region.binds md e=true->e.on≠i:=y i (mem_ready.1 hr).1;have a6:j∉Y:=λq=>by
    have h2:=all_eq_true.1 hX j q;rw[Bool.and_eq_true,Bool.or_eq_true]at h2;rcases h2.2 with h3|h3
    .obtain⟨e,he,hb,a3⟩:=yGk a0 h3;exact a5 e he hb a3
    .obtain⟨L',ae,h4⟩:=any_eq_true.1 h3;obtain⟨e,he,hb,a3⟩:=yGk a0 h4;have h5:=all_eq_true.1 hX L' ae;rw[Bool.and_eq_true]at h5;exact y L' (by simpa using h5.1) e he hb a3
   have a7:j∉X:=λq=>(a9 j q).elim (λz=>by rw[a4]at z;cases z) a6;have ac:∀L∈X,(listed.setIfInBounds j true).getD L true=true\/L∈Y:=λL hL=>(a9 L hL).imp (λz=>by rw[getD_set_ne true (λq:j=L=>a7 (by rw[q];exact hL))];exact z) (λz=>z)
   have h2:=yR1 hro a0 (a8 j oj a0 hji a4 a5) (λcs b=>hsel i oi cs b hi) (λcs b=>hsel j oj cs b a0) hQ hy h1
   have aa:∀k ok,ops[k]?=some ok->k≠i->(listed.setIfInBounds j true).getD k true=false->
     (∀e∈ok.after,Region.binds md e=true->e.on≠i)->oi.apart ops ok=true:=λk ok hk hki y hno=>by
    refine a8 k ok hk hki ?_ hno;by_cases hjk:j=k
    .subst hjk;exact a4
    .rw[getD_set_ne true hjk]at y;exact y
   have ad:yM6 md ops Y (listed.setIfInBounds j true) i=true:=by refine all_eq_true.2 λL hL=>?_;have h2:=all_eq_true.1 hX L hL;rw[getD_set_ne true (λq:j=L=>a6 (by rw[q];exact hL))];exact h2
   refine wpOpIn_mono (λa' w' h3=>⟨h3.2.1,ih (listed.setIfInBounds j true) a' w' ad ac aa (ready_mono hr (Ne.symm hji)) h3.1 (h3.2.1.resolve_left a7) ?_⟩) h2;rw[Array.setIfInBounds_comm _ _ hji];exact h3.2.2
theorem yM3{listed:Array Bool}(hr:Region.ready md ops listed= [i])(ho:ops[i]?=some o)
  (h:∀K':Act->World->Prop,Shut (∀a w,(i∈X\/S w)->AnyI F n P md ops Q S X fuel (listed.setIfInBounds i true) a w->K' a w)->if Region.wanted o (yielded ops a.tmps)=true then Oper.wpIn F n P o a w K' Q else(∀f,o.about P w a.eval=some f->F.fn f)/\K' (a.put o.dst undef) w):
  AnyI F n P md ops Q S X (fuel+1) listed a w:=by
 refine⟨λh0=>(by rw[hr]at h0;cases h0),λj hj=>?_⟩;rw[hr]at hj;simp at hj;subst hj;exact wpOpIn_step ho (λK' hK=>h K' (λa w hS hW=>hK a w ⟨hS,hW⟩))
theorem yVs{listed:Array Bool}(hr:Region.ready md ops listed= [])(h:Q .normal a w):AnyI F n P md ops Q S X fuel listed a w:=by exact yXw
theorem yLu{id:Nat}(X:List Nat)(S:World->Prop)(hm:P.follows .mixedOrders=true)
  (h:AnyI F n P .any ops Q S X ops.size (Array.replicate ops.size false) a w.drew):(Code.region id ops true).wpIn F n P Q a w:=
 wpIn_region_any hm (yRg _ _ _ _ h)
end
theorem xCs{p:Prop}(h:p:=by exact⟨(by exact yYf),λ_=>rfl⟩):p:=h
section
variable {F:Fence} {n:Nat} {P:Program} {ops:Array Oper} {Q:Exit->Act->World->Prop} {md:Region.Mode} {S:World->Prop} {X:List Nat} {j:Nat} {v:Value} {oi:Oper} {fuel:Nat} {listed:Array Bool} {a:Act} {w:World} {q:Prop}
theorem tiT(hro:F.round=none)(hx:TxX ops Q md X i v oi listed)(hy:YifI P ops S oi v a)(hS:S w)(h:AnyI F n P md ops Q S X fuel (listed.setIfInBounds i true) (a.put oi.dst v) w):AnyI F n P md ops Q S X (fuel+1) listed a w:=
 yS1 (Y:=(cloX md ops listed 6 [i]).erase i) hro hx.1 (Region.noSelect_spec hx.2.1) hx.2.2.2.2.2 fuel listed a w (by
  have h2:=hx.2.2.2.2.1
  unfold yM7 at h2
  rw[Bool.and_eq_true]at h2
  exact h2.1) (λL hL=>by
  have h2:=hx.2.2.2.2.1
  unfold yM7 at h2
  rw[Bool.and_eq_true]at h2
  simpa using all_eq_true.1 h2.2 L hL) (Region.free_spec hx.1 hx.2.2.1) (by simpa using hx.2.2.2.1) hy hS h
theorem yTe(i:Nat)(hro:F.round=none)(hS:S w)(k:q)(hx:TxX ops Q md X i v oi listed:=by exact txx)(hy:YifI P ops S oi v a:=by exact xCs)(h:q->AnyI F n P md ops Q S X fuel (listed.setIfInBounds i true) (a.put oi.dst v) w:=by exact tkz):AnyI F n P md ops Q S X (fuel+1) listed a w:=tiT hro hx hy hS (h k)
end
end
abbrev rcL(fn:FuncId)(tmps:Array Value)(ps:Array Tmp)(assign body:Code)(D:Nat)(st:LoopState)(pe:Option Code):Obj:=.loop {state:=st,pending:=pe,fn,tmps,params:=ps,assign,body,defers:=D}
def RndP(rec:LoopState->Option Code->Obj)(l:Nat)(R:Ending->World->Prop)(e:Exit)(W:World):Prop:=
 W.heap[l]?=some (rec .busy none)/\match e with
 | .normal=>R (.returned (.bool true)) (W.putObj l (rec .ready none))
 | .ret=>R (.returned (.bool false)) (W.putObj l (rec .done (some .ret)))
 | .exit id=>R (.returned (.bool false)) (W.putObj l (rec .done (some (.exit id))))
 |_=>False
variable {W:World}
theorem yO9{fn:FuncId}{tmps:Array Value}{ps:Array Tmp}{assign body:Code}{D l:Nat}{args:Array Value}{R:Ending->World->Prop}(hl:W.heap[l]?=some (rcL fn tmps ps assign body D .ready none))(hs:args.size=ps.size)
  (h:assign.wpIn (Fence.wide.inRound l) n prog (Exit.then (λa' Wa=>Wa.heap[l]?=some (rcL fn tmps ps assign body D .ready none)/\body.wpIn (Fence.wide.inRound l) n prog (λe _ W3=>RndP (rcL fn tmps ps assign body D) l R e W3) a' (Wa.putObj l (rcL fn tmps ps assign body D .busy none))) (λ_ _ _=>False))
   {tmps:=(ps.zip args).foldl (λt (p,v)=>t.setIfInBounds p v) tmps,defers:= []} W):
  YieldAt Fence.wide n prog l args W R:=by
 have hy:=run_yield (P:=prog) (args:=args) hl hs;refine⟨fn,_,assign,body,hy,roundIn_of_wpIn trivial (wpIn_mono h ?_)⟩;intro e a' Wa hp;cases e with
 |normal=>
  obtain⟨y,hb⟩:=hp;refine⟨_,run_beginRound y rfl,wpIn_mono hb ?_⟩;rintro e a3 W3 ⟨hl3,hp⟩;cases e with
  |normal=>exact⟨_,_,run_endRound none hl3,hp⟩
  |ret=>exact⟨_,_,run_endRound (some .ret) hl3,hp⟩
  |exit id=>exact⟨_,_,run_endRound (some (.exit id)) hl3,hp⟩
  |goto t=>exact hp.elim
  |panic ch=>exact hp.elim
  |outgrown=>exact hp.elim
 |_=>exact hp
theorem yPm{g:Operand}{ps:Array Tmp}{assign body:Code}{gf:Nat}{lb:Array Value}(hg:a.eval g=.func (.func gf) #[] lb)(eg:∀args w,(callFunc gf args).run prog w=.ok (.enter gf args) w)(h1:1<=n)
  (h:∀fn W1,W1=(w.alloc (.deferred (some []))).alloc (rcL fn a.tmps ps assign body w.heap.size .ready none)->CallsIn Fence.wide (n-1) prog gf (#[.func (.yield (w.heap.size+1)) #[] #[]]++lb) W1 λe W2=>(∃v,e=.returned v)/\
   ((W2.heap[w.heap.size+1]?=some (rcL fn a.tmps ps assign body w.heap.size .ready none)/\Q .normal {a with defers:={target:=.collected w.heap.size,args:=#[]}::a.defers} (W2.putObj (w.heap.size+1) (rcL fn a.tmps ps assign body w.heap.size .exhausted none)))\/
    ∃c,W2.heap[w.heap.size+1]?=some (rcL fn a.tmps ps assign body w.heap.size .done (some c))/\c.wpIn Fence.wide n prog Q {a with defers:={target:=.collected w.heap.size,args:=#[]}::a.defers} (W2.putObj (w.heap.size+1) (rcL fn a.tmps ps assign body w.heap.size .exhausted (some c))))):
  (Code.rangeFunc g ps assign body).wpIn Fence.wide n prog Q a w:=by
 refine wpIn_rangeFunc ?_;intro fn a0;obtain⟨W1,y⟩:=qE ((w.alloc (.deferred (some []))).alloc (rcL fn a.tmps ps assign body w.heap.size .ready none))
 refine⟨w.heap.size+1,[{target:=.collected w.heap.size,args:=#[]}],W1,{target:=.fn (.func gf) lb,args:=#[.func (.yield (w.heap.size+1)) #[] #[]]},W1,gf,
  #[.func (.yield (w.heap.size+1)) #[] #[]]++lb,W1,by rw[y];exact run_enterLoop_outer _ _ _ _ _,?_,λ_ _=>trivial,?_,λ_=>h1,?_⟩
 .simp only[resolve,hg];simp[go_sem]
 .simp[invoke,go_sem,eg]
 .refine(h fn W1 y).mono ?_;rintro e W2 ⟨⟨v,rfl⟩,(⟨hl,hq⟩|⟨c,hl,hq⟩)⟩
  .exact⟨none,_,run_endLoop hl (by simp),hq⟩
  .exact⟨some c,_,run_endLoop hl (by simp),hq⟩
def ObT(t:Nat)(W:World)(q:Nat):Prop:=∃cur,W.heap[q]?=some (.cells cur t)
theorem yD1{v:Value}(h:w.ownsRow base e size v n xs)(hk:v.ownBlock=some k):ObT e w k:=by
 rcases h.2 with⟨q,_⟩|⟨g',y,cur,hv,_,hh,_⟩
 .rw[q]at hk;simp[Value.ownBlock]at hk
 .rw[hv]at hk;simp[Value.ownBlock]at hk;subst hk;exact⟨_,hh⟩
variable {q:Nat}
theorem ObT.one{t':Nat}(h:ObT t W q)(h':ObT t' W q):t=t':=by
 obtain⟨a,ha⟩:=h;obtain⟨b,hb⟩:=h';rw[ha]at hb;cases hb
 rfl
theorem ObT.not{o:Obj}(h:ObT t W q)(ho:W.heap[q]?=some o)(hc:o.isCells=false):False:=by
 obtain⟨a,ha⟩:=h;rw[ha]at ho;cases ho
 simp[Obj.isCells]at hc
theorem yH4(W:World)(l:Nat)(o:Obj):Chg (λq=>q=l) W (W.putObj l o):=Chg.of_grown (grownBy_putObj' W l o) (λk q=>by cases q;rfl)
theorem yMd{o:Obj}(ho:W.heap[q]?=some o)(hc:o.isCells=false):¬ObT t W q:=λz=>z.not ho hc
theorem yEj.up(h:yEj w w.heap.size bv n)(hb:Below w.heap.size w w'):yEj w' w'.heap.size bv n:=by
 refine⟨h.1,?_⟩;rcases h.2 with h|⟨b,off,cap,rfl,y,hc⟩
 .exact .inl h
 .refine .inr ⟨b,off,cap,rfl,by have:=hb.size;omega,λk hk=>?_⟩;obtain⟨x,h1,h2⟩:=hc k hk;exact⟨x,by rw[hb.cell (p:=⟨b,off+k,none⟩) y];exact h1,h2⟩
def yDl(w:World)(v:Value)(n:Nat):Prop:=
 n<=maxLen/\((∃a cap,v=.slice a 0 cap/\n=0)\/∃b off cap,v=.slice (some ⟨b,off,none⟩) n cap/\b<w.heap.size/\∀k,k<n->∃x:Int,w.cell? ⟨b,off+k,none⟩=some (.int .u8 x)/\0<=x/\x<256)
theorem yDl.slice{v:Value}(h:yDl w v n):∃a cap,v=.slice a n cap:=by
 rcases h.2 with⟨a,cap,rfl,rfl⟩|⟨b,off,cap,rfl,_⟩
 .exact⟨_,_,rfl⟩
 .exact⟨_,_,rfl⟩
theorem yDl.code{v:Value}(h:yDl w v n)(hn:n<=1048576):yEj w w.heap.size v n:=⟨hn,h.2⟩
theorem yHa{H:Type}{enc:TypeId×Value->H}{v:Value}{x:DataW H×List MemPlace}
  (h:DataW.trod enc prog w 0 (λ_=>true) true fuel 22 [v]=some x) (hlt:∀p∈x.2,p.block<w.heap.size):∃n,yDl w v n:=by
 have hc:prog.cellsOf 5=1:=by kernel_rfl
 rcases open_ints underlying22 underlying5 hc h with⟨y,hx⟩|⟨a,len,cap,zs,y,_,hl,hm,hz,hx,a0,a4⟩
 .simp only[List.cons.injEq,and_true]at y;exact⟨0,zero_le _,.inl ⟨none,0,y,rfl⟩⟩
 .simp only[List.cons.injEq,and_true]at y;simp only[if_true]at hz;refine⟨len,Nat.le_trans hl hm,?_⟩;by_cases h0:len=0
  .subst h0;exact .inl ⟨some a,cap,y,rfl⟩
  .obtain⟨ab,ao,a3⟩:=a;have a5:a3=none:=by simpa [Addr.add]using World.cell?_spot (a0 0 (by omega))
   subst a5;refine .inr ⟨ab,ao,cap,y,?_,λk hk=>?_⟩
   .rw[hx]at hlt;exact hlt (.cell ab (ao+0)) (by simp only[MemPlace.row,List.mem_map,mem_range];exact⟨0,by omega,rfl⟩)
   .have h1:=a0 k (by omega);rw[Addr.add_lit]at h1;have hb:=range_u8 a4 k;rw[List.getD_eq_getElem?_getD]at h1;exact⟨_,h1,hb.1,by omega⟩
end Go.Proofs.YtehfleefkdojpaaGreatDoor
