import Derived.Test.YtnnagkfoiganfaaGreatDoorRkAA
namespace Go.Proofs.YtnnagkfoiganfaaGreatDoor
open Go.ChangeShapes Go.WideShapes Go.ChangeAt Go.RowKit Go.Deep XD XI XU XG XP XK XW XT XF XE XH _root_.List _root_.Nat Go.Proofs.Tryz
set_option linter.unusedVariables false
set_option linter.unusedSimpArgs false
set_option maxRecDepth 100000
set_option maxHeartbeats 40000000
section
section
variable {P:Program} {ops:Array Oper} {Q:Exit->Act->World->Prop} {md:Region.Mode} {S:World->Prop} {L:Nat}
def AnyT(P:Program)(md:Region.Mode)(ops:Array Oper)(Q:Exit->Act->World->Prop)(S:World->Prop)(L:Nat):Nat->Array Bool->Act->World->Prop
 |0,listed,a,w=>Region.ready md ops listed= []/\Q .normal a w
 |fuel+1,listed,a,w=>
  (Region.ready md ops listed= []->Q .normal a w)/\
  ∀i∈Region.ready md ops listed,wpOp P ops Q i (λa' w'=>(i=L\/S w')/\AnyT P md ops Q S L fuel (listed.setIfInBounds i true) a' w') a w
theorem yOx:∀(fuel:Nat)(listed:Array Bool)(a:Act)(w:World),AnyT P md ops Q S L fuel listed a w->wpAny P md ops Q fuel listed a w
 |0,_,_,_,h=>h
 |fuel+1,_,_,_,h=>⟨h.1,λi hi=>wpOp_mono (λa' w' h'=>yOx fuel _ a' w' h'.2) (h.2 i hi)⟩
def yDy(md:Region.Mode)(ops:Array Oper)(L i:Nat):Bool:=((ops[L]?).map (λo=>o.after.any λe=>Region.binds md e && e.on==i)).getD false
variable {i:Nat} {oi:Oper}
theorem yXh{v:Value}(hi:ops[i]?=some oi)(hsel:∀(j:Nat)(o:Oper) cs b,ops[j]?=some o->o.op≠ .select cs b)
  (hQ:∀c a w,Q (.panic c) (a.put oi.dst v) w->Q (.panic c) a w) (hL:yDy md ops L i=true) (hne:i≠L):
  ∀(fuel:Nat)(listed:Array Bool)(a:Act)(w:World),
   (∀j oj,ops[j]?=some oj->j≠i->listed.getD j true=false->(∀e∈oj.after,Region.binds md e=true->e.on≠i)->oi.apart ops oj=true)->
   i∈Region.ready md ops listed->YieldsIf P ops S oi v a->S w->
   AnyT P md ops Q S L fuel (listed.setIfInBounds i true) (a.put oi.dst v) w->AnyT P md ops Q S L (fuel+1) listed a w:=by
 intro fuel;induction fuel with
 |zero=>
  intro listed a w _ hr hy hS H;refine⟨λh=>(by rw[h]at hr;cases hr),λj hj=>?_⟩;by_cases hji:j=i
  .subst hji;exact hy.wpOp hi hS ⟨.inr hS,H⟩
  .have:=ready_mono hj hji;rw[H.1]at this;cases this
 |succ fuel ih=>
  intro listed a w a3 hr hy hS H;refine⟨λh=>(by rw[h]at hr;cases hr),λj hj=>?_⟩;by_cases hji:j=i
  .subst hji;exact hy.wpOp hi hS ⟨.inr hS,H⟩
  .have h1:=H.2 j (ready_mono hj hji);obtain⟨a2,oj,a0,a6⟩:=mem_ready.1 hj;have a1:∀e∈oj.after,Region.binds md e=true->e.on≠i:=λe he hb heq=>by
    have h1:=a6 e he hb;have h0:=(mem_ready.1 hr).1;rw[heq]at h1;rcases Nat.lt_or_ge i listed.size with h'|h'
    .simp[h']at h0 h1;rw[h0]at h1;cases h1
    .simp[Array.getElem?_eq_none h']at h1
   have a4:j≠L:=λq=>by subst q;unfold yDy at hL;rw[a0]at hL;simp only[Option.map_some,Option.getD_some,Array.any_eq_true]at hL;obtain⟨k,hk,hb⟩:=hL;rw[Bool.and_eq_true,beq_iff_eq]at hb;exact a1 _ (Array.getElem_mem hk) hb.1 hb.2
   have h2:=wpOp_putIf a0 (a3 j oj a0 hji a2 a1) (λcs b=>hsel i oi cs b hi) (λcs b=>hsel j oj cs b a0) hQ hy h1
   have a5:∀k ok,ops[k]?=some ok->k≠i->(listed.setIfInBounds j true).getD k true=false->
     (∀e∈ok.after,Region.binds md e=true->e.on≠i)->oi.apart ops ok=true:=λk ok hk hki hun hno=>by
    refine a3 k ok hk hki ?_ hno;by_cases hjk:j=k
    .subst hjk;exact a2
    .rw[getD_set_ne true hjk]at hun;exact hun
   refine wpOp_mono (λa' w' h3=>⟨h3.2.1,ih (listed.setIfInBounds j true) a' w' a5 (ready_mono hr (Ne.symm hji)) h3.1 (h3.2.1.resolve_left a4) ?_⟩) h2;rw[Array.setIfInBounds_comm _ _ hji];exact h3.2.2
variable {fuel:Nat} {a:Act} {w:World}
theorem yB9{v:Value}{listed:Array Bool}(hi:ops[i]?=some oi)
  (hs:Region.noSelect ops=true) (hf:Region.free md ops listed i=true) (hr:(Region.ready md ops listed).contains i=true) (hL:yDy md ops L i=true) (hne:i≠L)
  (hQ:∀c a w,Q (.panic c) (a.put oi.dst v) w->Q (.panic c) a w) (hy:YieldsIf P ops S oi v a) (hS:S w)
  (h:AnyT P md ops Q S L fuel (listed.setIfInBounds i true) (a.put oi.dst v) w):AnyT P md ops Q S L (fuel+1) listed a w:=
 yXh hi (Region.noSelect_spec hs) hQ hL hne fuel listed a w (Region.free_spec hi hf) (by simpa using hr) hy hS h
variable {o:Oper}
theorem yOy{listed:Array Bool}(hr:Region.ready md ops listed= [i])(ho:ops[i]?=some o)
  (h:∀K':Act->World->Prop,Shut (∀a w,(i=L\/S w)->AnyT P md ops Q S L fuel (listed.setIfInBounds i true) a w->K' a w)->if Region.wanted o (yielded ops a.tmps)=true then Oper.wp P o a w K' Q else K' (a.put o.dst undef) w):
  AnyT P md ops Q S L (fuel+1) listed a w:=by
 exact xF6
variable {j:Nat}
theorem yB2{q:Oper}{listed:Array Bool}(hr:Region.ready md ops listed= [i,j])(ho:ops[i]?=some o)(hq:ops[j]?=some q)
  (h:∀K':Act->World->Prop,Shut (∀a w,(i=L\/S w)->AnyT P md ops Q S L fuel (listed.setIfInBounds i true) a w->K' a w)->if Region.wanted o (yielded ops a.tmps)=true then Oper.wp P o a w K' Q else K' (a.put o.dst undef) w)
  (h':∀K':Act->World->Prop,Shut (∀a w,(j=L\/S w)->AnyT P md ops Q S L fuel (listed.setIfInBounds j true) a w->K' a w)->if Region.wanted q (yielded ops a.tmps)=true then Oper.wp P q a w K' Q else K' (a.put q.dst undef) w):
  AnyT P md ops Q S L (fuel+1) listed a w:=by
 refine⟨λh0=>(by rw[hr]at h0;cases h0),λk hk=>?_⟩;rw[hr]at hk;simp at hk;rcases hk with rfl|rfl
 .exact wpOp_step ho (λK' hK=>h K' (λa w hS hW=>hK a w ⟨hS,hW⟩))
 .exact wpOp_step hq (λK' hK=>h' K' (λa w hS hW=>hK a w ⟨hS,hW⟩))
theorem xAa{listed:Array Bool}(hr:Region.ready md ops listed= [])(h:Q .normal a w):AnyT P md ops Q S L fuel listed a w:=by exact xDs
variable {id:Nat}
theorem yAf(L:Nat)(S:World->Prop)(hm:P.follows .mixedOrders=true)
  (h:AnyT P .any ops Q S L ops.size (Array.replicate ops.size false) a w.drew):(Code.region id ops true).wp P Q a w:=
 wp_region_any hm (yOx _ _ _ _ h)
end
end
abbrev slV(r n c:Nat):Value:=(xg r n c)
def bsV(N:Nat)(f:Nat->Bool):List Value:=(List.range N).map (λj=>(f j))
theorem yT1(N:Nat)(f:Nat->Bool):(bsV N f).length=N:=by simp[bsV]
variable {N j:Nat} {f:Nat->Bool}
theorem yT2(h:j<N):(bsV N f)[j]?=some (.bool (f j)):=by simp[bsV,h]
def upd1(f:Nat->Bool)(j:Nat)(b:Bool):Nat->Bool:=λx=>if x=j then b else f x
def upd2(f:Nat->Nat->Bool)(i j:Nat)(b:Bool):Nat->Nat->Bool:=λx y=>if x=i/\y=j then b else f x y
theorem xFs{b:Bool}(h:j<N):(bsV N f).set j b=bsV N (upd1 f j b):=by
 apply ext_getElem?;intro i;rcases Nat.lt_or_ge i N with hi|hi
 .rw[yT2 hi];by_cases e:i=j
  .subst e;rw[getElem?_set_self (by rw[yT1];exact hi)];simp[upd1]
  .rw[getElem?_set_ne (λq=>e q.symm),yT2 hi];simp[upd1,e]
 .rw[getElem?_eq_none (by simp[yT1];exact hi),getElem?_eq_none (by simp[yT1];exact hi)]
def BRow(w:World)(base r c N:Nat)(f:Nat->Bool):Prop:=w.ownsRow base 4 1 (slV r N c) N (bsV N f)
def yNl(N k:Nat)(ρ γ:Nat->Nat):List Value:=(List.range k).map (λi=>slV (ρ i) N (γ i))
def ORow(w:World)(base g cp N k:Nat)(ρ γ:Nat->Nat):Prop:=w.ownsRow base 118 1 (slV g k cp) k (yNl N k ρ γ)
variable {w:World} {base r:Nat}
theorem BRow.lt{c:Nat}(h:BRow w base r c N f):base<=r/\r<w.heap.size:=World.ownsRow.lt h r rfl
variable {cp k:Nat} {ρ γ:Nat->Nat}
theorem ORow.lt{g:Nat}(h:ORow w base g cp N k ρ γ):base<=g/\g<w.heap.size:=World.ownsRow.lt h g rfl
variable {w':World}
theorem BRow.chg{S:Nat->Prop}{c:Nat}(h:BRow w base r c N f)(hc:Chg S w w')(hn:¬S r):BRow w' base r c N f:=yAh h hc (λk hk=>by simp[Value.ownBlock]at hk;subst hk;exact hn)
theorem ORow.chg{S:Nat->Prop}{g:Nat}(h:ORow w base g cp N k ρ γ)(hc:Chg S w w')(hn:¬S g):ORow w' base g cp N k ρ γ:=yAh h hc (λk hk=>by simp[Value.ownBlock]at hk;subst hk;exact hn)
theorem BRow.off{c base' g N':Nat}(h:BRow w base r c N f)(h':ORow w base' g cp N' k ρ γ):r≠g:=λq=>yAb h h' qj r rfl (by rw[q];rfl)
theorem BRow.caps{c:Nat}(h:BRow w base r c N f):N<=c/\c<=maxLen:=by exact yMx
theorem ORow.caps{g:Nat}(h:ORow w base g cp N k ρ γ):k<=cp/\cp<=maxLen:=by exact yMx
structure MatO(w:World)(base g cp N k:Nat)(ρ γ:Nat->Nat)(f:Nat->Nat->Bool):Prop where
 out:ORow w base g cp N k ρ γ
 row:∀i,i<k->BRow w base (ρ i) (γ i) N (f i)
 inj:∀i j,i<k->j<k->i≠j->ρ i≠ρ j
variable {f:Nat->Nat->Bool}
theorem MatO.chg{S:Nat->Prop}{g:Nat}(h:MatO w base g cp N k ρ γ f)(hc:Chg S w w')(h1:¬S g)(h2:∀i,i<k->¬S (ρ i)):MatO w' base g cp N k ρ γ f:=
 ⟨h.out.chg hc h1,λi hi=>(h.row i hi).chg hc (h2 i hi),h.inj⟩
theorem MatO.below{g:Nat}(h:MatO w base g cp N k ρ γ f)(hb:Below w w w'):MatO w' base g cp N k ρ γ f:=h.chg (S:=λ_=>False) (Chg.of_below hb) (λq=>q) (λ_ _ q=>q)
variable {i:Nat}
theorem MatO.cell{g:Nat}(h:MatO w base g cp N k ρ γ f)(hi:i<k):(xk w g i (slV (ρ i) N (γ i)):Prop):=by rw[World.ownsRow.cellAt h.out i qo];simp[yNl,hi]
theorem BRow.cell{c:Nat}{f:Nat->Bool}(h:BRow w base r c N f)(hj:j<N):w.cell? (xd r j)=some (.bool (f j)):=by rw[World.ownsRow.cellAt h j qo,yT2 hj]
theorem BRow.set{c:Nat}{f:Nat->Bool}(h:BRow w base r c N f)(hj:j<N)(b:Bool):BRow (xt w r j b) base r c N (upd1 f j b):=by have:=(World.ownsRow.stored h j b).1;rw[xFs hj]at this;exact this
theorem MatO.set{g:Nat}(h:MatO w base g cp N k ρ γ f)(hi:i<k)(hj:j<N)(b:Bool):MatO (xt w (ρ i) j b) base g cp N k ρ γ (upd2 f i j b):=by
 have a0:Chg (λx=>x=ρ i) w (xt w (ρ i) j b):=Chg.of_set _ _ _ _ rfl;refine⟨h.out.chg a0 (λq=>(h.row i hi).off h.out q.symm),λx hx=>?_,h.inj⟩;by_cases e:x=i
 .subst e;have h9:=(h.row x hx).set hj b;have e2:upd1 (f x) j b=upd2 f x j b x:=by funext y;simp[upd1,upd2]
  rw[e2]at h9;exact h9
 .have h9:=(h.row x hx).chg a0 (h.inj x i hx hi e);have e2:f x=upd2 f i j b x:=by funext y;simp[upd2,e]
  rw[e2]at h9;exact h9
structure MatR(w:World)(g N:Nat)(ρ γ:Nat->Nat)(f:Nat->Nat->Bool):Prop where
 lt:g<w.heap.size
 out:∀i,i<N->(xk w g i (slV (ρ i) N (γ i)):Prop)
 rlt:∀i,i<N->ρ i<w.heap.size
 row:∀i j,i<N->j<N->(xk w (ρ i) j (f i j):Prop)
 cap:∀i,i<N->N<=γ i/\γ i<=maxLen
theorem MatO.read{g:Nat}(h:MatO w base g cp N N ρ γ f):MatR w g N ρ γ f:=
 ⟨h.out.lt.2,λi hi=>h.cell hi,λi hi=>(h.row i hi).lt.2,λi j hi hj=>(h.row i hi).cell hj,λi hi=>(h.row i hi).caps⟩
theorem MatR.below{B:Nat}{g:Nat}(h:MatR w g N ρ γ f)(hb:Below B w w')(hB:w.heap.size<=B):MatR w' g N ρ γ f:=
 ⟨Nat.lt_of_lt_of_le h.lt hb.size,λi hi=>by rw[hb.cell (p:=(xd g i)) (Nat.lt_of_lt_of_le h.lt hB)];exact h.out i hi,λi hi=>Nat.lt_of_lt_of_le (h.rlt i hi) hb.size,λi j hi hj=>by rw[hb.cell (p:=(xd (ρ i) j)) (Nat.lt_of_lt_of_le (h.rlt i hi) hB)];exact h.row i j hi hj,h.cap⟩
def MaP(N:Nat)(f:Nat->Nat->Bool)(w:World)(r:Ending)(w':World):Prop:=∃g cp ρ γ,r=.returned (slV g N cp)/\Hid (MatO w' w g cp N N ρ γ f)/\Below w w w'
theorem Tryz.infoBo:(prog.info? 4).map (λi=>(i.zero,i.size,i.bytes))=some (some (.bool false),1,1):=qk
theorem Tryz.infoBoS:(prog.info? 118).map (λi=>(i.zero,i.size,i.bytes))=some (some (.slice none 0 0),1,24):=qk
variable {rest:List Oper} {o:Oper} {a:Act} {Q:Exit->Act->World->Prop}
theorem yIm{ops:Array Oper}(w:World)(hgd:o.guard=none) s x
  (ho:o.op=.call {callee:=.builtin .append,args:=#[s,x],argTypes:=#[118,118]})
  (base r c k b cx:Nat) (f:Nat->Bool) (v:Bool) (hs:a.eval s=slV r k c) (hx:a.eval x=(xg b 1 cx)) (hO:BRow w base r c k f)
  (hc:(xk w b 0 v:Prop)) (hf:f k=v) (hlen:k<=2^20) (hbase:base<=w.heap.size)
  (h:∀r' c' w',BRow w' base r' c' (k+1) f->w.grownBy w' (some r)->(r'=r\/r'=w.heap.size)->wpList prog ops Q rest (a.put o.dst (slV r' (k+1) c')) w'):wpList prog ops Q (o::rest) a w:=by
 obtain⟨i,hi,a4,a3,a2⟩:=info_parts Tryz.infoBo;refine wpList_append_own_at w hgd s x 118 ho base 4 i _ 1 1 underlying118 hi a4 a3 a2 rfl qj (slV r k c) k (bsV k f) hs hO (xd b 0) 1 cx [v] hx rfl (λj u hu=>?_) (λu hu=>by simp at hu;subst hu;rfl) ?_ ?_ hbase ?_
 .match j,hu with
  |0,hu=>cases hu;exact hc
 .unfold maxLen;omega
 .omega
 .intro v' w' a0 a6 a5 a1;rcases a0.2 with⟨h0,_⟩|⟨g',a7,cur,hv,_,_,hn,a8,_,_⟩
  .have:=(a5.1 h0).1;cases this
  .subst hv;refine h g' a7 w' ?_ a6 ?_
   .have e:bsV k f++ [.bool v]=bsV (k+1) f:=by simp[bsV,range_succ,hf]
    rw[e]at a0;exact a0
   .simp[Value.ownBlock]at a1;exact a1
theorem yH{ops:Array Oper}(w:World)(hgd:o.guard=none) s x
  (ho:o.op=.call {callee:=.builtin .append,args:=#[s,x],argTypes:=#[295,295]})
  (base g cp N k b cx r c:Nat) (ρ γ:Nat->Nat) (hs:a.eval s=slV g k cp) (hx:a.eval x=(xg b 1 cx)) (hO:ORow w base g cp N k ρ γ)
  (hc:(xk w b 0 (slV r N c):Prop)) (hr:ρ k=r) (hg:γ k=c) (hlen:k<=2^20) (hbase:base<=w.heap.size)
  (h:∀g' cp' w',ORow w' base g' cp' N (k+1) ρ γ->w.grownBy w' (some g)->(g'=g\/g'=w.heap.size)->wpList prog ops Q rest (a.put o.dst (slV g' (k+1) cp')) w'):wpList prog ops Q (o::rest) a w:=by
 obtain⟨i,hi,a4,a3,a2⟩:=info_parts Tryz.infoBoS;refine wpList_append_own_at w hgd s x 295 ho base 118 i _ 1 24 underlying295 hi a4 a3 a2 rfl qj (slV g k cp) k (yNl N k ρ γ) hs hO (xd b 0) 1 cx [slV r N c] hx rfl (λj u hu=>?_) (λu hu=>by simp at hu;subst hu;rfl) ?_ ?_ hbase ?_
 .match j,hu with
  |0,hu=>cases hu;exact hc
 .unfold maxLen;omega
 .omega
 .intro v' w' a0 a6 a5 a1;rcases a0.2 with⟨h0,_⟩|⟨g',a7,cur,hv,_,_,hn,a8,_,_⟩
  .have:=(a5.1 h0).1;cases this
  .subst hv;refine h g' a7 w' ?_ a6 ?_
   .have e:yNl N k ρ γ++ [slV r N c]=yNl N (k+1) ρ γ:=by simp[yNl,range_succ,hr,hg]
    rw[e]at a0;exact a0
   .simp[Value.ownBlock]at a1;exact a1
section
section
variable {P:Program} {ops:Array Oper} {Q:Exit->Act->World->Prop} {md:Region.Mode} {S:World->Prop} {L:Nat} {oi:Oper}
theorem yT7{v:Value}(hi:ops[i]?=some oi)(hsel:∀(j:Nat)(o:Oper) cs b,ops[j]?=some o->o.op≠ .select cs b)
  (hQ:∀c a w,Q (.panic c) (a.put oi.dst v) w->Q (.panic c) a w) (hL:ops[L]?=none):
  ∀(fuel:Nat)(listed:Array Bool)(a:Act)(w:World),
   (∀j oj,ops[j]?=some oj->j≠i->listed.getD j true=false->(∀e∈oj.after,Region.binds md e=true->e.on≠i)->oi.apart ops oj=true)->
   i∈Region.ready md ops listed->YieldsIf P ops S oi v a->S w->
   AnyT P md ops Q S L fuel (listed.setIfInBounds i true) (a.put oi.dst v) w->AnyT P md ops Q S L (fuel+1) listed a w:=by
 intro fuel;induction fuel with
 |zero=>
  intro listed a w _ hr hy hS H;refine⟨λh=>(by rw[h]at hr;cases hr),λj hj=>?_⟩;by_cases hji:j=i
  .subst hji;exact hy.wpOp hi hS ⟨.inr hS,H⟩
  .have:=ready_mono hj hji;rw[H.1]at this;cases this
 |succ fuel ih=>
  intro listed a w a2 hr hy hS H;refine⟨λh=>(by rw[h]at hr;cases hr),λj hj=>?_⟩;by_cases hji:j=i
  .subst hji;exact hy.wpOp hi hS ⟨.inr hS,H⟩
  .have h1:=H.2 j (ready_mono hj hji);obtain⟨a1,oj,a0,a6⟩:=mem_ready.1 hj;have a3:∀e∈oj.after,Region.binds md e=true->e.on≠i:=λe he hb heq=>by
    have h1:=a6 e he hb;have h0:=(mem_ready.1 hr).1;rw[heq]at h1;rcases Nat.lt_or_ge i listed.size with h'|h'
    .simp[h']at h0 h1;rw[h0]at h1;cases h1
    .simp[Array.getElem?_eq_none h']at h1
   have a4:j≠L:=λq=>by rw[q,hL]at a0;cases a0
   have h2:=wpOp_putIf a0 (a2 j oj a0 hji a1 a3) (λcs b=>hsel i oi cs b hi) (λcs b=>hsel j oj cs b a0) hQ hy h1
   have a5:∀k ok,ops[k]?=some ok->k≠i->(listed.setIfInBounds j true).getD k true=false->
     (∀e∈ok.after,Region.binds md e=true->e.on≠i)->oi.apart ops ok=true:=λk ok hk hki hun hno=>by
    refine a2 k ok hk hki ?_ hno;by_cases hjk:j=k
    .subst hjk;exact a1
    .rw[getD_set_ne true hjk]at hun;exact hun
   refine wpOp_mono (λa' w' h3=>⟨h3.2.1,ih (listed.setIfInBounds j true) a' w' a5 (ready_mono hr (Ne.symm hji)) h3.1 (h3.2.1.resolve_left a4) ?_⟩) h2;rw[Array.setIfInBounds_comm _ _ hji];exact h3.2.2
variable {fuel:Nat}
theorem yFu{v:Value}{listed:Array Bool}(hi:ops[i]?=some oi)
  (hs:Region.noSelect ops=true) (hf:Region.free md ops listed i=true) (hr:(Region.ready md ops listed).contains i=true) (hL:ops[L]?=none)
  (hQ:∀c a w,Q (.panic c) (a.put oi.dst v) w->Q (.panic c) a w) (hy:YieldsIf P ops S oi v a) (hS:S w)
  (h:AnyT P md ops Q S L fuel (listed.setIfInBounds i true) (a.put oi.dst v) w):AnyT P md ops Q S L (fuel+1) listed a w:=
 yT7 hi (Region.noSelect_spec hs) hQ hL fuel listed a w (Region.free_spec hi hf) (by simpa using hr) hy hS h
end
end
section
variable {p:Prop}
theorem jS{q:Prop}(k:q)(h:q->p:=by intro z;(try simp only[qA,getElem_toArray,getElem_cons_zero,getElem_cons_succ]);exact z):p:=h k
theorem jz(h:p:=by intro z;(try simp only[qA,getElem_toArray,getElem_cons_zero,getElem_cons_succ]);exact z):p:=h
theorem jx(h:p:=by exact⟨rfl,by kernel_rfl,by kernel_rfl,by kernel_rfl,(by first|exact Or.inl (by rfl)|exact Or.inr ⟨by kernel_rfl,by decide⟩),λ_ _ _ h=>h⟩):p:=h
theorem jy(h:p:=by first|exact Or.inr ⟨by rfl,rfl⟩|exact Or.inl ⟨by rfl,by (intro wz hSw;(repeat with_reducible refine And.elim (λ_ hSw=>?_) hSw);(try have hlk:=hSw.look_t S HH.out);(try have hlk:=hSw.look_f S HH.out);go_simp;(try simp only[hd1]);(try simp only[hd2]);(try simp only[wo]);(try simp only[z46]);(try simp only[zq,zr,zs,zwi,zwn,HW.1]);(try with_reducible rfl))⟩):p:=h
theorem jy9(h:p:=by first|exact Or.inr ⟨by rfl,rfl⟩|exact Or.inl ⟨by rfl,by (intro wz hSw;obtain⟨d0,d1,⟨d2,d3,d4,d5⟩,d6,d7,d8,d9⟩:=hSw;go_simp;(try with_reducible rfl))⟩):p:=h
def SW(S:World->Prop)(W:World):Prop:=S W
theorem SWm{S:World->Prop}{W:World}(_:SW S W)(W2:World)(h:SW S W2):SW S W2:=h
variable {P:Program} {id:Nat}
theorem wpR{ops:Array Oper}(L:Nat){S:World->Prop}{W:World}(hS:SW S W)(h:AnyT P .any ops Q S L ops.size (Array.replicate ops.size false) a w.drew)(hm:P.follows .mixedOrders=true:=by kernel_rfl):(Code.region id ops true).wp P Q a w:=yAf L S hm h
section
variable {P:Program} {ops:Array Oper} {Q:Exit->Act->World->Prop} {md:Region.Mode} {S:World->Prop} {L j:Nat} {v:Value} {oi:Oper} {fuel:Nat} {listed:Array Bool} {a:Act} {w:World} {q:Prop}
abbrev VX(ops:Array Oper)(Q:Exit->Act->World->Prop)(md:Region.Mode)(L i:Nat)(v:Value)(oi:Oper)(listed:Array Bool):Prop:=ops[i]?=some oi/\Region.noSelect ops=true/\Region.free md ops listed i=true/\(Region.ready md ops listed).contains i=true/\(ops[L]?=none\/yDy md ops L i=true/\i≠L)/\∀c a w,Q (.panic c) (a.put oi.dst v) w->Q (.panic c) a w
theorem jT(hx:VX ops Q md L i v oi listed)(hy:YieldsIf P ops S oi v a)(hS:S w)(h:AnyT P md ops Q S L fuel (listed.setIfInBounds i true) (a.put oi.dst v) w):AnyT P md ops Q S L (fuel+1) listed a w:=hx.2.2.2.2.1.elim (λz=>yFu hx.1 hx.2.1 hx.2.2.1 hx.2.2.2.1 z hx.2.2.2.2.2 hy hS h) (λz=>yB9 hx.1 hx.2.1 hx.2.2.1 hx.2.2.2.1 z.1 z.2 hx.2.2.2.2.2 hy hS h)
theorem kO(i:Nat){s:Prop}(hs:s)(k:q)(ho:ops[i]?=some o:=by rfl)(h:Hid s->q->∀K':Act->World->Prop,Shut (∀a w,(i=L\/S w)->AnyT P md ops Q S L fuel (listed.setIfInBounds i true) a w->K' a w)->if Region.wanted o (yielded ops a.tmps)=true then Oper.wp P o a w K' Q else K' (a.put o.dst undef) w:=by intro hs z K hK;go_simp;refine hK.out _ _ (.inr hs.out) ?_;refine jS ?_;exact z)(hr:Region.ready md ops listed= [i]:=by kernel_rfl):AnyT P md ops Q S L (fuel+1) listed a w:=yOy hr ho (h hs k)
theorem kL(i:Nat)(k:q)(ho:ops[i]?=some o:=by rfl)(h:q->∀K':Act->World->Prop,Shut (∀a w,(i=L\/S w)->AnyT P md ops Q S L fuel (listed.setIfInBounds i true) a w->K' a w)->if Region.wanted o (yielded ops a.tmps)=true then Oper.wp P o a w K' Q else K' (a.put o.dst undef) w:=by intro z K hK;go_simp;refine hK.out _ _ (.inl rfl) ?_;refine jS ?_;exact z)(hr:Region.ready md ops listed= [i]:=by kernel_rfl):AnyT P md ops Q S L (fuel+1) listed a w:=yOy hr ho (h k)
theorem ja(i:Nat)(hS:S w)(k:q)(hx:VX ops Q md L i v oi listed:=by exact jx)(hy:YieldsIf P ops S oi v a:=by exact jy)(h:q->AnyT P md ops Q S L fuel (listed.setIfInBounds i true) (a.put oi.dst v) w:=by exact jz):AnyT P md ops Q S L (fuel+1) listed a w:=jT hx hy hS (h k)
theorem jb(hS:S w)(k:q)(hx:VX ops Q md L (j+1) v oi (listed.setIfInBounds j true):=by exact jx)(hy:YieldsIf P ops S oi v a:=by exact jy)(h:q->AnyT P md ops Q S L fuel ((listed.setIfInBounds j true).setIfInBounds (j+1) true) (a.put oi.dst v) w:=by exact jz):AnyT P md ops Q S L (fuel+1) (listed.setIfInBounds j true) a w:=jT hx hy hS (h k)
theorem j9a(i:Nat)(hS:S w)(k:q)(hx:VX ops Q md L i v oi listed:=by exact jx)(hy:YieldsIf P ops S oi v a:=by exact jy9)(h:q->AnyT P md ops Q S L fuel (listed.setIfInBounds i true) (a.put oi.dst v) w:=by exact jz):AnyT P md ops Q S L (fuel+1) listed a w:=jT hx hy hS (h k)
theorem j9b(hS:S w)(k:q)(hx:VX ops Q md L (j+1) v oi (listed.setIfInBounds j true):=by exact jx)(hy:YieldsIf P ops S oi v a:=by exact jy9)(h:q->AnyT P md ops Q S L fuel ((listed.setIfInBounds j true).setIfInBounds (j+1) true) (a.put oi.dst v) w:=by exact jz):AnyT P md ops Q S L (fuel+1) (listed.setIfInBounds j true) a w:=jT hx hy hS (h k)
end
end
variable {P:Program} {L fuel:Nat} {oi:Oper}
theorem qT{ops:Array Oper}{md:Region.Mode}{S:World->Prop}(i:Nat)(v:Value){listed:Array Bool}(hi:ops[i]?=some oi)
  (hy:∀w,S w->(execOp a.eval oi).run P w=.ok (.value v) w) (hS:S w)
  (h:AnyT P md ops Q S L fuel (listed.setIfInBounds i true) (a.put oi.dst v) w)
  (hs:Region.noSelect ops=true:=by kernel_rfl) (hf:Region.free md ops listed i=true:=by kernel_rfl) (hr:(Region.ready md ops listed).contains i=true:=by kernel_rfl) (hL:ops[L]?=none:=by rfl)
  (hQ:∀c a w,Q (.panic c) (a.put oi.dst v) w->Q (.panic c) a w:=by exact λ_ _ _ h=>h) (hw:Region.wanted oi (yielded ops a.tmps)=true:=by rfl):AnyT P md ops Q S L (fuel+1) listed a w:=
 yFu hi hs hf hr hL hQ (Or.inl ⟨hw,hy⟩) hS h
theorem qO{ops:Array Oper}{md:Region.Mode}{S:World->Prop}(i:Nat){listed:Array Bool}(ho:ops[i]?=some o)
  (h:∀K':Act->World->Prop,Shut (∀a w,(i=L\/S w)->AnyT P md ops Q S L fuel (listed.setIfInBounds i true) a w->K' a w)->if Region.wanted o (yielded ops a.tmps)=true then Oper.wp P o a w K' Q else K' (a.put o.dst undef) w)
  (hr:Region.ready md ops listed= [i]:=by kernel_rfl):AnyT P md ops Q S L (fuel+1) listed a w:=yOy hr ho h
theorem qD{ops:Array Oper}{md:Region.Mode}{S:World->Prop}{listed:Array Bool}(h:Q .normal a w)(hr:Region.ready md ops listed= []:=by kernel_rfl):AnyT P md ops Q S L fuel listed a w:=xAa hr h
variable {p q:List UInt8}
theorem yKn{c:UInt8}(h:chM p i=(c,k,true))(ha:∀t,i+t<k->q[j+t]?=p[i+t]?):chM q j=(c,j+(k-i),true):=by
 have hg:=yEx h;have h0:=ha 0 qo;simp only[Nat.add_zero]at h0;unfold chM at h|-;rw[h0];split at h
 .cases h
 .next d hd=>
  split at h
  .cases h
  .next hn=>
   rw[if_neg hn];split at h
   .next h92=>
    rw[if_pos h92];split at h
    .cases h
    .next e he=>
     simp only[Prod.mk.injEq,and_true]at h;obtain⟨rfl,rfl⟩:=h;have h1:=ha 1 qo;rw[h1,he];simp only[Prod.mk.injEq,and_true,true_and];omega
   .next h92=>
    rw[if_neg h92];simp only[Prod.mk.injEq,and_true]at h;obtain⟨rfl,rfl⟩:=h;simp only[Prod.mk.injEq,and_true,true_and];omega
theorem yTj{a b:UInt8}(h:yBw p i=.inl (a,b,k))(ha:∀t,i+t<=k->q[j+t]?=p[i+t]?):yBw q j=.inl (a,b,j+(k-i)):=by
 unfold yBw at h|-;split at h
 .cases h
 .next lo k1 hk1=>
  have hg:=yEx hk1;split at h
  .next h45=>
   split at h
   .cases h
   .next hi m hm=>
    have a0:=yEx hm;split at h
    .cases h
    .next hle=>
     simp only[Sum.inl.injEq,Prod.mk.injEq]at h;obtain⟨rfl,rfl,rfl⟩:=h;have e1:=yKn (q:=q) (j:=j) hk1 (λt ht=>ha t (by omega));have e2:q[j+(k1-i)]?=some 45:=by rw[ha (k1-i) (by omega),show i+(k1-i)=k1 by omega];exact h45
     have e3:=yKn (q:=q) (j:=j+(k1-i)+1) hm (λt ht=>by have:=ha (k1-i+1+t) qo;rw[show j+(k1-i)+1+t=j+(k1-i+1+t)by omega,this];congr 1;omega);rw[e1];simp only[];rw[if_pos e2,e3];simp only[];rw[if_neg hle];simp only[Sum.inl.injEq,Prod.mk.injEq,true_and];omega
  .next h45=>
   simp only[Sum.inl.injEq,Prod.mk.injEq]at h;obtain⟨rfl,rfl,rfl⟩:=h;have e1:=yKn (q:=q) (j:=j) hk1 (λt ht=>ha t (by omega));have e2:¬q[j+(k1-i)]?=some 45:=by rw[ha (k1-i) (by omega),show i+(k1-i)=k1 by omega];exact h45
   rw[e1];simp only[];rw[if_neg e2]
theorem yHt:∀(n:Nat){p q:List UInt8}{i j k:Nat}{b:Bool}{f g:UInt8->Bool},p.length-i<=n->clsM p i b f=.inl (g,k)->(∀t,i+t<k->q[j+t]?=p[i+t]?)->clsM q j b f=.inl (g,j+(k-i))
 |n,p,q,i,j,k,b,f,g,hn,h,ha=>by
  have hg:=yHs _ qr h
  have h0:=ha 0 (by omega)
  simp only[Nat.add_zero]at h0
  rw[clsM]at h
  split at h
  .next hi=>
   have hj:j<q.length:=by rw[getElem?_eq_getElem hi]at h0;exact yAn h0
   rw[clsM,dif_pos hj,h0]
   split at h
   .next he=>
    rw[if_pos he];simp only[Sum.inl.injEq,Prod.mk.injEq]at h;obtain⟨rfl,rfl⟩:=h;simp only[Sum.inl.injEq,Prod.mk.injEq,true_and];omega
   .next he=>
    rw[if_neg he];split at h
    .cases h
    .next a b' k' hk=>
     have h1:=yFq hk;have h2:=yHs _ qr h;have e1:=yTj (q:=q) (j:=j) hk (λt ht=>ha t (by omega));match n,hn with
     |0,hn=>omega
     |n+1,hn=>
      have e2:=yHt n (q:=q) (j:=j+(k'-i)) (by omega) h (λt ht=>by have:=ha (k'-i+t) (by omega);rw[show j+(k'-i)+t=j+(k'-i+t)by omega,this];congr 1;omega);split
      .next e hh=>rw[e1]at hh;cases hh
      .next a2 b2 k2 hh=>
       rw[e1]at hh;simp only[Sum.inl.injEq,Prod.mk.injEq]at hh;obtain⟨rfl,rfl,rfl⟩:=hh;rw[e2];simp only[Sum.inl.injEq,Prod.mk.injEq,true_and];omega
  .cases h
theorem yFd{g:UInt8->Bool}(h:yAq p i=.inl (g,k))(ha:∀t,i+t<k->q[j+t]?=p[i+t]?):yAq q j=.inl (g,j+(k-i)):=by
 have hg:=yBj h;have h0:=ha 0 (by omega);simp only[Nat.add_zero]at h0;unfold yAq at h|-;rw[h0];split at h
 .next h94=>
  rw[if_pos h94];split at h
  .next f k' hc=>
   have a0:=yHs _ qr hc;simp only[Sum.inl.injEq,Prod.mk.injEq]at h;obtain⟨rfl,rfl⟩:=h;have e:=yHt _ qr (q:=q) (j:=j+1) hc (λt ht=>by have:=ha (1+t) (by omega);rw[show j+1+t=j+(1+t)by omega,this];congr 1;omega);rw[e];simp only[Sum.inl.injEq,Prod.mk.injEq,true_and];omega
  .cases h
 .next h94=>
  rw[if_neg h94];exact yHt _ qr h ha
section
structure Nd where
 kind:Int
 s:ByteArray
 hi:Bool
 t:ByteArray
 lo:Int
 up:Int
 n:Int
def yA0(k:Int):Nat:=if k=14\/k=15 then 2 else if k=16 then 3 else 0
theorem yI3(k:Int):yA0 k<=3:=by unfold yA0;split<;>(try split)<;>omega
inductive IsT:Nat->List Nd->Prop
 |nil:IsT 0 []
 |snoc {k:Nat} {xs:List Nd} (n:Nd) (h:IsT (k+yA0 n.kind) xs):IsT (k+1) (xs++ [n])
variable {xs:List Nd}
theorem IsT.inv_snoc{ys:List Nd}{n:Nd}(h:IsT k ys)(e:ys=xs++ [n]):∃j,k=j+1/\IsT (j+yA0 n.kind) xs:=by
 cases h with
 |nil=>simp at e
 |snoc m h=>
  have:=append_inj' e rfl;obtain⟨rfl,h2⟩:=this;simp at h2;subst h2;exact⟨_,rfl,h⟩
theorem IsT.zero(h:IsT 0 xs):xs= []:=by
 cases h with
 |nil=>rfl
theorem IsT.len(h:IsT k xs):k<=xs.length:=by
 induction h with
 |nil=>exact Nat.le_refl _
 |snoc n h ih=>simp;omega
theorem IsT.split:∀{m:Nat}{xs:List Nd},IsT m xs->∀{k j:Nat},m=k+j->∃a b,xs=a++b/\IsT k a/\IsT j b:=by
 intro m xs h;induction h with
 |nil=>intro k j e;obtain⟨rfl,rfl⟩:k=0/\j=0:=by omega
       exact⟨[],[],rfl,.nil,.nil⟩
 | @snoc q ys n h ih=>
   intro k j e;cases j with
   |zero=>exact⟨ys++ [n],[],by simp,by rw[show k=q+1 by omega];exact .snoc n h,.nil⟩
   |succ j=>
    obtain⟨a,b,rfl,ha,hb⟩:=ih (k:=k) (j:=j+yA0 n.kind) qo;exact⟨a,b++ [n],by simp,ha,.snoc n hb⟩
inductive Sc:Nat->List Nd->Prop
 |nil:Sc 1 []
 |cons {m:Nat} {ys:List Nd} (n:Nd) (h:Sc (m+1) ys):Sc (m+yA0 n.kind) (n::ys)
variable {m:Nat}
theorem Sc.inv{n:Nd}{ys:List Nd}(h:Sc m (n::ys)):∃q,m=q+yA0 n.kind/\Sc (q+1) ys:=by
 cases h with
 |cons _ h=>exact⟨_,rfl,h⟩
theorem Sc.one:∀{ys:List Nd}{m k:Nat},Sc m ys->Sc k ys->m=k
 | [],_,_,.nil,.nil=>rfl
 |n::ys,m,k,h,g=>by
  obtain⟨a,rfl,ha⟩:=h.inv
  obtain⟨b,rfl,hb⟩:=g.inv
  have:=Sc.one ha hb
  omega
theorem Sc.tree:∀{ys:List Nd}{m:Nat},Sc m ys->∀{pre:List Nd},IsT m pre↔IsT 1 (pre++ys)
 | [],_,.nil,pre=>by simp
 |n::ys,m,h,pre=>by
  obtain⟨q,rfl,hq⟩:=h.inv
  have ih:=Sc.tree hq (pre:=pre++ [n])
  rw[append_assoc]at ih
  rw[show pre++n::ys=pre++([n]++ys)from rfl,<-ih]
  constructor
  .intro h;exact .snoc n h
  .intro h
   obtain⟨j,hj,h2⟩:=h.inv_snoc rfl
   rw[show q=j by omega];exact h2
theorem IsT.sc{b:List Nd}(h:IsT j b):∀{m:Nat}{ys:List Nd},Sc (m+j) ys->Sc m (b++ys):=by
 induction h with
 |nil=>intro m ys h;exact h
 | @snoc k xs n h ih=>
   intro m ys hs;rw[append_assoc];apply ih;show Sc (m+(k+yA0 n.kind)) (n::ys);rw[<-Nat.add_assoc];exact .cons n hs
theorem IsT.sc0{b:List Nd}(h:IsT 1 b):Sc 0 b:=by have:=h.sc (m:=0) (ys:= []) .nil;simpa using this
theorem yM1(hi:IsT 1 (xs.drop i))(hj:IsT 1 (xs.drop j))(hij:i<=j)(hjl:j<=xs.length):i=j:=by
 have h0:=hj.sc0;have e:xs.drop i=(xs.drop i).take (j-i)++xs.drop j:=by
  conv=>lhs;rw[<-take_append_drop (j-i) (xs.drop i)]
  rw[drop_drop,show i+(j-i)=j by omega]
 rw[e]at hi;have h1:=(h0.tree.2 hi).zero;have h2:=congrArg List.length h1;simp at h2;omega
theorem xEg:∀{i m:Nat},Sc (m+1) (xs.drop i)->∀j,i<=j->j<=xs.length->¬IsT 1 (xs.drop j):=by
 intro i m h j hij a0 ht;obtain⟨d,rfl⟩:∃d,j=i+d:=⟨j-i,by omega⟩;clear hij;induction d generalizing i m with
 |zero=>have:=h.one ht.sc0;omega
 |succ d ih=>
  rw[drop_eq_getElem_cons (by omega)]at h;obtain⟨q,_,hq⟩:=h.inv;exact ih (i:=i+1) (m:=q) hq (by omega) (by rw[show i+1+d=i+(d+1)by omega];exact ht)
structure yA1 where
 valid:Bool
 kind:Int
 nest:Nat
def yCc(k:Int):Nat:=if k=15 then 1 else if k=14 then 2 else 3
def yCf(op:Int)(i:Nat)(kid:Int):Bool:=decide (op=16) || (if i=0 then decide (yCc kid<yCc op)else decide (yCc kid<=yCc op))
def yA2(op:Int):Nat->Nat->List yA1->Nat
 |_,a,[]=>a
 |i,a,o::os=>yA2 op (i+1) (max a (o.nest+if yCf op i o.kind then 1 else 0)) os
variable (G:Nd->Bool)
def yDp(n:Nd)(os:List yA1):yA1:=⟨G n && os.all (·.valid),n.kind,yA2 n.kind 0 0 os⟩
def yVy(st:List yA1)(n:Nd):Option (List yA1):=
 if st.length<yA0 n.kind then none else some (st.take (st.length-yA0 n.kind)++ [yDp G n (st.drop (st.length-yA0 n.kind))])
def yC5(st:List yA1):List Nd->Option (List yA1)
 | []=>some st
 |n::ns=>match yVy G st n with
  |none=>none
  |some st'=>yC5 st' ns
theorem yFc(st:List yA1) xs ys:yC5 G st (xs++ys)=(yC5 G st xs).bind (λs=>yC5 G s ys):=by
 induction xs generalizing st with
 |nil=>rfl
 |cons x xs ih=>
  simp only[cons_append,yC5];cases yVy G st x with
  |none=>rfl
  |some s=>exact ih s
inductive ShT:List yA1->List Nd->Prop
 |nil:ShT [] []
 |snoc {ss os:List yA1} {xs:List Nd} (n:Nd) (ho:os.length=yA0 n.kind) (h:ShT (ss++os) xs):ShT (ss++ [yDp G n os]) (xs++ [n])
theorem IsT.shapes(h:IsT k xs):∃ss,ss.length=k/\ShT G ss xs:=by
 induction h with
 |nil=>exact⟨[],rfl,.nil⟩
 | @snoc k xs n h ih=>
   obtain⟨ss,hl,hs⟩:=ih;refine⟨ss.take k++ [yDp G n (ss.drop k)],by simp;omega,.snoc n (by simp;omega) ?_⟩;rw[take_append_drop];exact hs
variable {ss:List yA1}
theorem ShT.tree(h:ShT G ss xs):IsT ss.length xs:=by exact xF2
theorem ShT.fold(h:ShT G ss xs):∀st,yC5 G st xs=some (st++ss):=by
 induction h with
 |nil=>intro st;simp[yC5]
 | @snoc ss os xs n ho h ih=>
   intro st;rw[yFc,ih];simp only[Option.bind_some,yC5,yVy];rw[if_neg (by simp;omega)];have hl:(st++(ss++os)).length-yA0 n.kind=(st++ss).length:=by simp;omega
   rw[hl,<-append_assoc,take_left,drop_left,append_assoc]
theorem yQp:∀{xs pre:List Nd}{st ss:List yA1},ShT G st pre->yC5 G st xs=some ss->ShT G ss (pre++xs)
 | [],pre,st,ss,h,e=>by simp[yC5]at e;subst e;simpa using h
 |n::xs,pre,st,ss,h,e=>by
  simp only[yC5,yVy]at e
  by_cases hl:st.length<yA0 n.kind
  .rw[if_pos hl]at e;cases e
  .rw[if_neg hl]at e
   have h1:ShT G (st.take (st.length-yA0 n.kind)++ [yDp G n (st.drop (st.length-yA0 n.kind))]) (pre++ [n]):=by refine .snoc n (by simp;omega) ?_;rw[take_append_drop];exact h
   have h2:=yQp h1 e
   rw[append_assoc]at h2
   exact h2
theorem yQo(h:yC5 G [] xs=some ss):ShT G ss xs:=by simpa using yQp G (pre:= []) .nil h
theorem ShT.valid(h:ShT G ss xs):ss.all (·.valid)=xs.all G:=by
 induction h with
 |nil=>rfl
 | @snoc ss os xs n ho h ih=>
   rw[all_append,all_append,<-ih,all_append];simp[yDp];cases G n<;>cases ss.all (·.valid)<;>cases os.all (·.valid)<;>rfl
theorem ShT.split(h:ShT G ss xs):∀{a b:List yA1},ss=a++b->∃ys zs,xs=ys++zs/\ShT G a ys/\ShT G b zs:=by
 induction h with
 |nil=>intro a b e;obtain⟨rfl,rfl⟩:a= []/\b= []:=by simpa using e.symm
       exact⟨[],[],rfl,.nil,.nil⟩
 | @snoc ss os xs n ho h ih=>
   intro a b e;rcases eq_nil_or_concat b with rfl|⟨b',z,rfl⟩
   .simp at e;subst e;exact⟨xs++ [n],[],by simp,.snoc n ho h,.nil⟩
   .rw[concat_eq_append,<-append_assoc]at e;have e2:=append_inj' e rfl;obtain⟨e3,e4⟩:=e2;simp at e4;subst e3 e4;obtain⟨ys,zs,rfl,h1,h2⟩:=ih (a:=a) (b:=b'++os) (by simp);refine⟨ys,zs++ [n],by simp,h1,?_⟩;rw[concat_eq_append];exact .snoc n ho h2
theorem ShT.inv{s:yA1}(h:ShT G [s] xs):∃ys n os,xs=ys++ [n]/\os.length=yA0 n.kind/\ShT G os ys/\s=yDp G n os:=by exact xGh
inductive Kids:List yA1->List (List Nd)->Prop
 |nil:Kids [] []
 |cons {o:yA1} {os:List yA1} {k:List Nd} {ks:List (List Nd)} (h:ShT G [o] k) (t:Kids os ks):Kids (o::os) (k::ks)
theorem ShT.kids:∀{os:List yA1}{ys:List Nd},ShT G os ys->∃ks,ys=ks.flatten/\Kids G os ks
 | [],ys,h=>by
   have:=h.tree.zero
   subst this
   exact⟨[],rfl,.nil⟩
 |o::os,ys,h=>by
  obtain⟨a,b,rfl,h1,h2⟩:=ShT.split G h (a:= [o]) (b:=os) rfl
  obtain⟨ks,rfl,hk⟩:=ShT.kids h2
  exact⟨a::ks,rfl,.cons h1 hk⟩
variable {os:List yA1} {ks:List (List Nd)}
theorem Kids.length(h:Kids G os ks):os.length=ks.length:=by
 induction h with
 |nil=>rfl
 |cons _ _ ih=>simp[ih]
theorem Kids.tree(h:Kids G os ks):∀k∈ks,IsT 1 k:=by exact xC2
theorem Kids.nth(h:Kids G os ks):∀{j:Nat}{k:List Nd},ks[j]?=some k->∃o,os[j]?=some o/\ShT G [o] k:=by
 induction h with
 |nil=>intro j k hk;simp at hk
 |cons h1 _ ih=>
  intro j k hk;cases j with
  |zero=>simp at hk;subst hk;exact⟨_,rfl,h1⟩
  |succ j=>simp at hk;simpa using ih hk
theorem yJr(op:Int)(B:Nat):∀{os:List yA1}{i a:Nat},a<=B->(∀o∈os,o.nest+1<=B)->yA2 op i a os<=B
 | [],i,a,h,_=>h
 |o::os,i,a,h,g=>by
  unfold yA2
  apply yJr op B
  .have:=g o (by simp)
   split<;>omega
  .exact λo' ho=>g o' (by simp[ho])
theorem yTc(h:Kids G os ks){o:yA1}(ho:o∈os):∃k∈ks,ShT G [o] k:=by
 induction h with
 |nil=>cases ho
 |cons h1 _ ih=>
  rcases mem_cons.1 ho with rfl|ho
  .exact⟨_,by simp,h1⟩
  .obtain⟨k,hk,h2⟩:=ih ho;exact⟨k,by simp[hk],h2⟩
theorem yIx{k:List Nd}(h:k∈ks):k.length<=ks.flatten.length:=by
 induction ks with
 |nil=>cases h
 |cons a ks ih=>
  simp only[flatten_cons,length_append];rcases mem_cons.1 h with rfl|h
  .omega
  .have:=ih h;omega
theorem yNz:∀(n:Nat){s:yA1}{xs:List Nd},xs.length<=n->ShT G [s] xs->s.nest<=xs.length
 |0,s,xs,hn,h=>by
  obtain⟨ys,e,os,rfl,_⟩:=h.inv
  simp at hn
 |n+1,s,xs,hn,h=>by
  obtain⟨ys,e,os,rfl,_,h2,rfl⟩:=h.inv
  obtain⟨ks,rfl,hK⟩:=h2.kids
  simp only[length_append,length_singleton]at hn|-
  refine yJr e.kind _ (zero_le _) λo ho=>?_
  obtain⟨k,hk,h3⟩:=yTc G hK ho
  have h4:=yIx hk
  have h5:=yNz n qo h3
  omega
end
section
inductive TokG(A:List UInt8->Pat->Prop):List UInt8->Prop
 |nil:TokG A []
 |sign {c:UInt8} {zs:List UInt8} (hc:c=124\/isOp c) (h:TokG A zs):TokG A (c::zs)
 |atom {xs zs:List UInt8} {t:Pat} (ha:A xs t) (h:TokG A zs):TokG A (xs++zs)
variable {A:List UInt8->Pat->Prop} {xs:List UInt8}
theorem TokG.cat{ys:List UInt8}(h:TokG A xs)(k:TokG A ys):TokG A (xs++ys):=by
 induction h with
 |nil=>exact k
 |sign hc _ ih=>exact .sign hc ih
 |atom ha _ ih=>rw[append_assoc];exact .atom ha ih
theorem TokG.ops:∀{l:List UInt8},(∀c∈l,isOp c)->TokG A l
 | [],_=>.nil
 |c::l,h=>.sign (.inr (h c (by simp))) (TokG.ops (λd hd=>h d (by simp[hd])))
variable {t:Pat}
theorem RepG.tok:RepG A xs t->TokG A xs
 |⟨ys,ops,a,h1,h2,h3,_⟩=>by rw[h1];exact .atom h2 (TokG.ops h3)
theorem SeqG.tok:∀{ts:List Pat}{xs:List UInt8},SeqG A ts xs->TokG A xs
 | [],_,h=>by rw[show _= []from h];exact .nil
 |_::_,_,⟨ys,zs,h1,h2,h3⟩=>by rw[h1];exact h2.tok.cat (SeqG.tok h3)
theorem AltG.tok:∀{os:List (List Pat)}{xs:List UInt8},AltG A os xs->TokG A xs
 | [],_,h=>h.elim
 | [_],_,h=>SeqG.tok h
 |_::_::_,_,⟨ys,zs,h1,h2,h3⟩=>by rw[h1];exact h2.tok.cat (.sign (.inl rfl) (AltG.tok h3))
theorem yAm.first:∀{n:Nat}{xs:List UInt8}{t:Pat},yAm n xs t->∃c ys,xs=c::ys/\¬c=41/\¬c=124/\¬isOp c
 |0,_,_,h=>h.elim
 |n+1,xs,t,h=>by
  rcases h with⟨c,rfl,hs,_⟩|⟨rfl,_⟩|⟨c,rfl,_⟩|⟨ys,os,rfl,_,_⟩|⟨p,i,k,f,h1,h2,rfl,_⟩
  .exact⟨c,[],rfl,λq=>hs (.inl (.inr (.inr (.inl q)))),λq=>hs (.inl (.inr (.inl q))),λq=>hs (.inl (.inl q))⟩
  .exact⟨46,[],rfl,qj,qj,by decide⟩
  .exact⟨92,[c],rfl,by decide,by decide,by decide⟩
  .exact⟨40,ys++ [41],rfl,by decide,by decide,by decide⟩
  .have hg:=yBj h2
   refine⟨91,cut p (i+1) k,?_,by decide,by decide,by decide⟩
   rw[yBq (show i<=i+1 by omega) (show i+1<=k by omega),yCa h1]
   rfl
variable {m:Nat}
theorem yMs{f:UInt8->Bool}(h1:q[j]?=some 91)(h2:yAq q (j+1)=.inl (f,m))(hc:cut p i k=cut q j m)(hk:k<=p.length)(hik:i<k):p[i]?=some 91/\yAq p (i+1)=.inl (f,k):=by
 have hg:=yBj h2;have hl:k-i=m-j:=by have h3:=congrArg List.length hc;rw[yAw hk,yAw hg.2]at h3;exact h3
 have a0:∀t,t<k-i->p[i+t]?=q[j+t]?:=λt ht=>by have h3:=congrArg (λl=>l[t]?) hc;simp only[cut,getElem?_take,getElem?_drop]at h3;rw[if_pos ht,if_pos (by omega)]at h3;exact h3
 refine⟨by have:=a0 0 (by omega);simpa [h1]using this,?_⟩;have e:=yFd (q:=p) (j:=i+1) h2 (λt ht=>by have:=a0 (1+t) (by omega);rw[show i+1+t=i+(1+t)by omega,this];congr 1;omega);rw[e];simp only[Sum.inl.injEq,Prod.mk.injEq,true_and];omega
end
section
section
variable {P:Program} {ops:Array Oper} {Q:Exit->Act->World->Prop} {md:Region.Mode} {S:World->Prop} {L:Nat} {l n:Nat}
theorem xEy{K:Act->World->Prop}(hd:∀c,o.op≠ .defer c)(h:o.wp P a w K Q):o.wpIn (Fence.wide.inRound l) n P a w K Q:=by
 refine⟨λ_ _=>trivial,?_⟩;rw[Oper.semAt_eq _ _ _ hd];unfold Oper.wp at h;generalize (execOp a.eval o).run P w=r at*;cases r with
 |ok x w'=>
  cases x with
  |value v=>exact h
  |skip=>exact h
  |defer d=>exact h
  |enter f args=>exact⟨λq=>by simp[Fence.wide]at q,CallsIn.inRound l (callsIn_wide.2 h)⟩
  |row row args=>exact⟨λq=>by simp[Fence.wide]at q,λc cs hr=>let ⟨v,w'',r,s⟩:=h c cs;⟨v,w'',r,stepsIn_wide.2 s⟩⟩
  |_=>exact h.elim
 |halt x w'=>cases x<;>exact h
def yNy(ops:Array Oper):Bool:=ops.all (λo=>match o.op with| .defer _=>false|_=>true)
theorem yPv(h:yNy ops=true)(ho:ops[i]?=some o)(c:Call):o.op≠ .defer c:=by intro q;unfold yNy at h;rw[Array.all_eq_true]at h;obtain⟨hi,he⟩:=Array.getElem?_eq_some_iff.1 ho;have:=h i hi;rw[he,q]at this;cases this
theorem yI4(hd:yNy ops=true)(hno:¬LetsOut Q):∀(fuel:Nat)(listed:Array Bool)(a:Act)(w:World),wpAny P md ops Q fuel listed a w->wpAnyIn (Fence.wide.inRound l) n P md ops Q fuel listed a w
 |0,_,_,_,h=>h
 |fuel+1,listed,a,w,h=>by
  refine⟨h.1,λi hi=>?_⟩
  have h1:=h.2 i hi
  unfold wpOp at h1
  unfold wpOpIn
  cases ho:ops[i]? with
  |none=>
   rw[ho]at h1
   exact yI4 hd hno fuel _ a w h1
  |some o=>
   rw[ho]at h1
   simp only at h1|-
   split
   .next hw=>
    rw[if_pos hw]at h1
    rcases h1 with h1|⟨_,h1⟩
    .exact Oper.wpIn_mono (λa w q=>yI4 hd hno fuel _ a w q) (xEy (yPv hd ho) h1)
    .exact(hno h1).elim
   .next hw=>
    rw[if_neg hw]at h1
    exact⟨λ_ _=>trivial,yI4 hd hno fuel _ _ w h1⟩
theorem yGh{id:Nat}(L:Nat)(S:World->Prop)(hm:P.follows .mixedOrders=true)(hd:yNy ops=true)(hno:¬LetsOut Q)
  (h:AnyT P .any ops Q S L ops.size (Array.replicate ops.size false) a w.drew):(Code.region id ops true).wpIn (Fence.wide.inRound l) n P Q a w:=
 wpIn_region_any hm (yI4 hd hno _ _ _ _ (yOx _ _ _ _ h))
end
end
section
def yBh:List Pat->List UInt8×Bool
 | []=>([],true)
 | .byte c::ts=>(c::(yBh ts).1,(yBh ts).2)
 | .cls _::_=>([],false)
 | .rep _ _ _::_=>([],false)
 | .alt _::_=>([],false)
def yUy:List (List Pat)->List UInt8×Bool
 | [ts]=>yBh ts
 |_=>([],false)
def yQk:Pat->Prop
 | .byte _=>True
 |_=>False
variable {t:Pat}
theorem yGt(h:¬yQk t)(ts:List Pat):yBh (t::ts)=([],false):=by
 cases t with
 |byte b=>exact(h trivial).elim
 |_=>rfl
inductive TokN(A:List UInt8->Pat->Prop):Nat->List UInt8->Prop
 |nil:TokN A 0 []
 |bar {k:Nat} {zs:List UInt8} (h:TokN A k zs):TokN A (k+1) (124::zs)
 |op {k:Nat} {c:UInt8} {zs:List UInt8} (hc:isOp c) (h:TokN A k zs):TokN A k (c::zs)
 |atom {k:Nat} {xs zs:List UInt8} {t:Pat} (ha:A xs t) (h:TokN A k zs):TokN A k (xs++zs)
variable {A:List UInt8->Pat->Prop} {m:Nat} {xs:List UInt8}
theorem TokN.cat{ys:List UInt8}(h:TokN A k xs)(q:TokN A m ys):TokN A (k+m) (xs++ys):=by
 induction h with
 |nil=>simpa using q
 |bar _ ih=>rw[show∀k,k+1+m=(k+m)+1 from λk=>qo];exact .bar ih
 |op hc _ ih=>exact .op hc ih
 |atom ha _ ih=>rw[append_assoc];exact .atom ha ih
theorem TokN.ops:∀{l:List UInt8},(∀c∈l,isOp c)->TokN A 0 l
 | [],_=>.nil
 |c::l,h=>.op (h c (by simp)) (TokN.ops (λd hd=>h d (by simp[hd])))
theorem RepG.tokn:RepG A xs t->TokN A 0 xs
 |⟨ys,ops,a,h1,h2,h3,_⟩=>by rw[h1];exact .atom h2 (TokN.ops h3)
theorem SeqG.tokn:∀{ts:List Pat}{xs:List UInt8},SeqG A ts xs->TokN A 0 xs
 | [],_,h=>by rw[show _= []from h];exact .nil
 |_::_,_,⟨ys,zs,h1,h2,h3⟩=>by rw[h1];simpa using h2.tokn.cat (SeqG.tokn h3)
theorem AltG.tokn:∀{os:List (List Pat)}{xs:List UInt8},AltG A os xs->∃k,os.length=k+1/\TokN A k xs
 | [],_,h=>h.elim
 | [_],_,h=>⟨0,rfl,SeqG.tokn h⟩
 |_::o::os,_,⟨ys,zs,h1,h2,h3⟩=>by
  obtain⟨k,hk,hT⟩:=AltG.tokn h3
  refine⟨k+1,by simp at hk|-;omega,?_⟩
  rw[h1]
  have:=h2.tokn.cat (TokN.bar hT)
  simpa using this
theorem yI9(h:TokN A k xs):(xs= []/\k=0)\/(∃m zs,xs=124::zs/\k=m+1/\TokN A m zs)\/(∃c zs,xs=c::zs/\isOp c/\TokN A k zs)\/(∃ys zs t,xs=ys++zs/\A ys t/\TokN A k zs):=by
 cases h with
 |nil=>exact .inl ⟨rfl,rfl⟩
 |bar h=>exact .inr (.inl ⟨_,_,rfl,rfl,h⟩)
 |op hc h=>exact .inr (.inr (.inl ⟨_,_,rfl,hc,h⟩))
 |atom ha h=>exact .inr (.inr (.inr ⟨_,_,_,rfl,ha,h⟩))
theorem yHo{c:UInt8}{zs:List UInt8}(h:cut p j m=c::zs)(hm:m<=p.length):p[j]?=some c/\cut p (j+1) m=zs/\j<m:=by exact xGm
theorem yQ4{zs:List UInt8}(h:cut p j m=xs++zs)(hm:m<=p.length)(hjm:j<=m):cut p j (j+xs.length)=xs/\cut p (j+xs.length) m=zs/\j+xs.length<=m:=by have hl:=congrArg List.length h;rw[yAw hm,length_append]at hl;exact xGe
theorem yAm.byte:∀{n:Nat}{xs:List UInt8}{t:Pat},yAm n xs t->∃c ys,xs=c::ys/\((∃b,t=.byte b/\xs.getLast?=some b/\(¬yB3 c\/c=92))\/(¬yQk t/\yB3 c/\¬c=92))
 |0,_,_,h=>h.elim
 |n+1,xs,t,h=>by
  rcases h with⟨c,rfl,hs,rfl⟩|⟨rfl,rfl⟩|⟨c,rfl,rfl⟩|⟨ys,os,rfl,_,rfl⟩|⟨p,i,k,f,h1,h2,rfl,rfl⟩
  .exact⟨c,[],rfl,.inl ⟨c,rfl,rfl,.inl hs⟩⟩
  .exact⟨46,[],rfl,.inr ⟨λh=>h,by decide,by decide⟩⟩
  .exact⟨92,[c],rfl,.inl ⟨c,rfl,rfl,.inr rfl⟩⟩
  .exact⟨40,ys++ [41],rfl,.inr ⟨λh=>h,by decide,by decide⟩⟩
  .have hg:=yBj h2
   refine⟨91,cut p (i+1) k,?_,.inr ⟨λh=>h,by decide,by decide⟩⟩
   rw[yBq (show i<=i+1 by omega) (show i+1<=k by omega),yCa h1]
   rfl
structure xFy(n:Nat)(p:List UInt8)(i m j:Nat)(c:UInt8)(a t:Pat)(ts:List Pat):Prop where
 atom:yAm n (cut p i j) a
 lt:i<j
 le:j<=m
 at0:p[i]?=some c
 what:(∃b,t=.byte b/\(¬yB3 c\/c=92)/\(∀d,p[j]?=some d->j<m->¬isOp d)/\p[j-1]?=some b/\SeqG (yAm n) ts (cut p j m))\/(¬yQk t/\((yB3 c/\¬c=92)\/((¬yB3 c\/c=92)/\∃d,p[j]?=some d/\isOp d/\j<m)))
variable {n:Nat}
theorem yNi{ts:List Pat}(h:SeqG (yAm n) ts (cut p i m))(hm:m<=p.length)(him:i<m):∃t ts' j c a,ts=t::ts'/\xFy n p i m j c a t ts':=by
 cases ts with
 |nil=>
  have hl:=yAw (p:=p) (i:=i) hm;rw[show cut p i m= []from h]at hl;simp at hl;omega
 |cons t ts'=>
  obtain⟨ys,zs,h1,⟨xa,ops,a,h2,h3,h4,h5⟩,h6⟩:=h;rw[h2,append_assoc]at h1;obtain⟨c1,c2,c3⟩:=yQ4 h1 hm (by omega);obtain⟨c,xb,hc,hw⟩:=h3.byte;have ab:0<xa.length:=by rw[hc];simp
  obtain⟨p0,_,_⟩:=yHo (c1.trans hc) (by omega);refine⟨t,ts',i+xa.length,c,a,rfl,⟨by rw[c1];exact h3,by omega,c3,p0,?_⟩⟩;cases ops with
  |nil=>
   have a5:t=a:=h5;subst a5;rw[nil_append]at c2;rcases hw with⟨b,hb,a0,hs⟩|⟨hb,hs⟩
   .left;refine⟨b,hb,hs,?_,?_,by rw[c2];exact h6⟩
    .intro d hd aa;cases ts' with
     |nil=>
      have hl:=yAw (p:=p) (i:=i+xa.length) hm;rw[c2,show zs= []from h6]at hl;simp at hl;omega
     |cons t2 ts2=>
      obtain⟨a8,a1,e1,⟨a9,a4,a2,e2,e3,_,_⟩,_⟩:=h6;obtain⟨a7,a3,hc2,_,_,hn⟩:=e3.first;rw[e1,e2,hc2]at c2;have:=(yHo (p:=p) (c:=a7) (zs:=a3++a4++a1) (by rw[c2];simp) hm).1;rw[hd]at this;rw[Option.some.inj this];exact hn
    .have hg:xa[xa.length-1]?=some b:=by rw[<-getLast?_eq_getElem?];exact a0
     have e:=congrArg (λl=>l[xa.length-1]?) c1;simp only[cut,getElem?_take,getElem?_drop]at e;rw[if_pos qo,hg]at e;rw[show i+xa.length-1=i+(xa.length-1)by omega];exact e
   .exact .inr ⟨hb,.inl hs⟩
  |cons o ops=>
   right;have a6:¬yQk t:=by rw[h5,if_neg (by simp)];exact λh=>h
   refine⟨a6,?_⟩;obtain⟨q1,_,q3⟩:=yHo (p:=p) (c:=o) (zs:=ops++zs) (by rw[c2];simp) hm;rcases hw with⟨b,hb,a0,hs⟩|⟨hb,hs⟩
   .exact .inr ⟨hs,o,q1,h4 o (by simp),q3⟩
   .exact .inl hs
theorem yNj{ts:List Pat}(h:SeqG (yAm n) ts (cut p m m))(hm:m<=p.length):ts= []:=by
 cases ts with
 |nil=>rfl
 |cons t ts=>
  obtain⟨ys,zs,h1,⟨xa,ops,a,h2,h3,_,_⟩,_⟩:=h;obtain⟨c,xb,hc,_⟩:=h3.first;rw[yDe,h2,hc]at h1;simp at h1
end
inductive Tag(n:Nat):UInt8->List UInt8->Pat->Prop
 |plain {c:UInt8} (h:¬yB3 c):Tag n c [] (.byte c)
 |dot:Tag n 46 [] (.cls (λ_=>true))
 |esc {d:UInt8}:Tag n 92 [d] (.byte d)
 |group {ys:List UInt8} {os:List (List Pat)} (h:AltG (yAm n) os ys):Tag n 40 (ys++ [41]) (.alt os)
 |cls {zs:List UInt8} {f:UInt8->Bool} (h:∀r,yAq (91::zs++r) 1=.inl (f,zs.length+1)):Tag n 91 zs (.cls f)
variable {n:Nat}
theorem yAm.tag{xs:List UInt8}{t:Pat}(h:yAm (n+1) xs t):∃c zs,xs=c::zs/\Tag n c zs t:=by
 rcases h with⟨c,rfl,hs,rfl⟩|⟨rfl,rfl⟩|⟨c,rfl,rfl⟩|⟨ys,os,rfl,ho,rfl⟩|⟨p,i,k,f,h1,h2,rfl,rfl⟩
 .exact⟨c,[],rfl,.plain hs⟩
 .exact⟨46,[],rfl,.dot⟩
 .exact⟨92,[c],rfl,.esc⟩
 .exact⟨40,ys++ [41],rfl,.group ho⟩
 .have hg:=yBj h2;have e:cut p i k=91::cut p (i+1) k:=by rw[yBq (show i<=i+1 by omega) (show i+1<=k by omega),yCa h1];rfl
  refine⟨91,_,e,.cls λr=>?_⟩;have hl:=congrArg List.length e;rw[length_cons]at hl;have h3:=yMs (p:=91::cut p (i+1) k++r) (i:=0) (k:=(cut p (i+1) k).length+1) h1 h2 ?_ (by simp) (by omega)
  .exact h3.2
  .rw[<-hl,<-e];show(List.drop 0 (cut p i k++r)).take ((cut p i k).length-0)=_;rw[drop_zero,Nat.sub_zero,take_left]
theorem xEc{A B:List UInt8->Pat->Prop}(hA:∀ys t,A ys t->∃c zs,ys=c::zs/\¬c=41/\¬c=124/\¬isOp c)(hB:∀ys t,B ys t->∃c zs,ys=c::zs/\¬c=41/\¬c=124/\¬isOp c)
  (U:∀xs ys t t' r r',A xs t->B ys t'->xs++r=ys++r'->xs=ys) {xs:List UInt8} (h:TokG A xs):∀{ys r r':List UInt8},TokG B ys->xs++41::r=ys++41::r'->xs=ys:=by
 induction h with
 |nil=>
  intro ys r r' k e;cases k with
  |nil=>rfl
  |sign hc _=>
   simp at e;exfalso;rw[<-e.1]at hc;rcases hc with q|q|q|q<;>exact absurd q qj
  |atom ha _=>
   obtain⟨c,zs,rfl,a1,_⟩:=hB _ _ ha;simp at e;exact absurd e.1.symm a1
 | @sign c zs hc h ih=>
   intro ys r r' k e;cases k with
   |nil=>
    simp at e;exfalso;rw[e.1]at hc;rcases hc with q|q|q|q<;>exact absurd q qj
   |sign hc' k'=>
    simp at e;rw[e.1,ih k' e.2]
   |atom ha _=>
    obtain⟨c,zs,rfl,_,a2,a0⟩:=hB _ _ ha;simp at e;rw[e.1]at hc;exact absurd hc (λq=>q.elim a2 a0)
 | @atom us zs t ha h ih=>
   intro ys r r' k e;cases k with
   |nil=>
    obtain⟨c,zs,rfl,a1,_⟩:=hA _ _ ha;simp at e;exact absurd e.1 a1
   |sign hc' k'=>
    obtain⟨c,zs,rfl,_,a2,a0⟩:=hA _ _ ha;simp at e;rw[<-e.1]at hc';exact absurd hc' (λq=>q.elim a2 a0)
   |atom hb k'=>
    rw[append_assoc,append_assoc]at e;have q:=U _ _ _ _ _ _ ha hb e;subst q;rw[ih k' (append_cancel_left e)]
theorem yI2:∀{n m:Nat}{xs ys:List UInt8}{t t':Pat}{r r':List UInt8},yAm n xs t->yAm m ys t'->xs++r=ys++r'->xs=ys
 |0,_,_,_,_,_,_,_,h,_,_=>h.elim
 |_+1,0,_,_,_,_,_,_,_,h,_=>h.elim
 |n+1,m+1,xs,ys,t,t',r,r',h,k,e=>by
  obtain⟨c,zs,rfl,hT⟩:=h.tag
  obtain⟨c',zs',rfl,hT'⟩:=k.tag
  simp only[cons_append,List.cons.injEq]at e
  obtain⟨rfl,e⟩:=e
  congr 1
  cases hT with
  |plain h1=>
   cases hT' with
   |plain _=>rfl
   |dot=>rfl
   |esc=>exact absurd h1 qj
   |group _=>exact absurd h1 qj
   |cls _=>exact absurd h1 qj
  |dot=>
   cases hT' with
   |plain _=>rfl
   |dot=>rfl
  |esc=>
   cases hT' with
   |plain h1=>exact absurd h1 qj
   |esc=>simp at e;rw[e.1]
  |group h1=>
   cases hT' with
   |plain h1=>exact absurd h1 qj
   |group h2=>
    rw[append_assoc,append_assoc]at e
    rw[xEc (λys t q=>q.first) (λys t q=>q.first) (λxs ys t t' r r' a b e=>yI2 a b e) h1.tok h2.tok e]
  |cls h1=>
   cases hT' with
   |plain h1=>exact absurd h1 qj
   |cls h2=>
    have a:=h1 r
    have b:=h2 r'
    rw[cons_append,e]at a
    rw[cons_append,a]at b
    simp at b
    exact(append_inj e b.2).1
variable {m:Nat}
theorem xAw{xs:List UInt8}(h:TokN (yAm n) k xs):∀{j:Nat}{ys:List UInt8},TokN (yAm m) j ys->xs=ys->k=j:=by
 induction h with
 |nil=>
  intro j ys q e;cases q with
  |nil=>rfl
  |bar _=>cases e
  |op _ _=>cases e
  |atom ha _=>obtain⟨c,zs,rfl,_⟩:=ha.first;cases e
 |bar h ih=>
  intro j ys q e;cases q with
  |nil=>cases e
  |bar q'=>simp at e;rw[ih q' e]
  |op hc _=>simp at e;rw[<-e.1]at hc;exact absurd hc qj
  |atom ha _=>obtain⟨c,zs,rfl,_,a1,_⟩:=ha.first;simp at e;exact absurd e.1.symm a1
 |op hc h ih=>
  intro j ys q e;cases q with
  |nil=>cases e
  |bar _=>simp at e;rw[e.1]at hc;exact absurd hc qj
  |op hc' q'=>simp at e;exact ih q' e.2
  |atom ha _=>obtain⟨c,zs,rfl,_,_,a0⟩:=ha.first;simp at e;rw[e.1]at hc;exact absurd hc a0
 |atom ha h ih=>
  intro j ys q e;cases q with
  |nil=>obtain⟨c,zs,rfl,_⟩:=ha.first;cases e
  |bar _=>obtain⟨c,zs,rfl,_,a1,_⟩:=ha.first;simp at e;exact absurd e.1 a1
  |op hc _=>obtain⟨c,zs,rfl,_,_,a0⟩:=ha.first;simp at e;rw[<-e.1]at hc;exact absurd hc a0
  |atom hb q'=>
   have u:=yI2 ha hb e;subst u;exact ih q' (append_cancel_left e)
theorem yPp:∀{ts us:List Pat}{i:Nat},i<=p.length->SeqG (yAm n) ts (cut p i p.length)->SeqG (yAm m) us (cut p i p.length)->yBh ts=yBh us
 | [],us,i,hi,h,k=>by
   have hip:i=p.length:=by have hl:=yAw (p:=p) (i:=i) qr;rw[show cut p i p.length= []from h]at hl;simp at hl;omega
   subst hip
   rw[yNj k qr]
 |t::ts,us,i,hi,h,k=>by
  have him:i<p.length:=by refine Nat.lt_of_le_of_ne hi λq=>?_;subst q;exact absurd (yNj h qr) (by simp)
  obtain⟨t1,a3,j,c,a,e1,h1⟩:=yNi h qr him;obtain⟨rfl,rfl⟩:t1=t/\a3=ts:=by simpa using e1.symm
  obtain⟨u1,a6,j',c',a',rfl,k1⟩:=yNi k qr him;have e2:=yI2 (r:=cut p j p.length) (r':=cut p j' p.length) h1.atom k1.atom (by rw[<-yBq (Nat.le_of_lt h1.lt) h1.le,<-yBq (Nat.le_of_lt k1.lt) k1.le]);have e3:j=j':=by have hl:=congrArg List.length e2;rw[yAw h1.le,yAw k1.le]at hl;have:=h1.lt;have:=k1.lt;omega
  subst e3;obtain rfl:c=c':=Option.some.inj (h1.at0.symm.trans k1.at0);rcases h1.what with⟨b,rfl,hs,hn,hb,hS⟩|⟨a5,hw⟩
  .rcases k1.what with⟨b',rfl,_,_,a2,kS⟩|⟨_,(⟨s1,s2⟩|⟨_,d,hd,a0,a1⟩)⟩
   .obtain rfl:b=b':=Option.some.inj (hb.symm.trans a2);simp only[yBh];rw[yPp h1.le hS kS]
   .exact absurd hs (λq=>q.elim (λz=>z s1) s2)
   .exact absurd a0 (hn d hd a1)
  .rw[yGt a5];rcases k1.what with⟨b',rfl,hs,hn,a2,kS⟩|⟨a4,_⟩
   .rcases hw with⟨s1,s2⟩|⟨_,d,hd,a0,a1⟩
    .exact absurd hs (λq=>q.elim (λz=>z s1) s2)
    .exact absurd a0 (hn d hd a1)
   .rw[yGt a4]
theorem yW{os us:List (List Pat)}(h:yDn p 0 0 p.length os)(k:yDn p 0 0 p.length us):yUy os=yUy us:=by
 obtain⟨n,h1⟩:=h.gr;obtain⟨m,k1⟩:=k.gr;obtain⟨j,hj,hT⟩:=h1.tokn;obtain⟨j',a0,kT⟩:=k1.tokn;have e:=xAw hT kT rfl;match os,us,h1,k1,hj,a0 with
 | [ts],[us],h1,k1,_,_=>exact yPp (zero_le _) h1 k1
 | [ts],u::v::us,h1,k1,hj,a0=>simp at hj a0;omega
 |t::v::ts,[us],h1,k1,hj,a0=>simp at hj a0;omega
 |t::v::ts,u::x::us,h1,k1,hj,a0=>rfl
structure Nd.ok(e:Nd):Prop where
 s:e.s.size<=maxLen
 t:e.t.size<=maxLen
 kind:(Lit.int .i64 e.kind).wf=true
 lo:(Lit.int .u64 e.lo).wf=true
 up:(Lit.int .u64 e.up).wf=true
 n:(Lit.int .i64 e.n).wf=true
abbrev Nd.seven(e:Nd):List Value:= [.int .i64 e.kind,.string e.s,.bool e.hi,.string e.t,.int .u64 e.lo,.int .u64 e.up,.int .i64 e.n]
abbrev Nd.v(e:Nd):Value:=.agg #[xi e.kind,e.s,e.hi,e.t,xu e.lo,xu e.up,xi e.n]
def xIn:Nd:=⟨0,⟨#[]⟩,false,⟨#[]⟩,0,0,0⟩
def yKo(es:List Nd):List Value:=es.flatMap Nd.seven
theorem yEk(e:Nd) es:yKo (e::es)=e.seven++yKo es:=by simp[yKo]
theorem yW6 es:∀(k:Nat)(e:Nd),es[k]?=some e->∀j,j<7->(yKo es)[k*7+j]?=e.seven[j]?:=by
 induction es with
 |nil=>intro k e h;simp at h
 |cons f es ih=>
  intro k e h j hj;rw[yEk];cases k with
  |zero=>
   simp at h;subst h;rw[getElem?_append_left (by show 0*7+j<7;omega)];simp
  |succ k=>
   simp at h;rw[getElem?_append_right (by show 7<=(k+1)*7+j;omega)];have:(k+1)*7+j-f.seven.length=k*7+j:=by show(k+1)*7+j-7=_;omega
   rw[this];exact ih k e h j hj
theorem yW5(es:List Nd):∀(k:Nat)(e e':Nd)(u:Value)(j:Nat),es[k]?=some e->j<7->e'.seven=e.seven.set j u->(yKo es).set (k*7+j) u=yKo (es.set k e'):=by
 induction es with
 |nil=>intro k e e' u j h;simp at h
 |cons f es ih=>
  intro k e e' u j h hj hc;rw[yEk];cases k with
  |zero=>
   simp at h;subst h;rw[set_append_left _ _ (by show 0*7+j<7;omega),set_cons_zero,yEk,hc];simp
  |succ k=>
   simp at h;rw[set_append_right _ _ (by show 7<=(k+1)*7+j;omega),set_cons_succ,yEk];have:(k+1)*7+j-f.seven.length=k*7+j:=by show(k+1)*7+j-7=_;omega
   rw[this,ih k e e' u j h hj hc]
def yH1(w:World)(b off:Nat)(es:List Nd):Prop:=
 ∀i e,es[i]?=some e->xk w b (off+i*7) (xi e.kind)/\xk w b (off+i*7+1) e.s/\xk w b (off+i*7+2) e.hi/\xk w b (off+i*7+3) e.t/\xk w b (off+i*7+4) (xu e.lo)/\xk w b (off+i*7+5) (xu e.up)/\xk w b (off+i*7+6) (xi e.n)
variable {B b:Nat} {es:List Nd}
theorem yH1.below{off:Nat}(h:yH1 w b off es)(hb:Below B w w')(hlt:b<B):yH1 w' b off es:=by
 intro i e he;have:=h i e he;refine⟨?_,?_,?_,?_,?_,?_,?_⟩;all_goals rw[hb.cell (by exact hlt)]
 .exact this.1
 .exact this.2.1
 .exact this.2.2.1
 .exact this.2.2.2.1
 .exact this.2.2.2.2.1
 .exact this.2.2.2.2.2.1
 .exact this.2.2.2.2.2.2
def yC7(w:World)(base g cap:Nat)(es:List Nd):Prop:=w.ownsRow base 83 7 (xg g es.length cap) es.length (yKo es)
variable {cap:Nat}
theorem yC7.at{g:Nat}(h:yC7 w base g cap es):yH1 w g 0 es:=by
 intro i e he;have hi:=qf he;have c:=λj (hj:j<7)=>(World.ownsRow.cellAt h (i*7+j) qo).trans (yW6 es i e he j hj);refine⟨?_,?_,?_,?_,?_,?_,?_⟩
 .simpa using c 0 qo
 .simpa using c 1 qo
 .simpa using c 2 qo
 .simpa using c 3 qo
 .simpa using c 4 qo
 .simpa using c 5 qo
 .simpa using c 6 qo
theorem yC7.lt{g:Nat}(h:yC7 w base g cap es):base<=g/\g<w.heap.size:=World.ownsRow.lt h g rfl
theorem yC7.below{g:Nat}(h:yC7 w base g cap es)(hb:Below B w w')(hg:g<B):yC7 w' base g cap es:=by exact xAr
theorem yC7.mono{base' g:Nat}(h:yC7 w base g cap es)(hb:base'<=base):yC7 w base' g cap es:=by exact yO0
theorem yC7.caps{g:Nat}{R:List Nd}(h:yC7 w base g cp R):R.length<=cp/\cp<=maxLen:=by exact yMx
theorem yC7.set{g:Nat}(h:yC7 w base g cap es)(k j:Nat)(e e':Nd)(u:Value)(hk:es[k]?=some e)(hj:j<7)(hc:e'.seven=e.seven.set j u):
  yC7 (xt w g (k*7+j) u) base g cap (es.set k e'):=by
 have:=(World.ownsRow.stored h (k*7+j) u).1;rw[yW5 es k e e' u j hk hj hc]at this;unfold yC7;rw[length_set];exact this
theorem yR0(e:Nd)(left:Int)(w:World)(ho:e.ok)(h0:0<=left)(h1:left<=2^40):
  Calls prog 204 #[e.v,xi left] w λr w'=>∃x,r=.returned (xi x)/\(x= -1\/(0<=x/\x+e.s.size+e.t.size=left))/\Below w w w':=by
 have hr:=ho.s;have hf:=ho.t;unfold maxLen at hr hf;go_enter func204,ntmps204;go_wp2
 .go_ret;exact⟨_,rfl,.inl rfl,qB⟩
 .go_ret;exact⟨_,rfl,.inl rfl,qB⟩
 .go_ret;exact⟨_,rfl,.inr ⟨by assumption,qo⟩,qB⟩
theorem yRw(e:Nd)(w:World):(xf 209 #[e.v] w e.v:Prop):=by go_enter func209,ntmps209;go_wp2;refine bodyPost_ret (v:=e.v) (by simp[results,results209,go_sem]) rfl ⟨rfl,?_⟩;exact((qB).alloc (by simp) _).alloc (by simp;omega) _
theorem yTn(e:Nd)(w:World):(xf 210 #[e.v,e.v] w true:Prop):=by go_enter func210,ntmps210;go_wp2;go_ret;exact⟨rfl,(qB).alloc (by simp) _⟩
theorem ySf{ρ' γ':Nat->Nat}(h:∀i,i<k->ρ' i=ρ i/\γ' i=γ i):yNl N k ρ' γ'=yNl N k ρ γ:=by unfold yNl;apply map_congr_left;intro i hi;rw[mem_range]at hi;rw[(h i hi).1,(h i hi).2]
def updN(ρ:Nat->Nat)(k r:Nat):Nat->Nat:=λi=>if i=k then r else ρ i
theorem yE2(ρ:Nat->Nat)(k r:Nat)(h:i<k):updN ρ k r i=ρ i:=by simp[updN,ne_of_lt h]
theorem yHc(ρ:Nat->Nat)(k r:Nat):updN ρ k r k=r:=by simp[updN]
structure RowJ(w wi:World)(n g cp k r c j:Nat)(ρ γ:Nat->Nat):Prop where
 row:BRow wi w r c j (λ_=>false)
 mat:MatO wi w g cp (n+1) k ρ γ (λ_ _=>false)
 off:∀i,i<k->ρ i≠r
 below:Below w w wi
variable {wi:World}
theorem RowJ.move{g c:Nat}(h:RowJ w wi n g cp k r c j ρ γ)(hb:Below wi wi w'):RowJ w w' n g cp k r c j ρ γ:=
 ⟨h.row.chg (S:=λ_=>False) (Chg.of_below hb) (λq=>q),h.mat.below hb,h.off,h.below.trans (hb.mono h.below.size)⟩
theorem RowJ.next{g c r' c':Nat}(h:RowJ w wi n g cp k r c j ρ γ)(hr:BRow w' w r' c' (j+1) (λ_=>false))(hg:wi.grownBy w' (some r))(hat:r'=r\/r'=wi.heap.size):RowJ w w' n g cp k r' c' (j+1) ρ γ:=by
 have a0:Chg (λb=>b=r) wi w':=Chg.of_grown hg (λb hb=>by cases hb;rfl);have a1:=h.row.lt;refine⟨hr,h.mat.chg a0 (λq=>(h.row.off h.mat.out) q.symm) (λi hi=>h.off i hi),λi hi=>?_,Chg.below h.below a0 h.below.size (λb hb=>by omega)⟩;rcases hat with q|q
 .rw[q];exact h.off i hi
 .rw[q];have:=(h.mat.row i hi).lt.2;omega
theorem RowJ.done{g c g' cp':Nat}(h:RowJ w wi n g cp k r c (n+1) ρ γ)(ho:ORow w' w g' cp' (n+1) (k+1) (updN ρ k r) (updN γ k c))(hg:wi.grownBy w' (some g)):
  MatO w' w g' cp' (n+1) (k+1) (updN ρ k r) (updN γ k c) (λ_ _=>false)/\Below w w w':=by
 have a0:Chg (λb=>b=g) wi w':=Chg.of_grown hg (λb hb=>by cases hb;rfl);have a1:=h.mat.out.lt;refine⟨⟨ho,λi hi=>?_,λi j hi hj hne=>?_⟩,Chg.below h.below a0 h.below.size (λb hb=>by omega)⟩
 .by_cases e:i=k
  .subst e;rw[yHc,yHc];exact h.row.chg a0 (λq=>h.row.off h.mat.out q)
  .rw[yE2 _ _ _ qo,yE2 _ _ _ qo];exact(h.mat.row i qo).chg a0 (λq=>(h.mat.row i qo).off h.mat.out q)
 .by_cases e:i=k
  .subst e;rw[yHc,yE2 _ _ _ qo];exact λq=>h.off j qo q.symm
  .by_cases e':j=k
   .subst e';rw[yHc,yE2 _ _ _ qo];exact h.off i qo
   .rw[yE2 _ _ _ qo,yE2 _ _ _ qo];exact h.mat.inj i j qo qo hne
theorem yBn(n:Nat)(hn:n<=1000) w:Calls prog 223 #[xi n] w (MaP (n+1) (λ_ _=>false) w):=by
 obtain⟨W0,a4⟩:=qE (xw w #[] 118:World);have ab:Hid (MatO W0 w w 0 (n+1) 0 (λ_=>0) (λ_=>0) (λ_ _=>false)/\Below w w W0):=by rw[a4];exact⟨⟨World.ownsRow_lit w #[] 0 qr qj qj,λi hi=>qo,λi j hi=>qo⟩,qB⟩
 go_enter func223,ntmps223;go_upto_region 2 with fail;rw[<-a4];clear a4;go_wp2_with fail;go_loopw[3,4] (λov iv wr=>∃(k g cp:Nat)(ρ γ:Nat->Nat),k<=n+1/\iv=(xi k)/\ov=slV g k cp/\Hid (MatO wr w g cp (n+1) k ρ γ (λ_ _=>false)/\Below w w wr)) (λ_ iv _=>n+1-(intOf iv).toNat);case atStart=>exact⟨0,_,0,_,_,zero_le _,rfl,rfl,ab.out⟩
 case round=>
  obtain⟨k,g,cp,ρ,γ,hk,rfl,rfl,HM⟩:=hrel;obtain⟨Wr,a8⟩:=qE (wr:World);subst a8;by_cases hlt:k<=n
  .have zk:(k:Int)<=(n:Int):=qo
   obtain⟨W1,a2⟩:=qE (xw Wr #[] 4:World);obtain⟨r0,a3⟩:=qE Wr.heap.size;have ad:Hid (RowJ w W1 n g cp k r0 0 0 ρ γ):=by
    have a7:=qN a2
    refine⟨?_,HM.1.below a7,λi hi q=>?_,HM.2.trans (a7.mono HM.2.size)⟩
    .rw[a2,a3];exact World.ownsRow_lit Wr #[] 0 HM.2.size qj qj
    .have:=(HM.1.row i hi).lt.2;omega
   go_upto_region 6 with fail;rw[<-a2,<-a3];clear a2 a3;go_wp2_with fail;go_loopw[5,6] (λrv jv wi=>∃(j r c:Nat),j<=n+1/\jv=(xi j)/\rv=slV r j c/\Hid (RowJ w wi n g cp k r c j ρ γ)) (λ_ jv _=>n+1-(intOf jv).toNat);case atStart=>exact⟨0,r0,0,zero_le _,rfl,rfl,ad.out⟩
   case round=>
    obtain⟨j,r,c,hj,rfl,rfl,HJ⟩:=hrel;by_cases hlj:j<=n
    .have zj:(j:Int)<=(n:Int):=qo
     have HA:Hid (RowJ w (xw wr #[false] 4) n g cp k r c j ρ γ/\w.heap.size<=(wr.alloc (Obj.cells #[false] 4)).heap.size):=by have h1:=HJ.move ((Below.refl wr wr).alloc qr (Obj.cells #[false] 4));exact⟨h1,h1.below.size⟩
     go_wp2_with (at_builtin;refine yIm _ rfl _ _ rfl w r c j wr 1 (λ_=>false) false rfl rfl HA.1.row (by simp[go_sem]) rfl qo HA.2 ?_);intro r' c' w' a5 a0 a1;have ac:=qH1 (HA.1.next a5 a0 (by simpa using a1));clear a5 a0 a1;go_wp2_with fail;go_roundw;case rel=>exact⟨j+1,r',c',qo,by go_num,rfl,ac.out⟩
     case measure=>simp[intOf];omega
    .obtain rfl:j=n+1:=qo
     have zj:¬(((n+1:Nat):Int))<=(n:Int):=qo
     have HA:Hid (RowJ w (xw wr #[slV r (n+1) c] 118) n g cp k r c (n+1) ρ γ/\w.heap.size<=(wr.alloc (Obj.cells #[slV r (n+1) c] 118)).heap.size/\ORow (xw wr #[slV r (n+1) c] 118) w g cp (n+1) k (updN ρ k r) (updN γ k c)):=by have h1:=HJ.move ((Below.refl wr wr).alloc qr (Obj.cells #[slV r (n+1) c] 118));refine⟨h1,h1.below.size,?_⟩;have h2:=h1.mat.out;unfold ORow at h2|-;rw[ySf (λi hi=>⟨yE2 ρ k r hi,yE2 γ k c hi⟩)];exact h2
     go_wp2_with (at_builtin;refine yH _ rfl _ _ rfl w g cp (n+1) k wr 1 r c (updN ρ k r) (updN γ k c) rfl rfl HA.2.2 (by simp[go_sem]) (yHc _ _ _) (yHc _ _ _) qo HA.2.1 ?_);intro g' a9 w' a6 a0 a1;have aa:=qH1 (HA.1.done a6 a0);clear a6 a0 a1;go_wp2_with fail;go_roundw;case rel=>exact⟨k+1,g',a9,updN ρ k r,updN γ k c,qo,by go_num,rfl,aa.out⟩
     case measure=>simp[intOf];omega
  .obtain rfl:k=n+1:=qo
   have zk:¬(((n+1:Nat):Int))<=(n:Int):=qo
   go_wp2_with fail;go_ret;exact⟨g,cp,ρ,γ,rfl,HM.1,HM.2⟩
theorem yId(k:Int) w:Calls prog 144 #[xi k] w λe w'=>e=.returned (xi (yA0 k))/\w'=w:=by
 by_cases h14:k=14
 .subst h14;exact xDp
 by_cases h15:k=15
 .subst h15;exact xDp
 by_cases h16:k=16
 .subst h16;exact xDp
 have a2:(k==14)=false:=by simpa using h14
 have a1:(k==15)=false:=by simpa using h15
 have a0:(k==16)=false:=by simpa using h16
 have H:Hid (yA0 k=0):=by show yA0 k=0;unfold yA0;rw[if_neg qo,if_neg h16]
 go_enter func144,ntmps144;go_wp2;go_ret;exact⟨by rw[H.out];rfl,rfl⟩
theorem yJ0(k:Int) w:Calls prog 145 #[xi k] w λe w'=>e=.returned (xi (yCc k))/\w'=w:=by
 by_cases h15:k=15
 .subst h15;go_enter func145,ntmps145;go_wp2;go_ret;exact⟨rfl,rfl⟩
 by_cases h14:k=14
 .subst h14;go_enter func145,ntmps145;go_wp2;go_ret;exact⟨rfl,rfl⟩
 have a1:(k==14)=false:=by simpa using h14
 have a0:(k==15)=false:=by simpa using h15
 have H:Hid (yCc k=3):=by show yCc k=3;unfold yCc;rw[if_neg h15,if_neg h14]
 go_enter func145,ntmps145;go_wp2;go_ret;exact⟨by rw[H.out];rfl,rfl⟩
theorem yLi(op:Int)(i:Nat)(kid:Int) w (hop:¬op=16):Calls prog 93 #[xi op,xi i,xi kid] w λe w'=>e=.returned (yCf op i kid)/\w'=w:=by
 have a0:(op==16)=false:=by simpa using hop
 by_cases hi:i=0
 .subst hi;have HL:Hid (yCf op 0 kid=decide (yCc kid<yCc op)):=by show yCf op 0 kid=_;unfold yCf;simp[hop]
  exact xF8
 .have zi:((i:Int)==0)=false:=by simpa using hi
  have HL:Hid (yCf op i kid=decide (yCc kid<=yCc op)):=by show yCf op i kid=_;unfold yCf;simp[hop,hi]
  exact xF8
structure Win(w:World)(b off cap:Nat)(xs:List Nd):Prop where
 at_:yH1 w b off xs
 lt:b<w.heap.size
 len:xs.length<=cap
 cap:cap<=9223372036854775807
 sm:xs.length<=281474976710656
variable {xs:List Nd}
theorem Win.below{off:Nat}(h:Win w b off cap xs)(hb:Below w w w'):Win w' b off cap xs:=
 ⟨h.at_.below hb h.lt,qv hb.size h.lt,h.len,h.cap,h.sm⟩
variable {e:Nd}
theorem Win.kind{off:Nat}(h:Win w b off cap xs)(he:xs[i]?=some e):(xk w b (off+i*7) (xi e.kind):Prop):=(h.at_ i e he).1
theorem yMi{off:Nat}(h:Win w b off cap (xs++ [e])):Calls prog 91 #[.slice (some ⟨b,off,none⟩) (xs.length+1) cap] w λr w'=>r=.returned (xi e.kind)/\w'=w:=by have hk:=h.kind (i:=xs.length) (e:=e) (by simp);obtain⟨n,hn⟩:=qE xs.length;have h1:=h.len;have h2:=h.cap;rw[length_append,length_singleton]at h1;rw[<-hn]at hk h1|-;clear h hn;go_enter func91,ntmps91;go_wp2;go_ret;exact⟨rfl,rfl⟩
def yVl(xs:List Nd)(w:World)(r:Ending)(w':World):Prop:=w'=w/\((∃i:Nat,r=.returned (xi i)/\i<=xs.length/\IsT 1 (xs.drop i))\/(r=.returned (xi (-1))/\∀j,j<=xs.length->¬IsT 1 (xs.drop j)))
theorem yJ1{off:Nat}(h:Win w b off cap xs):Calls prog 90 #[.slice (some ⟨b,off,none⟩) xs.length cap] w (yVl xs w):=by
 have HW:=qH1 h;have h1:=h.len;have h2:=h.cap;have h3:=h.sm;obtain⟨n,hn⟩:=qE xs.length;have HN:=qH1 hn;rw[<-hn]at h1 h3|-;clear h hn;go_enter func90,ntmps90;go_wp2;go_loopw[3,4] (λnv iv wr=>∃(i m:Nat),iv=(xi i)/\nv=(xi m)/\i<=n/\m<=1+3*(n-i)/\Sc m (xs.drop i)/\wr=w) (λ_ iv _=>(intOf iv).toNat);case atStart=>exact⟨n,1,rfl,rfl,Nat.le_refl _,qo,by rw[HN.out,drop_length];exact .nil,rfl⟩
 case round=>
  obtain⟨i,m,rfl,rfl,hi,hm,hS,rfl⟩:=hrel;have HS:=qH1 hS;clear hS;by_cases hm0:m=0
  .subst hm0;go_wp2;go_ret;refine⟨rfl,.inl ⟨i,rfl,qw HN.out,?_⟩⟩;have:=HS.tree (pre:= []);exact this.1 .nil
  .obtain⟨m',rfl⟩:∃m',m=m'+1:=⟨m-1,qo⟩;have zm:(0:Int)<(m':Int)+1:=qo
   by_cases hi0:i=0
   .subst hi0;go_wp2;go_ret;exact⟨rfl,.inr ⟨rfl,λj hj=>xEg HS.out j (zero_le _) hj⟩⟩
   .obtain⟨i',rfl⟩:∃i',i=i'+1:=⟨i-1,qo⟩;obtain⟨e,he⟩:∃e,xs[i']?=some e:=qg (qw HN.out);have hk:=HW.kind he;have a0:i'<xs.length:=qw HN.out
    have a2:Hid (Sc (m'+yA0 e.kind) (xs.drop i')):=by show Sc _ _;rw[drop_eq_getElem_cons a0,show xs[i']=e from Option.some.inj ((getElem?_eq_getElem a0).symm.trans he)];exact .cons e HS.out
    have ha:=yI3 e.kind;have zi:¬(i':Int)<0:=qo
    clear he a0;go_wp2_with fail;refine(yId e.kind _).mono ?_;rintro r w2 ⟨rfl,a1⟩;rw[a1];clear a1;go_wp2;go_roundw;case rel=>exact⟨i',m'+yA0 e.kind,by go_num,by go_num,qo,qo,a2.out,by first|rfl|trivial⟩
    case measure=>simp[intOf]<;>omega
theorem yS6{off:Nat}(h:Win w b off cap xs):Calls prog 41 #[.slice (some ⟨b,off,none⟩) xs.length cap] w λr w'=>w'=w/\((r=.returned true/\IsT 1 xs)\/(r=.returned false/\¬IsT 1 xs)):=by
 have HW:=qH1 h;have h1:=h.len;have h2:=h.cap;have h3:=h.sm;obtain⟨n,hn⟩:=qE xs.length;have HN:=qH1 hn;have HF:Hid (Calls prog 90 #[.slice (some ⟨b,off,none⟩) n cap] w (yVl xs w)):=by rw[hn];exact yJ1 h
 rw[<-hn]at h1 h3|-;clear h hn;by_cases hn0:n=0
 .subst hn0;have HE:Hid (¬IsT 1 xs):=λq=>qv q.len HN.out
  go_enter func41,ntmps41;go_wp2;go_ret;exact⟨rfl,.inr ⟨rfl,HE.out⟩⟩
 .have zn:(0:Int)<(n:Int):=qo
  go_enter func41,ntmps41;go_wp2_with fail;refine HF.mono ?_;rintro r w2 ⟨a0,(⟨i,rfl,hi,hT⟩|⟨rfl,hT⟩)⟩
  .rw[a0];clear a0;have HT:=qH2 hi hT;clear hi hT;by_cases hi0:i=0
   .subst hi0;go_wp2;go_ret;exact⟨rfl,.inl ⟨rfl,by simpa using HT.2⟩⟩
   .have zi:((i:Int)==0)=false:=by simpa using hi0
    go_wp2;go_ret;refine⟨rfl,.inr ⟨rfl,λq=>hi0 ?_⟩⟩;exact(yM1 (xs:=xs) (i:=0) (j:=i) (by simpa using q) HT.2 (zero_le _) HT.1).symm
  .rw[a0];clear a0;have HT:Hid (¬IsT 1 xs):=λq=>hT 0 (zero_le _) (by simpa using q);clear hT;go_wp2;go_ret;exact⟨rfl,.inr ⟨rfl,HT.out⟩⟩
def MaF(N:Nat)(F:Nat->Nat->Bool)(w:World)(r:Ending)(w':World):Prop:=∃g cp ρ γ f,r=.returned (slV g N cp)/\Hid (MatO w' w g cp N N ρ γ f/\∀i j,i<=j->j<N->f i j=F i j)/\Below w w w'
theorem yQc(n:Nat)(hn:n<=1000) w:Calls prog 239 #[xi n] w (MaF (n+1) (λi j=>i==j) w):=by
 go_enter func239,ntmps239;go_wp2_with fail;refine(yBn n hn w).mono ?_;rintro r w1 ⟨g,cp,ρ,γ,rfl,HM,a1⟩;have a4:=HM.out.out.caps;go_wp2;go_loopw[4] (λiv wr=>∃(k:Nat)(f:Nat->Nat->Bool),k<=n+1/\iv=(xi k)/\Hid (MatO wr w g cp (n+1) (n+1) ρ γ f/\(∀i j,i<=j->j<n+1->f i j=(i==j && decide (i<k)))/\Below w w wr)) (λiv _=>n+1-(intOf iv).toNat);case atStart=>exact⟨0,_,zero_le _,rfl,HM.out,λi j _ _=>by simp,a1⟩
 case round=>
  obtain⟨k,f,hk,rfl,HJ⟩:=hrel;by_cases hlt:k<=n
  .have zk:(k:Int)<=(n:Int):=qo
   have a0:k<n+1:=qo
   have c0:=HJ.1.cell a0;have c1:=(HJ.1.row k a0).cell a0;have z1:wr.frozen? (xd (ρ k) k)=false:=World.ownsRow.frozenAt (HJ.1.row k a0) _;have a3:=(HJ.1.row k a0).caps;have a2:Hid (MatO (xt wr (ρ k) k true) w g cp (n+1) (n+1) ρ γ (upd2 f k k true)/\(∀i j,i<=j->j<n+1->upd2 f k k true i j=(i==j && decide (i<k+1)))/\Below w w (xt wr (ρ k) k true)):=by
    refine⟨HJ.1.set a0 a0 true,λi j hij hj=>?_,yAc HJ.2.2 (HJ.1.row k a0).lt.1 _ _⟩;unfold upd2;by_cases e:i=k/\j=k
    .rw[if_pos e];simp[e.1,e.2]
    .rw[if_neg e,HJ.2.1 i j hij hj];rw[Bool.eq_iff_iff];simp only[Bool.or_eq_true,Bool.and_eq_true,decide_eq_true_eq,beq_iff_eq];omega
   have zr:(k:Int)<(((n+1:Nat)):Int):=qo
   refine zY ?_;exact⟨k+1,upd2 f k k true,qo,by go_num,a2.out⟩
  .obtain rfl:k=n+1:=qo
   have zk:¬(((n+1:Nat):Int))<=(n:Int):=qo
   go_wp2;go_ret;refine⟨g,cp,ρ,γ,f,rfl,⟨HJ.1,λi j hij hj=>?_⟩,HJ.2.2⟩;rw[HJ.2.1 i j hij hj];have:i<n+1:=qo
   simp[this]
def orF(fa fb:Nat->Nat->Bool)(k j:Nat):Nat->Nat->Bool:=λx y=>(fa x y || fb x y) && (decide (x<k) || (x==k && decide (y<j)))
theorem yQa(n ga ca gb cb:Nat)(ρa γa ρb γb:Nat->Nat)(fa fb:Nat->Nat->Bool) w (hn:n<=1000) (ha:MatR w ga (n+1) ρa γa fa) (hb:MatR w gb (n+1) ρb γb fb) (hca:n+1<=ca) (hcb:n+1<=cb):Calls prog 224 #[slV ga (n+1) ca,slV gb (n+1) cb] w (MaF (n+1) (λi j=>fa i j || fb i j) w):=by
 have HR:=qH2 ha hb;clear ha hb;go_enter func224,ntmps224;go_wp2_with fail;refine(yBn n hn w).mono ?_;rintro r w1 ⟨g,cp,ρ,γ,rfl,HM,ac⟩;have ag:=HM.out.out.caps;go_wp2;go_loopw[6] (λiv wr=>∃(k:Nat)(f:Nat->Nat->Bool),k<=n+1/\iv=(xi k)/\Hid (MatO wr w g cp (n+1) (n+1) ρ γ f/\(∀i j,i<=j->j<n+1->f i j=orF fa fb k 0 i j)/\Below w w wr)) (λiv _=>n+1-(intOf iv).toNat);case atStart=>exact⟨0,_,zero_le _,rfl,HM.out,λi j _ _=>by simp[orF],ac⟩
 case round=>
  obtain⟨k,f0,hk,rfl,a4⟩:=hrel;obtain⟨Wr,ad⟩:=qW wr;subst ad;by_cases hlt:k<n+1
  .have zk:(k:Int)<((n+1:Nat):Int):=qo
   go_wp2;go_loopw[7] (λjv wr=>∃(j:Nat)(f:Nat->Nat->Bool),k<=j/\j<=n+1/\jv=(xi j)/\Hid (MatO wr w g cp (n+1) (n+1) ρ γ f/\(∀x y,x<=y->y<n+1->f x y=orF fa fb k j x y)/\Below w w wr)) (λjv _=>n+1-(intOf jv).toNat);case atStart=>exact⟨k,f0,Nat.le_refl _,qo,rfl,a4.1,λx y hxy hy=>by
    rw[a4.2.1 x y hxy hy]
    unfold orF
    congr 1
    rw[Bool.eq_iff_iff];simp only[Bool.or_eq_true,Bool.and_eq_true,decide_eq_true_eq,beq_iff_eq];omega,a4.2.2⟩
   case round=>
    obtain⟨j,f,af,hj,rfl,HJ⟩:=hrel;by_cases hlj:j<n+1
    .have zj:(j:Int)<((n+1:Nat):Int):=qo
     have a7:=HR.1.below HJ.2.2 qr;have a6:=HR.2.below HJ.2.2 qr;have c0:=HJ.1.cell hlt;have c1:=(HJ.1.row k hlt).cell hlj;have z1:wr.frozen? (xd (ρ k) j)=false:=World.ownsRow.frozenAt (HJ.1.row k hlt) _;have ae:=(HJ.1.row k hlt).caps;have a0:=a7.out k hlt;have a1:=a7.row k j hlt hlj;have b0:=a6.out k hlt;have b1:=a6.row k j hlt hlj;have ah:=HR.1.cap k hlt;have hc2:=HR.2.cap k hlt;have a5:Hid (∀v:Bool,v=(fa k j || fb k j)->Hid (MatO (wr.setCell (xd (ρ k) j) v).drew w g cp (n+1) (n+1) ρ γ (upd2 f k j v)/\(∀x y,x<=y->y<n+1->upd2 f k j v x y=orF fa fb k (j+1) x y)/\Below w w (wr.setCell (xd (ρ k) j) v).drew)):=λv hv=>by
      refine⟨(HJ.1.set hlt hlj v).below ((Below.refl _ _).drew),λx y hxy hy=>?_,(yAc HJ.2.2 (HJ.1.row k hlt).lt.1 _ _).drew⟩;unfold upd2;by_cases e:x=k/\y=j
      .rw[if_pos e,hv];simp[orF,e.1,e.2]
      .rw[if_neg e,HJ.2.1 x y hxy hy];unfold orF;congr 1;rw[Bool.eq_iff_iff];simp only[Bool.or_eq_true,Bool.and_eq_true,decide_eq_true_eq,beq_iff_eq];omega
     obtain⟨aa,a9⟩:∃aa,fa k j=aa:=⟨_,rfl⟩;obtain⟨a2,a8⟩:∃a2,fb k j=a2:=⟨_,rfl⟩;have HV:=qH2 a9 a8;rw[a9]at a1;rw[a8]at b1;clear a7 a6 a9 a8;go_upto_region 8 with fail;cases aa
     case false=>
      have a3:(λw':World=>xk w' g k (slV (ρ k) (n+1) (γ k))/\xk w' ga k (slV (ρa k) (n+1) (γa k))/\xk w' (ρa k) j false/\xk w' gb k (slV (ρb k) (n+1) (γb k))/\xk w' (ρb k) j a2) wr.drew:=⟨c0,a0,a1,b0,b1⟩;refine yAf 22 (λw':World=>xk w' g k (slV (ρ k) (n+1) (γ k))/\xk w' ga k (slV (ρa k) (n+1) (γa k))/\xk w' (ρa k) j false/\xk w' gb k (slV (ρb k) (n+1) (γb k))/\xk w' (ρb k) j a2) qk ?_;refine ja 0 a3 ?_;iterate 20 refine jb a3 ?_
      refine kO 21 a3 ?_;refine kL 22 ?_;refine qD ?_;have ab:=a5.out a2 (by rw[HV.1,HV.2];rfl);refine zY ?_;exact⟨j+1,qo,qo,by go_num,upd2 f k j a2,ab⟩
     case true=>
      have a3:(λw':World=>xk w' g k (slV (ρ k) (n+1) (γ k))/\xk w' ga k (slV (ρa k) (n+1) (γa k))/\xk w' (ρa k) j true/\xk w' gb k (slV (ρb k) (n+1) (γb k))/\xk w' (ρb k) j a2) wr.drew:=⟨c0,a0,a1,b0,b1⟩;refine yAf 22 (λw':World=>xk w' g k (slV (ρ k) (n+1) (γ k))/\xk w' ga k (slV (ρa k) (n+1) (γa k))/\xk w' (ρa k) j true/\xk w' gb k (slV (ρb k) (n+1) (γb k))/\xk w' (ρb k) j a2) qk ?_;refine ja 0 a3 ?_;iterate 20 refine jb a3 ?_
      refine kO 21 a3 ?_;refine kL 22 ?_;refine qD ?_;have ab:=a5.out true (by rw[HV.1,HV.2];rfl);refine zY ?_;exact⟨j+1,qo,qo,by go_num,upd2 f k j true,ab⟩
    .obtain rfl:j=n+1:=qo
     have zj:¬((n+1:Nat):Int)<((n+1:Nat):Int):=qo
     have a5:Hid (MatO wr w g cp (n+1) (n+1) ρ γ f/\(∀x y,x<=y->y<n+1->f x y=orF fa fb (k+1) 0 x y)/\Below w w wr):=by refine⟨HJ.1,λx y hxy hy=>?_,HJ.2.2⟩;rw[HJ.2.1 x y hxy hy];unfold orF;congr 1;rw[Bool.eq_iff_iff];simp only[Bool.or_eq_true,Bool.and_eq_true,decide_eq_true_eq,beq_iff_eq];omega
     refine zY ?_;exact⟨k+1,f,qo,by go_num,a5.out⟩
  .obtain rfl:k=n+1:=qo
   have zk:¬((n+1:Nat):Int)<((n+1:Nat):Int):=qo
   go_wp2;go_ret;refine⟨g,cp,ρ,γ,f0,rfl,⟨a4.1,λi j hij hj=>?_⟩,a4.2.2⟩;rw[a4.2.1 i j hij hj];have:i<n+1:=qo
   simp[orF,this]
def OwnV(w:World)(base g cp:Nat)(us:List Value):Prop:=w.ownsRow base 23 1 (xg g us.length cp) us.length us
variable {us:List Value}
theorem OwnV.lt{g:Nat}(h:OwnV w base g cp us):base<=g/\g<w.heap.size:=World.ownsRow.lt h g rfl
theorem OwnV.below{g:Nat}(h:OwnV w base g cp us)(hb:Below w w w'):OwnV w' base g cp us:=yAh h (Chg.of_below hb) (S:=λ_=>False) (λk q z=>z)
theorem OwnV.cell{g:Nat}(h:OwnV w base g cp us){v:Value}(hv:us[j]?=some v):(xk w g j v:Prop):=by have hj:=qf hv;rw[World.ownsRow.cellAt h j qo,hv]
theorem OwnV.caps{g:Nat}(h:OwnV w base g cp us):us.length<=cp/\cp<=maxLen:=by exact yMx
theorem xBk(w:World)(hb:base<=w.heap.size):OwnV (xw w #[] 23) base w 0 []:=
 World.ownsRow_made w #[] 0 hb (zero_le _) (by simp)
theorem xBj(w:World)(hb:base<=w.heap.size)(v:Value):OwnV (xw w #[v] 23) base w 1 [v]:=
 World.ownsRow_lit w #[v] 1 hb qj rfl
theorem Tryz.infoNds:(prog.info? 23).map (λi=>(i.zero,i.size,i.bytes))=some (some (.slice none 0 0),1,24):=qk
theorem yHa{ops:Array Oper}{oo:Oper}(w:World)(hgd:oo.guard=none) s x
  (ho:oo.op=.call {callee:=.builtin .append,args:=#[s,x],argTypes:=#[161,161]})
  (base gq cp n b m cx:Nat) (us vs:List Value) (hs:a.eval s=(xg gq n cp)) (hx:a.eval x=.slice (some ⟨b,0,none⟩) m cx) (hn:n=us.length) (hm:m=vs.length) (hO:OwnV w base gq cp us)
  (hc:∀(j:Nat) v,vs[j]?=some v->w.cell? (xd b j)=some v) (hy:∀v∈vs,v.oneCell'=true) (hlen:us.length+vs.length<=1000) (hbase:base<=w.heap.size)
  (h:∀g' cp' w',OwnV w' base g' cp' (us++vs)->w.grownBy w' (some gq)->(g'=gq\/g'=w.heap.size)->wpList prog ops Q rest (a.put oo.dst (.slice (some ⟨g',0,none⟩) (n+m) cp')) w'):wpList prog ops Q (oo::rest) a w:=by
 subst hn hm;obtain⟨i,hi,a4,a3,a2⟩:=info_parts Tryz.infoNds;refine wpList_append_own_at w hgd s x 161 ho base 23 i _ 1 24 underlying161 hi a4 a3 a2 rfl qj (xg gq us.length cp) us.length us hs hO (xd b 0) vs.length cx vs hx (by simp) ?_ hy ?_ ?_ hbase ?_
 .intro j u hu;rw[Addr.add_mid,Nat.zero_add];exact hc j u hu
 .unfold maxLen;omega
 .omega
 .intro v' w' a1 a6 a5 a0;rcases a1.2 with⟨h0,_⟩|⟨g',a7,cur,hv,_,_,hn,a8,_,_⟩
  .have:=(a5.1 h0).1;cases this
  .subst hv;refine h g' a7 w' ?_ a6 ?_
   .unfold OwnV;rw[length_append];exact a1
   .simp[Value.ownBlock]at a0;exact a0
def yJ3(b:Nat):Nat->Nat->List (List Nd)->List Value
 |_,_,[]=> []
 |o,cap,k::ks=>.slice (some ⟨b,o,none⟩) k.length cap::yJ3 b (o+k.length*7) (cap-k.length) ks
theorem yJ2(b:Nat):∀(o cap:Nat)(ks:List (List Nd)),(yJ3 b o cap ks).length=ks.length
 |_,_,[]=>rfl
 |o,cap,k::ks=>by simp[yJ3,yJ2]
theorem yQe(b:Nat):∀(o cap:Nat)(ks:List (List Nd)),∀v∈yJ3 b o cap ks,v.oneCell'=true
 |_,_,[],v,h=>by cases h
 |o,cap,k::ks,v,h=>by
  rcases mem_cons.1 h with rfl|h
  .rfl
  .exact yQe b _ _ ks v h
theorem yH1.part{o:Nat}{ys:List Nd}(h:yH1 w b o (xs++ys)):yH1 w b o xs/\yH1 w b (o+xs.length*7) ys:=by refine⟨λi e he=>h i e (by rw[getElem?_append_left (qf he)];exact he),λi e he=>?_⟩;have:=h (xs.length+i) e (by rw[getElem?_append_right qo,Nat.add_sub_cancel_left];exact he);rw[Nat.add_mul,<-Nat.add_assoc]at this;exact this
theorem yQf:∀{ks:List (List Nd)}{o cap:Nat}{rest:List Nd},Win w b o cap (ks.flatten++rest)->∀{j:Nat}{k:List Nd},ks[j]?=some k->∃o' cap',(yJ3 b o cap ks)[j]?=some (.slice (some ⟨b,o',none⟩) k.length cap')/\Win w b o' cap' k
 | [],_,_,_,_,j,k,h=>by simp at h
 |a::ks,o,cap,rest,hW,j,k,h=>by
  simp only[flatten_cons,append_assoc]at hW
  have hp:=hW.at_.part
  have hl:=hW.len
  have hc:=hW.cap
  have hs:=hW.sm
  simp only[length_append]at hl hs
  cases j with
  |zero=>
   simp at h
   subst h
   exact⟨o,cap,rfl,hp.1,hW.lt,qo,hc,qo⟩
  |succ j=>
   simp at h
   exact yQf (ks:=ks) (o:=o+a.length*7) (cap:=cap-a.length) (rest:=rest) ⟨hp.2,hW.lt,by simp only[length_append];omega,qo,by simp only[length_append];omega⟩ h
structure KiJ(w:World)(b o cap:Nat)(pre suf:List (List Nd))(g cp:Nat)(wr:World):Prop where
 own:OwnV wr w g cp (yJ3 b (o+pre.flatten.length*7) (cap-pre.flatten.length) suf)
 below:Below w w wr
theorem yS9{o:Nat}{ks:List (List Nd)}(h:Win w b o cap (ks.flatten++ [e]))(hk:ks.length=yA0 e.kind)(hT:∀k∈ks,IsT 1 k):
  Calls prog 92 #[.slice (some ⟨b,o,none⟩) (ks.flatten.length+1) cap] w λr w'=>∃g cp,r=.returned (xg g ks.length cp)/\OwnV w' w g cp (yJ3 b o cap ks)/\Below w w w':=by
 have HW:=qH2 h hT;have ab:=h.kind (i:=ks.flatten.length) (e:=e) (by simp);have h1:=h.len;have h2:=h.cap;have h3:=h.sm;obtain⟨n,hn⟩:=qE ks.flatten.length;have HN:=qH1 hn;rw[length_append,length_singleton]at h1 h3;rw[<-hn]at ab h1 h3|-;have ha:=yI3 e.kind;have HA:=qH1 hk;obtain⟨W0,af⟩:=qW (xw w #[] 23);have ah:Hid (KiJ w b o cap ks [] w 0 W0):=by rw[af];exact⟨xBk w qr,qB⟩
 have av:(xk W0 b (o+n*7) (xi e.kind):Prop):=by rw[(Chg.of_below ah.below (S:=λ_=>False)).cell (p:=(xd b (o+n*7))) h.lt (λq=>q)];exact ab
 obtain⟨a,a5⟩:=qE (yA0 e.kind);have aq:Hid (Calls prog 144 #[xi e.kind] W0 λr w'=>r=.returned (xi a)/\w'=W0):=by rw[a5];exact yId e.kind W0
 have ay:Hid (ks.length=a):=by rw[a5];exact hk
 rw[hk,<-a5];rw[<-a5]at ha;clear h hn hT hk ab HA a5;go_enter func92,ntmps92;go_upto_region 3 with fail;rw[<-af];clear af;go_wp2_with fail;refine aq.mono ?_;rintro r w1 ⟨rfl,aj⟩;rw[aj];clear aj av aq;go_wp2;go_loopw[3,4,5] (λrv ov kv wr=>∃(c m g cp:Nat)(pre suf:List (List Nd)),ks=pre++suf/\pre.length=c/\suf.length+c=a/\m=pre.flatten.length/\m<=n/\kv=(xi c)/\rv=.slice (some ⟨b,o,none⟩) m cap/\ov=(xg g suf.length cp)/\KiJ w b o cap pre suf g cp wr) (λ_ _ kv _=>(intOf kv).toNat);case atStart=>exact⟨a,n,_,0,ks,[],by simp,ay.out,by simp,HN.out,Nat.le_refl _,rfl,rfl,rfl,ah.out⟩
 case round=>
  obtain⟨c,m,g,cp,pre,suf,an,al,ar,hm,aA,rfl,rfl,rfl,hJ⟩:=hrel;have HJ:=qH4 hJ an hm al;have aC:=hJ.own.lt;have ak:=hJ.below.size;clear hJ an hm al ah;obtain⟨q,hq⟩:=qE suf.length;have HQ:=qH1 hq;rw[<-hq]at ar|-;clear hq;by_cases hc0:c=0
  .subst hc0;have HF:=qH2 (length_eq_zero_iff.1 HJ.2.2.2) (by omega:q=a);go_wp2;go_ret;have hp:=HF.1;have hj:=HJ.1.own;have hs:=HJ.2.1;rw[hp]at hj hs;simp at hj hs;refine⟨g,cp,by rw[<-HF.2];rfl,by rw[hs];exact hj,HJ.1.below⟩
  .obtain⟨c',rfl⟩:∃c',c=c'+1:=⟨c-1,qo⟩;have zc:(0:Int)<(c':Int)+1:=qo
   obtain⟨a0,k,a1⟩:∃a0 k,pre=a0++ [k]:=by
    rcases eq_nil_or_concat pre with h|⟨p',k,h⟩
    .have:=HJ.2.2.2;rw[h]at this;simp at this
    .exact⟨p',k,by rw[h,concat_eq_append]⟩
   obtain⟨m',a2⟩:=qE a0.flatten.length;have am:m=m'+k.length:=by rw[HJ.2.2.1,a1,a2];simp
   have a3:=HW.2 k (by rw[HJ.2.1,a1];simp);have aw:=a3.len;have ai:Win wr b o cap pre.flatten:=by have hw:=HW.1;rw[HJ.2.1]at hw;simp only[flatten_append,append_assoc]at hw;have h8:=hw.len;have h9:=hw.sm;simp only[length_append]at h8 h9;exact Win.below ⟨hw.at_.part.1,hw.lt,qo,hw.cap,qo⟩ HJ.1.below
   have HC:Hid (Calls prog 90 #[.slice (some ⟨b,o,none⟩) m cap] wr λr w'=>r=.returned (xi m')/\w'=wr):=by
    have hf:=yJ1 ai;rw[<-HJ.2.2.1]at hf;refine hf.mono ?_;have ad:pre.flatten.drop m'=k:=by rw[a1,a2];simp
    rintro r w2 ⟨a8,(⟨i,rfl,hi,a9⟩|⟨rfl,a9⟩)⟩
    .refine⟨?_,a8⟩;have au:m'<=pre.flatten.length:=by rw[a1,a2];simp
     have:i=m':=by
      rcases Nat.le_total i m' with aa|aa
      .exact yM1 a9 (by rw[ad];exact a3) aa au
      .exact(yM1 (by rw[ad];exact a3) a9 aa hi).symm
     rw[this]
    .exact absurd (by rw[ad];exact a3) (a9 m' (by rw[a1,a2];simp))
   have HP:=qH4 a1 a2 a3 am;have aB:m'<=m:=qo
   have z1:(m':Int)<=(m:Int):=qo
   have z2:(m:Int)<=(cap:Int):=qo
   have z3:(m':Int)<=(cap:Int):=qo
   clear ai a3 a1 a2 am aw;go_wp2_with fail;refine HC.mono ?_;rintro r w2 ⟨rfl,a8⟩;rw[a8];clear a8 HC;obtain⟨W5,a4⟩:=qW (xw wr #[.slice (some ⟨b,o+m'*7,none⟩) (m-m') (cap-m')] 23);have ae:=qN a4
   have az:=qS a4
   have ag:Hid (OwnV W5 w wr 1 [.slice (some ⟨b,o+m'*7,none⟩) (m-m') (cap-m')]/\OwnV W5 w g cp (yJ3 b (o+pre.flatten.length*7) (cap-pre.flatten.length) suf)/\Below w w W5):=by refine⟨?_,HJ.1.own.below ae,HJ.1.below.trans (ae.mono ak)⟩;rw[a4];exact xBj wr ak _
   go_wp2_with (at_builtin;rw[<-a4];refine yHa _ rfl _ _ rfl w wr 1 1 g q cp [.slice (some ⟨b,o+m'*7,none⟩) (m-m') (cap-m')] (yJ3 b (o+pre.flatten.length*7) (cap-pre.flatten.length) suf) rfl rfl rfl ?hm ?hO ?hc ?hy ?hl ?hb ?_);case hm=>rw[yJ2];exact HQ.out
   case hO=>exact ag.1
   case hc=>exact λj v hv=>ag.2.1.cell hv
   case hy=>exact yQe _ _ _ _
   case hl=>rw[yJ2,<-HQ.out];simp;omega
   case hb=>omega
   intro g' ao w' a6 ac ax;rw[<-a4]at ac;have a7:Hid (KiJ w b o cap a0 (k::suf) g' ao w'/\ks=a0++(k::suf)/\a0.length=c'/\(k::suf).length=q+1):=by
    have hP:=HP.out;refine⟨⟨?_,ag.2.2.grown ac qo (λj hj=>by cases hj;omega)⟩,by rw[HJ.2.1,hP.1];simp,?_,by rw[HQ.out];rfl⟩
    .have e1:(List.map List.length pre).sum=m'+k.length:=by rw[<-length_flatten,<-HJ.2.2.1];exact hP.2.2.2
     rw[e1]at a6;have e2:m-m'=k.length:=qo
     rw[e2]at a6;have e3:o+(m'+k.length)*7=o+m'*7+k.length*7:=qo
     have e4:cap-(m'+k.length)=cap-m'-k.length:=qo
     rw[e3,e4]at a6;rw[<-hP.2.1];exact a6
    .have:=HJ.2.2.2;rw[hP.1]at this;simpa using this
   clear a6 ac ax a4 ae;go_wp2;go_roundw;case rel=>exact⟨c',m',g',ao,a0,k::suf,a7.2.1,a7.2.2.1,qw a7.2.2.2,HP.2.1,qo,by go_num,rfl,by rw[a7.2.2.2];go_num,a7.1⟩
   case measure=>simp[intOf]<;>omega
def thF(fa fb:Nat->Nat->Bool)(i j K:Nat):Bool:=(List.range K).any (λk=>decide (i<=k) && decide (k<=j) && fa i k && fb k j)
theorem yUi(fa fb:Nat->Nat->Bool)(i j k:Nat):thF fa fb i j (k+1)=(thF fa fb i j k || (decide (i<=k) && decide (k<=j) && fa i k && fb k j)):=by simp[thF,range_succ,any_append]
variable {fa fb:Nat->Nat->Bool}
theorem yM4(h:¬i<=k\/¬k<=j\/fa i k=false):thF fa fb i j (k+1)=thF fa fb i j k:=by rw[yUi];rcases h with h|h|h<;>simp[h]
theorem yIu:∀(k:Nat),k<=i->thF fa fb i j k=false
 |0,_=>rfl
 |k+1,h=>by rw[yM4 (.inl qo),yIu k qo]
theorem xEd{K:Nat}:thF fa fb i j K=true↔∃k,k<K/\i<=k/\k<=j/\fa i k=true/\fb k j=true:=by
 simp only[thF,any_eq_true,mem_range,Bool.and_eq_true,decide_eq_true_eq];constructor
 .rintro⟨k,h0,⟨⟨h1,h2⟩,h3⟩,h4⟩;exact⟨k,h0,h1,h2,h3,h4⟩
 .rintro⟨k,h0,h1,h2,h3,h4⟩;exact⟨k,h0,⟨⟨h1,h2⟩,h3⟩,h4⟩
def stF(fa fb:Nat->Nat->Bool)(N i k j x y:Nat):Bool:=if x<i then thF fa fb x y N else if x=i then thF fa fb i y (if y<j then k+1 else k)else false
theorem yT(n ga ca gb cb:Nat)(ρa γa ρb γb:Nat->Nat)(fa fb:Nat->Nat->Bool) w (hn:n<=1000) (ha:MatR w ga (n+1) ρa γa fa) (hb:MatR w gb (n+1) ρb γb fb) (hca:n+1<=ca) (hcb:n+1<=cb):Calls prog 242 #[slV ga (n+1) ca,slV gb (n+1) cb] w (MaF (n+1) (λi j=>thF fa fb i j (n+1)) w):=by
 have HR:=qH2 ha hb;clear ha hb;go_enter func242,ntmps242;go_wp2_with fail;refine(yBn n hn w).mono ?_;rintro r w1 ⟨g,cp,ρ,γ,rfl,HM,ai⟩;have am:=HM.out.out.caps;go_wp2_with fail;go_loopw[6] (λiv wr=>∃(i:Nat)(f:Nat->Nat->Bool),i<=n+1/\iv=(xi i)/\Hid (MatO wr w g cp (n+1) (n+1) ρ γ f/\(∀x y,x<=y->y<n+1->f x y=stF fa fb (n+1) i 0 0 x y)/\Below w w wr)) (λiv _=>n+1-(intOf iv).toNat);case atStart=>exact⟨0,_,zero_le _,rfl,HM.out,λx y _ _=>by
  unfold stF
  rw[if_neg qo]
  split
  .rw[if_neg qo];rfl
  .rfl,ai⟩
 case round=>
  obtain⟨i,f0,hi,rfl,a6⟩:=hrel;obtain⟨Wr,ak⟩:=qE (wr:World);subst ak;by_cases hli:i<n+1
  .have zi:(i:Int)<((n+1:Nat):Int):=qo
   go_wp2_with fail;go_loopw[7] (λkv wr=>∃(k:Nat)(f:Nat->Nat->Bool),i<=k/\k<=n+1/\kv=(xi k)/\Hid (MatO wr w g cp (n+1) (n+1) ρ γ f/\(∀x y,x<=y->y<n+1->f x y=stF fa fb (n+1) i k 0 x y)/\Below w w wr)) (λkv _=>n+1-(intOf kv).toNat);case atStart=>exact⟨i,f0,Nat.le_refl _,qo,rfl,a6.1,λx y hxy hy=>by
    rw[a6.2.1 x y hxy hy]
    unfold stF
    split
    .rfl
    .split
     .rw[if_neg qo,if_neg qo,yIu 0 qo,yIu i qr]
     .rfl,a6.2.2⟩
   case round=>
    obtain⟨k,f1,ag,hk,rfl,a3⟩:=hrel;obtain⟨Ws,aj⟩:=qE (wr:World);subst aj;by_cases hlk:k<n+1
    .have zk:(k:Int)<((n+1:Nat):Int):=qo
     have a8:=HR.1.below a3.2.2 qr;have a0:=a8.out i hli;have a1:=a8.row i k hli hlk;have ah:=HR.1.cap i hli;obtain⟨ac,ab⟩:∃ac,fa i k=ac:=⟨_,rfl⟩;rw[ab]at a1;have ae:=qH1 ab;clear a8 ab;cases ac
     case false=>
      have a2:Hid (MatO Ws w g cp (n+1) (n+1) ρ γ f1/\(∀x y,x<=y->y<n+1->f1 x y=stF fa fb (n+1) i (k+1) 0 x y)/\Below w w Ws):=by
       refine⟨a3.1,λx y hxy hy=>?_,a3.2.2⟩;rw[a3.2.1 x y hxy hy];unfold stF;split
       .rfl
       .split
        .rw[if_neg qo,if_neg qo,yM4 (.inr (.inr ae.out))]
        .rfl
      go_wp2;go_roundw;case rel=>first|exact⟨k+1,qo,qo,by go_num,f1,a2.out⟩|exact⟨k+1,qo,qo,qo,by go_num,f1,a2.out⟩|exact⟨k+1,f1,qo,qo,by go_num,a2.out⟩
      case measure=>simp[intOf];omega
     case true=>
     go_wp2_with fail;clear a0 a1 ah;go_loopw[8] (λjv wr=>∃(j:Nat)(f:Nat->Nat->Bool),k<=j/\j<=n+1/\jv=(xi j)/\Hid (MatO wr w g cp (n+1) (n+1) ρ γ f/\(∀x y,x<=y->y<n+1->f x y=stF fa fb (n+1) i k j x y)/\Below w w wr)) (λjv _=>n+1-(intOf jv).toNat);case atStart=>exact⟨k,f1,Nat.le_refl _,qo,rfl,a3.1,λx y hxy hy=>by
      rw[a3.2.1 x y hxy hy]
      unfold stF
      split
      .rfl
      .split
       .rw[if_neg qo]
        split
        .rw[yM4 (.inr (.inl qo))]
        .rfl
       .rfl,a3.2.2⟩
     case round=>
      obtain⟨j,f,af,hj,rfl,HJ⟩:=hrel;by_cases hlj:j<n+1
      .have zj:(j:Int)<((n+1:Nat):Int):=qo
       have a7:=HR.2.below HJ.2.2 qr;have c0:=HJ.1.cell hli;have c1:=(HJ.1.row i hli).cell hlj;have z1:wr.frozen? (xd (ρ i) j)=false:=World.ownsRow.frozenAt (HJ.1.row i hli) _;have al:=(HJ.1.row i hli).caps;have b0:=a7.out k hlk;have b1:=a7.row k j hlk hlj;have hc2:=HR.2.cap k hlk;have a2:Hid (∀v:Bool,v=(f i j || fb k j)->Hid (MatO (wr.setCell (xd (ρ i) j) v).drew w g cp (n+1) (n+1) ρ γ (upd2 f i j v)/\(∀x y,x<=y->y<n+1->upd2 f i j v x y=stF fa fb (n+1) i k (j+1) x y)/\Below w w (wr.setCell (xd (ρ i) j) v).drew)):=λv hv=>by
        refine⟨(HJ.1.set hli hlj v).below ((Below.refl _ _).drew),λx y hxy hy=>?_,(yAc HJ.2.2 (HJ.1.row i hli).lt.1 _ _).drew⟩;unfold upd2;by_cases e:x=i/\y=j
        .rw[if_pos e,hv,HJ.2.1 i j qo hlj,e.1,e.2];unfold stF;rw[if_neg qo,if_pos rfl,if_neg qo,if_neg qo,if_pos rfl,if_pos qo,yUi,ae.out];have h1:=ag;simp[h1,af]
        .rw[if_neg e,HJ.2.1 x y hxy hy];unfold stF;split
         .rfl
         .split
          .have h1:y≠j:=λq=>e ⟨by assumption,q⟩;by_cases h2:y<j
           .rw[if_pos h2,if_pos qo]
           .rw[if_neg h2,if_neg qo]
          .rfl
       obtain⟨ov,a9⟩:∃ov,f i j=ov:=⟨_,rfl⟩;obtain⟨a4,aa⟩:∃a4,fb k j=a4:=⟨_,rfl⟩;have HV:=qH2 a9 aa;rw[a9]at c1;rw[aa]at b1;clear a7 a9 aa;go_upto_region 12 with fail;cases ov
       case false=>
        have a5:(λw':World=>xk w' g i (slV (ρ i) (n+1) (γ i))/\xk w' (ρ i) j false/\xk w' gb k (slV (ρb k) (n+1) (γb k))/\xk w' (ρb k) j a4) wr.drew:=⟨c0,c1,b0,b1⟩;refine yAf 22 (λw':World=>xk w' g i (slV (ρ i) (n+1) (γ i))/\xk w' (ρ i) j false/\xk w' gb k (slV (ρb k) (n+1) (γb k))/\xk w' (ρb k) j a4) qk ?_;refine ja 0 a5 ?_;iterate 20 refine jb a5 ?_
        refine qO 21 rfl λK hK=>?_;go_simp;refine hK.out _ _ (.inr a5) ?_;clear hK;refine jS ?_;refine qO 22 rfl λK hK=>?_;go_simp;refine hK.out _ _ (.inl rfl) ?_;clear hK;refine jS ?_;refine qD ?_;have ad:=a2.out a4 (by rw[HV.1,HV.2];rfl);go_wp2;go_roundw;case rel=>exact⟨j+1,qo,qo,by go_num,upd2 f i j a4,ad⟩
        case measure=>simp[intOf];omega
       case true=>
        have a5:(λw':World=>xk w' g i (slV (ρ i) (n+1) (γ i))/\xk w' (ρ i) j true/\xk w' gb k (slV (ρb k) (n+1) (γb k))/\xk w' (ρb k) j a4) wr.drew:=⟨c0,c1,b0,b1⟩;refine yAf 22 (λw':World=>xk w' g i (slV (ρ i) (n+1) (γ i))/\xk w' (ρ i) j true/\xk w' gb k (slV (ρb k) (n+1) (γb k))/\xk w' (ρb k) j a4) qk ?_;refine ja 0 a5 ?_;iterate 20 refine jb a5 ?_
        refine qO 21 rfl λK hK=>?_;go_simp;refine hK.out _ _ (.inr a5) ?_;clear hK;refine jS ?_;refine qO 22 rfl λK hK=>?_;go_simp;refine hK.out _ _ (.inl rfl) ?_;clear hK;refine jS ?_;refine qD ?_;have ad:=a2.out true (by rw[HV.1,HV.2];rfl);go_wp2;go_roundw;case rel=>exact⟨j+1,qo,qo,by go_num,upd2 f i j true,ad⟩
        case measure=>simp[intOf];omega
      .obtain rfl:j=n+1:=qo
       have zj:¬((n+1:Nat):Int)<((n+1:Nat):Int):=qo
       have a2:Hid (MatO wr w g cp (n+1) (n+1) ρ γ f/\(∀x y,x<=y->y<n+1->f x y=stF fa fb (n+1) i (k+1) 0 x y)/\Below w w wr):=by
        refine⟨HJ.1,λx y hxy hy=>?_,HJ.2.2⟩;rw[HJ.2.1 x y hxy hy];unfold stF;split
        .rfl
        .split
         .first|rw[if_pos hy,if_neg qo]|rw[if_neg qo]
         .rfl
       go_wp2;go_roundw;case rel=>first|exact⟨k+1,qo,qo,by go_num,f,a2.out⟩|exact⟨k+1,qo,qo,qo,by go_num,f,a2.out⟩|exact⟨k+1,f,qo,qo,by go_num,a2.out⟩
       case measure=>simp[intOf];omega
    .obtain rfl:k=n+1:=qo
     have zk:¬((n+1:Nat):Int)<((n+1:Nat):Int):=qo
     have a2:Hid (MatO Ws w g cp (n+1) (n+1) ρ γ f1/\(∀x y,x<=y->y<n+1->f1 x y=stF fa fb (n+1) (i+1) 0 0 x y)/\Below w w Ws):=by
      refine⟨a3.1,λx y hxy hy=>?_,a3.2.2⟩;rw[a3.2.1 x y hxy hy];unfold stF;by_cases h1:x<i
      .rw[if_pos h1,if_pos qo]
      .by_cases h2:x=i
       .rw[if_neg h1,if_pos h2,if_neg qo,if_pos qo,h2]
       .rw[if_neg h1,if_neg h2,if_neg qo];split
        .rw[if_neg qo,yIu 0 qo]
        .rfl
     go_wp2;go_roundw;case rel=>first|exact⟨i+1,f1,qo,by go_num,a2.out⟩|exact⟨i+1,qo,by go_num,f1,a2.out⟩
     case measure=>simp[intOf];omega
  .obtain rfl:i=n+1:=qo
   have zi:¬((n+1:Nat):Int)<((n+1:Nat):Int):=qo
   go_wp2_with fail;go_ret;refine⟨g,cp,ρ,γ,f0,rfl,⟨a6.1,λx y hxy hy=>?_⟩,a6.2.2⟩;rw[a6.2.1 x y hxy hy];unfold stF;rw[if_pos qo]
section
variable (G:Nd->Bool)
def xF0(n:Nat):Prop:=∀(w:World)(b o cap:Nat)(xs:List Nd)(s:yA1),xs.length<=n->Win w b o cap xs->ShT G [s] xs->(xf 42 #[.slice (some ⟨b,o,none⟩) xs.length cap] w (xi s.nest):Prop)
theorem yN0(op:Int){os:List yA1}{a:Nat}{o:yA1}(h:os[j]?=some o):yA2 op j a (os.drop j)=yA2 op (j+1) (max a (o.nest+if yCf op j o.kind then 1 else 0)) (os.drop (j+1)):=by exact xF5
structure NeJ(w:World)(b o cap:Nat)(ks:List (List Nd))(g cp:Nat)(wr:World):Prop where
 own:OwnV wr w g cp (yJ3 b o cap ks)
 below:Below w w wr
theorem NeJ.move{o:Nat}{ks:List (List Nd)}{g:Nat}{wr:World}(h:NeJ w b o cap ks g cp wr)(hb:Below wr wr w'):NeJ w b o cap ks g cp w':=⟨h.own.below hb,h.below.trans (hb.mono h.below.size)⟩
theorem xE6(H:xF0 G n):xF0 G (n+1):=by
 intro w b o cap xs s hn hW hS;obtain⟨ys,e,os,rfl,ax,ak,hs⟩:=ShT.inv G hS;obtain⟨ks,rfl,hK⟩:=ShT.kids G ak;have ad:=Kids.length G hK;have HF:=qH6 hW hK hs ad (by simp at hn;rw[length_flatten];omega:ks.flatten.length<=n) H;have au:=yI3 e.kind;obtain⟨a3,a5⟩:=qE ks.length;have HA:=qH1 a5;have aB:a3<=3:=qo
 have aC:=hW.cap;have ar:ks.flatten.length+1<=281474976710656:=by have:=hW.sm;rw[length_append,length_singleton]at this;exact this
 have aw:ks.flatten.length+1<=cap:=by have:=hW.len;rw[length_append,length_singleton]at this;exact this
 have HT:=qH1 (yMi hW);have aa:Hid (Calls prog 92 #[.slice (some ⟨b,o,none⟩) (ks.flatten.length+1) cap] w λr w'=>∃g cp,r=.returned (xg g a3 cp)/\OwnV w' w g cp (yJ3 b o cap ks)/\Below w w w'):=by rw[a5];exact yS9 hW qo (Kids.tree G hK)
 have HB:Hid (∀o∈os,o.nest<=281474976710656):=λo' ho=>by obtain⟨k,hk,h3⟩:=yTc G hK ho;have h4:=yIx hk;have h5:=yNz G _ qr h3;omega
 have ao:Hid (yA2 e.kind 0 0 os=s.nest):=by show _=_;rw[hs];rfl
 rw[length_append,length_singleton];obtain⟨m,hm⟩:=qE ks.flatten.length;rw[<-hm]at HT aa aw ar|-;obtain⟨sn,a2⟩:=qE s.nest;have an:Hid (yA2 e.kind 0 0 os=sn):=by rw[a2];exact ao
 rw[<-a2];clear hW hS ak hK hs ax ad H a5 hm hn a2 ao au;go_enter func42,ntmps42;go_wp2_with fail;refine HT.mono ?_;rintro r w1 ⟨rfl,ac⟩;rw[ac];clear ac HT;go_wp2_with fail;refine aa.mono ?_;rintro r w1 ⟨g,cp,rfl,hO,ai⟩;have al:Hid (NeJ w b o cap ks g cp w1):=⟨hO,ai⟩;clear hO ai aa;go_wp2;go_loopw[5,6] (λmv iv wr=>∃(j a:Nat),iv=(xi j)/\mv=(xi a)/\j<=a3/\a<=999999999999999/\yA2 e.kind j a (os.drop j)=sn/\NeJ w b o cap ks g cp wr) (λ_ iv _=>a3-(intOf iv).toNat);case atStart=>exact⟨0,0,rfl,rfl,zero_le _,qo,an.out,al.out⟩
 case round=>
  obtain⟨j,a,rfl,rfl,hj,ha,hN,hJ⟩:=hrel;have HJ:=qH2 hN hJ;have av:=hJ.own.lt;have az:=hJ.below.size;clear hN hJ al an;by_cases hlt:j<a3
  .have zj:(j:Int)<(a3:Int):=qo
   obtain⟨k,hk⟩:∃k,ks[j]?=some k:=qg (qw HA.out);obtain⟨os1,a4,a7⟩:=Kids.nth G HF.2.1 hk;obtain⟨o',a8,hv,aj⟩:=yQf HF.1 hk;have hc:=HJ.2.own.cell hv;have af:k.length<=n:=qv (yIx (mem_of_getElem? hk)) HF.2.2.2.2.1
   have a6:=aj.below HJ.2.below;have ab:=qH1 (HF.2.2.2.2.2 wr b o' a8 k os1 af a6 a7);obtain⟨ky,ke,ko,rfl,_,_,ae⟩:=ShT.inv G a7;have ah:os1.kind=ke.kind:=by rw[ae];rfl
   have a9:Hid (∀w2,Below wr wr w2->Calls prog 91 #[.slice (some ⟨b,o',none⟩) (ky++ [ke]).length a8] w2 λr w'=>r=.returned (xi os1.kind)/\w'=w2):=λw2 hb2=>by have:=yMi (a6.below hb2);rw[length_append,length_singleton,ah];exact this
   have aA:=HB.out os1 (mem_of_getElem? a4);have ay:Hid (yA2 e.kind (j+1) (max a (os1.nest+if yCf e.kind j os1.kind then 1 else 0)) (os.drop (j+1))=sn):=by show _=_;rw[<-yN0 e.kind a4];exact HJ.1
   obtain⟨kl,ag⟩:=qE ((ky++ [ke]).length);rw[<-ag]at hc ab a9;clear hk a4 a7 hv aj af a6 ae ah ag;go_wp2_with fail;refine ab.mono ?_;rintro r w2 ⟨rfl,hb2⟩;have HJ2:=qH1 (HJ.2.move hb2);have hc2:(xk w2 g j (.slice (some ⟨b,o',none⟩) kl a8):Prop):=by rw[(Chg.of_below hb2 (S:=λ_=>False)).cell (p:=(xd g j)) av.2 (λq=>q)];exact hc
   have am:=qH1 (a9.out w2 hb2);clear hc hb2 a9 ab;have fin:∀(x:Nat),x=os1.nest+(if yCf e.kind j os1.kind then 1 else 0)->x<=281474976710657->Hid (∀y:Nat,y=max a x->yA2 e.kind (j+1) y (os.drop (j+1))=sn):=λx hx _ y hy=>by rw[hy,hx];exact ay.out
   by_cases h16:e.kind=16
   .have a0:yCf e.kind j os1.kind=true:=by unfold yCf;rw[h16];rfl
    rw[a0]at fin;have HFin:=fin (os1.nest+1) rfl qo;have aq:(e.kind==16)=true:=by simpa using h16
    clear fin a0 h16;exact xGu
   .have aq:(e.kind==16)=false:=by simpa using h16
    go_wp2_with fail;refine am.mono ?_;rintro r w3 ⟨rfl,a1⟩;rw[a1];clear a1 am;go_wp2_with fail;refine(yLi e.kind j os1.kind _ h16).mono ?_;rintro r w3 ⟨rfl,a1⟩;rw[a1];clear a1;cases a0:yCf e.kind j os1.kind
    .rw[a0]at fin;have HFin:=fin os1.nest rfl qo;clear fin a0;by_cases hgt:a<os1.nest
     .have zg:(a:Int)<(os1.nest:Int):=qo
      refine zY ?_;exact⟨j+1,os1.nest,by go_num,rfl,qo,qo,HFin.out _ qo,HJ2.out⟩
     .have zg:¬(a:Int)<(os1.nest:Int):=qo
      refine zY ?_;exact⟨j+1,a,by go_num,rfl,qo,qo,HFin.out _ qo,HJ2.out⟩
    .rw[a0]at fin;have HFin:=fin (os1.nest+1) rfl qo;clear fin a0;exact xGu
  .have zj:¬(j:Int)<(a3:Int):=qo
   have hd:a=sn:=by have:=HJ.1;rw[drop_eq_nil_of_le (qv HA.out HF.2.2.2.1)]at this;exact this
   subst hd;go_wp2;go_ret;exact⟨rfl,HJ.2.below⟩
theorem yU3:∀n,xF0 G n
 |0=>λw b o cap xs s hn hW hS=>by
  obtain⟨ys,e,os,rfl,_⟩:=ShT.inv G hS
  simp at hn
 |n+1=>xE6 G (yU3 n)
end
def plK(fa:Nat->Nat->Bool):Nat->Nat->Nat->Bool
 |0=>fa
 |K+1=>λi j=>plK fa K i j || (decide (i<=K) && decide (K<=j) && plK fa K i K && plK fa K K j)
def MaG(N:Nat)(F:Nat->Nat->Bool)(w:World)(r:Ending)(w':World):Prop:=∃g cp ρ γ f,r=.returned (slV g N cp)/\N<=cp/\Hid (MatR w' g N ρ γ f/\∀i j,i<=j->j<N->f i j=F i j)/\Below w w w'
theorem MaF.g{F:Nat->Nat->Bool}{r:Ending}(h:MaF N F w r w'):MaG N F w r w':=by obtain⟨g,cp,ρ,γ,f,h1,h2,h3⟩:=h;exact⟨g,cp,ρ,γ,f,h1,h2.out.1.out.caps.1,⟨h2.out.1.read,h2.out.2⟩,h3⟩
def viaF(fo:Nat->Nat->Bool)(k:Nat):Nat->Nat->Bool:=λx y=>decide (x<=k) && decide (k<=y) && fo x k && fo k y
variable {p:Prop}
theorem zPe (h:p:=by
 refine qO 40 rfl λK hK=>?_;go_simp;refine hK.out _ _ (.inr hSd) ?_;clear hK;refine jS ?_;refine qO 41 rfl λK hK=>?_;go_simp;refine hK.out _ _ (.inl rfl) ?_;clear hK;refine jS ?_;refine qD ?_;obtain⟨v,hv⟩:=qE (fo i j || viaF fo k i j);have HJ3:=HJ2.out v hv;rw[HV.1]at hv;unfold viaF at hv;rw[HV.2.1,HV.2.2]at hv;(try simp[hik]at hv);(try simp[hkj]at hv);(try simp at hv);subst hv;unfold SW at hSd;go_wp2;go_roundw;case rel=>first|exact⟨j+1,by omega,by omega,by go_num,_,HJ3⟩|exact⟨j+1,_,by omega,by omega,by go_num,HJ3⟩
 case measure=>simp[intOf];omega):p:=h
theorem zPi {q:Prop} (k:q) (h:q->p:=by
 intro zz;refine wpR 41 hSd ?_;refine ja 0 hSd ?_;iterate 14 refine jb hSd ?_
 refine ja 15 hSd (v:=true) ?_;iterate 3 refine jb hSd ?_
 exact zz):p:=h k
theorem zPf (h:p:=by
 refine zPi ?_;refine ja 19 hSd (v:=true) ?_;iterate 20 refine jb hSd ?_
 exact zPe):p:=h
theorem yTa(n ga ca:Nat)(ρa γa:Nat->Nat)(fa:Nat->Nat->Bool) w (hn:n<=1000) (ha:MatR w ga (n+1) ρa γa fa) (hca:n+1<=ca):Calls prog 241 #[slV ga (n+1) ca] w (MaG (n+1) (plK fa (n+1)) w):=by
 have HR:=qH1 ha;clear ha;go_enter func241,ntmps241;go_wp2_with fail;go_loopw[3,4] (λov kv wr=>∃(k go co:Nat)(ρo γo:Nat->Nat)(fo:Nat->Nat->Bool),k<=n+1/\kv=(xi k)/\ov=slV go (n+1) co/\n+1<=co/\Hid (MatR wr go (n+1) ρo γo fo/\(∀x y,x<=y->y<n+1->fo x y=plK fa k x y)/\Below w w wr)) (λ_ kv _=>n+1-(intOf kv).toNat);case atStart=>exact⟨0,ga,ca,ρa,γa,fa,zero_le _,rfl,rfl,hca,HR.out,λ_ _ _ _=>rfl,Below.refl _ _⟩
 case round=>
  obtain⟨k,go,co,ρo,γo,fo,hk,rfl,rfl,af,HO⟩:=hrel;obtain⟨Wk,ai⟩:=qE (wr:World);subst ai;by_cases hlk:k<n+1
  .have zk:(k:Int)<((n+1:Nat):Int):=qo
   go_wp2_with fail;refine(yBn n hn Wk).mono ?_;rintro r w1 ⟨g,cp,ρ,γ,rfl,HM,ag⟩;have ad:=HM.out.out.caps;go_wp2_with fail;go_loopw[6] (λiv wr=>∃(i:Nat)(f:Nat->Nat->Bool),i<=n+1/\iv=(xi i)/\Hid (MatO wr Wk g cp (n+1) (n+1) ρ γ f/\(∀x y,x<=y->y<n+1->f x y=orF fo (viaF fo k) i 0 x y)/\Below Wk Wk wr)) (λiv _=>n+1-(intOf iv).toNat);case atStart=>exact⟨0,_,zero_le _,rfl,HM.out,λx y _ _=>by simp[orF],ag⟩
   case round=>
    obtain⟨i,f0,hi,rfl,a6⟩:=hrel;obtain⟨Wr,ah⟩:=qE (wr:World);subst ah;by_cases hlt:i<n+1
    .have zi:(i:Int)<((n+1:Nat):Int):=qo
     go_wp2_with fail;go_loopw[7] (λjv wr=>∃(j:Nat)(f:Nat->Nat->Bool),i<=j/\j<=n+1/\jv=(xi j)/\Hid (MatO wr Wk g cp (n+1) (n+1) ρ γ f/\(∀x y,x<=y->y<n+1->f x y=orF fo (viaF fo k) i j x y)/\Below Wk Wk wr)) (λjv _=>n+1-(intOf jv).toNat);case atStart=>exact⟨i,f0,Nat.le_refl _,qo,rfl,a6.1,λx y hxy hy=>by
      rw[a6.2.1 x y hxy hy]
      unfold orF
      congr 1
      rw[Bool.eq_iff_iff];simp only[Bool.or_eq_true,Bool.and_eq_true,decide_eq_true_eq,beq_iff_eq];omega,a6.2.2⟩
     case round=>
      obtain⟨j,f,hij,hj,rfl,HJ⟩:=hrel;by_cases hlj:j<n+1
      .have zj:(j:Int)<((n+1:Nat):Int):=qo
       have a5:=HO.1.below HJ.2.2 qr;have c0:=HJ.1.cell hlt;have c1:=(HJ.1.row i hlt).cell hlj;have z1:wr.frozen? (xd (ρ i) j)=false:=World.ownsRow.frozenAt (HJ.1.row i hlt) _;have aj:=(HJ.1.row i hlt).caps;have a0:=a5.out i hlt;have a1:=a5.row i j hlt hlj;have a2:=a5.row i k hlt hlk;have a3:=a5.out k hlk;have a4:=a5.row k j hlk hlj;have ak:=HO.1.cap i hlt;have hc2:=HO.1.cap k hlk;have HJ2:Hid (∀v:Bool,v=(fo i j || viaF fo k i j)->Hid (MatO (wr.setCell (xd (ρ i) j) v).drew Wk g cp (n+1) (n+1) ρ γ (upd2 f i j v)/\(∀x y,x<=y->y<n+1->upd2 f i j v x y=orF fo (viaF fo k) i (j+1) x y)/\Below Wk Wk (wr.setCell (xd (ρ i) j) v).drew)):=λv hv=>by
        refine⟨(HJ.1.set hlt hlj v).below ((Below.refl _ _).drew),λx y hxy hy=>?_,(yAc HJ.2.2 (HJ.1.row i hlt).lt.1 _ _).drew⟩;unfold upd2;by_cases e:x=i/\y=j
        .rw[if_pos e,hv];simp[orF,e.1,e.2]
        .rw[if_neg e,HJ.2.1 x y hxy hy];unfold orF;congr 1;rw[Bool.eq_iff_iff];simp only[Bool.or_eq_true,Bool.and_eq_true,decide_eq_true_eq,beq_iff_eq];omega
       obtain⟨a7,aa⟩:∃a7,fo i j=a7:=⟨_,rfl⟩;obtain⟨a8,ac⟩:∃a8,fo i k=a8:=⟨_,rfl⟩;obtain⟨a9,ab⟩:∃a9,fo k j=a9:=⟨_,rfl⟩;have HV:=qH3 aa ac ab;rw[aa]at a1;rw[ac]at a2;rw[ab]at a4;clear a5 aa ac ab c1;have c1:=(HJ.1.row i hlt).cell hlj;have hSd:SW (λw':World=>xk w' g i (slV (ρ i) (n+1) (γ i))/\xk w' go i (slV (ρo i) (n+1) (γo i))/\xk w' (ρo i) j a7/\xk w' (ρo i) k a8/\xk w' go k (slV (ρo k) (n+1) (γo k))/\xk w' (ρo k) j a9) wr.drew:=⟨c0,a0,a1,a2,a3,a4⟩;go_upto_region 12 with fail;cases a7
       case true=>
        refine wpR 41 hSd ?_;refine ja 0 hSd ?_;iterate 39 refine jb hSd ?_
        exact zPe
       case false=>
        by_cases hik:i<=k
        .have hd1:decide ((i:Int)<=(k:Int))=true:=by simp;omega
         by_cases hkj:k<=j
         .have hd2:decide ((k:Int)<=(j:Int))=true:=by simp;omega
          cases a8<;>exact zPf
         .have hd2:decide ((k:Int)<=(j:Int))=false:=by simp;omega
          refine zPi ?_;refine ja 19 hSd (v:=false) ?_;iterate 20 refine jb hSd ?_
          exact zPe
        .have hd1:decide ((i:Int)<=(k:Int))=false:=by simp;omega
         refine wpR 41 hSd ?_;refine ja 0 hSd ?_;iterate 14 refine jb hSd ?_
         refine ja 15 hSd (v:=false) ?_;iterate 24 refine jb hSd ?_
         exact zPe
      .obtain rfl:j=n+1:=qo
       have zj:¬((n+1:Nat):Int)<((n+1:Nat):Int):=qo
       have HJ2:Hid (MatO wr Wk g cp (n+1) (n+1) ρ γ f/\(∀x y,x<=y->y<n+1->f x y=orF fo (viaF fo k) (i+1) 0 x y)/\Below Wk Wk wr):=by refine⟨HJ.1,λx y hxy hy=>?_,HJ.2.2⟩;rw[HJ.2.1 x y hxy hy];unfold orF;congr 1;rw[Bool.eq_iff_iff];simp only[Bool.or_eq_true,Bool.and_eq_true,decide_eq_true_eq,beq_iff_eq];omega
       go_wp2;go_roundw;case rel=>first|exact⟨i+1,f,qo,by go_num,HJ2.out⟩|exact⟨i+1,qo,by go_num,f,HJ2.out⟩
       case measure=>simp[intOf];omega
    .obtain rfl:i=n+1:=qo
     have zi:¬((n+1:Nat):Int)<((n+1:Nat):Int):=qo
     have ae:Hid (MatR Wr g (n+1) ρ γ f0/\(∀x y,x<=y->y<n+1->f0 x y=plK fa (k+1) x y)/\Below w w Wr):=by
      refine⟨a6.1.read,λx y hxy hy=>?_,HO.2.2.trans (a6.2.2.mono HO.2.2.size)⟩;rw[a6.2.1 x y hxy hy];have hx:x<n+1:=qo
      simp only[orF,viaF,plK,hx,decide_true,Bool.true_or,Bool.and_true];rw[HO.2.1 x y hxy hy];by_cases h1:x<=k
      .by_cases h2:k<=y
       .rw[HO.2.1 x k h1 hlk,HO.2.1 k y h2 hy]
       .simp[h2]
      .simp[h1]
     go_wp2;go_roundw;case rel=>first|exact⟨k+1,g,cp,ρ,γ,f0,qo,by go_num,rfl,ad.1,ae.out⟩|exact⟨k+1,qo,by go_num,g,cp,rfl,ad.1,ρ,γ,f0,ae.out⟩|exact⟨k+1,g,cp,qo,by go_num,rfl,ad.1,ρ,γ,f0,ae.out⟩
     case measure=>simp[intOf];omega
  .obtain rfl:k=n+1:=qo
   have zk:¬((n+1:Nat):Int)<((n+1:Nat):Int):=qo
   go_wp2_with fail;go_ret;exact⟨go,co,ρo,γo,fo,rfl,af,⟨HO.1,HO.2.1⟩,HO.2.2⟩
theorem Tryz.cellsNd:prog.cellsOf 262=7:=qk
theorem xHy{α:Type}{cs:List α}(h:cs.length=7):∃c0 c1 c2 c3 c4 c5 c6,cs= [c0,c1,c2,c3,c4,c5,c6]:=by
 match cs,h with
 | [c0,c1,c2,c3,c4,c5,c6],_=>exact⟨c0,c1,c2,c3,c4,c5,c6,rfl⟩
theorem yWh{H:Type}{enc:TypeId×Value->H}{spare:Nat->Bool}{held:Bool}{cs:List Value}{x:DataW H×List MemPlace}
  (h:DataW.trod enc prog w base spare held fuel 262 cs=some x):∃e:Nd,e.ok/\cs=e.seven:=by
 obtain⟨xs,n,_,_,hl,a7,hf⟩:=DataW.trod_struct underlying262 h;rw[Tryz.cellsNd]at hl;obtain⟨c0,c1,c2,c3,c4,c5,c6,rfl⟩:=xHy hl;obtain⟨x0,x1,x2,x3,x4,x5,x6,rfl⟩:=xHy (cs:=xs) a7;have h0:=hf 0 _ rfl;have h1:=hf 1 _ rfl;have h2:=hf 2 _ rfl;have h3:=hf 3 _ rfl;have h4:=hf 4 _ rfl;have h5:=hf 5 _ rfl;have h6:=hf 6 _ rfl;simp[Tryz.cellsStr,Tryz.cellsU64,Tryz.cellsI64,Tryz.cellsBool]at h0 h1 h2 h3 h4 h5 h6;obtain⟨a0,e0,_,b0⟩:=DataW.trod_int underlying2 h0;obtain⟨a1,e1,_,b1⟩:=DataW.trod_string underlying9 h1;obtain⟨a2,e2,_⟩:=DataW.trod_bool underlying4 h2;obtain⟨a3,e3,_,b3⟩:=DataW.trod_string underlying9 h3;obtain⟨a4,e4,_,b4⟩:=DataW.trod_int underlying68 h4;obtain⟨a5,e5,_,b5⟩:=DataW.trod_int underlying68 h5;obtain⟨a6,e6,_,b6⟩:=DataW.trod_int underlying2 h6;simp only[List.cons.injEq,and_true]at e0 e1 e2 e3 e4 e5 e6;exact⟨⟨a0,a1,a2,a3,a4,a5,a6⟩,⟨b1,b3,b0,b4,b5,b6⟩,by rw[e0,e1,e2,e3,e4,e5,e6]⟩
def xAi(w:World)(v:Value)(es:List Nd):Prop:=
 (∃a cap,v=.slice a 0 cap/\es= [])\/
 ∃b off cap,v=.slice (some ⟨b,off,none⟩) es.length cap/\yH1 w b off es/\b<w.heap.size/\es.length<=cap/\cap<=maxLen
theorem xAi.below{v:Value}(h:xAi w v es)(hb:Below B w w')(hB:w.heap.size<=B):xAi w' v es:=by exact xAq
theorem xAi.own{g:Nat}(h:yC7 w base g cap es)(hn:n=es.length):xAi w (xg g n cap) es:=by subst hn;exact .inr ⟨g,0,cap,rfl,h.at,h.lt.2,h.caps.1,h.caps.2⟩
section
def Hd(Q:UInt8->Prop)(r:List UInt8):Prop:=r= []\/∃c zs,r=c::zs/\Q c
theorem Hd.mono{Q R:UInt8->Prop}(h:∀c,Q c->R c){r:List UInt8}:Hd Q r->Hd R r
 | .inl q=>.inl q
 | .inr ⟨c,zs,h1,h2⟩=>.inr ⟨c,zs,h1,h c h2⟩
theorem yYs:∀(a b:List UInt8){r r':List UInt8},(∀c∈a,isOp c)->(∀c∈b,isOp c)->Hd (λc=>¬isOp c) r->Hd (λc=>¬isOp c) r'->a++r=b++r'->a=b/\r=r'
 | [],[],r,r',_,_,_,_,h=>⟨rfl,by simpa using h⟩
 |x::a,[],r,r',ha,_,_,hr',h=>by
  rcases hr' with rfl|⟨c,zs,rfl,hc⟩
  .cases h
  .simp only[cons_append,nil_append,List.cons.injEq]at h
   exact absurd (h.1▸ha x (by simp)) hc
 | [],y::b,r,r',_,hb,hr,_,h=>by
   rcases hr with rfl|⟨c,zs,rfl,hc⟩
   .cases h
   .simp only[cons_append,nil_append,List.cons.injEq]at h
    exact absurd (h.1▸hb y (by simp)) hc
 |x::a,y::b,r,r',ha,hb,hr,hr',h=>by
  simp only[cons_append,List.cons.injEq]at h
  obtain⟨h1,h2⟩:=yYs a b (λc hc=>ha c (by simp[hc])) (λc hc=>hb c (by simp[hc])) hr hr' h.2
  exact⟨by rw[h.1,h1],h2⟩
theorem yVd(zs:List UInt8):Hd (λc=>c=41\/c=124) (124::zs):=.inr ⟨124,zs,rfl,.inr rfl⟩
section
variable {n m:Nat} (hU:∀xs t t',yAm n xs t->yAm m xs t'->t=t')
include hU
theorem xEn{xs ys r r':List UInt8}{t t':Pat}(h:RepG (yAm n) xs t)(k:RepG (yAm m) ys t')(hr:Hd (λc=>¬isOp c) r)(hr':Hd (λc=>¬isOp c) r')(e:xs++r=ys++r'):xs=ys/\t=t'/\r=r':=by obtain⟨a,o,u,rfl,h2,h3,rfl⟩:=h;obtain⟨a',o',u',rfl,k2,k3,rfl⟩:=k;rw[append_assoc,append_assoc]at e;have ea:=yI2 h2 k2 e;subst ea;obtain rfl:=hU _ _ _ h2 k2;obtain⟨rfl,rfl⟩:=yYs o o' h3 k3 hr hr' (append_cancel_left e);exact⟨rfl,rfl,rfl⟩
theorem yJi:∀{ts us:List Pat}{xs ys r r':List UInt8},SeqG (yAm n) ts xs->SeqG (yAm m) us ys->Hd (λc=>c=41\/c=124) r->Hd (λc=>c=41\/c=124) r'->xs++r=ys++r'->ts=us/\xs=ys/\r=r'
 | [],[],xs,ys,r,r',h,k,hr,hr',e=>by
   have h:=h
   have k:=k
   subst h k
   exact⟨rfl,rfl,by simpa using e⟩
 |t::ts,[],xs,ys,r,r',h,k,hr,hr',e=>by
  have k:=k
  subst k
  obtain⟨as_,zs,rfl,⟨a,o,u,rfl,h2,h3,_⟩,h4⟩:=h
  obtain⟨c,yt,rfl,n1,n2,n3⟩:=h2.first
  rcases hr' with rfl|⟨c',zs',rfl,hc⟩
  .simp at e
  .simp only[cons_append,nil_append,List.cons.injEq]at e
   rcases hc with q|q
   .exact absurd (e.1.trans q) n1
   .exact absurd (e.1.trans q) n2
 | [],u::us,xs,ys,r,r',h,k,hr,hr',e=>by
   have h:=h
   subst h
   obtain⟨as_,zs,rfl,⟨a,o,u',rfl,h2,h3,_⟩,h4⟩:=k
   obtain⟨c,yt,rfl,n1,n2,n3⟩:=h2.first
   rcases hr with rfl|⟨c',zs',rfl,hc⟩
   .simp at e
   .simp only[cons_append,nil_append,List.cons.injEq]at e
    rcases hc with q|q
    .exact absurd (e.1.symm.trans q) n1
    .exact absurd (e.1.symm.trans q) n2
 |t::ts,u::us,xs,ys,r,r',h,k,hr,hr',e=>by
  obtain⟨as_,zs,rfl,h2,h3⟩:=h
  obtain⟨bs,ws,rfl,k2,k3⟩:=k
  have hd:∀{j:Nat}{vs:List Pat}{qs rr:List UInt8},SeqG (yAm j) vs qs->Hd (λc=>c=41\/c=124) rr->Hd (λc=>¬isOp c) (qs++rr):=λ{j vs qs rr} hq hrr=>by
   cases vs with
   |nil=>
    have hq:=hq
    subst hq
    refine hrr.mono (λc hc=>?_)
    rcases hc with rfl|rfl
    .unfold isOp;decide
    .unfold isOp;decide
   |cons v vs=>
    obtain⟨a1,z1,rfl,⟨a,o,u',rfl,g2,g3,_⟩,g4⟩:=hq
    obtain⟨c,yt,rfl,n1,n2,n3⟩:=g2.first
    exact .inr ⟨c,_,by simp only[cons_append];rfl,n3⟩
  rw[append_assoc,append_assoc]at e
  obtain⟨rfl,rfl,e2⟩:=xEn hU h2 k2 (hd h3 hr) (hd k3 hr') e
  obtain⟨rfl,rfl,e3⟩:=yJi h3 k3 hr hr' e2
  exact⟨rfl,rfl,e3⟩
theorem yT8:∀{os us:List (List Pat)}{xs ys r r':List UInt8},AltG (yAm n) os xs->AltG (yAm m) us ys->Hd (λc=>c=41) r->Hd (λc=>c=41) r'->xs++r=ys++r'->os=us/\xs=ys
 | [],_,_,_,_,_,h,_,_,_,_=>h.elim
 |_::_,[],_,_,_,_,_,k,_,_,_=>k.elim
 | [ts],[us],xs,ys,r,r',h,k,hr,hr',e=>by
   obtain⟨rfl,rfl,_⟩:=yJi hU (ts:=ts) (us:=us) h k (hr.mono (λc q=>.inl q)) (hr'.mono (λc q=>.inl q)) e
   exact⟨rfl,rfl⟩
 | [ts],u1::u2::us,xs,ys,r,r',h,⟨a,z,k1,k2,k3⟩,hr,hr',e=>by
   subst k1
   rw[append_assoc,cons_append]at e
   obtain⟨_,_,e3⟩:=yJi hU (ts:=ts) (us:=u1) h k2 (hr.mono (λc q=>.inl q)) (yVd _) e
   rcases hr with rfl|⟨c,zs,rfl,hc⟩
   .cases e3
   .simp only[List.cons.injEq]at e3
    rw[hc]at e3
    exact absurd e3.1 qj
 |t1::t2::ts,[us],xs,ys,r,r',⟨a,z,h1,h2,h3⟩,k,hr,hr',e=>by
  subst h1
  rw[append_assoc,cons_append]at e
  obtain⟨_,_,e3⟩:=yJi hU (ts:=t1) (us:=us) h2 k (yVd _) (hr'.mono (λc q=>.inl q)) e
  rcases hr' with rfl|⟨c,zs,rfl,hc⟩
  .cases e3
  .simp only[List.cons.injEq]at e3
   rw[hc]at e3
   exact absurd e3.1 qj
 |t1::t2::ts,u1::u2::us,xs,ys,r,r',⟨a,z,h1,h2,h3⟩,⟨b,y,k1,k2,k3⟩,hr,hr',e=>by
  subst h1 k1
  rw[append_assoc,append_assoc,cons_append,cons_append]at e
  obtain⟨rfl,rfl,e3⟩:=yJi hU h2 k2 (yVd _) (yVd _) e
  simp only[List.cons.injEq,true_and]at e3
  obtain⟨e4,rfl⟩:=yT8 h3 k3 hr hr' e3
  exact⟨by rw[e4],rfl⟩
end
theorem yVf:∀(n:Nat){m:Nat}(xs:List UInt8)(t t':Pat),yAm n xs t->yAm m xs t'->t=t'
 |0,_,_,_,_,h,_=>h.elim
 |n+1,0,_,_,_,_,k=>k.elim
 |n+1,m+1,xs,t,t',h,k=>by
  have hu:∀xs t t',yAm n xs t->yAm m xs t'->t=t':=λxs t t' p q=>yVf n xs t t' p q
  have hc91:∀{p:List UInt8}{i k:Nat}{f:UInt8->Bool},p[i]?=some 91->yAq p (i+1)=.inl (f,k)->∃zs,cut p i k=91::zs:=λ{p i k f} h1 h2=>by
   have hg:=yBj h2
   have:=yBq (p:=p) (i:=i) (j:=i+1) (k:=k) (by omega) (by omega)
   rw[yCa h1]at this
   exact⟨_,this⟩
  rcases h with⟨c,rfl,hs,rfl⟩|⟨rfl,rfl⟩|⟨c,rfl,rfl⟩|⟨ys,os,rfl,h2,rfl⟩|⟨p,i,j,f,h1,h2,h3,rfl⟩<;>
   rcases k with⟨c',k1,ks,rfl⟩|⟨k1,rfl⟩|⟨c',k1,rfl⟩|⟨zs,us,k1,k2,rfl⟩|⟨p',i',j',f',k1,k2,k3,rfl⟩
  .simp at k1;rw[k1]
  .simp at k1;subst k1;exact absurd (by unfold yB3;simp) hs
  .simp at k1
  .have:=congrArg List.length k1;simp at this
  .obtain⟨zs,hz⟩:=hc91 k1 k2
   rw[hz]at k3;simp at k3;rw[k3.1]at hs;exact absurd (by unfold yB3;simp) hs
  .simp at k1;subst k1;exact absurd (by unfold yB3;simp) ks
  .rfl
  .simp at k1
  .have:=congrArg List.length k1;simp at this
  .obtain⟨zs,hz⟩:=hc91 k1 k2
   rw[hz]at k3;simp at k3
  .simp at k1
  .simp at k1
  .simp at k1;rw[k1]
  .simp at k1
  .obtain⟨zs,hz⟩:=hc91 k1 k2
   rw[hz]at k3;simp at k3
  .have:=congrArg List.length k1;simp at this
  .have:=congrArg List.length k1;simp at this
  .simp at k1
  .simp only[cons_append,List.cons.injEq,true_and]at k1
   obtain⟨rfl,_⟩:=yT8 hu h2 k2 (.inr ⟨41,[],rfl,rfl⟩) (.inr ⟨41,[],rfl,rfl⟩) k1
   rfl
  .obtain⟨zs,hz⟩:=hc91 k1 k2
   rw[hz]at k3;simp at k3
  .obtain⟨zs,hz⟩:=hc91 h1 h2
   rw[hz,k1]at h3;simp at h3;rw[h3.1]at ks;exact absurd (by unfold yB3;simp) ks
  .obtain⟨zs,hz⟩:=hc91 h1 h2
   rw[hz,k1]at h3;simp at h3
  .obtain⟨zs,hz⟩:=hc91 h1 h2
   rw[hz,k1]at h3;simp at h3
  .obtain⟨zs,hz⟩:=hc91 h1 h2
   rw[hz,k1]at h3;simp at h3
  .have hg:=yBj h2
   have hg':=yBj k2
   have hcut:cut p i j=cut p' i' j':=h3.symm.trans k3
   have hl:j-i=j'-i':=by have:=congrArg List.length hcut;rwa [yAw hg.2,yAw hg'.2]at this
   have a0:∀t,i+t<j->p'[i'+t]?=p[i+t]?:=λt ht=>by
    have e1:(cut p i j)[t]?=p[i+t]?:=by unfold cut;rw[getElem?_take,if_pos (by omega),getElem?_drop]
    have e2:(cut p' i' j')[t]?=p'[i'+t]?:=by unfold cut;rw[getElem?_take,if_pos (by omega),getElem?_drop]
    rw[<-e1,<-e2,hcut]
   have e:=yFd (q:=p') (j:=i'+1) h2 (λt ht=>by
    have:=a0 (1+t) (by omega)
    rw[show i'+1+t=i'+(1+t)by omega,show i+1+t=i+(1+t)by omega];exact this)
   rw[e]at k2
   simp only[Sum.inl.injEq,Prod.mk.injEq]at k2
   rw[k2.1]
theorem xEx{os us:List (List Pat)}{xs:List UInt8}(h:AltG (yAm n) os xs)(k:AltG (yAm m) us xs):os=us:=
 (yT8 (λxs t t' p q=>yVf n xs t t' p q) h k (.inl rfl) (.inl rfl) rfl).1
end
section
section
variable {P:Program} {ops:Array Oper} {Q:Exit->Act->World->Prop} {md:Region.Mode} {S:World->Prop} {L:Nat}
def yRb(md:Region.Mode)(ops:Array Oper):List Nat->Nat->Nat->Bool
 | [],i,L=>yDy md ops L i
 |m::ms,i,L=>yDy md ops m i && yRb md ops ms m L
theorem yPt{listed:Array Bool}{p:Nat}(h:yDy md ops j p=true)(hun:listed.getD p true=false):¬j∈Region.ready md ops listed:=λhj=>by
 obtain⟨_,oj,hoj,hall⟩:=mem_ready.1 hj
 unfold yDy at h
 rw[hoj]at h
 simp only[Option.map_some,Option.getD_some,Array.any_eq_true]at h
 obtain⟨k,hk,hb⟩:=h
 rw[Bool.and_eq_true,beq_iff_eq]at hb
 have h1:=hall _ (Array.getElem_mem hk) hb.1
 rw[hb.2]at h1
 rcases Nat.lt_or_ge p listed.size with h'|h'
 .simp[h']at hun h1;rw[hun]at h1;cases h1
 .simp[Array.getElem?_eq_none h']at h1
theorem yRa{listed:Array Bool}:∀(ms:List Nat)(i:Nat),yRb md ops ms i L=true->listed.getD i true=false->(∀m∈ms,listed.getD m true=false)->∀j∈Region.ready md ops listed,¬j∈ms/\j≠L
 | [],i,h,hi,_,j,hj=>⟨by simp,λq=>yPt h hi (q▸hj)⟩
 |m::ms,i,h,hi,hm,j,hj=>by
  unfold yRb at h
  rw[Bool.and_eq_true]at h
  obtain⟨h1,h2⟩:=yRa ms m h.2 (hm m (by simp)) (λx hx=>hm x (by simp[hx])) j hj
  refine⟨λq=>?_,h2⟩
  rcases mem_cons.1 q with rfl|q
  .exact yPt h.1 hi hj
  .exact h1 q
theorem yT6{v:Value}(ms:List Nat)(hi:ops[i]?=some oi)(hsel:∀(j:Nat)(o:Oper) cs b,ops[j]?=some o->o.op≠ .select cs b)
  (hQ:∀c a w,Q (.panic c) (a.put oi.dst v) w->Q (.panic c) a w) (hL:yRb md ops ms i L=true):
  ∀(fuel:Nat)(listed:Array Bool)(a:Act)(w:World),(∀m∈ms,listed.getD m true=false)->
   (∀j oj,ops[j]?=some oj->j≠i->listed.getD j true=false->(∀e∈oj.after,Region.binds md e=true->e.on≠i)->oi.apart ops oj=true)->
   i∈Region.ready md ops listed->YieldsIf P ops S oi v a->S w->
   AnyT P md ops Q S L fuel (listed.setIfInBounds i true) (a.put oi.dst v) w->AnyT P md ops Q S L (fuel+1) listed a w:=by
 intro fuel;induction fuel with
 |zero=>
  intro listed a w _ _ hr hy hS H;refine⟨λh=>(by rw[h]at hr;cases hr),λj hj=>?_⟩;by_cases hji:j=i
  .subst hji;exact hy.wpOp hi hS ⟨.inr hS,H⟩
  .have:=ready_mono hj hji;rw[H.1]at this;cases this
 |succ fuel ih=>
  intro listed a w a1 a3 hr hy hS H;refine⟨λh=>(by rw[h]at hr;cases hr),λj hj=>?_⟩;by_cases hji:j=i
  .subst hji;exact hy.wpOp hi hS ⟨.inr hS,H⟩
  .have h1:=H.2 j (ready_mono hj hji);obtain⟨a6,a8⟩:=yRa ms i hL (mem_ready.1 hr).1 a1 j hj;obtain⟨a2,oj,a0,aa⟩:=mem_ready.1 hj;have a4:∀e∈oj.after,Region.binds md e=true->e.on≠i:=λe he hb heq=>by
    have h1:=aa e he hb;have h0:=(mem_ready.1 hr).1;rw[heq]at h1;rcases Nat.lt_or_ge i listed.size with h'|h'
    .simp[h']at h0 h1;rw[h0]at h1;cases h1
    .simp[Array.getElem?_eq_none h']at h1
   have h2:=wpOp_putIf a0 (a3 j oj a0 hji a2 a4) (λcs b=>hsel i oi cs b hi) (λcs b=>hsel j oj cs b a0) hQ hy h1
   have a9:∀k ok,ops[k]?=some ok->k≠i->(listed.setIfInBounds j true).getD k true=false->
     (∀e∈ok.after,Region.binds md e=true->e.on≠i)->oi.apart ops ok=true:=λk ok hk hki hun hno=>by
    refine a3 k ok hk hki ?_ hno;by_cases hjk:j=k
    .subst hjk;exact a2
    .rw[getD_set_ne true hjk]at hun;exact hun
   have a5:∀m∈ms,(listed.setIfInBounds j true).getD m true=false:=λm hm=>by have a7:j≠m:=λq=>a6 (q▸hm);rw[getD_set_ne true a7];exact a1 m hm
   refine wpOp_mono (λa' w' h3=>⟨h3.2.1,ih (listed.setIfInBounds j true) a' w' a5 a9 (ready_mono hr (Ne.symm hji)) h3.1 (h3.2.1.resolve_left a8) ?_⟩) h2;rw[Array.setIfInBounds_comm _ _ hji];exact h3.2.2
theorem yAi(ms:List Nat)(i:Nat)(v:Value){listed:Array Bool}(hi:ops[i]?=some oi)
  (hy:∀w,S w->(execOp a.eval oi).run P w=.ok (.value v) w) (hS:S w)
  (h:AnyT P md ops Q S L fuel (listed.setIfInBounds i true) (a.put oi.dst v) w)
  (hs:Region.noSelect ops=true:=by kernel_rfl) (hf:Region.free md ops listed i=true:=by kernel_rfl) (hr:(Region.ready md ops listed).contains i=true:=by kernel_rfl) (hL:yRb md ops ms i L=true:=by kernel_rfl)
  (hm:(ms.all λm=> !listed.getD m true)=true:=by kernel_rfl)
  (hQ:∀c a w,Q (.panic c) (a.put oi.dst v) w->Q (.panic c) a w:=by exact λ_ _ _ h=>h) (hw:Region.wanted oi (yielded ops a.tmps)=true:=by rfl):AnyT P md ops Q S L (fuel+1) listed a w:=
 yT6 ms hi (Region.noSelect_spec hs) hQ hL fuel listed a w (λm hx=>by have:=all_eq_true.1 hm m hx;simpa using this) (Region.free_spec hi hf) (by simpa using hr) (Or.inl ⟨hw,hy⟩) hS h
end
end
section
section
variable {P:Program} {ops:Array Oper} {Q:Exit->Act->World->Prop} {md:Region.Mode} {S:World->Prop} {X:List Nat}
def AnyX(P:Program)(md:Region.Mode)(ops:Array Oper)(Q:Exit->Act->World->Prop)(S:World->Prop)(X:List Nat):Nat->Array Bool->Act->World->Prop
 |0,listed,a,w=>Region.ready md ops listed= []/\Q .normal a w
 |fuel+1,listed,a,w=>
  (Region.ready md ops listed= []->Q .normal a w)/\
  ∀i∈Region.ready md ops listed,wpOp P ops Q i (λa' w'=>(i∈X\/S w')/\AnyX P md ops Q S X fuel (listed.setIfInBounds i true) a' w') a w
theorem yVg:∀(fuel:Nat)(listed:Array Bool)(a:Act)(w:World),AnyX P md ops Q S X fuel listed a w->wpAny P md ops Q fuel listed a w
 |0,_,_,_,h=>h
 |fuel+1,_,_,_,h=>⟨h.1,λi hi=>wpOp_mono (λa' w' h'=>yVg fuel _ a' w' h'.2) (h.2 i hi)⟩
def yO2(md:Region.Mode)(ops:Array Oper)(Y:List Nat)(listed:Array Bool)(i:Nat):Bool:=Y.all λL=>listed.getD L true==false && (yDy md ops L i || Y.any λL'=>yDy md ops L L')
def cloX(md:Region.Mode)(ops:Array Oper)(listed:Array Bool):Nat->List Nat->List Nat
 |0,Y=>Y
 |n+1,Y=>cloX md ops listed n (Y++(List.range ops.size).filter λL=> !Y.contains L && listed.getD L true==false && Y.any λL'=>yDy md ops L L')
def yO3(md:Region.Mode)(ops:Array Oper)(X:List Nat)(listed:Array Bool)(i:Nat):Bool:=
 let Y:=(cloX md ops listed 6 [i]).erase i
 yO2 md ops Y listed i && X.all λL=>listed.getD L true || Y.contains L
theorem yGi(ho:ops[L]?=some o)(h:yDy md ops L i=true):∃e∈o.after,Region.binds md e=true/\e.on=i:=by unfold yDy at h;rw[ho]at h;simp only[Option.map_some,Option.getD_some,Array.any_eq_true]at h;obtain⟨k,hk,hb⟩:=h;rw[Bool.and_eq_true,beq_iff_eq]at hb;exact⟨_,Array.getElem_mem hk,hb.1,hb.2⟩
theorem yXg{v:Value}{Y:List Nat}(hi:ops[i]?=some oi)(hsel:∀(j:Nat)(o:Oper) cs b,ops[j]?=some o->o.op≠ .select cs b)
  (hQ:∀c a w,Q (.panic c) (a.put oi.dst v) w->Q (.panic c) a w):
  ∀(fuel:Nat)(listed:Array Bool)(a:Act)(w:World),yO2 md ops Y listed i=true->(∀L∈X,listed.getD L true=true\/L∈Y)->
   (∀j oj,ops[j]?=some oj->j≠i->listed.getD j true=false->(∀e∈oj.after,Region.binds md e=true->e.on≠i)->oi.apart ops oj=true)->
   i∈Region.ready md ops listed->YieldsIf P ops S oi v a->S w->
   AnyX P md ops Q S X fuel (listed.setIfInBounds i true) (a.put oi.dst v) w->AnyX P md ops Q S X (fuel+1) listed a w:=by
 intro fuel;induction fuel with
 |zero=>
  intro listed a w _ _ _ hr hy hS H;refine⟨λh=>(by rw[h]at hr;cases hr),λj hj=>?_⟩;by_cases hji:j=i
  .subst hji;exact hy.wpOp hi hS ⟨.inr hS,H⟩
  .have:=ready_mono hj hji;rw[H.1]at this;cases this
 |succ fuel ih=>
  intro listed a w hX a8 a7 hr hy hS H;refine⟨λh=>(by rw[h]at hr;cases hr),λj hj=>?_⟩;by_cases hji:j=i
  .subst hji;exact hy.wpOp hi hS ⟨.inr hS,H⟩
  .have h1:=H.2 j (ready_mono hj hji);obtain⟨a3,oj,a1,aa⟩:=mem_ready.1 hj;have a0:∀k,listed.getD k true=false->∀e∈oj.after,Region.binds md e=true->e.on≠k:=λk h0 e he hb heq=>by
    have h1:=aa e he hb;rw[heq]at h1;rcases Nat.lt_or_ge k listed.size with h'|h'
    .simp[h']at h0 h1;rw[h0]at h1;cases h1
    .simp[Array.getElem?_eq_none h']at h1
   have a4:=a0 i (mem_ready.1 hr).1;have a5:j∉Y:=λq=>by
    have h2:=all_eq_true.1 hX j q;rw[Bool.and_eq_true,Bool.or_eq_true]at h2;rcases h2.2 with h3|h3
    .obtain⟨e,he,hb,a2⟩:=yGi a1 h3;exact a4 e he hb a2
    .obtain⟨L',ad,h4⟩:=any_eq_true.1 h3;obtain⟨e,he,hb,a2⟩:=yGi a1 h4;have h5:=all_eq_true.1 hX L' ad;rw[Bool.and_eq_true]at h5;exact a0 L' (by simpa using h5.1) e he hb a2
   have a6:j∉X:=λq=>(a8 j q).elim (λz=>by rw[a3]at z;cases z) a5;have ab:∀L∈X,(listed.setIfInBounds j true).getD L true=true\/L∈Y:=λL hL=>(a8 L hL).imp (λz=>by rw[getD_set_ne true (λq:j=L=>a6 (by rw[q];exact hL))];exact z) (λz=>z)
   have h2:=wpOp_putIf a1 (a7 j oj a1 hji a3 a4) (λcs b=>hsel i oi cs b hi) (λcs b=>hsel j oj cs b a1) hQ hy h1
   have a9:∀k ok,ops[k]?=some ok->k≠i->(listed.setIfInBounds j true).getD k true=false->
     (∀e∈ok.after,Region.binds md e=true->e.on≠i)->oi.apart ops ok=true:=λk ok hk hki a0 hno=>by
    refine a7 k ok hk hki ?_ hno;by_cases hjk:j=k
    .subst hjk;exact a3
    .rw[getD_set_ne true hjk]at a0;exact a0
   have ac:yO2 md ops Y (listed.setIfInBounds j true) i=true:=by refine all_eq_true.2 λL hL=>?_;have h2:=all_eq_true.1 hX L hL;rw[getD_set_ne true (λq:j=L=>a5 (by rw[q];exact hL))];exact h2
   refine wpOp_mono (λa' w' h3=>⟨h3.2.1,ih (listed.setIfInBounds j true) a' w' ac ab a9 (ready_mono hr (Ne.symm hji)) h3.1 (h3.2.1.resolve_left a6) ?_⟩) h2;rw[Array.setIfInBounds_comm _ _ hji];exact h3.2.2
theorem xA{v:Value}(hi:ops[i]?=some oi)(hsel:∀(j:Nat)(o:Oper) cs b,ops[j]?=some o->o.op≠ .select cs b)
  (hQ:∀c a w,Q (.panic c) (a.put oi.dst v) w->Q (.panic c) a w):
  ∀(fuel:Nat)(listed:Array Bool)(a:Act)(w:World),(i∈X\/S w)->
   (∀j oj,ops[j]?=some oj->j≠i->listed.getD j true=false->(∀e∈oj.after,Region.binds md e=true->e.on≠i)->oi.apart ops oj=true)->
   i∈Region.ready md ops listed->YieldsIf P ops (λ_=>True) oi v a->(∀j,j∈X->j≠i->i∈X)->
   AnyX P md ops Q S X fuel (listed.setIfInBounds i true) (a.put oi.dst v) w->AnyX P md ops Q S X (fuel+1) listed a w:=by
 intro fuel;induction fuel with
 |zero=>
  intro listed a w hS _ hr hy _ H;refine⟨λh=>(by rw[h]at hr;cases hr),λj hj=>?_⟩;by_cases hji:j=i
  .subst hji;exact hy.wpOp hi trivial ⟨hS,H⟩
  .have:=ready_mono hj hji;rw[H.1]at this;cases this
 |succ fuel ih=>
  intro listed a w hS a2 hr hy a3 H;refine⟨λh=>(by rw[h]at hr;cases hr),λj hj=>?_⟩;by_cases hji:j=i
  .subst hji;exact hy.wpOp hi trivial ⟨hS,H⟩
  .have h1:=H.2 j (ready_mono hj hji);obtain⟨a1,oj,a0,a6⟩:=mem_ready.1 hj;have a4:∀e∈oj.after,Region.binds md e=true->e.on≠i:=λe he hb heq=>by
    have h1:=a6 e he hb;have h0:=(mem_ready.1 hr).1;rw[heq]at h1;rcases Nat.lt_or_ge i listed.size with h'|h'
    .simp[h']at h0 h1;rw[h0]at h1;cases h1
    .simp[Array.getElem?_eq_none h']at h1
   have h2:=wpOp_putIf a0 (a2 j oj a0 hji a1 a4) (λcs b=>hsel i oi cs b hi) (λcs b=>hsel j oj cs b a0) hQ hy h1
   have a5:∀k ok,ops[k]?=some ok->k≠i->(listed.setIfInBounds j true).getD k true=false->
     (∀e∈ok.after,Region.binds md e=true->e.on≠i)->oi.apart ops ok=true:=λk ok hk hki hun hno=>by
    refine a2 k ok hk hki ?_ hno;by_cases hjk:j=k
    .subst hjk;exact a1
    .rw[getD_set_ne true hjk]at hun;exact hun
   refine wpOp_mono (λa' w' h3=>⟨h3.2.1,ih (listed.setIfInBounds j true) a' w' (h3.2.1.imp (λq=>a3 j q hji) (λq=>q)) a5 (ready_mono hr (Ne.symm hji)) h3.1 a3 ?_⟩) h2;rw[Array.setIfInBounds_comm _ _ hji];exact h3.2.2
theorem yA3{listed:Array Bool}(hr:Region.ready md ops listed= [i])(ho:ops[i]?=some o)
  (h:∀K':Act->World->Prop,Shut (∀a w,(i∈X\/S w)->AnyX P md ops Q S X fuel (listed.setIfInBounds i true) a w->K' a w)->if Region.wanted o (yielded ops a.tmps)=true then Oper.wp P o a w K' Q else K' (a.put o.dst undef) w):
  AnyX P md ops Q S X (fuel+1) listed a w:=by
 exact xF6
theorem yD6{listed:Array Bool}(hr:Region.ready md ops listed= [])(h:Q .normal a w):AnyX P md ops Q S X fuel listed a w:=by exact xDs
theorem yCq{id:Nat}(X:List Nat)(S:World->Prop)(hm:P.follows .mixedOrders=true)
  (h:AnyX P .any ops Q S X ops.size (Array.replicate ops.size false) a w.drew):(Code.region id ops true).wp P Q a w:=
 wp_region_any hm (yVg _ _ _ _ h)
end
theorem txx(h:p:=by exact⟨rfl,qk,qk,qk,qk,λ_ _ _ h=>h⟩):p:=h
section
variable {P:Program} {ops:Array Oper} {Q:Exit->Act->World->Prop} {md:Region.Mode} {S:World->Prop} {X:List Nat} {j:Nat} {v:Value} {oi:Oper} {fuel:Nat} {listed:Array Bool} {a:Act} {w:World} {q:Prop}
abbrev TxX(ops:Array Oper)(Q:Exit->Act->World->Prop)(md:Region.Mode)(X:List Nat)(i:Nat)(v:Value)(oi:Oper)(listed:Array Bool):Prop:=
 ops[i]?=some oi/\Region.noSelect ops=true/\Region.free md ops listed i=true/\(Region.ready md ops listed).contains i=true/\yO3 md ops X listed i=true/\∀c a w,Q (.panic c) (a.put oi.dst v) w->Q (.panic c) a w
theorem txT(hx:TxX ops Q md X i v oi listed)(hy:YieldsIf P ops S oi v a)(hS:S w)(h:AnyX P md ops Q S X fuel (listed.setIfInBounds i true) (a.put oi.dst v) w):AnyX P md ops Q S X (fuel+1) listed a w:=
 yXg (Y:=(cloX md ops listed 6 [i]).erase i) hx.1 (Region.noSelect_spec hx.2.1) hx.2.2.2.2.2 fuel listed a w (by
  have h2:=hx.2.2.2.2.1
  unfold yO3 at h2
  rw[Bool.and_eq_true]at h2
  exact h2.1) (λL hL=>by
  have h2:=hx.2.2.2.2.1
  unfold yO3 at h2
  rw[Bool.and_eq_true]at h2
  simpa using all_eq_true.1 h2.2 L hL) (Region.free_spec hx.1 hx.2.2.1) (by simpa using hx.2.2.2.1) hy hS h
theorem tyyN(h:p:=by first|exact Or.inr ⟨by rfl,rfl⟩|exact Or.inl ⟨by rfl,by(intro wz hSw;go_simp;(try with_reducible rfl))⟩):p:=h
abbrev TnX(ops:Array Oper)(Q:Exit->Act->World->Prop)(md:Region.Mode)(X:List Nat)(i:Nat)(v:Value)(oi:Oper)(listed:Array Bool):Prop:=
 ops[i]?=some oi/\Region.noSelect ops=true/\Region.free md ops listed i=true/\(Region.ready md ops listed).contains i=true/\∀c a w,Q (.panic c) (a.put oi.dst v) w->Q (.panic c) a w
theorem txnn(h:p:=by exact⟨rfl,qk,qk,qk,λ_ _ _ h=>h⟩):p:=h
theorem txna(i:Nat)(hS:i∈X\/S w)(hX:∀j,j∈X->j≠i->i∈X)(k:q)(hx:TnX ops Q md X i v oi listed:=by exact txnn)(hy:YieldsIf P ops (λ_=>True) oi v a:=by exact tyyN)(h:q->AnyX P md ops Q S X fuel (listed.setIfInBounds i true) (a.put oi.dst v) w:=by exact jz):AnyX P md ops Q S X (fuel+1) listed a w:=
 xA hx.1 (Region.noSelect_spec hx.2.1) hx.2.2.2.2 fuel listed a w hS (Region.free_spec hx.1 hx.2.2.1) (by simpa using hx.2.2.2.1) hy hX (h k)
theorem txa(i:Nat)(hS:S w)(k:q)(hx:TxX ops Q md X i v oi listed:=by exact txx)(hy:YieldsIf P ops S oi v a:=by exact jy)(h:q->AnyX P md ops Q S X fuel (listed.setIfInBounds i true) (a.put oi.dst v) w:=by exact jz):AnyX P md ops Q S X (fuel+1) listed a w:=txT hx hy hS (h k)
theorem txb(hS:S w)(k:q)(hx:TxX ops Q md X (j+1) v oi (listed.setIfInBounds j true):=by exact txx)(hy:YieldsIf P ops S oi v a:=by exact jy)(h:q->AnyX P md ops Q S X fuel ((listed.setIfInBounds j true).setIfInBounds (j+1) true) (a.put oi.dst v) w:=by exact jz):AnyX P md ops Q S X (fuel+1) (listed.setIfInBounds j true) a w:=txT hx hy hS (h k)
end
end
end Go.Proofs.YtnnagkfoiganfaaGreatDoor
